/- The walk of the program's weights of points. -/
import Derived.Test.YtaogdhpiiclejaaDoorPolyW7
import Derived.Sort.CutIn
namespace Go.Proofs.YtaogdhpiiclejaaDoor
open Go Go.RowKit Go.Lib Go.Shelf
namespace MM
/-- The product of the factors at x, but for the one of the point i. -/
def prodL (x q : Nat) (z : Nat → Nat) (i : Nat) (l : List Nat) : Nat := l.foldl (fun v j => if j = i then v else mulU v (addU x (subU 0 (z j) q) q) q) 1
theorem prodL_same (x q : Nat) (z : Nat → Nat) (i : Nat) (l : List Nat) : prodL x q z i (l ++ [i]) = prodL x q z i l := by simp [prodL]
theorem prodL_other {x q : Nat} {z : Nat → Nat} {i j : Nat} (h : j ≠ i) (l : List Nat) : prodL x q z i (l ++ [j]) = mulU (prodL x q z i l) (addU x (subU 0 (z j) q) q) q := by simp [prodL, h]
theorem prodL_lt (x q : Nat) (z : Nat → Nat) (i : Nat) (l : List Nat) : prodL x q z i l < 18446744073709551616 := by
  suffices H : ∀ (l : List Nat) (v : Nat), v < 18446744073709551616 → l.foldl (fun v j => if j = i then v else mulU v (addU x (subU 0 (z j) q) q) q) v < 18446744073709551616 from H l 1 (by omega)
  intro l
  induction l with
  | nil => intro v h; exact h
  | cons j l ih =>
    intro v h
    refine ih _ ?_
    show (if j = i then v else _) < _
    by_cases e : j = i
    · rw [if_pos e]; exact h
    · rw [if_neg e]; exact mulU_lt _ _ _
def undU (q : Nat) (z : Nat → Nat) (n i : Nat) : Nat := prodL (z i) q z i (List.range n)
noncomputable def wgtU (p q : Nat) (z : Nat → Nat) (n i : Nat) : Nat := mulU (prodL p q z i (List.range n)) (invU (undU q z n i) q) q
end MM
namespace M
attribute [local go_sem] Oper.semAt_some
/-- What the program's weights are, or that some difference has no inverse. -/
def Weighed (w : World) (n p q : Nat) (z : Nat → Nat) (e : Ending) (w' : World) : Prop :=
  (∃ B : Nat, e = .returned (.tuple #[.slice (some ⟨B, 0, none⟩) n n, .int .i64 0]) ∧ Mine w B n (MM.wgtU p q z n) w' ∧ ∀ j, j < n → MM.invC (MM.undU q z n j) q = 0) ∨
  (e = .returned (.tuple #[.slice none 0 0, .int .i64 5]) ∧ Below w.heap.size w w' ∧ ∃ j, j < n ∧ MM.invC (MM.undU q z n j) q ≠ 0)
theorem Mine.leave {w w1 w2 : World} {B n : Nat} {z : Nat → Nat} (h : Mine w B n z w1) (hb : Below w.heap.size w1 w2) (hc : CellsAs w1 w2) : Mine w B n z w2 :=
  ⟨by obtain ⟨cs, h1, h2⟩ := h.block; exact ⟨cs, hc _ _ _ _ h1, h2⟩, h.low, h.below.trans hb⟩
/-- The state between two rounds of the outer loop. -/
structure WInv (w : World) (g0 B n p q k : Nat) (z : Nat → Nat) (Ds : List Nat) (wx : World) : Prop where
  mine : Mine w B n (fun j => if j < k then MM.wgtU p q z n j else 0) wx
  b1 : Box wx g0 23 (.int .u64 (p : Int))
  b2 : Box wx (g0 + 1) 23 (.int .u64 (q : Int))
  marks : Marks Ds wx
  low : ∀ D, D ∈ Ds → w.heap.size ≤ D
  good : ∀ j, j < k → MM.invC (MM.undU q z n j) q = 0
theorem Rd.lt {w : World} {ad : Addr} {n : Nat} {z : Nat → Nat} (h : Rd w (some ad) n z) (hn : 0 < n) : ad.block < w.heap.size ∧ Row w ad n z := by
  obtain ⟨ad', e, hr⟩ := h hn
  cases e
  have h1 := World.block_lt_of_cell? w _ (hr 0 hn)
  have hb : (ad.add 0).block = ad.block := by unfold Addr.add; split <;> rfl
  exact ⟨by rw [← hb]; exact h1, hr⟩
theorem boxes2 (w : World) (t1 t2 : TypeId) (v1 v2 : Value) : ∃ W, (w.alloc (.cells #[v1] t1)).alloc (.cells #[v2] t2) = W ∧ Below w.heap.size w W ∧ W.heap.size = w.heap.size + 1 + 1 ∧ Box W w.heap.size t1 v1 ∧ Box W (w.heap.size + 1) t2 v2 := by
  obtain ⟨W1, h1⟩ : ∃ W1, w.alloc (.cells #[v1] t1) = W1 := ⟨_, rfl⟩
  obtain ⟨W2, h2⟩ : ∃ W2, W1.alloc (.cells #[v2] t2) = W2 := ⟨_, rfl⟩
  have b1 : Below w.heap.size w W1 := h1 ▸ below_box _ _
  have b2 : Below W1.heap.size W1 W2 := h2 ▸ below_box _ _
  have s1 : W1.heap.size = w.heap.size + 1 := by rw [← h1, World.size_alloc]
  have s2 : W2.heap.size = w.heap.size + 1 + 1 := by rw [← h2, World.size_alloc, s1]
  exact ⟨W2, by rw [h1, h2], b1.trans (b2.mono b1.size), s2, Box.below (W := W1) (by rw [← h1]; exact Box.new _ _ _) b2, by rw [← h2, ← s1]; exact Box.new _ _ _⟩
theorem boxes4 (w : World) (t1 t2 t3 t4 : TypeId) (v1 v2 v3 v4 : Value) : ∃ W, (((w.alloc (.cells #[v1] t1)).alloc (.cells #[v2] t2)).alloc (.cells #[v3] t3)).alloc (.cells #[v4] t4) = W ∧ Below w.heap.size w W ∧ W.heap.size = w.heap.size + 1 + 1 + 1 + 1 ∧
    Box W w.heap.size t1 v1 ∧ Box W (w.heap.size + 1) t2 v2 ∧ Box W (w.heap.size + 1 + 1) t3 v3 ∧ Box W (w.heap.size + 1 + 1 + 1) t4 v4 := by
  obtain ⟨W2, h2, b2, s2, x1, x2⟩ := boxes2 w t1 t2 v1 v2
  obtain ⟨W4, h4, b4, s4, x3, x4⟩ := boxes2 W2 t3 t4 v3 v4
  rw [s2] at s4 x3 x4
  exact ⟨W4, by rw [h2, h4], b2.trans (b4.mono b2.size), s4, x1.below b4, x2.below b4, x3, x4⟩

set_option maxRecDepth 100000 in
set_option maxHeartbeats 8000000 in
set_option pp.deepTerms true in
set_option pp.maxSteps 1000000 in
theorem weights_good (ao : Option Addr) (n cap p q : Nat) (z : Nat → Nat) (hz : ∀ k, z k < 18446744073709551616) (hq : MM.Good q) (hn : n ≤ 1024) (hS : Sorts n) (hT : MM.tw6 q z n = 0) (w : World) (hr : Rd w ao n z) :
    Calls Tryd.prog 24 #[.slice ao n cap, .int .u64 (p : Int), .int .u64 (q : Int)] w (Weighed w n p q z) := by
  refine (callsIn_wide (n := 3)).1 ?_
  have hck := fun (W : World) (hb : Below w.heap.size w W) => check_good ao n cap q z hz hq hn hS W (hr.below hb)
  rw [hT] at hck
  have HCK := Lib.hid hck
  have HZ := Lib.hid hz
  have HQ := Lib.hid hq
  have HR := Lib.hid hr
  clear hz hq hr hS hT
  have hl1 : 1 ≤ 3 := by omega
  have hl2 : n ≤ 1000000 := by omega
  clear hck
  refine callsIn_of_wp_marks Tryd.func24 rfl trivial ?_ rfl
  simp only [Tryd.ntmps24, List.size_toArray, List.length_cons, List.length_nil, Nat.reduceAdd, Nat.reduceSub, Array.replicate_succ, Array.replicate_zero, List.push_toArray, List.append_toArray, List.nil_append, List.cons_append]
  gi_upto_region 2 with (refine ⟨trivial, ?_⟩; gi_at_call 26; refine (callsIn_wide.2 (HCK.out _ (((Below.refl _ w).alloc (Nat.le_refl _) _).alloc (by simp) _))).mono ?_; rintro e w' ⟨rfl, hb⟩; have HB := Lib.hid hb; clear hb)
  obtain ⟨g0, hg0⟩ : ∃ g, w.heap.size = g := ⟨_, rfl⟩
  obtain ⟨x1, x2, b03⟩ : Box w' g0 23 (.int .u64 (p : Int)) ∧ Box w' (g0 + 1) 23 (.int .u64 (q : Int)) ∧ Below w.heap.size w w' := by
    have hb := HB.out
    obtain ⟨W1, h1⟩ : ∃ W1, w.alloc (.cells #[.int .u64 (p : Int)] 23) = W1 := ⟨_, rfl⟩
    obtain ⟨W2, h2⟩ : ∃ W2, W1.alloc (.cells #[.int .u64 (q : Int)] 23) = W2 := ⟨_, rfl⟩
    rw [h1, h2] at hb
    have b1 : Below w.heap.size w W1 := h1 ▸ below_box _ _
    have b2 : Below W1.heap.size W1 W2 := h2 ▸ below_box _ _
    have s1 : W1.heap.size = g0 + 1 := by rw [← h1, World.size_alloc, hg0]
    have b02 : Below w.heap.size w W2 := b1.trans (b2.mono b1.size)
    have x1 : Box W2 g0 23 (.int .u64 (p : Int)) := Box.below (W := W1) (by rw [← h1, ← hg0]; exact Box.new _ _ _) b2
    have x2 : Box W2 (g0 + 1) 23 (.int .u64 (q : Int)) := by rw [← h2, ← s1]; exact Box.new _ _ _
    exact ⟨x1.below hb, x2.below hb, b02.trans (hb.mono b02.size)⟩
  have HM0 := Mine.made w' n
  have hmk := run_made n (by omega)
  obtain ⟨W4, hW4⟩ : ∃ W4, w'.alloc (.cells (madeCells (Value.int .u64 0).cells (n * 1)) 23) = W4 := ⟨_, rfl⟩
  obtain ⟨B, hB⟩ : ∃ B, w'.heap.size = B := ⟨_, rfl⟩
  rw [hW4] at HM0
  rw [hB] at HM0
  have hmk0 : (Instr.makeSlice 22 (.int .i64 (n : Int)) (.int .i64 (n : Int))).run Tryd.prog w' = .ok (.slice (some ⟨B, 0, none⟩) n n) W4 := by rw [hmk, hW4, hB]
  have HM4 : Hid (Mine w B n (fun _ => 0) W4) := Lib.hid ⟨HM0.block, by have := b03.size; omega, b03.trans (HM0.below.mono b03.size)⟩
  have b34 : Below w'.heap.size w' W4 := HM0.below
  have X1 := Lib.hid (x1.below b34)
  have X2 := Lib.hid (x2.below b34)
  rw [hg0]
  have hgB : g0 + 1 < B := by have := row_lt x2; omega
  have HG := Lib.hid hg0
  clear HB HCK x1 x2 b03 HM0 hmk hW4 hB b34 hg0
  gi_upto_region 6 with fail
  have hB0 := HM4.out.low
  refine wpIn_loop (fun a' wx => ∃ (k : Nat) (Ds : List Nat) (u10 u11 u12 u13 u14 u15 u16 u17 u30 u31 u32 u33 u34 u35 u36 u37 u38 u39 u40 u41 u42 u43 u44 u45 u46 u47 u48 u49 u50 u51 u52 u53 u54 u55 u56 u57 u58 u59 u60 u61 u62 u63 u64 u65 u66 u67 u68 u69 u70 u71 u72 : Value), a' = { tmps := #[.slice ao n cap, .int .u64 (p : Int), .int .u64 (q : Int), undef, .pointer (some ⟨g0, 0, none⟩), .pointer (some ⟨g0 + 1, 0, none⟩), .slice none 0 0, .int .i64 0, .int .i64 0, .slice (some ⟨B, 0, none⟩) n n, u10, u11, u12, u13, u14, u15, u16, u17, .slice ao n cap, .int .u64 (q : Int), .int .i64 0, .int .i64 0, .bool false, undef, .slice ao n cap, .int .i64 (n : Int), .slice (some ⟨B, 0, none⟩) n n, .slice ao n cap, .int .i64 (n : Int), .int .i64 (k : Int), u30, u31, u32, u33, u34, u35, u36, u37, u38, u39, u40, u41, u42, u43, u44, u45, u46, u47, u48, u49, u50, u51, u52, u53, u54, u55, u56, u57, u58, u59, u60, u61, u62, u63, u64, u65, u66, u67, u68, u69, u70, u71, u72, undef], defers := Ds.map mark } ∧ k ≤ n ∧ Hid (WInv w g0 B n p q k z Ds wx)) (fun a' _ => n - (RowKit.intOf (a'.tmps.getD 29 undef)).toNat) ?start ?round
  case start => exact ⟨0, [], _, _, _, _, _, _, _, _, _, _, _, _, _, _, _, _, _, _, _, _, _, _, _, _, _, _, _, _, _, _, _, _, _, _, _, _, _, _, _, _, _, _, _, _, _, _, _, _, _, _, _, rfl, Nat.zero_le _, Lib.hid ⟨HM4.out.congr fun k _ => by simp, X1.out, X2.out, Marks.nil _, fun D h => (by cases h), fun j h => absurd h (by omega)⟩⟩
  case round =>
    clear HM4 X1 X2 hmk0
    rintro a wr ⟨k, Ds, u10, u11, u12, u13, u14, u15, u16, u17, u30, u31, u32, u33, u34, u35, u36, u37, u38, u39, u40, u41, u42, u43, u44, u45, u46, u47, u48, u49, u50, u51, u52, u53, u54, u55, u56, u57, u58, u59, u60, u61, u62, u63, u64, u65, u66, u67, u68, u69, u70, u71, u72, rfl, hk, HJ⟩
    by_cases hlt : k < n
    · obtain ⟨ad, rfl, hc⟩ := (HR.out.below HJ.out.mine.below).at_ hlt
      have hc2 := HJ.out.b2.cell
      gi_upto_region 9 with fail
      obtain ⟨h, hh⟩ : ∃ h, wr.heap.size = h := ⟨_, rfl⟩
      obtain ⟨W5, h5, b5, s5, y1, y2, y3, y4⟩ := boxes4 wr 3 23 23 23 (.int .i64 (k : Int)) (.int .u64 ((z k : Nat) : Int)) (.int .u64 1) (.int .u64 1)
      rw [hh] at s5 y1 y2 y3 y4
      rw [h5, hh]
      have c5 := (HJ.out.b2.below b5).cell
      clear hc hc2 h5
      gi_upto_region 10 with (refine ⟨trivial, ?_⟩; gi_at_call 27; refine (callsIn_wide.2 (factors_any _ _ _ _ _)).mono ?_; rintro e w' ⟨rfl, rfl⟩)
      obtain ⟨W6, h6, b6, s6, y5, y6⟩ := boxes2 W5 22 23 (.slice (some ad) n cap) (.int .u64 (q : Int))
      rw [s5] at s6 y5 y6
      rw [h6]
      have b06 : Below wr.heap.size wr W6 := b5.trans (b6.mono b5.size)
      have hwr := HJ.out.mine.below.size
      obtain ⟨hadl, hrow⟩ := Rd.lt HR.out (by omega)
      have hrow6 : Row W6 ad n z := (hrow.below HJ.out.mine.below).below b06
      have hBl := HJ.out.mine.lt
      have z1 := y1.below b6
      have z2 := y2.below b6
      have z3 := y3.below b6
      have z4 := y4.below b6
      have zp := HJ.out.b1.below b06
      have zq := HJ.out.b2.below b06
      have hS0 : ∀ j, (j < W6.heap.size ∧ j ≠ h + 1 + 1 ∧ j ≠ h + 1 + 1 + 1) → j < W6.heap.size := fun j h => h.1
      have hp6 := row_lt HJ.out.b1
      have hq6 := row_lt HJ.out.b2
      have HSEQ := factors_stops (3 - 1) (by omega) (fun j => j < W6.heap.size ∧ j ≠ h + 1 + 1 ∧ j ≠ h + 1 + 1 + 1) (h + 1 + 1 + 1 + 1) (h + 1 + 1 + 1 + 1 + 1) q (some ad) n cap z hl2 W6 hS0 y5 y6 ⟨by omega, by omega, by omega⟩ ⟨by omega, by omega, by omega⟩ (fun _ => ⟨ad, rfl, ⟨by omega, by omega, by omega⟩, hrow6⟩)
      have H6 := Lib.hid (And.intro b06 (And.intro z1 (And.intro z2 (And.intro z3 (And.intro z4 (And.intro zp zq))))))
      clear c5 h6 y1 y2 y3 y4 y5 y6 z1 z2 z3 z4 zp zq hrow hrow6 b5 b6 b06
      refine wpIn_rangeFunc_ownG rfl (by omega) (gf := 42) (lb := #[.pointer (some ⟨h + 1 + 1 + 1 + 1, 0, none⟩), .pointer (some ⟨h + 1 + 1 + 1 + 1 + 1, 0, none⟩)]) rfl trivial (enters_of Tryd.func42 (by kernel_rfl) rfl)
        HSEQ KeepS.trans (keepS_b hS0) (Below.refl _ _) (fun _ => rfl)
        (fun pre W => Box W (h + 1 + 1) 23 (.int .u64 ((MM.prodL p q z k pre : Nat) : Int)) ∧ Box W (h + 1 + 1 + 1) 23 (.int .u64 ((MM.prodL (z k) q z k pre : Nat) : Int)) ∧ KeepS (fun j => j < W6.heap.size ∧ j ≠ h + 1 + 1 ∧ j ≠ h + 1 + 1 + 1) W6 W)
        (fun _ _ _ => False)
        (fun pre A C row hs hg hr => ⟨hs.1.own hg (fun r e => (hr r e).2), hs.2.1.own hg (fun r e => (hr r e).2), hs.2.2.grown hS0 hs.2.2.size hg (fun r e => (hr r e).1)⟩)
        (fun _ _ _ _ _ hs _ _ => hs)
        ⟨H6.out.2.2.2.1, H6.out.2.2.2.2.1, KeepS.refl _ _⟩
        (fun y => { tmps := #[.slice (some ad) n cap, .int .u64 (p : Int), .int .u64 (q : Int), undef, .pointer (some ⟨g0, 0, none⟩), .pointer (some ⟨g0 + 1, 0, none⟩), .slice none 0 0, .int .i64 0, .int .i64 0, .slice (some ⟨B, 0, none⟩) n n, .pointer (some ⟨h, 0, none⟩), .pointer (some ⟨h + 1, 0, none⟩), .pointer (some ⟨h + 1 + 1, 0, none⟩), .pointer (some ⟨h + 1 + 1 + 1, 0, none⟩), .int .i64 (y : Int), .int .u64 ((MM.subU 0 (z y) q : Nat) : Int), u16, u17, .slice (some ad) n cap, .int .u64 (q : Int), .int .i64 0, .int .i64 0, .bool false, undef, .slice (some ad) n cap, .int .i64 (n : Int), .slice (some ⟨B, 0, none⟩) n n, .slice (some ad) n cap, .int .i64 (n : Int), .int .i64 (k : Int), .bool true, .int .i64 (k : Int), .pointer (some (ad.add k)), .int .u64 ((z k : Nat) : Int), .slice (some ad) n cap, .int .u64 (q : Int), .func (.func 42) #[] #[.pointer (some ⟨h + 1 + 1 + 1 + 1, 0, none⟩), .pointer (some ⟨h + 1 + 1 + 1 + 1 + 1, 0, none⟩)], .int .i64 (y : Int), .int .u64 ((MM.subU 0 (z y) q : Nat) : Int), u39, u40, u41, u42, u43, u44, u45, u46, u47, u48, u49, u50, u51, u52, u53, u54, u55, u56, u57, u58, u59, u60, u61, u62, u63, u64, u65, u66, u67, u68, u69, u70, u71, u72, undef], defers := [] }) ?assign ?body ?done ?stop
      case assign =>
        intro l y W K hK
        gi_wp2
        exact hK
      case body =>
        rintro l pre y W ⟨u1, u2, hk⟩ _
        have v1 := (H6.out.2.1.keepS hk ⟨by omega, by omega, by omega⟩).cell
        have v2 := (H6.out.2.2.1.keepS hk ⟨by omega, by omega, by omega⟩).cell
        have wp := H6.out.2.2.2.2.2.1.keepS hk ⟨by omega, by omega, by omega⟩
        have wq := H6.out.2.2.2.2.2.2.keepS hk ⟨by omega, by omega, by omega⟩
        have wx := H6.out.2.2.1.keepS hk ⟨by omega, by omega, by omega⟩
        have vp := wp.cell
        have vq := wq.cell
        have HU := Lib.hid (And.intro u1 (And.intro u2 (And.intro hk (And.intro wp (And.intro wq wx)))))
        by_cases hy : y = k
        · obtain rfl : k = y := hy.symm
          clear hk wp wq wx vp vq v2 u1 u2 hy
          gi_wp2
          exact ⟨KeepsFrom.refl _ _, KeepS.refl _ _, by rw [MM.prodL_same]; exact HU.out.1, by rw [MM.prodL_same]; exact HU.out.2.1, HU.out.2.2.1⟩
        · have e1 : ((y : Int) != (k : Int)) = true := by simp; omega
          have e2 : (y != k) = true := by simpa using hy
          have c1 := u1.cell
          have f1 := u1.free
          have HM1 := ret_mulU (MM.prodL p q z k pre) (MM.addU p (MM.subU 0 (z y) q) q) q (MM.prodL_lt _ _ _ _ _) (MM.addU_lt _ _ _)
          have HA1 := ret_addU p (MM.subU 0 (z y) q) q
          have HM2 := ret_mulU (MM.prodL (z k) q z k pre) (MM.addU (z k) (MM.subU 0 (z y) q) q) q (MM.prodL_lt _ _ _ _ _) (MM.addU_lt _ _ _)
          have HA2 := ret_addU (z k) (MM.subU 0 (z y) q) q
          have HN1 := Lib.hid (MM.prodL_other (x := p) (q := q) (z := z) hy pre)
          have HN2 := Lib.hid (MM.prodL_other (x := z k) (q := q) (z := z) hy pre)
          obtain ⟨r1, hr1⟩ : ∃ r1, MM.mulU (MM.prodL p q z k pre) (MM.addU p (MM.subU 0 (z y) q) q) q = r1 := ⟨_, rfl⟩
          obtain ⟨r2, hr2⟩ : ∃ r2, MM.mulU (MM.prodL (z k) q z k pre) (MM.addU (z k) (MM.subU 0 (z y) q) q) q = r2 := ⟨_, rfl⟩
          rw [hr1] at HM1 HN1
          rw [hr2] at HM2 HN2
          clear hr1 hr2
          generalize MM.addU p (MM.subU 0 (z y) q) q = a1 at HM1 HA1
          generalize MM.addU (z k) (MM.subU 0 (z y) q) q = a2 at HM2 HA2
          generalize MM.subU 0 (z y) q = sv at HA1 HA2 ⊢
          obtain ⟨t1, ht1⟩ : ∃ t1, MM.prodL p q z k pre = t1 := ⟨_, rfl⟩
          obtain ⟨t2, ht2⟩ : ∃ t2, MM.prodL (z k) q z k pre = t2 := ⟨_, rfl⟩
          rw [ht1] at HM1 c1
          rw [ht2] at HM2
          have HT2 := Lib.hid ht2
          clear hk wp wq wx u1 u2 hy ht1 ht2
          gi_upto_region 13 with fail
          refine QT.region_in l _ 7 (by kernel_rfl) (by simp) (fun h => by obtain ⟨_, _, h⟩ := h; exact h) (by kernel_rfl) ?_
          simp only [List.take_succ_cons, List.take_zero, List.drop_succ_cons, List.drop_zero]
          repeat (quiet_step ((first | (go_at_call 23; exact (HM1).quiet) | (go_at_call 35; exact (HA1).quiet))))
          refine wpQuiet_nil ?_
          intro nq
          go_wp2_with fail
          gi_upto_region 14 with fail
          obtain ⟨WA, hWA⟩ : ∃ WA, (W.drewN nq).setCell ⟨h + 1 + 1, 0, none⟩ (.int .u64 ((r1 : Nat) : Int)) = WA := ⟨_, rfl⟩
          rw [hWA]
          have a1b : Box WA (h + 1 + 1) 23 (.int .u64 ((r1 : Nat) : Int)) := by rw [← hWA]; exact (HU.out.1.drewN nq).set _
          have a2b : Box WA (h + 1 + 1 + 1) 23 (.int .u64 ((t2 : Nat) : Int)) := by rw [← hWA, ← HT2.out]; exact (HU.out.2.1.drewN nq).other _ _ (by show h + 1 + 1 + 1 ≠ h + 1 + 1; omega)
          have aqb : Box WA (g0 + 1) 23 (.int .u64 (q : Int)) := by rw [← hWA]; exact (HU.out.2.2.2.2.1.drewN nq).other _ _ (by show g0 + 1 ≠ h + 1 + 1; omega)
          have axb : Box WA (h + 1) 23 (.int .u64 ((z k : Nat) : Int)) := by rw [← hWA]; exact (HU.out.2.2.2.2.2.drewN nq).other _ _ (by show h + 1 ≠ h + 1 + 1; omega)
          have aK : KeepS (fun j => j < W6.heap.size ∧ j ≠ h + 1 + 1 ∧ j ≠ h + 1 + 1 + 1) W WA := by rw [← hWA]; exact ((KeepS.refl _ W).drewN nq).setCell _ _ (fun e => e.2.1 rfl)
          have aO : KeepsOthers W WA := by rw [← hWA]; exact (keepsO_drewN W nq).trans (KeepsOthers.setCell (W.drewN nq) _ _)
          have d2 := a2b.cell
          have g2 := a2b.free
          have dq := aqb.cell
          have dx := axb.cell
          have HA := Lib.hid (And.intro a1b (And.intro a2b (And.intro aK aO)))
          clear hWA c1 f1 v1 v2 vp vq a1b a2b aqb axb aK aO HM1 HA1
          refine QT.region_in l _ 7 (by kernel_rfl) (by simp) (fun h => by obtain ⟨_, _, h⟩ := h; exact h) (by kernel_rfl) ?_
          simp only [List.take_succ_cons, List.take_zero, List.drop_succ_cons, List.drop_zero]
          repeat (quiet_step ((first | (go_at_call 23; exact (HM2).quiet) | (go_at_call 35; exact (HA2).quiet))))
          refine wpQuiet_nil ?_
          intro nq2
          go_wp2_with fail
          obtain ⟨a1b, a2b, aK, aO⟩ := HA.out
          exact ⟨((aO.trans (keepsO_drewN WA nq2)).trans (KeepsOthers.setCell (WA.drewN nq2) _ _)).from _, (aK.drewN nq2).setCell _ _ (fun e => e.2.2 rfl),
            by rw [HN1.out]; exact (a1b.drewN nq2).other _ _ (by show h + 1 + 1 ≠ h + 1 + 1 + 1; omega), by rw [HN2.out]; exact (a2b.drewN nq2).set _, HU.out.2.2.1.trans ((aK.drewN nq2).setCell _ _ (fun e => e.2.2 rfl))⟩
      case done =>
        rintro D ys W7 hD rfl ⟨u1, u2, hk7⟩ hK
        have hSw : ∀ j, j < wr.heap.size → (j < W6.heap.size ∧ j ≠ h + 1 + 1 ∧ j ≠ h + 1 + 1 + 1) := fun j hj => ⟨by omega, by omega, by omega⟩
        have bw7 : Below w.heap.size w W7 := hk7.up (HJ.out.mine.below.trans (H6.out.1.mono hwr)) (fun j hj => hSw j (by omega))
        have m7 : Mine w B n (fun j => if j < k then MM.wgtU p q z n j else 0) W7 := ⟨by
          obtain ⟨cs, e1, e2⟩ := (HJ.out.mine.step H6.out.1).block
          exact ⟨cs, (hk7.same B (hSw B hBl)).trans e1, e2⟩, HJ.out.mine.low, bw7⟩
        have p7 : Box W7 g0 23 (.int .u64 (p : Int)) := H6.out.2.2.2.2.2.1.keepS hk7 (hSw _ hp6)
        have q7 : Box W7 (g0 + 1) 23 (.int .u64 (q : Int)) := H6.out.2.2.2.2.2.2.keepS hk7 (hSw _ hq6)
        have i7 : Box W7 h 3 (.int .i64 (k : Int)) := H6.out.2.1.keepS hk7 ⟨by omega, by omega, by omega⟩
        have mk7 : Marks (D :: Ds) W7 := ((HJ.out.marks.below H6.out.1).keepS hk7 (fun E hE => hSw E (HJ.out.marks.lt hE))).cons hK (fun hE => by have := HJ.out.marks.lt hE; omega)
        have lw7 : ∀ E, E ∈ D :: Ds → w.heap.size ≤ E := fun E hE => by
          rcases List.mem_cons.1 hE with rfl | hE
          · omega
          · exact HJ.out.low E hE
        have e13 := u2.cell
        have e12 := u1.cell
        have e5 := q7.cell
        have e10 := i7.cell
        have HIV := ret_invU (MM.prodL (z k) q z k (List.range n)) q
        have H7 := Lib.hid (And.intro bw7 (And.intro m7 (And.intro p7 (And.intro q7 (And.intro mk7 lw7)))))
        clear hSw bw7 m7 p7 q7 i7 mk7 lw7 u1 u2 hk7 hK
        by_cases hc0 : MM.invC (MM.prodL (z k) q z k (List.range n)) q = 0
        · rw [hc0] at HIV
          have HC0 := Lib.hid hc0
          have hiv : ∀ W, Calls Tryd.prog 28 #[.int .u64 ((MM.prodL (z k) q z k (List.range n) : Nat) : Int), .int .u64 (q : Int)] W fun e w' => e = .returned (.tuple #[.int .u64 ((MM.invU (MM.prodL (z k) q z k (List.range n)) q : Nat) : Int), .int .i64 0]) ∧ ∃ m, w' = W.drewN m := fun W => HIV W
          have HIV2 := Lib.hid hiv
          have hcB := H7.out.2.1.cell hlt
          have hfB := H7.out.2.1.free k
          have HM := ret_mulU (MM.prodL p q z k (List.range n)) (MM.invU (MM.prodL (z k) q z k (List.range n)) q) q (MM.prodL_lt _ _ _ _ _) (MM.invU_lt _ _)
          have hk0 : (0 : Int) ≤ (k : Int) := Int.natCast_nonneg _
          have hk1 : (k : Int) < (n : Int) := by omega
          obtain ⟨v, hv⟩ : ∃ v, MM.mulU (MM.prodL p q z k (List.range n)) (MM.invU (MM.prodL (z k) q z k (List.range n)) q) q = v := ⟨_, rfl⟩
          rw [hv] at HM
          have HV : Hid (MM.wgtU p q z n k = v) := Lib.hid hv
          clear hc0 HIV hiv hv
          gi_upto_region 18 with (refine ⟨trivial, ?_⟩; gi_at_call 28; refine (callsIn_wide.2 (HIV2.out _)).mono ?_; rintro e w' ⟨rfl, nd, rfl⟩)
          obtain ⟨W8, hW8⟩ : ∃ W8, W7.drewN nd = W8 := ⟨_, rfl⟩
          have q12 : W8.cell? ⟨h + 1 + 1, 0, none⟩ = some (.int .u64 ((MM.prodL p q z k (List.range n) : Nat) : Int)) := hW8 ▸ e12
          have q5 : W8.cell? ⟨g0 + 1, 0, none⟩ = some (.int .u64 (q : Int)) := hW8 ▸ e5
          have q10 : W8.cell? ⟨h, 0, none⟩ = some (.int .i64 (k : Int)) := hW8 ▸ e10
          have qB : W8.cell? ⟨B, k, none⟩ = some (.int .u64 (((if k < k then MM.wgtU p q z n k else 0 : Nat)) : Int)) := hW8 ▸ hcB
          have qF : W8.frozen? ⟨B, k, none⟩ = false := hW8 ▸ hfB
          have HFIN : Hid (∀ nq, WInv w g0 B n p q (k + 1) z (D :: Ds) ((W8.drewN nq).setCell ⟨B, k, none⟩ (.int .u64 ((v : Nat) : Int)))) := Lib.hid fun nq => by
            obtain ⟨bw7, m7, p7, q7, mk7, lw7⟩ := H7.out
            have m8 : Mine w B n (fun j => if j < k then MM.wgtU p q z n j else 0) W8 := hW8 ▸ m7.drewN nd
            have p8 : Box W8 g0 23 (.int .u64 (p : Int)) := hW8 ▸ p7.drewN nd
            have q8 : Box W8 (g0 + 1) 23 (.int .u64 (q : Int)) := hW8 ▸ q7.drewN nd
            have mk8 : Marks (D :: Ds) W8 := hW8 ▸ mk7.drewN nd
            refine ⟨(m8.drewN _).set k v (fun j hj => ?_), (p8.drewN _).other _ _ (by show g0 ≠ B; omega), (q8.drewN _).other _ _ (by show g0 + 1 ≠ B; omega), (mk8.drewN _).setCell ((m8.drewN nq).cell hlt), lw7, fun j hj => ?_⟩
            · by_cases e : j = k
              · subst e; rw [if_pos (by omega), if_pos rfl, HV.out]
              · rw [if_neg e]; by_cases h : j < k
                · rw [if_pos (by omega), if_pos h]
                · rw [if_neg (by omega), if_neg h]
            · by_cases e : j = k
              · subst e; exact HC0.out
              · exact HJ.out.good j (by omega)
          rw [hW8]
          clear e12 e13 e5 e10 hcB hfB hW8
          refine wpIn_wide.2 (QT.region 7 (by kernel_rfl) (by kernel_rfl) ?_)
          simp only [List.take_succ_cons, List.take_zero, List.drop_succ_cons, List.drop_zero]
          repeat (quiet_step ((go_at_call 23; exact (HM).quiet)))
          refine wpQuiet_nil ?_
          intro nq
          go_wp2_with fail
          gi_wp2
          have HFIN := HFIN.out nq
          refine ⟨⟨k + 1, D :: Ds, _, _, _, _, _, _, _, _, _, _, _, _, _, _, _, _, _, _, _, _, _, _, _, _, _, _, _, _, _, _, _, _, _, _, _, _, _, _, _, _, _, _, _, _, _, _, _, _, _, _, _, rfl, by omega, Lib.hid HFIN⟩, ?_⟩
          show n - (RowKit.intOf (.int .i64 ((k : Int) + 1))).toNat < n - (RowKit.intOf (.int .i64 (k : Int))).toNat
          simp [RowKit.intOf]; omega
        · have h5 : MM.invC (MM.prodL (z k) q z k (List.range n)) q = 5 := by
            unfold MM.invC at hc0 ⊢
            rw [if_pos HQ.out] at hc0 ⊢
            by_cases hg : Nat.gcd (MM.prodL (z k) q z k (List.range n)) q = 1
            · rw [if_pos hg] at hc0; exact absurd rfl hc0
            · rw [if_neg hg]
          rw [h5] at HIV
          have HC0 : Hid (∃ j, j < n ∧ MM.invC (MM.undU q z n j) q ≠ 0) := Lib.hid ⟨k, hlt, hc0⟩
          have hiv : ∀ W, Calls Tryd.prog 28 #[.int .u64 ((MM.prodL (z k) q z k (List.range n) : Nat) : Int), .int .u64 (q : Int)] W fun e w' => e = .returned (.tuple #[.int .u64 ((MM.invU (MM.prodL (z k) q z k (List.range n)) q : Nat) : Int), .int .i64 5]) ∧ ∃ m, w' = W.drewN m := fun W => HIV W
          have HIV2 := Lib.hid hiv
          clear hc0 h5 HIV hiv
          gi_wp2_with (refine ⟨trivial, ?_⟩; gi_at_call 28; refine (callsIn_wide.2 (HIV2.out _)).mono ?_; rintro e w' ⟨rfl, nd, rfl⟩)
          refine leaves_marks (B := w.heap.size) (D :: Ds) _ (H7.out.2.2.2.2.1.drewN nd) H7.out.2.2.2.2.2 fun w' hb hcs => ?_
          exact ⟨_, results_tmp2 rfl _ _ _, .inr ⟨rfl, (H7.out.1.trans (below_drewN' _ _ _)).trans hb, HC0.out⟩⟩
      case stop =>
        rintro D c pre W _ _ h _
        exact h.elim
    · obtain rfl : k = n := by omega
      gi_wp2
      refine leaves_marks (B := w.heap.size) Ds wr HJ.out.marks HJ.out.low fun w' hb hcs => ?_
      exact ⟨_, results_tmp2 rfl _ _ _, .inl ⟨B, rfl, (HJ.out.mine.leave hb hcs).congr fun j hj => by rw [if_pos hj], HJ.out.good⟩⟩
end M
end Go.Proofs.YtaogdhpiiclejaaDoor

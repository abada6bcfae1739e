/- The texts PolyW4, PolyW6, PolyW7, PolyW8, PolyW3, PolyTwo, one behind the other. -/
import Derived.Test.YtlnlepadninnaaaDoorKR5
import Derived.Test.YtlnlepadninnaaaDoorKR6
import Derived.RangeFuncBox
import Derived.RangeFuncNested
import Derived.RangeFuncBound
import Derived.RangeFuncCalls
import Derived.RangeFuncLeaves
import Derived.Shelf.Abstract
import Derived.WalkKit
import Derived.OwnWalkIn
import Derived.TacticsInMore
import Derived.LoopNIn
import Derived.LoopIn
import Derived.Sort.CutIn
/- The library's Backward over a row of numbers, and the walk of the program's value of a polynomial. -/
namespace Go.Proofs.YtlnlepadninnaaaDoor
open Go Go.RowKit Go.Lib Go.Shelf
namespace M
attribute [local go_sem] Oper.semAt_some
/-- What a round keeps: the blocks of S, whatever else it does. -/
structure KeepS (S : Nat → Prop) (W W' : World) : Prop where
  os : W'.os = W.os
  tape : W'.tape = W.tape
  output : W'.output = W.output
  size : W.heap.size ≤ W'.heap.size
  same : ∀ k, S k → W'.heap[k]? = W.heap[k]?
theorem KeepS.refl (S : Nat → Prop) (W : World) : KeepS S W W := ⟨rfl, rfl, rfl, Nat.le_refl _, fun _ _ => rfl⟩
theorem KeepS.trans {S : Nat → Prop} {A B C : World} (h : KeepS S A B) (k : KeepS S B C) : KeepS S A C := ⟨k.os.trans h.os, k.tape.trans h.tape, k.output.trans h.output, Nat.le_trans h.size k.size, fun i hi => (k.same i hi).trans (h.same i hi)⟩
theorem keepS_b {S : Nat → Prop} {w : World} (hS : ∀ k, S k → k < w.heap.size) (W : World) (l : Nat) (o o' : Obj) (hl : w.heap.size ≤ l) (_h : W.heap[l]? = some o) (_ : o.isCells = false) (_ : o.isWalk = false) : KeepS S W (W.putObj l o') :=
  ⟨rfl, rfl, rfl, by simp, fun k hk => World.putObj_heap_other (fun e => by have := hS k hk; omega)⟩
theorem KeepS.setCell {S : Nat → Prop} {W W' : World} (h : KeepS S W W') (a : Addr) (v : Value) (ha : ¬ S a.block) : KeepS S W (W'.setCell a v) :=
  ⟨h.os, h.tape, h.output, by simpa using h.size, fun k hk => (Below.heap_setCell W' a v k (fun e => ha (e ▸ hk))).trans (h.same k hk)⟩
theorem KeepS.drewN {S : Nat → Prop} {W W' : World} (h : KeepS S W W') (n : Nat) : KeepS S W (W'.drewN n) := ⟨h.os, h.tape, h.output, h.size, h.same⟩
theorem KeepS.below {S : Nat → Prop} {W W' : World} (hb : Below W.heap.size W W') (hS : ∀ k, S k → k < W.heap.size) : KeepS S W W' := ⟨hb.os, hb.tape, hb.output, hb.size, fun k hk => hb.block k (hS k hk)⟩
theorem KeepS.up {S : Nat → Prop} {B : Nat} {W0 W W' : World} (h : KeepS S W W') (hb : Below B W0 W) (hS : ∀ k, k < B → S k) : Below B W0 W' := hb.trans ⟨h.os, h.tape, h.output, h.size, fun k hk => h.same k (hS k hk)⟩
theorem KeepS.grown {S : Nat → Prop} {B : Nat} {W W' W'' : World} {row : Option Nat} (h : KeepS S W W') (hS : ∀ k, S k → k < B) (hBs : B ≤ W'.heap.size) (hg : W'.grownBy W'' row) (hr : ∀ r, row = some r → B ≤ r) : KeepS S W W'' :=
  ⟨hg.os.trans h.os, hg.tape.trans h.tape, hg.output.trans h.output, Nat.le_trans h.size hg.size, fun k hk => (hg.block k (by have := hS k hk; omega) (fun e => by have := hS k hk; have := hr k e.symm; omega)).trans (h.same k hk)⟩
theorem Box.keepS {S : Nat → Prop} {W W' : World} {B : Nat} {t : TypeId} {v : Value} (h : Box W B t v) (hk : KeepS S W W') (hS : S B) : Box W' B t v := (hk.same B hS).trans h
theorem Box.own {W W' : World} {B : Nat} {t : TypeId} {v : Value} {row : Option Nat} (h : Box W B t v) (hg : W.grownBy W' row) (hr : ∀ r, row = some r → ∃ o : Obj, W.heap[r]? = some o ∧ o.isCells = false) : Box W' B t v := by
  refine (hg.block B (row_lt h) (fun e => ?_)).trans h
  obtain ⟨o, ho, hc⟩ := hr B e.symm
  rw [show W.heap[B]? = _ from h] at ho
  cases ho; cases hc
theorem Box.set {W : World} {B : Nat} {t : TypeId} {v : Value} (h : Box W B t v) (u : Value) : Box (W.setCell ⟨B, 0, none⟩ u) B t u := by
  have := heap_setCell_same W B 0 #[v] t u h
  simpa [Box] using this
theorem Box.other {W : World} {B : Nat} {t : TypeId} {v : Value} (h : Box W B t v) (a : Addr) (u : Value) (hne : B ≠ a.block) : Box (W.setCell a u) B t v := (Below.heap_setCell W a u B hne).trans h
theorem Box.drewN {W : World} {B : Nat} {t : TypeId} {v : Value} (h : Box W B t v) (n : Nat) : Box (W.drewN n) B t v := h
theorem Row.keepS {S : Nat → Prop} {W W' : World} {ad : Addr} {n : Nat} {z : Nat → Nat} (h : Row W ad n z) (hk : KeepS S W W') (hS : S ad.block) : Row W' ad n z := fun t ht => by
  have hb : (ad.add t).block = ad.block := by unfold Addr.add; split <;> rfl
  have := World.cell?_of_block (w := W) (w' := W') (a := ad.add t) (by rw [hb]; exact hk.same _ hS)
  rw [this]; exact h t ht
theorem keepsO_drewN (W : World) (n : Nat) : KeepsOthers W (W.drewN n) := ⟨Nat.le_refl _, fun _ _ h _ => h⟩
theorem keepsO_below {W W' : World} (h : Below W.heap.size W W') : KeepsOthers W W' := ⟨h.size, fun k _ hk _ => (h.block k (row_lt hk)).trans hk⟩
def down (n m : Nat) : List Nat := (List.range (n - m)).map (fun t => n - 1 - t)
theorem down_self (n : Nat) : down n n = [] := by simp [down]
theorem down_succ {n m : Nat} (h : m < n) : down n m = down n (m + 1) ++ [m] := by
  unfold down
  rw [show n - m = (n - (m + 1)) + 1 by omega, List.range_succ, List.map_append]
  simp; omega
theorem down_length (n m : Nat) : (down n m).length = n - m := by simp [down]

theorem backward_any (ao : Option Addr) (n cap : Nat) (w : World) :
    Calls Tryd.prog 68 #[.slice ao n cap] w fun e w' => e = .returned (.func (.func 80) #[] #[.pointer (some ⟨w.heap.size, 0, none⟩)]) ∧ w.alloc (.cells #[.slice ao n cap] 25) = w' := by
  go_enter Tryd.func68, Tryd.ntmps68
  go_wp2_with fail
  go_ret
  exact ⟨rfl, rfl⟩

set_option maxRecDepth 100000 in
set_option maxHeartbeats 2000000 in
theorem backward1_in (m : Nat) (S : Nat → Prop) (l Bs : Nat) (ao : Option Addr) (n cap : Nat) (z : Nat → Nat) (hn : n ≤ 1000000) (J Jx : List Nat → World → Prop)
    (hY : ∀ pre (x : Nat) W, J pre W → pre.length < n → YieldAt Fence.wide (m - 1) Tryd.prog l #[.int .i64 (x : Int), .int .u64 ((z x : Nat) : Int)] W fun e W' =>
      (e = .returned (.bool true) ∧ J (pre ++ [x]) W' ∧ KeepS S W W') ∨ (e = .returned (.bool false) ∧ Jx (pre ++ [x]) W'))
    (W : World) (hBs : Box W Bs 25 (.slice ao n cap)) (hSB : S Bs) (hr : 0 < n → ∃ ad, ao = some ad ∧ S ad.block ∧ Row W ad n z) (h0 : J [] W) :
    CallsIn Fence.wide m Tryd.prog 80 #[.func (.yield l) #[] #[], .pointer (some ⟨Bs, 0, none⟩)] W fun e W' => (∃ v, e = .returned v) ∧
      ((∃ ys, ys = down n 0 ∧ J ys W') ∨ (∃ pre, (∃ k, k ≤ n ∧ pre = down n k) ∧ Jx pre W')) := by
  have HY := Lib.hid hY
  have HB := Lib.hid hBs
  have HR := Lib.hid hr
  have HS := Lib.hid hSB
  have H0 := Lib.hid h0
  have hc := hBs.cell
  have hn1 : (n : Int) ≤ 1000000 := by omega
  clear hY hBs hr hSB h0
  refine callsIn_of_wp Tryd.func80 rfl trivial ?_ rfl
  simp only [Tryd.ntmps80, List.size_toArray, List.length_cons, List.length_nil, Nat.reduceAdd, Nat.reduceSub, Array.replicate_succ, Array.replicate_zero, List.push_toArray, List.append_toArray, List.nil_append, List.cons_append]
  gi_wp2
  clear hc
  gi_loopw [3] (fun i wr => ∃ (k : Nat) (d : Int), k ≤ n ∧ i = .int .i64 d ∧ d = (k : Int) - 1 ∧ Hid (J (down n k) wr) ∧ Hid (KeepS S W wr))
    (fun i _ => (RowKit.intOf i + 1).toNat)
  case atStart => exact ⟨n, _, Nat.le_refl _, rfl, rfl, Lib.hid (by rw [down_self]; exact H0.out), Lib.hid (KeepS.refl _ _)⟩
  case round =>
    clear H0
    obtain ⟨k, d, hk, rfl, hd, HJ, HK⟩ := hrel
    have hc : wr.cell? ⟨Bs, 0, none⟩ = some (.slice ao n cap) := (HB.out.keepS HK.out HS.out).cell
    cases k with
    | zero =>
      obtain rfl : d = -1 := by omega
      clear hd
      gi_wp2
      go_end0
      exact ⟨⟨_, rfl⟩, .inl ⟨_, rfl, HJ.out⟩⟩
    | succ j =>
      obtain rfl : d = (j : Int) := by omega
      clear hd
      obtain ⟨ad, rfl, hSad, hrow⟩ := HR.out (by omega)
      have hcj := (hrow.keepS HK.out hSad) j (by omega)
      obtain ⟨fn, tmps, assign, body, hy, hR⟩ := HY.out _ j wr HJ.out (by rw [down_length]; omega)
      have HRD := Lib.hid hR
      have HD : Hid (down n j = down n (j + 1) ++ [j]) := Lib.hid (down_succ (by omega))
      have HSA := Lib.hid hSad
      clear hSad hrow hR
      have hj0 : (0 : Int) ≤ (j : Int) := Int.natCast_nonneg _
      have hj1 : (j : Int) < (n : Int) := by omega
      gi_wp2
      refine ⟨fun h => (by cases h), HRD.out.mono ?_⟩
      rintro e W3 (⟨rfl, hJ3, hk3⟩ | ⟨rfl, hJx3⟩)
      · have HJ3 := Lib.hid hJ3
        have HK3 := Lib.hid hk3
        clear hJ3 hk3
        gi_wp2
        go_roundw
        case rel => exact ⟨j, _, by omega, rfl, rfl, Lib.hid (by rw [HD.out]; exact HJ3.out), Lib.hid (HK.out.trans HK3.out)⟩
        case measure => simp [RowKit.intOf]
      · have HJ3 := Lib.hid hJx3
        clear hJx3
        gi_wp2
        refine bodyPost_ret (results_none rfl _ _ _) rfl ?_
        exact ⟨⟨_, rfl⟩, .inr ⟨_, ⟨j, by omega, rfl⟩, by rw [HD.out]; exact HJ3.out⟩⟩

theorem backward_stops (m : Nat) (S : Nat → Prop) (Bs : Nat) (ao : Option Addr) (n cap : Nat) (z : Nat → Nat) (hn : n ≤ 1000000) (w : World) (hSl : ∀ k, S k → k < w.heap.size)
    (hBs : Box w Bs 25 (.slice ao n cap)) (hSB : S Bs) (hr : 0 < n → ∃ ad, ao = some ad ∧ S ad.block ∧ Row w ad n z) :
    SeqStopsK Fence.wide m Tryd.prog 80 #[.pointer (some ⟨Bs, 0, none⟩)] (fun x : Nat => #[.int .i64 (x : Int), .int .u64 ((z x : Nat) : Int)]) (KeepS S) (fun ys => ys = down n 0) (fun _ => True) n w := fun l J Jx W hW _ _ hY h0 => by
  have hk : KeepS S w W := KeepS.below hW hSl
  refine (backward1_in m S l Bs ao n cap z hn J Jx hY W (hBs.keepS hk hSB) hSB (fun h => ?_) h0).mono ?_
  · obtain ⟨ad, e, h1, h2⟩ := hr h
    exact ⟨ad, e, h1, h2.keepS hk h1⟩
  · rintro e W' ⟨he, ⟨ys, rfl, hj⟩ | ⟨pre, _, hj⟩⟩
    · exact ⟨he, .inl ⟨_, rfl, hj⟩⟩
    · exact ⟨he, .inr ⟨_, trivial, hj⟩⟩
end M
namespace MM
/-- The value as the program reckons it: from the last coefficient on. -/
def hornL (c : Nat → Nat) (x q : Nat) (l : List Nat) : Nat := l.foldl (fun v i => addU (mulU v x q) (c i) q) 0
theorem hornL_snoc (c : Nat → Nat) (x q : Nat) (l : List Nat) (i : Nat) : hornL c x q (l ++ [i]) = addU (mulU (hornL c x q l) x q) (c i) q := by simp [hornL]
theorem hornL_lt (c : Nat → Nat) (x q : Nat) (l : List Nat) : hornL c x q l < 18446744073709551616 := by
  rcases List.eq_nil_or_concat l with rfl | ⟨l', i, rfl⟩
  · show (0 : Nat) < _; omega
  · rw [List.concat_eq_append, hornL_snoc]; exact addU_lt _ _ _
end MM
namespace M
attribute [local go_sem] Oper.semAt_some
set_option maxRecDepth 100000 in
set_option maxHeartbeats 4000000 in
theorem eval_any (ao : Option Addr) (n cap x q : Nat) (z : Nat → Nat) (hn : n ≤ 1000000) (hx : x < 18446744073709551616) (w : World) (hr : Rd w ao n z) :
    Calls Tryd.prog 32 #[.slice ao n cap, .int .u64 (x : Int), .int .u64 (q : Int)] w fun e w' => e = .returned (.int .u64 ((MM.hornL z x q (down n 0) : Nat) : Int)) ∧ Below w.heap.size w w' := by
  refine (callsIn_wide (n := 3)).1 ?_
  have HBW := Lib.hid (fun W => backward_any ao n cap W)
  have hr' : 0 < n → ∃ ad, ao = some ad ∧ ad.block < w.heap.size ∧ Row w ad n z := fun h => by
    obtain ⟨ad, e, hrow⟩ := hr h
    have h1 := World.block_lt_of_cell? w _ (hrow 0 h)
    have hb : (ad.add 0).block = ad.block := by unfold Addr.add; split <;> rfl
    exact ⟨ad, e, by rw [← hb]; exact h1, hrow⟩
  have HR := Lib.hid hr'
  clear hr hr'
  refine callsIn_of_wp_marks Tryd.func32 rfl trivial ?_ rfl
  simp only [Tryd.ntmps32, List.size_toArray, List.length_cons, List.length_nil, Nat.reduceAdd, Nat.reduceSub, Array.replicate_succ, Array.replicate_zero, List.push_toArray, List.append_toArray, List.nil_append, List.cons_append]
  gi_wp2_with (refine ⟨trivial, ?_⟩; gi_at_call 68; refine (callsIn_wide.2 (HBW.out _)).mono ?_; rintro e w' ⟨rfl, rfl⟩)
  obtain ⟨g0, hg0⟩ : ∃ g, w.heap.size = g := ⟨_, rfl⟩
  obtain ⟨W1, h1⟩ : ∃ W1, w.alloc (.cells #[.int .u64 (x : Int)] 22) = W1 := ⟨_, rfl⟩
  obtain ⟨W2, h2⟩ : ∃ W2, W1.alloc (.cells #[.int .u64 (q : Int)] 22) = W2 := ⟨_, rfl⟩
  obtain ⟨W3, h3⟩ : ∃ W3, W2.alloc (.cells #[.int .u64 0] 22) = W3 := ⟨_, rfl⟩
  obtain ⟨W4, h4⟩ : ∃ W4, W3.alloc (.cells #[.slice ao n cap] 25) = W4 := ⟨_, rfl⟩
  have b1 : Below w.heap.size w W1 := h1 ▸ below_box _ _
  have b2 : Below W1.heap.size W1 W2 := h2 ▸ below_box _ _
  have b3 : Below W2.heap.size W2 W3 := h3 ▸ below_box _ _
  have b4 : Below W3.heap.size W3 W4 := h4 ▸ below_box _ _
  have s1 : W1.heap.size = g0 + 1 := by rw [← h1, World.size_alloc, hg0]
  have s2 : W2.heap.size = g0 + 1 + 1 := by rw [← h2, World.size_alloc, s1]
  have s3 : W3.heap.size = g0 + 1 + 1 + 1 := by rw [← h3, World.size_alloc, s2]
  have s4 : W4.heap.size = g0 + 1 + 1 + 1 + 1 := by rw [← h4, World.size_alloc, s3]
  have b24 : Below W2.heap.size W2 W4 := b3.trans (b4.mono b3.size)
  have b14 : Below W1.heap.size W1 W4 := b2.trans (b24.mono b2.size)
  have b04 : Below w.heap.size w W4 := b1.trans (b14.mono b1.size)
  have x1 : Box W4 g0 22 (.int .u64 (x : Int)) := Box.below (W := W1) (by rw [← h1, ← hg0]; exact Box.new _ _ _) b14
  have x2 : Box W4 (g0 + 1) 22 (.int .u64 (q : Int)) := Box.below (W := W2) (by rw [← h2, ← s1]; exact Box.new _ _ _) b24
  have x3 : Box W4 (g0 + 1 + 1) 22 (.int .u64 0) := Box.below (W := W3) (by rw [← h3, ← s2]; exact Box.new _ _ _) b4
  have x4 : Box W4 (g0 + 1 + 1 + 1) 25 (.slice ao n cap) := by rw [← h4, ← s3]; exact Box.new _ _ _
  rw [h1, h2, h3, h4, hg0]
  have HSEQ := backward_stops (3 - 1) (fun k => k < W4.heap.size ∧ k ≠ g0 + 1 + 1) (g0 + 1 + 1 + 1) ao n cap z hn W4 (fun k h => h.1) x4 ⟨by omega, by omega⟩ (fun h => by
    obtain ⟨ad, e, h1, h2⟩ := HR.out h
    exact ⟨ad, e, ⟨by omega, by omega⟩, h2.below b04⟩)
  rw [hg0] at b04
  clear HR HBW h1 h2 h3 h4 b1 b2 b3 b4 b24 b14 x4
  refine wpIn_rangeFunc_ownG rfl (by omega) (gf := 80) (lb := #[.pointer (some ⟨g0 + 1 + 1 + 1, 0, none⟩)]) rfl trivial (enters_of Tryd.func80 (by kernel_rfl) rfl)
    HSEQ KeepS.trans (keepS_b fun k h => h.1) (Below.refl _ _) (fun _ => rfl)
    (fun pre W => (Box W g0 22 (.int .u64 (x : Int)) ∧ Box W (g0 + 1) 22 (.int .u64 (q : Int)) ∧ Box W (g0 + 1 + 1) 22 (.int .u64 ((MM.hornL z x q pre : Nat) : Int))) ∧ Below g0 w W)
    (fun _ _ _ => False)
    (OwnFrom.and (Own.from (fun s A B row hs hg hr => ⟨hs.1.own hg hr, hs.2.1.own hg hr, hs.2.2.own hg hr⟩) _) (ownFrom_below (by omega) (by omega)))
    (fun _ _ _ _ _ hs _ _ => hs)
    ⟨⟨x1, x2, x3⟩, b04⟩
    (fun y => { tmps := #[.slice ao n cap, .int .u64 (x : Int), .int .u64 (q : Int), undef, .pointer (some ⟨g0, 0, none⟩), .pointer (some ⟨g0 + 1, 0, none⟩), .int .u64 0, .pointer (some ⟨g0 + 1 + 1, 0, none⟩), undef, .int .u64 ((z y : Nat) : Int), .slice ao n cap, .func (.func 80) #[] #[.pointer (some ⟨g0 + 1 + 1 + 1, 0, none⟩)], .int .i64 (y : Int), .int .u64 ((z y : Nat) : Int), undef, undef, undef, undef, undef, undef, undef, undef], defers := [] }) ?assign ?body ?done ?stop
  case assign =>
    intro l y W K hK
    gi_wp2
    exact hK
  case body =>
    rintro l pre y W ⟨⟨y1, y2, y3⟩, hB⟩ _
    have c1 := y1.cell
    have c2 := y2.cell
    have c3 := y3.cell
    have f3 := y3.free
    have HM := ret_mulU (MM.hornL z x q pre) x q (MM.hornL_lt _ _ _ _) hx
    have HA := ret_addU (MM.mulU (MM.hornL z x q pre) x q) (z y) q
    have HN := Lib.hid (MM.hornL_snoc z x q pre y)
    have HY := Lib.hid (And.intro y1 (And.intro y2 (And.intro y3 hB)))
    rw [← HN.out] at HA
    obtain ⟨r2, hr2⟩ : ∃ r2, MM.hornL z x q (pre ++ [y]) = r2 := ⟨_, rfl⟩
    rw [hr2] at HA
    have HR2 := Lib.hid hr2
    clear hr2
    generalize MM.mulU (MM.hornL z x q pre) x q = r1 at *
    generalize MM.hornL z x q pre = r0 at *
    clear y1 y2 y3 hB HN
    gi_wp2
    refine QT.region_in l _ 7 (by kernel_rfl) (by simp) (fun h => by obtain ⟨_, _, h⟩ := h; exact h) (by kernel_rfl) ?_
    simp only [List.take_succ_cons, List.take_zero, List.drop_succ_cons, List.drop_zero]
    repeat (quiet_step ((first | (go_at_call 31; exact (HM).quiet) | (go_at_call 25; exact (HA).quiet))))
    refine wpQuiet_nil ?_
    intro nq
    go_wp2_with fail
    obtain ⟨y1, y2, y3, hB⟩ := HY.out
    exact ⟨((keepsO_drewN W nq).trans (KeepsOthers.setCell (W.drewN nq) _ _)).from _, ((KeepS.refl _ W).drewN nq).setCell _ _ (fun h => h.2 rfl),
      ⟨(y1.drewN nq).other _ _ (by show g0 ≠ g0 + 1 + 1; omega), (y2.drewN nq).other _ _ (by show g0 + 1 ≠ g0 + 1 + 1; omega), by rw [HR2.out]; exact (y3.drewN nq).set _⟩, (hB.trans (below_drewN' _ _ _)).setCell (p := ⟨g0 + 1 + 1, 0, none⟩) (by show g0 ≤ g0 + 1 + 1; omega) _⟩
  case done =>
    rintro D ys W hD rfl ⟨⟨y1, y2, y3⟩, hB⟩ hK
    have c3 := y3.cell
    gi_wp2
    refine ⟨by simp, .inl ⟨_, _, rfl, run_takeDeferred hK, ?_⟩⟩
    exact ⟨_, results_tmp rfl _ _ _, rfl, by rw [hg0]; exact hB.trans (belowK_b (w := W4) (by omega) W D _ _ (by omega) hK rfl rfl)⟩
  case stop =>
    rintro D c pre W _ _ h _
    exact h.elim
end M
end Go.Proofs.YtlnlepadninnaaaDoor
/- The factors of points, one after another: what the program's iterator hands to a loop. -/
namespace Go.Proofs.YtlnlepadninnaaaDoor
open Go Go.RowKit Go.Lib Go.Shelf
namespace M
attribute [local go_sem] Oper.semAt_some
theorem grownBy_drewN (W : World) (n : Nat) : W.grownBy (W.drewN n) none := ⟨rfl, rfl, rfl, Nat.le_refl _, fun _ _ _ => rfl⟩
theorem range_succ_eq (k : Nat) : List.range (k + 1) = List.range k ++ [k] := List.range_succ

end M
end Go.Proofs.YtlnlepadninnaaaDoor
/- The marks that ranges over a function leave with a call: what they are, and that a call leaves through them. -/
namespace Go.Proofs.YtlnlepadninnaaaDoor
open Go Go.RowKit Go.Lib Go.Shelf
namespace M
def mark (D : Nat) : Deferred := { target := .collected D, args := #[] }
structure Marks (Ds : List Nat) (w : World) : Prop where
  nodup : Ds.Nodup
  at_ : ∀ D, D ∈ Ds → w.heap[D]? = some (.deferred (some []))
theorem Marks.nil (w : World) : Marks [] w := ⟨List.nodup_nil, fun _ h => by cases h⟩
theorem Marks.lt {Ds : List Nat} {w : World} (h : Marks Ds w) {D : Nat} (hD : D ∈ Ds) : D < w.heap.size := row_lt (h.at_ D hD)
theorem Marks.below {Ds : List Nat} {w w' : World} (h : Marks Ds w) (hb : Below w.heap.size w w') : Marks Ds w' := ⟨h.nodup, fun D hD => (hb.block D (h.lt hD)).trans (h.at_ D hD)⟩
theorem Marks.drewN {Ds : List Nat} {w : World} (h : Marks Ds w) (n : Nat) : Marks Ds (w.drewN n) := ⟨h.nodup, h.at_⟩
theorem Marks.keepS {S : Nat → Prop} {Ds : List Nat} {w w' : World} (h : Marks Ds w) (hk : KeepS S w w') (hS : ∀ D, D ∈ Ds → S D) : Marks Ds w' := ⟨h.nodup, fun D hD => (hk.same D (hS D hD)).trans (h.at_ D hD)⟩
theorem Marks.cons {Ds : List Nat} {w : World} (h : Marks Ds w) {D : Nat} (hD : w.heap[D]? = some (.deferred (some []))) (hne : D ∉ Ds) : Marks (D :: Ds) w :=
  ⟨List.nodup_cons.2 ⟨hne, h.nodup⟩, fun E hE => by
    rcases List.mem_cons.1 hE with rfl | h'
    · exact hD
    · exact h.at_ E h'⟩
theorem Marks.setCell {Ds : List Nat} {w : World} (h : Marks Ds w) {a : Addr} {v u : Value} (hc : w.cell? a = some u) : Marks Ds (w.setCell a v) :=
  ⟨h.nodup, fun D hD => (Below.heap_setCell w a v D (fun e => by
    have h1 := h.at_ D hD
    rw [e] at h1
    simp [World.cell?, h1] at hc)).trans (h.at_ D hD)⟩
/-- All cells are as they were. -/
def CellsAs (w w' : World) : Prop := ∀ (k : Nat) (cs : Array Value) (t : TypeId) (fr : Nat × Nat), w.heap[k]? = some (.cells cs t fr) → w'.heap[k]? = some (.cells cs t fr)
theorem leaves_marks {F : Fence} {n : Nat} {P : Program} {fn : Func} {tmps : Array Value} {R : Ending → World → Prop} {B : Nat} : ∀ (Ds : List Nat) (w : World), Marks Ds w → (∀ D, D ∈ Ds → B ≤ D) →
    (∀ w', Below B w w' → CellsAs w w' → LeavesInM F n P fn tmps R [] .returning w') → LeavesInM F n P fn tmps R (Ds.map mark) .returning w
  | [], w, _, _, h => h w (Below.refl _ _) (fun _ _ _ _ h => h)
  | D :: Ds, w, hm, hB, h => by
    refine ⟨by simp, .inl ⟨D, _, rfl, run_takeDeferred (hm.at_ D (by simp)), ?_⟩⟩
    have hne : D ∉ Ds := (List.nodup_cons.1 hm.nodup).1
    have hD := hm.lt (D := D) (by simp)
    have hb : Below B w (w.putObj D (.deferred none)) := (Below.refl B w).grown (grownBy_putObj' w D _) (by have := hB D (by simp); omega) (fun k e => by cases e; exact hB D (by simp))
    refine leaves_marks Ds _ ⟨(List.nodup_cons.1 hm.nodup).2, fun E hE => (World.putObj_heap_other (by intro e; subst e; exact hne hE)).trans (hm.at_ E (by simp [hE]))⟩ (fun E hE => hB E (by simp [hE])) ?_
    intro w' hb' hc'
    refine h w' (hb.trans hb') (fun k cs t fr hk => hc' k cs t fr ?_)
    refine (World.putObj_heap_other (fun e => ?_)).trans hk
    subst e
    rw [hm.at_ k (by simp)] at hk
    cases hk
end M
end Go.Proofs.YtlnlepadninnaaaDoor
/- The walk of the program's weights of points. -/
namespace Go.Proofs.YtlnlepadninnaaaDoor
open Go Go.RowKit Go.Lib Go.Shelf
namespace MM
/-- The product of the factors at x, but for the one of the point i. -/
def prodL (x q : Nat) (z : Nat → Nat) (i : Nat) (l : List Nat) : Nat := l.foldl (fun v j => if j = i then v else mulU v (addU x (subU 0 (z j) q) q) q) 1
theorem prodL_same (x q : Nat) (z : Nat → Nat) (i : Nat) (l : List Nat) : prodL x q z i (l ++ [i]) = prodL x q z i l := by simp [prodL]
theorem prodL_other {x q : Nat} {z : Nat → Nat} {i j : Nat} (h : j ≠ i) (l : List Nat) : prodL x q z i (l ++ [j]) = mulU (prodL x q z i l) (addU x (subU 0 (z j) q) q) q := by simp [prodL, h]
theorem prodL_lt (x q : Nat) (z : Nat → Nat) (i : Nat) (l : List Nat) : prodL x q z i l < 18446744073709551616 := by
  suffices H : ∀ (l : List Nat) (v : Nat), v < 18446744073709551616 → l.foldl (fun v j => if j = i then v else mulU v (addU x (subU 0 (z j) q) q) q) v < 18446744073709551616 from H l 1 (by omega)
  intro l
  induction l with
  | nil => intro v h; exact h
  | cons j l ih =>
    intro v h
    refine ih _ ?_
    show (if j = i then v else _) < _
    by_cases e : j = i
    · rw [if_pos e]; exact h
    · rw [if_neg e]; exact mulU_lt _ _ _
def undU (q : Nat) (z : Nat → Nat) (n i : Nat) : Nat := prodL (z i) q z i (List.range n)
noncomputable def wgtU (p q : Nat) (z : Nat → Nat) (n i : Nat) : Nat := mulU (prodL p q z i (List.range n)) (invU (undU q z n i) q) q
end MM
namespace M
attribute [local go_sem] Oper.semAt_some
/-- What the program's weights are, or that some difference has no inverse. -/
def Weighed (w : World) (n p q : Nat) (z : Nat → Nat) (e : Ending) (w' : World) : Prop :=
  (∃ B : Nat, e = .returned (.tuple #[.slice (some ⟨B, 0, none⟩) n n, .int .i64 0]) ∧ Mine w B n (MM.wgtU p q z n) w' ∧ ∀ j, j < n → MM.invC (MM.undU q z n j) q = 0) ∨
  (e = .returned (.tuple #[.slice none 0 0, .int .i64 5]) ∧ Below w.heap.size w w' ∧ ∃ j, j < n ∧ MM.invC (MM.undU q z n j) q ≠ 0)
theorem Mine.leave {w w1 w2 : World} {B n : Nat} {z : Nat → Nat} (h : Mine w B n z w1) (hb : Below w.heap.size w1 w2) (hc : CellsAs w1 w2) : Mine w B n z w2 :=
  ⟨by obtain ⟨cs, h1, h2⟩ := h.block; exact ⟨cs, hc _ _ _ _ h1, h2⟩, h.low, h.below.trans hb⟩
/-- The state between two rounds of the outer loop. -/
structure WInv (w : World) (g0 B n p q k : Nat) (z : Nat → Nat) (Ds : List Nat) (wx : World) : Prop where
  mine : Mine w B n (fun j => if j < k then MM.wgtU p q z n j else 0) wx
  b1 : Box wx g0 22 (.int .u64 (p : Int))
  b2 : Box wx (g0 + 1) 22 (.int .u64 (q : Int))
  marks : Marks Ds wx
  low : ∀ D, D ∈ Ds → w.heap.size ≤ D
  good : ∀ j, j < k → MM.invC (MM.undU q z n j) q = 0
theorem Rd.lt {w : World} {ad : Addr} {n : Nat} {z : Nat → Nat} (h : Rd w (some ad) n z) (hn : 0 < n) : ad.block < w.heap.size ∧ Row w ad n z := by
  obtain ⟨ad', e, hr⟩ := h hn
  cases e
  have h1 := World.block_lt_of_cell? w _ (hr 0 hn)
  have hb : (ad.add 0).block = ad.block := by unfold Addr.add; split <;> rfl
  exact ⟨by rw [← hb]; exact h1, hr⟩
theorem boxes2 (w : World) (t1 t2 : TypeId) (v1 v2 : Value) : ∃ W, (w.alloc (.cells #[v1] t1)).alloc (.cells #[v2] t2) = W ∧ Below w.heap.size w W ∧ W.heap.size = w.heap.size + 1 + 1 ∧ Box W w.heap.size t1 v1 ∧ Box W (w.heap.size + 1) t2 v2 := by
  obtain ⟨W1, h1⟩ : ∃ W1, w.alloc (.cells #[v1] t1) = W1 := ⟨_, rfl⟩
  obtain ⟨W2, h2⟩ : ∃ W2, W1.alloc (.cells #[v2] t2) = W2 := ⟨_, rfl⟩
  have b1 : Below w.heap.size w W1 := h1 ▸ below_box _ _
  have b2 : Below W1.heap.size W1 W2 := h2 ▸ below_box _ _
  have s1 : W1.heap.size = w.heap.size + 1 := by rw [← h1, World.size_alloc]
  have s2 : W2.heap.size = w.heap.size + 1 + 1 := by rw [← h2, World.size_alloc, s1]
  exact ⟨W2, by rw [h1, h2], b1.trans (b2.mono b1.size), s2, Box.below (W := W1) (by rw [← h1]; exact Box.new _ _ _) b2, by rw [← h2, ← s1]; exact Box.new _ _ _⟩
theorem boxes4 (w : World) (t1 t2 t3 t4 : TypeId) (v1 v2 v3 v4 : Value) : ∃ W, (((w.alloc (.cells #[v1] t1)).alloc (.cells #[v2] t2)).alloc (.cells #[v3] t3)).alloc (.cells #[v4] t4) = W ∧ Below w.heap.size w W ∧ W.heap.size = w.heap.size + 1 + 1 + 1 + 1 ∧
    Box W w.heap.size t1 v1 ∧ Box W (w.heap.size + 1) t2 v2 ∧ Box W (w.heap.size + 1 + 1) t3 v3 ∧ Box W (w.heap.size + 1 + 1 + 1) t4 v4 := by
  obtain ⟨W2, h2, b2, s2, x1, x2⟩ := boxes2 w t1 t2 v1 v2
  obtain ⟨W4, h4, b4, s4, x3, x4⟩ := boxes2 W2 t3 t4 v3 v4
  rw [s2] at s4 x3 x4
  exact ⟨W4, by rw [h2, h4], b2.trans (b4.mono b2.size), s4, x1.below b4, x2.below b4, x3, x4⟩

end M
end Go.Proofs.YtlnlepadninnaaaDoor
/- The walk of the program's product of polynomials. -/
namespace Go.Proofs.YtlnlepadninnaaaDoor
open Go Go.RowKit Go.Lib
namespace MM
/-- The coefficient at n of a product, when i factors of the one have met all of the other, and the next has met j of them. -/
def cellT (la lb q : Nat) (a b : Nat → Nat) (i j n : Nat) : Nat := if i ≤ n ∧ n < i + j then convU la lb q a b n (i + 1) else convU la lb q a b n (min i (n + 1))
theorem cellT_zero (la lb q : Nat) (a b : Nat → Nat) (n : Nat) : cellT la lb q a b 0 0 n = 0 := by
  unfold cellT; rw [if_neg (by omega), Nat.zero_min]; rfl
theorem cellT_at {la lb q : Nat} {a b : Nat → Nat} (i j : Nat) : cellT la lb q a b i j (i + j) = convU la lb q a b (i + j) i := by
  unfold cellT; rw [if_neg (by omega), Nat.min_eq_left (by omega)]
theorem cellT_new {la lb q : Nat} {a b : Nat → Nat} {i j : Nat} (hi : i < la) (hj : j < lb) : cellT la lb q a b i (j + 1) (i + j) = addU (convU la lb q a b (i + j) i) (mulU (a i) (b j) q) q := by
  unfold cellT; rw [if_pos (by omega), convU, if_pos ⟨hi, by omega⟩, show i + j - i = j by omega]
theorem cellT_else {la lb q : Nat} {a b : Nat → Nat} {i j n : Nat} (h : n ≠ i + j) : cellT la lb q a b i (j + 1) n = cellT la lb q a b i j n := by
  unfold cellT
  by_cases h1 : i ≤ n ∧ n < i + j
  · rw [if_pos h1, if_pos (by omega)]
  · rw [if_neg h1, if_neg (by omega)]
theorem cellT_next {la lb q : Nat} {a b : Nat → Nat} {i : Nat} (n : Nat) : cellT la lb q a b i lb n = cellT la lb q a b (i + 1) 0 n := by
  unfold cellT
  rw [if_neg (show ¬ (i + 1 ≤ n ∧ n < i + 1 + 0) by omega)]
  by_cases h1 : i ≤ n ∧ n < i + lb
  · rw [if_pos h1, Nat.min_eq_left (by omega)]
  · rw [if_neg h1]
    by_cases h2 : n < i
    · rw [Nat.min_eq_right (by omega), Nat.min_eq_right (by omega)]
    · rw [Nat.min_eq_left (by omega), Nat.min_eq_left (by omega), convU, if_neg (by omega)]
theorem convU_far {la lb q : Nat} {a b : Nat → Nat} {n : Nat} : ∀ i, la ≤ i → convU la lb q a b n i = convU la lb q a b n la
  | 0, h => by rw [show la = 0 by omega]
  | i + 1, h => by
    by_cases e : la = i + 1
    · rw [e]
    · rw [convU, if_neg (by omega), convU_far i (by omega)]
theorem cellT_end {la lb q : Nat} {a b : Nat → Nat} (n : Nat) : cellT la lb q a b la 0 n = timesU la lb q a b n := by
  unfold cellT timesU
  rw [if_neg (by omega)]
  by_cases h : n + 1 ≤ la
  · rw [Nat.min_eq_right h]
  · rw [Nat.min_eq_left (by omega), convU_far (n + 1) (by omega)]
end MM
namespace M
end M
end Go.Proofs.YtlnlepadninnaaaDoor
/- A row of two numbers. -/
namespace Go.Proofs.YtlnlepadninnaaaDoor
open Go Go.RowKit Go.Lib
namespace M
theorem two_rd (W : World) (x : Nat) : Rd (W.alloc (.cells #[.int .u64 (x : Int), .int .u64 1] 22)) (some ⟨W.heap.size, 0, none⟩) 2 (MM.two x 1) := fun _ => ⟨_, rfl, Row.of_block (heap_alloc_new _ _) fun k hk => by
  match k, hk with
  | 0, _ => rfl
  | 1, _ => rfl
  | k + 2, h => exact absurd h (by omega)⟩
theorem two_lt2 {x k : Nat} (hx : x < 18446744073709551616) : MM.two x 1 k < 18446744073709551616 := by
  match k with
  | 0 => exact hx
  | _ + 1 => show (1 : Nat) < _; omega
end M
end Go.Proofs.YtlnlepadninnaaaDoor

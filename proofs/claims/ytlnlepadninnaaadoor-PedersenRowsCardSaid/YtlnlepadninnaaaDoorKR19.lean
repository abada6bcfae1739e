/- The texts PedLaw, PedIs, one behind the other. -/
import Derived.Test.YtlnlepadninnaaaDoorKR10
import Derived.Test.YtlnlepadninnaaaDoorKR4
import Derived.IntWalk
import Derived.Deep.QuietTactic
import Derived.BigQuiet
import Derived.Test.YtlnlepadninnaaaDoorKR11
import Derived.Test.YtlnlepadninnaaaDoorKR15
import Derived.Test.YtlnlepadninnaaaDoorKR18
/- What the statements of layer 8 do themselves: whether numbers, and lists, are the same; how many secrets there are; polynomials of two out of numbers. -/
namespace Go.Proofs.YtlnlepadninnaaaDoor
open Go Go.RowKit Go.Lib
namespace M
set_option maxRecDepth 100000 in
set_option maxHeartbeats 2000000 in
theorem nums8_yes (ao bo : Option Addr) (n ca cb : Nat) (z : Nat → Nat) (hn : n ≤ 9223372036854775807) (W : World) (ha : Rd W ao n z) (hb : Rd W bo n z) :
    Calls Tryd.prog 18 #[.slice ao n ca, .slice bo n cb] W fun e w' => e = .returned (.bool true) ∧ ∃ d, w' = W.drewN d := by
  have HA := Lib.hid ha
  have HB := Lib.hid hb
  clear ha hb
  go_enter Tryd.func18, Tryd.ntmps18
  go_wp2_with fail
  go_loopw [5] (fun s5 wx => ∃ k m : Nat, k ≤ n ∧ s5 = .int .i64 (k : Int) ∧ wx = W.drewN m) (fun s5 _ => n - (RowKit.intOf s5).toNat)
  case atStart => exact ⟨0, 0, Nat.zero_le _, rfl, rfl⟩
  case round =>
    obtain ⟨k, m, hk, rfl, rfl⟩ := hrel
    by_cases hlt : k < n
    · obtain ⟨ad, rfl, hc⟩ := HA.out.at_ hlt
      obtain ⟨bd, rfl, hd⟩ := HB.out.at_ hlt
      go_upto_region 6 with fail
      generalize hwr : W.drewN m = wr
      have hcell : wr.cell? (ad.add k) = some (.int .u64 ((z k : Nat) : Int)) := by rw [← hwr]; exact hc
      have hdell : wr.cell? (bd.add k) = some (.int .u64 ((z k : Nat) : Int)) := by rw [← hwr]; exact hd
      have HWR := Lib.hid hwr
      clear hwr hc hd
      have hk0 : (0 : Int) ≤ (k : Int) := Int.natCast_nonneg _
      have hk1 : (k : Int) < (n : Int) := by omega
      go_quiet (fail)
      go_wp2_with fail
      go_roundw
      case rel => exact ⟨k + 1, _, by omega, by go_num, by rw [← HWR.out]; exact World.drewN_drewN _ _ _⟩
      case measure => simp [RowKit.intOf]; omega
    · obtain rfl : k = n := by omega
      go_wp2_with fail
      go_ret
      exact ⟨rfl, _, rfl⟩
set_option maxRecDepth 100000 in
set_option maxHeartbeats 2000000 in
theorem lists8_yes (ao bo : Option Addr) (m ca cb : Nat) (L : Nat → Nat) (F : Nat → Nat → Nat) (hm : m ≤ 1000000) (hl : ∀ i, i < m → L i ≤ 1000) (W : World) (ha : Mat W ao m L F) (hb : Mat W bo m L F) :
    Calls Tryd.prog 14 #[.slice ao m ca, .slice bo m cb] W fun e w' => e = .returned (.bool true) ∧ ∃ d, w' = W.drewN d := by
  have HA := Lib.hid ha
  have HB := Lib.hid hb
  have HL := Lib.hid hl
  clear ha hb hl
  go_enter Tryd.func14, Tryd.ntmps14
  go_wp2_with fail
  go_loopw [5] (fun s5 wx => ∃ k d : Nat, k ≤ m ∧ s5 = .int .i64 (k : Int) ∧ wx = W.drewN d) (fun s5 _ => m - (RowKit.intOf s5).toNat)
  case atStart => exact ⟨0, 0, Nat.zero_le _, rfl, rfl⟩
  case round =>
    obtain ⟨k, d, hk, rfl, rfl⟩ := hrel
    by_cases hlt : k < m
    · obtain ⟨ad, a1, c1, rfl, hc, hs, _⟩ := HA.out k hlt
      obtain ⟨bd, b1, c2, rfl, hd, ht, _⟩ := HB.out k hlt
      have hlk := HL.out k hlt
      go_upto_region 6 with fail
      generalize hwr : W.drewN d = wr
      have hcell : wr.cell? (ad.add k) = some (.slice a1 (L k) c1) := by rw [← hwr]; exact hc
      have hdell : wr.cell? (bd.add k) = some (.slice b1 (L k) c2) := by rw [← hwr]; exact hd
      have HN := Lib.hid (fun e => nums8_yes a1 b1 (L k) c1 c2 (F k) (by omega) (wr.drewN e) (by rw [← hwr]; exact hs) (by rw [← hwr]; exact ht))
      have HWR := Lib.hid hwr
      generalize L k = lk at *
      clear hwr hc hd hs ht
      have hk0 : (0 : Int) ≤ (k : Int) := Int.natCast_nonneg _
      have hk1 : (k : Int) < (m : Int) := by omega
      go_quiet ((go_at_call 18; exact Calls.quiet_of (HN.out _)))
      go_wp2_with fail
      go_roundw
      case rel => exact ⟨k + 1, _, by omega, by go_num, by rw [← HWR.out]; exact World.drewN_drewN _ _ _⟩
      case measure => simp [RowKit.intOf]; omega
    · obtain rfl : k = m := by omega
      go_wp2_with fail
      go_ret
      exact ⟨rfl, _, rfl⟩
set_option maxHeartbeats 1000000 in
theorem secrets8_any (p : Pm) (hK : 0 ≤ p.K ∧ p.K ≤ 1000) (hD : 0 ≤ p.D ∧ p.D ≤ 1000) : RetB 28 #[.agg p.cells] (.int .i64 ((p.K.toNat * (p.D.toNat + 1) : Nat) : Int)) := by
  intro w
  have HB : Hid (In1 w w.heap.size p (w.alloc (.cells p.cells 24))) := Lib.hid (In1.new w p)
  obtain ⟨k, hk⟩ := Int.eq_ofNat_of_zero_le hK.1
  obtain ⟨d, hd⟩ := Int.eq_ofNat_of_zero_le hD.1
  have hkb : k ≤ 1000 := by omega
  have hdb : d ≤ 1000 := by omega
  have hp : p.K.toNat * (p.D.toNat + 1) = k * (d + 1) := by rw [hk, hd]; rfl
  rw [hp]
  have hm : k * (d + 1) ≤ 1000 * 1001 := Nat.mul_le_mul hkb (by omega)
  have hw3 : IntKind.i64.wrap ((d : Int) + 1) = (d : Int) + 1 := IntWalk.i64_in _ (by omega)
  have hw5 : (k : Int) * ((d : Int) + 1) = ((k * (d + 1) : Nat) : Int) := by rw [Int.natCast_mul]; rfl
  generalize k * (d + 1) = kd at *
  have hw4 : IntKind.i64.wrap ((kd : Nat) : Int) = (kd : Int) := IntWalk.i64_in _ (by omega)
  go_enter Tryd.func28, Tryd.ntmps28
  go_upto_region 1 with fail
  generalize hg : w.heap.size = g at HB ⊢
  have HE := Lib.hid hg
  clear hg
  generalize w.alloc (.cells p.cells 24) = w1 at *
  have c7 := HB.out.box.cell 7
  have c8 := HB.out.box.cell 8
  rw [show p.cells[7]? = some (.int .i64 p.K) from rfl, hk] at c7
  rw [show p.cells[8]? = some (.int .i64 p.D) from rfl, hd] at c8
  clear hk hd hK hD hp
  go_wp2_with fail
  go_ret
  exact ⟨rfl, HE.out ▸ HB.out.below⟩
end M
end Go.Proofs.YtlnlepadninnaaaDoor
/- What package pedersen's calls answer at the parameters of the examples and at given lists, as facts that a walk meets; the examples that each statement of layer 8 asks for ahead of its own. -/
namespace Go.Proofs.YtlnlepadninnaaaDoor
open Go Go.RowKit Go.Lib
namespace M
/-- The parameters of the examples. -/
abbrev sm8 : Pm := ⟨23, 11, 4, 9, 4, 4, 1, 1, 1, 1, 1, 1⟩
set_option maxHeartbeats 400000 in
theorem small8_any : RetB 26 #[] (.agg sm8.cells) := by
  intro w
  go_enter Tryd.func26, Tryd.ntmps26
  go_wp2_with fail
  refine bodyPost_ret (v := .agg sm8.cells) (by simp [results, Tryd.results26, go_sem]) rfl ⟨rfl, ?_⟩
  exact (Below.refl _ _).alloc (Nat.le_refl _) _
/-- Pairs in a new block. -/
theorem pair_row {W : World} {b n : Nat} {cs : Array Value} {t : TypeId} (ls lt : List Nat) (h : W.heap[b]? = some (.cells cs t (0, 0))) (hc : ∀ k, k < n → cs[k * 2]? = some (.int .u64 ((MM.nl ls k : Nat) : Int)) ∧ cs[k * 2 + 1]? = some (.int .u64 ((MM.nl lt k : Nat) : Int))) : PairR W (some ⟨b, 0, none⟩) n (MM.nl ls) (MM.nl lt) :=
  fun k hk => ⟨b, rfl, by rw [cell_of_row _ _ _ _ _ _ h]; exact (hc k hk).1, by rw [cell_of_row _ _ _ _ _ _ h]; exact (hc k hk).2⟩
theorem coms_is (f r res : List (List Nat)) (n m k : Nat) (hf : f.all (fun l => l.all (· < 18446744073709551616)) = true) (hr : r.all (fun l => l.all (· < 18446744073709551616)) = true)
    (h : n ≤ 1000 ∧ m ≤ 1000 ∧ (∀ i, i < n → MM.lenL f i ≤ 1000) ∧ (∀ i, i < m → MM.lenL r i ≤ 1000) ∧ max n m = k ∧ (∀ i, i < k → max (getU n (MM.lenL f) i) (getU m (MM.lenL r) i) = MM.lenL res i) ∧
      ∀ i, i < k → ∀ j, j < MM.lenL res i → MM.comU 23 4 9 (getU (getU n (MM.lenL f) i) (MM.nlR f i) j) (getU (getU m (MM.lenL r) i) (MM.nlR r i) j) = MM.nlR res i j)
    {W : World} {ao bo : Option Addr} {ca cb : Nat} (ha : Mat W ao n (MM.lenL f) (MM.nlR f)) (hb : Mat W bo m (MM.lenL r) (MM.nlR r)) :
    Calls Tryd.prog 16 #[.agg sm8.cells, .slice ao n ca, .slice bo m cb] W fun e w' => ∃ v, e = .returned v ∧ (MatC W.heap.size w' v k (MM.lenL res) (MM.nlR res) ∧ CapOk v) ∧ Below W.heap.size W w' := by
  obtain ⟨a1, a2, a3, a4, a5, a6, a7⟩ := h
  refine (coms_any sm8 (by decide) (by decide) ao bo n ca m cb _ _ _ _ (MM.nlR_lt hf) (MM.nlR_lt hr) a3 a4 a1 a2 W ha hb).mono ?_
  rintro e w' ⟨v, rfl, ⟨hv, hcap⟩, hb'⟩
  rw [a5] at hv
  exact ⟨v, rfl, ⟨hv.congr a6 fun i hi j hj => by rw [a6 i hi] at hj; exact a7 i hi j hj, hcap⟩, hb'⟩
theorem share_is (c : List (List Nat)) (res : List Nat) (m x : Nat) {xi : Int} (hx : (x : Int) = xi) (hf : c.all (fun l => l.all (· < 18446744073709551616)) = true)
    (h : m ≤ 1000 ∧ (∀ i, i < m → MM.lenL c i ≤ 1000) ∧ x < 18446744073709551616 ∧ ∀ i, i < m → MM.atN 23 11 x (MM.nlR c i) (MM.lenL c i) = MM.nl res i) {W : World} {ao : Option Addr} {cap : Nat} (ha : Mat W ao m (MM.lenL c) (MM.nlR c)) :
    Calls Tryd.prog 19 #[.agg sm8.cells, .slice ao m cap, .int .u64 xi] W fun e w' => ∃ B, e = .returned (.slice (some ⟨B, 0, none⟩) m m) ∧ Row w' ⟨B, 0, none⟩ m (MM.nl res) ∧ Below W.heap.size W w' := by
  subst hx
  obtain ⟨a1, a2, a3, a4⟩ := h
  refine (share_any sm8 ao m cap x _ _ a1 a2 (MM.nlR_lt hf) a3 W ha).mono ?_
  rintro e w' ⟨B, rfl, hm⟩
  exact ⟨B, rfl, fun k hk => by rw [hm.row k hk]; simp only [a4 k hk], hm.below⟩
theorem formed_is (c : List (List Nat)) (m : Nat) (b : Bool) (hf : c.all (fun l => l.all (· < 18446744073709551616)) = true) (h : m ≤ 1000 ∧ (∀ i, i < m → MM.lenL c i ≤ 1000) ∧ formB sm8 m (MM.lenL c) (MM.nlR c) = b) {W : World} {ao : Option Addr} {cap : Nat} (ha : Mat W ao m (MM.lenL c) (MM.nlR c)) :
    Calls Tryd.prog 22 #[.agg sm8.cells, .slice ao m cap] W fun e w' => e = .returned (.bool b) ∧ Below W.heap.size W w' := by
  obtain ⟨a1, a2, a3⟩ := h
  rw [← a3]
  exact formed_any sm8 (by decide) (by decide) (by decide) (by decide) ao m cap _ _ a1 a2 (MM.nlR_lt hf) W ha
theorem fits_is (c : List (List Nat)) (ls lt : List Nat) (m x : Nat) (b : Bool) {xi : Int} (hx : (x : Int) = xi) (hf : c.all (fun l => l.all (· < 18446744073709551616)) = true) (hs : ls.all (· < 18446744073709551616) = true) (ht : lt.all (· < 18446744073709551616) = true)
    (h : m ≤ 1000 ∧ (∀ i, i < m → MM.lenL c i ≤ 1000) ∧ x < 18446744073709551616 ∧ fitB sm8 x m (MM.lenL c) (MM.nlR c) (MM.nl ls) (MM.nl lt) = b) {W : World} {ao bo : Option Addr} {cap cb : Nat} (ha : Mat W ao m (MM.lenL c) (MM.nlR c)) (hb : PairR W bo m (MM.nl ls) (MM.nl lt)) :
    Calls Tryd.prog 23 #[.agg sm8.cells, .slice ao m cap, .int .u64 xi, .slice bo m cb] W fun e w' => e = .returned (.bool b) ∧ Below W.heap.size W w' := by
  subst hx
  obtain ⟨a1, a2, a3, a4⟩ := h
  rw [← a4]
  exact fits_any sm8 (by decide) (by decide) ao bo m cap cb x _ _ _ _ a1 a2 (MM.nlR_lt hf) a3 (MM.nl_lt hs) (MM.nl_lt ht) W ha hb
theorem fits_not (n m x : Nat) {xi : Int} (hx : (x : Int) = xi) (h : m ≠ n) {W : World} {ao bo : Option Addr} {cap cb : Nat} :
    Calls Tryd.prog 23 #[.agg sm8.cells, .slice ao n cap, .int .u64 xi, .slice bo m cb] W fun e w' => e = .returned (.bool false) ∧ Below W.heap.size W w' := by
  subst hx
  exact fits_len sm8 ao bo n cap m cb x h W
theorem nums8_is {W : World} {ao bo : Option Addr} {n ca cb : Nat} {z : Nat → Nat} (hn : n ≤ 1000) (ha : Rd W ao n z) (hb : Rd W bo n z) :
    Calls Tryd.prog 18 #[.slice ao n ca, .slice bo n cb] W fun e w' => e = .returned (.bool true) ∧ Below W.heap.size W w' :=
  (nums8_yes ao bo n ca cb z (by omega) W ha hb).mono fun e w' ⟨he, d, hd⟩ => ⟨he, hd ▸ below_drewN' _ _ _⟩
theorem lists8_is {W : World} {ao bo : Option Addr} {m ca cb : Nat} {L : Nat → Nat} {F : Nat → Nat → Nat} (hm : m ≤ 1000 ∧ ∀ i, i < m → L i ≤ 1000) (ha : Mat W ao m L F) (hb : Mat W bo m L F) :
    Calls Tryd.prog 14 #[.slice ao m ca, .slice bo m cb] W fun e w' => e = .returned (.bool true) ∧ Below W.heap.size W w' :=
  (lists8_yes ao bo m ca cb L F (by omega) hm.2 W ha hb).mono fun e w' ⟨he, d, hd⟩ => ⟨he, hd ▸ below_drewN' _ _ _⟩
/-- The parameters' box stands; nothing old has changed. -/
structure St8 (w : World) (g : Nat) (W : World) : Prop where
  below : Below w.heap.size w W
  box : PBox W g sm8
theorem St8.step {w W W' : World} {g : Nat} (h : St8 w g W) (hb : Below W.heap.size W W') : St8 w g W' := ⟨h.below.trans (hb.mono h.below.size), h.box.below hb⟩
theorem St8.alloc {w W : World} {g : Nat} (h : St8 w g W) (o : Obj) : St8 w g (W.alloc o) := h.step (below_box _ _)
theorem Mat.alloc8 {W : World} {ao : Option Addr} {m : Nat} {L : Nat → Nat} {F : Nat → Nat → Nat} (h : Mat W ao m L F) (o : Obj) : Mat (W.alloc o) ao m L F := h.below (below_box _ _)
theorem MatV.cut {W : World} {ao : Option Addr} {m k : Nat} {L : Nat → Nat} {F : Nat → Nat → Nat} (h : Mat W ao m L F) (hk : k ≤ m) : Mat W ao k L F := fun i hi => h i (by omega)
end M
end Go.Proofs.YtlnlepadninnaaaDoor

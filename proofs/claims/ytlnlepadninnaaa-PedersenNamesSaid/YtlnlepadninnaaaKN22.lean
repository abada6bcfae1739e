/- The texts PedBond, PedCubes, one behind the other. -/
import Derived.Test.YtlnlepadninnaaaKN10
import Derived.Test.YtlnlepadninnaaaKN18
import Derived.Test.YtlnlepadninnaaaKN20
import Derived.Test.YtlnlepadninnaaaKN17
/- The walk of package pedersen's question whether a matrix is bonded. -/
namespace Go.Proofs.Ytlnlepadninnaaa
open Go Go.RowKit Go.Lib Go.Shelf
namespace M
attribute [local go_sem] Oper.semAt_some
/-- What lists have at 0 and 0. -/
def at00 (K : Nat → Nat) (L : Nat → Nat → Nat) (F : Nat → Nat → Nat → Nat) (s : Nat) : Nat := getU (getU (K s) (L s) 0) (F s 0) 0
def valB (p : Pm) (x : Nat) (K : Nat → Nat) (L : Nat → Nat → Nat) (F : Nat → Nat → Nat → Nat) (L' : Nat → Nat) (F' : Nat → Nat → Nat) (s : Nat) : Bool := decide (0 < K s) && decide (at00 K L F s = MM.atN p.P p.Q x (F' s) (L' s))
def bonB (p : Pm) (x n : Nat) (K : Nat → Nat) (L : Nat → Nat → Nat) (F : Nat → Nat → Nat → Nat) (L' : Nat → Nat) (F' : Nat → Nat → Nat) : Bool := (List.range n).all fun s => valB p x K L F L' F' s
theorem bonB_no {p : Pm} {x n i : Nat} {K : Nat → Nat} {L : Nat → Nat → Nat} {F : Nat → Nat → Nat → Nat} {L' : Nat → Nat} {F' : Nat → Nat → Nat} (hi : i < n) (h : valB p x K L F L' F' i = false) : bonB p x n K L F L' F' = false := by
  cases e : bonB p x n K L F L' F'
  · rfl
  · have := List.all_eq_true.1 e i (List.mem_range.2 hi)
    rw [h] at this; cases this
theorem bonB_yes {p : Pm} {x n : Nat} {K : Nat → Nat} {L : Nat → Nat → Nat} {F : Nat → Nat → Nat → Nat} {L' : Nat → Nat} {F' : Nat → Nat → Nat} (h : ∀ i, i < n → valB p x K L F L' F' i = true) : bonB p x n K L F L' F' = true := List.all_eq_true.2 fun i hi => h i (List.mem_range.1 hi)
set_option maxRecDepth 100000 in
set_option maxHeartbeats 4000000 in
theorem bonded_no (p : Pm) (hT : -1000 ≤ p.T ∧ p.T ≤ 1000) (hQ : p.Q < 18446744073709551616) (hKK : 0 ≤ p.K ∧ p.K ≤ 1000) (hDD : 0 ≤ p.D ∧ p.D ≤ 1000) (ao bo : Option Addr) (n nc ca cb x : Nat) (K : Nat → Nat) (L : Nat → Nat → Nat) (F : Nat → Nat → Nat → Nat) (L' : Nat → Nat) (F' : Nat → Nat → Nat) (hn : n ≤ 1000) (hnc : nc ≤ 1000) (hK : ∀ s, s < n → K s ≤ 1000) (hL : ∀ s, s < n → ∀ i, i < K s → L s i ≤ 1000) (hF : ∀ s i j, F s i j < 18446744073709551616) (hL' : ∀ s, s < nc → L' s ≤ 1000) (hF' : ∀ s j, F' s j < 18446744073709551616) (hsf : (sqB p n K L F && formB p nc L' F') = false) (w0 : World) (ha : Cub w0 ao n K L F) (hb : Mat w0 bo nc L' F') :
    Calls Try.prog 10 #[.agg p.cells, .slice ao n ca, .slice bo nc cb, .int .u64 (x : Int)] w0 fun e w' => e = .returned (.bool false) ∧ Below w0.heap.size w0 w' := by
  obtain ⟨g, hg⟩ : ∃ g, w0.heap.size = g := ⟨_, rfl⟩
  have x1 := PBox.new w0 p
  have b1 := below_box w0 (.cells p.cells 25)
  have s1 : (w0.alloc (.cells p.cells 25)).heap.size = g + 1 := by rw [World.size_alloc, hg]
  rw [hg] at x1 b1
  obtain ⟨W1, hW1⟩ : ∃ W1, w0.alloc (.cells p.cells 25) = W1 := ⟨_, rfl⟩
  rw [hW1] at x1 b1 s1
  have x2 := Box.new W1 4 (.bool false)
  have b2 := below_box W1 (.cells #[.bool false] 4)
  have s2 : (W1.alloc (.cells #[.bool false] 4)).heap.size = g + 1 + 1 := by rw [World.size_alloc, s1]
  rw [s1] at x2
  obtain ⟨W2, hW2⟩ : ∃ W2, W1.alloc (.cells #[.bool false] 4) = W2 := ⟨_, rfl⟩
  rw [hW2] at x2 b2 s2
  have HI : Hid (Below g w0 W2 ∧ PBox W2 g p ∧ Box W2 (g + 1) 4 (.bool false)) := Lib.hid ⟨b1.trans (b2.mono (by omega)), x1.below b2, x2⟩
  have HST : Hid (∀ X Y, (Below g w0 X ∧ PBox X g p ∧ Box X (g + 1) 4 (.bool false)) → Below X.heap.size X Y → (Below g w0 Y ∧ PBox Y g p ∧ Box Y (g + 1) 4 (.bool false))) := Lib.hid fun X Y h hb => ⟨h.1.trans (hb.mono (by have := row_lt h.2.2; omega)), h.2.1.below hb, h.2.2.below hb⟩
  have HCB : Hid (∀ X, Below g w0 X → Cub X ao n K L F ∧ Mat X bo nc L' F') := Lib.hid fun X h => by rw [← hg] at h; exact ⟨ha.below h, hb.below h⟩
  have HSQ := Lib.hid (fun (u : World) (h : Below g w0 u) => square_any p hT hQ hKK hDD ao n ca K L F hn hK hL hF u (HCB.out u h).1)
  have HFO := Lib.hid (fun (u : World) (h : Below g w0 u) => formed_any p hT hQ hKK hDD bo nc cb L' F' hnc hL' hF' u (HCB.out u h).2)
  have HFIN : Hid (∀ X, (Below g w0 X ∧ PBox X g p ∧ Box X (g + 1) 4 (.bool false)) → X.cell? ⟨g + 1, 0, none⟩ = some (.bool false) ∧ X.frozen? ⟨g + 1, 0, none⟩ = false ∧ (X.setCell ⟨g + 1, 0, none⟩ (.bool false)).cell? ⟨g + 1, 0, none⟩ = some (.bool false) ∧ Below w0.heap.size w0 (X.setCell ⟨g + 1, 0, none⟩ (.bool false))) := Lib.hid fun X h => ⟨h.2.2.cell, h.2.2.free, (h.2.2.set _).cell, by rw [hg]; exact h.1.setCell (p := ⟨g + 1, 0, none⟩) (by show g ≤ g + 1; omega) _⟩
  clear b1 b2 x1 x2 s2
  generalize sqB p n K L F = sb at *
  generalize formB p nc L' F' = fb at *
  cases sb with
  | false =>
    clear hsf
    go_enter Try.func10, Try.ntmps10
    go_wp2_with (first | (refine wpList_row_if ?_ 25 _ rfl g rfl 25 p.cells (0, 0) _ HI.out.2.1 Try.underlying25 rfl (by kernel_rfl) ?_; first | rfl | (simp [Region.wanted, yielded]; done)) | (go_at_call 9; refine (HSQ.out _ HI.out.1).mono ?_; rintro e w3 ⟨rfl, hb⟩; have HI2 := Lib.hid (HST.out _ _ HI.out hb); obtain ⟨k1, k2, k3, k4⟩ := HFIN.out _ HI2.out; have HB4 := Lib.hid k4; clear k4 hb))
    have h4 := HB4.out
    generalize w3.setCell ⟨g + 1, 0, none⟩ (.bool false) = w5 at *
    refine bodyPost_ret (v := .bool false) (w := w5) (by simp [results, Try.results10, go_sem, k3]) rfl ⟨rfl, by first | exact h4 | (rw [← hg]; exact h4)⟩
  | true =>
    obtain rfl : fb = false := by simpa using hsf
    clear hsf
    go_enter Try.func10, Try.ntmps10
    go_wp2_with (first | (refine wpList_row_if ?_ 25 _ rfl g rfl 25 p.cells (0, 0) _ HI2.out.2.1 Try.underlying25 rfl (by kernel_rfl) ?_; first | rfl | (simp [Region.wanted, yielded]; done)) | (refine wpList_row_if ?_ 25 _ rfl g rfl 25 p.cells (0, 0) _ HI.out.2.1 Try.underlying25 rfl (by kernel_rfl) ?_; first | rfl | (simp [Region.wanted, yielded]; done)) | (go_at_call 9; refine (HSQ.out _ HI.out.1).mono ?_; rintro e w3 ⟨rfl, hb⟩; have HI2 := Lib.hid (HST.out _ _ HI.out hb); clear hb) | (go_at_call 11; refine (HFO.out _ HI2.out.1).mono ?_; rintro e w4 ⟨rfl, hb⟩; have HI3 := Lib.hid (HST.out _ _ HI2.out hb); obtain ⟨k1, k2, k3, k4⟩ := HFIN.out _ HI3.out; have HB4 := Lib.hid k4; clear k4 hb))
    have h4 := HB4.out
    generalize w4.setCell ⟨g + 1, 0, none⟩ (.bool false) = w5 at *
    refine bodyPost_ret (v := .bool false) (w := w5) (by simp [results, Try.results10, go_sem, k3]) rfl ⟨rfl, by first | exact h4 | (rw [← hg]; exact h4)⟩
set_option maxRecDepth 100000 in
set_option maxHeartbeats 8000000 in
theorem bonded_any (p : Pm) (hT : -1000 ≤ p.T ∧ p.T ≤ 1000) (hQ : p.Q < 18446744073709551616) (hKK : 0 ≤ p.K ∧ p.K ≤ 1000) (hDD : 0 ≤ p.D ∧ p.D ≤ 1000) (ao bo : Option Addr) (n nc ca cb x : Nat) (K : Nat → Nat) (L : Nat → Nat → Nat) (F : Nat → Nat → Nat → Nat) (L' : Nat → Nat) (F' : Nat → Nat → Nat) (hn : n ≤ 1000) (hnc : nc ≤ 1000) (hK : ∀ s, s < n → K s ≤ 1000) (hL : ∀ s, s < n → ∀ i, i < K s → L s i ≤ 1000) (hF : ∀ s i j, F s i j < 18446744073709551616) (hL' : ∀ s, s < nc → L' s ≤ 1000) (hF' : ∀ s j, F' s j < 18446744073709551616) (hx : x < 18446744073709551616) (hnn : n = nc) (hs1 : sqB p n K L F = true) (hs2 : formB p nc L' F' = true) (w0 : World) (ha : Cub w0 ao n K L F) (hb : Mat w0 bo nc L' F') :
    Calls Try.prog 10 #[.agg p.cells, .slice ao n ca, .slice bo nc cb, .int .u64 (x : Int)] w0 fun e w' => e = .returned (.bool (bonB p x n K L F L' F')) ∧ Below w0.heap.size w0 w' := by
  refine (callsIn_wide (n := 4)).1 ?_
  obtain ⟨g, hg⟩ : ∃ g, w0.heap.size = g := ⟨_, rfl⟩
  have x1 := PBox.new w0 p
  have b1 := below_box w0 (.cells p.cells 25)
  have s1 : (w0.alloc (.cells p.cells 25)).heap.size = g + 1 := by rw [World.size_alloc, hg]
  rw [hg] at x1 b1
  obtain ⟨W1, hW1⟩ : ∃ W1, w0.alloc (.cells p.cells 25) = W1 := ⟨_, rfl⟩
  rw [hW1] at x1 b1 s1
  have x2 := Box.new W1 4 (.bool false)
  have b2 := below_box W1 (.cells #[.bool false] 4)
  have s2 : (W1.alloc (.cells #[.bool false] 4)).heap.size = g + 1 + 1 := by rw [World.size_alloc, s1]
  rw [s1] at x2
  obtain ⟨W2, hW2⟩ : ∃ W2, W1.alloc (.cells #[.bool false] 4) = W2 := ⟨_, rfl⟩
  rw [hW2] at x2 b2 s2
  have HI : Hid (Below g w0 W2 ∧ PBox W2 g p ∧ Box W2 (g + 1) 4 (.bool false)) := Lib.hid ⟨b1.trans (b2.mono (by omega)), x1.below b2, x2⟩
  have HST : Hid (∀ X Y, (Below g w0 X ∧ PBox X g p ∧ Box X (g + 1) 4 (.bool false)) → Below X.heap.size X Y → (Below g w0 Y ∧ PBox Y g p ∧ Box Y (g + 1) 4 (.bool false))) := Lib.hid fun X Y h hb => ⟨h.1.trans (hb.mono (by have := row_lt h.2.2; omega)), h.2.1.below hb, h.2.2.below hb⟩
  have HCB : Hid (∀ X, Below g w0 X → Cub X ao n K L F ∧ Mat X bo nc L' F') := Lib.hid fun X h => by rw [← hg] at h; exact ⟨ha.below h, hb.below h⟩
  have HSQ := Lib.hid (fun (u : World) (h : Below g w0 u) => square_any p hT hQ hKK hDD ao n ca K L F hn hK hL hF u (HCB.out u h).1)
  have HFO := Lib.hid (fun (u : World) (h : Below g w0 u) => formed_any p hT hQ hKK hDD bo nc cb L' F' hnc hL' hF' u (HCB.out u h).2)
  rw [hs1] at HSQ
  rw [hs2] at HFO
  have HSH := Lib.hid (fun (u : World) (h : Below g w0 u) => share_any p bo nc cb x L' F' hnc hL' hF' hx u (HCB.out u h).2)
  have hNO : ∀ i, i < n → valB p x K L F L' F' i = false → bonB p x n K L F L' F' = false := fun i hi h => bonB_no hi h
  have hYES : (∀ i, i < n → valB p x K L F L' F' i = true) → bonB p x n K L F L' F' = true := fun h => bonB_yes h
  obtain ⟨R, hRR⟩ : ∃ R, bonB p x n K L F L' F' = R := ⟨_, rfl⟩
  have HRR := Lib.hid hRR
  rw [hRR] at hNO hYES
  obtain ⟨z, hz⟩ : ∃ z : Nat → Nat, z = fun i => MM.atN p.P p.Q x (F' i) (L' i) := ⟨_, rfl⟩
  rw [← hz] at HSH
  have HVB : Hid (∀ i, valB p x K L F L' F' i = (decide (0 < K i) && decide (at00 K L F i = z i))) := Lib.hid fun i => by rw [hz]; rfl
  have HKK := Lib.hid hK
  have hl4 : 1 ≤ 4 := by omega
  subst hnn
  clear hRR hz hs1 hs2 ha hb x1 b1 b2 hL hF hL' hF' hx hT hQ hKK hDD hK
  refine callsIn_of_wp_marks Try.func10 rfl trivial ?_ rfl
  simp only [Try.ntmps10, List.size_toArray, List.length_cons, List.length_nil, Nat.reduceAdd, Nat.reduceSub, Array.replicate_succ, Array.replicate_zero, List.push_toArray, List.append_toArray, List.nil_append, List.cons_append]
  gi_upto_region 1 with fail
  refine wpIn_wide.2 (RK.cut (fun a a' w' => (Below g w0 w' ∧ PBox w' g p ∧ Box w' (g + 1) 4 (.bool false)) ∧ ∃ u13 u14 u15 u16 u17 u18 u19, a' = { a with tmps := (((((((((a.tmps.setIfInBounds 11 (.agg p.cells)).setIfInBounds 12 (.slice ao n ca)).setIfInBounds 13 u13).setIfInBounds 14 u14).setIfInBounds 15 u15).setIfInBounds 16 u16).setIfInBounds 17 u17).setIfInBounds 18 u18).setIfInBounds 19 u19).setIfInBounds 20 (.bool false) }) ?_ ?_)
  · go_wp2_with (first | (refine wpList_row_if ?_ 25 _ rfl g rfl 25 p.cells (0, 0) _ HI2.out.2.1 Try.underlying25 rfl (by kernel_rfl) ?_; first | rfl | (simp [Region.wanted, yielded]; done)) | (refine wpList_row_if ?_ 25 _ rfl g rfl 25 p.cells (0, 0) _ HI.out.2.1 Try.underlying25 rfl (by kernel_rfl) ?_; first | rfl | (simp [Region.wanted, yielded]; done)) | (go_at_call 9; refine (HSQ.out _ HI.out.1).mono ?_; rintro e w3 ⟨rfl, hb⟩; have HI2 := Lib.hid (HST.out _ _ HI.out hb); clear hb) | (go_at_call 11; refine (HFO.out _ HI2.out.1).mono ?_; rintro e w4 ⟨rfl, hb⟩; have HI3 := Lib.hid (HST.out _ _ HI2.out hb); clear hb))
    exact HI3.out
  rintro a1 W4 ⟨⟨k1, k2, k3⟩, u13, u14, u15, u16, u17, u18, u19, rfl⟩
  simp only [List.setIfInBounds_toArray, List.set_cons_zero, List.set_cons_succ]
  clear HSQ HFO HI x2 hW1 hW2 s1 s2
  have HK4 := Lib.hid (And.intro k1 (And.intro k2 k3))
  clear k1 k2 k3
  gi_upto_region 3 with fail
  refine wpIn_wide.2 (RK.cut (fun a a' w' => ∃ Bv S, (Below g w0 w' ∧ PBox w' g p ∧ Box w' (g + 1) 4 (.bool false) ∧ Rd w' (some ⟨Bv, 0, none⟩) n z ∧ Box w' S 29 (.slice ao n ca) ∧ Box w' (S + 1) 27 (.slice (some ⟨Bv, 0, none⟩) n n) ∧ w'.heap.size = S + 1 + 1 ∧ g + 1 + 1 ≤ S) ∧
    a' = { a with tmps := (((((a.tmps.setIfInBounds 21 (.slice ao n ca)).setIfInBounds 22 (.agg p.cells)).setIfInBounds 23 (.slice bo n cb)).setIfInBounds 24 (.int .u64 (x : Int))).setIfInBounds 25 (.slice (some ⟨Bv, 0, none⟩) n n)).setIfInBounds 26 (.func (.func 33) #[] #[.pointer (some ⟨S, 0, none⟩), .pointer (some ⟨S + 1, 0, none⟩)]) }) ?_ ?_)
  · go_wp2_with (first | (refine wpList_row_if ?_ 25 _ rfl g rfl 25 p.cells (0, 0) _ HK4.out.2.1 Try.underlying25 rfl (by kernel_rfl) ?_; first | rfl | (simp [Region.wanted, yielded]; done)) | (go_at_call 13; refine (HSH.out _ HK4.out.1).mono ?_; rintro e w5 ⟨Bv, rfl, hm⟩; have HM := Lib.hid hm; clear hm) | (go_at_call 20; refine (bothMU_any _ _ _ _ _ _ _).mono ?_; rintro e w7 ⟨rfl, hw7⟩; have HW7 := Lib.hid hw7; clear hw7))
    have h0 := HST.out _ _ HK4.out HM.out.below
    have b3 := below_box w5 (.cells #[.slice ao n ca] 29)
    have v3 := Box.new w5 29 (.slice ao n ca)
    have t3 : (w5.alloc (.cells #[.slice ao n ca] 29)).heap.size = w5.heap.size + 1 := World.size_alloc _ _
    have h5 := HW7.out
    generalize w5.alloc (.cells #[.slice ao n ca] 29) = w6 at *
    have b4 := below_box w6 (.cells #[.slice (some ⟨Bv, 0, none⟩) n n] 27)
    have v4 := Box.new w6 27 (.slice (some ⟨Bv, 0, none⟩) n n)
    have t4 : (w6.alloc (.cells #[.slice (some ⟨Bv, 0, none⟩) n n] 27)).heap.size = w5.heap.size + 1 + 1 := by rw [World.size_alloc, t3]
    rw [h5] at b4 v4 t4
    rw [t3] at v4
    have h6 := HST.out _ _ (HST.out _ _ h0 b3) b4
    have hlt := row_lt h0.2.2
    exact ⟨h6.1, h6.2.1, h6.2.2, (HM.out.rd.below b3).below b4, v3.below b4, v4, t4, by omega⟩
  rintro a1 W5 ⟨Bv, S, ⟨b04, k1, k2, k3, k4, k5, k6, k7⟩, rfl⟩
  simp only [List.setIfInBounds_toArray, List.set_cons_zero, List.set_cons_succ]
  clear HSH HK4 HST
  have hCB : ∀ X, Below g w0 X → Cub X ao n K L F := fun X h => (HCB.out X h).1
  clear HCB
  obtain ⟨I, hI⟩ : ∃ I : Nat → World → Prop, I = fun j X => Below g w0 X ∧ PBox X g p ∧ Box X (g + 1) 4 (.bool false) ∧ Rd X (some ⟨Bv, 0, none⟩) n z ∧ Box X S 29 (.slice ao n ca) ∧ Box X (S + 1) 27 (.slice (some ⟨Bv, 0, none⟩) n n) ∧ ∀ i, i < j → valB p x K L F L' F' i = true := ⟨_, rfl⟩
  obtain ⟨Ix, hIx⟩ : ∃ Ix : World → Prop, Ix = fun X => Below g w0 X ∧ Box X (g + 1) 4 (.bool false) ∧ R = false := ⟨_, rfl⟩
  gi_wp2
  refine RL.range (gf := 33) (lb := #[.pointer (some ⟨S, 0, none⟩), .pointer (some ⟨S + 1, 0, none⟩)]) (S + 1 + 1) n I Ix (fun j args X => ∃ va vb, args = #[va, vb] ∧ MatV X va (getU n K j) (L j) (F j) ∧ vb = .int .u64 ((getU n z j : Nat) : Int)) rfl (enters_of Try.func33 (by kernel_rfl) rfl) (Nat.le_of_eq k6.symm) ?hS ?hSx ?hE ?h0 ?hseq ?hround ?hend ?hstop
  case hS =>
    intro j X Y h hb hc
    rw [hI] at h ⊢
    obtain ⟨h1, h2, h3, h4, h5, h6, h7⟩ := h
    exact ⟨h1.trans (hb.mono (by omega)), h2.as hc, h3.as hc, h4.as hc, h5.as hc, h6.as hc, h7⟩
  case hSx =>
    intro X Y h hb hc
    rw [hIx] at h ⊢
    exact ⟨h.1.trans (hb.mono (by omega)), h.2.1.as hc, h.2.2⟩
  case hE =>
    rintro j args X Y ⟨va, vb, rfl, h1, h2⟩ hc
    exact ⟨va, vb, rfl, h1.as hc, h2⟩
  case h0 =>
    rw [hI]
    exact ⟨b04, k1, k2, k3, k4, k5, fun i hi => absurd hi (by omega)⟩
  case hseq =>
    have hq := bothMU_seq (4 - 1) (by omega) S (S + 1) ao (some ⟨Bv, 0, none⟩) n ca n n (by omega) (by omega) (fun j X => I j X ∧ S + 1 + 1 ≤ X.heap.size) (fun j va X => MatV X va (getU n K j) (L j) (F j)) (fun j vb _ => vb = .int .u64 ((getU n z j : Nat) : Int)) (fun j X h => by rw [hI] at h; exact ⟨h.1.2.2.2.2.1, h.1.2.2.2.2.2.1⟩)
      (fun j i X h => by rw [hI] at h; exact (atM_any ao n ca i K L F X (hCB X h.1.1)).mono fun e Y ⟨⟨v, h1, h2⟩, h3⟩ => ⟨⟨v, h1, h3 ▸ h2⟩, h3⟩)
      (fun j i X h => by rw [hI] at h; exact (atU_any (some ⟨Bv, 0, none⟩) n n i z X h.1.2.2.2.1).mono fun e Y ⟨h1, h2⟩ => ⟨⟨_, h1, rfl⟩, h2 ▸ Below.refl _ _⟩) (fun _ _ _ _ h hb => h.below hb)
    rwa [Nat.max_self] at hq
  case hround =>
    rintro l j args X hj hIX ⟨va0, vb0, rfl, hva0, rfl⟩ hBl hBX
    apply Exists.intro
    refine ⟨X, Below.refl _ _, rfl, fun K' hK => ?_, fun X1 hcX hI1 hE1 hB1 => ?_⟩
    · gi_wp2
      exact hK
    · obtain ⟨va, vb, hargs, hva, hvb⟩ := hE1
      obtain ⟨rfl, _⟩ : va0 = va ∧ _ = vb := by simpa using hargs
      clear hargs hvb hva0 hIX hcX hBX
      have HIK := Lib.hid hI1
      have hIw := hI1
      rw [hI] at hIw
      have HI3 := Lib.hid (And.intro hIw.1 hIw.2.2.1)
      obtain ⟨bv, cv, rfl, hmv, _⟩ := hva
      simp only [getU_in hj] at hmv ⊢
      have hKj := HKK.out j hj
      have HNJ := Lib.hid (hNO j hj)
      have HV := Lib.hid (HVB.out j)
      have HSTP : Hid (valB p x K L F L' F' j = true → I (j + 1) X1) := Lib.hid fun h => by
        rw [hI]
        exact ⟨hIw.1, hIw.2.1, hIw.2.2.1, hIw.2.2.2.1, hIw.2.2.2.2.1, hIw.2.2.2.2.2.1, fun i hi => by
          by_cases e' : i = j
          · subst e'; exact h
          · exact hIw.2.2.2.2.2.2 i (by omega)⟩
      have hat : Calls Try.prog 22 #[.slice bv (K j) cv, .int .i64 0] X1 fun e w' => (∃ v, e = .returned v ∧ RdV w' v (getU (K j) (L j) 0) (F j 0)) ∧ X1 = w' := (atR_any bv (K j) cv 0 (L j) (F j) X1 hmv).mono fun e w' ⟨⟨v, h1, h2⟩, h3⟩ => ⟨⟨v, h1, h3 ▸ h2⟩, h3⟩
      have HAT := Lib.hid hat
      have H00 : Hid (at00 K L F j = getU (getU (K j) (L j) 0) (F j 0) 0) := Lib.hid rfl
      have hl2 : 1 ≤ 4 - 1 - 1 := by omega
      have hcl := HI3.out.2.cell
      have hfr := HI3.out.2.free
      clear hI1 hIw hmv hat
      generalize valB p x K L F L' F' j = vB at *
      generalize at00 K L F j = v0 at *
      generalize z j = z1 at *
      generalize getU (K j) (L j) 0 = l0 at *
      generalize F j 0 = f0 at *
      generalize K j = kj at *
      by_cases hk0 : 0 < kj
      · have e0 : ((kj : Int) == 0) = false := by simp; omega
        by_cases he : v0 = z1
        · have dd : ((v0 : Int) != (z1 : Int)) = false := by rw [he]; simp
          have HJ1 := Lib.hid (HSTP.out (by rw [HV.out, decide_eq_true hk0, decide_eq_true he]; rfl))
          clear HSTP HNJ HV he HIK hcl hfr
          gi_wp2_with (first | (refine ⟨trivial, ?_⟩; gi_at_call 22; refine ((callsIn_wide.2 HAT.out).inRound _).mono ?_; rintro E X2 ⟨⟨v1, rfl, hv1⟩, rfl⟩; obtain ⟨b1, c1, rfl, hs1, _⟩ := hv1; have HAU := Lib.hid (show Calls Try.prog 21 #[.slice b1 l0 c1, .int .i64 0] X1 fun e w' => e = .returned (.int .u64 ((v0 : Nat) : Int)) ∧ X1 = w' from by rw [H00.out]; exact atU_any b1 l0 c1 0 f0 X1 hs1); clear hs1) | (refine ⟨trivial, ?_⟩; gi_at_call 21; refine ((callsIn_wide.2 HAU.out).inRound _).mono ?_; rintro E X3 ⟨rfl, rfl⟩))
          exact ⟨⟨HJ1.out, hB1⟩, RL.Objs.refl _⟩
        · have dd : ((v0 : Int) != (z1 : Int)) = true := by simp; omega
          have HR := Lib.hid (HNJ.out (by rw [HV.out, decide_eq_true hk0, decide_eq_false he]; rfl))
          clear HSTP HNJ HV he HIK
          gi_wp2_with (first | (refine ⟨trivial, ?_⟩; gi_at_call 22; refine ((callsIn_wide.2 HAT.out).inRound _).mono ?_; rintro E X2 ⟨⟨v1, rfl, hv1⟩, rfl⟩; obtain ⟨b1, c1, rfl, hs1, _⟩ := hv1; have HAU := Lib.hid (show Calls Try.prog 21 #[.slice b1 l0 c1, .int .i64 0] X1 fun e w' => e = .returned (.int .u64 ((v0 : Nat) : Int)) ∧ X1 = w' from by rw [H00.out]; exact atU_any b1 l0 c1 0 f0 X1 hs1); clear hs1) | (refine ⟨trivial, ?_⟩; gi_at_call 21; refine ((callsIn_wide.2 HAU.out).inRound _).mono ?_; rintro E X3 ⟨rfl, rfl⟩))
          refine ⟨⟨?_, by rw [World.size_setCell]; exact hB1⟩, RL.Objs.setCell HI3.out.2.cell _⟩
          rw [hIx]
          exact ⟨HI3.out.1.setCell (p := ⟨g + 1, 0, none⟩) (by show g ≤ g + 1; omega) _, HI3.out.2.set _, HR.out⟩
      · have e0 : ((kj : Int) == 0) = true := by simp; omega
        have HR := Lib.hid (HNJ.out (by rw [HV.out, decide_eq_false hk0]; rfl))
        clear HSTP HNJ HV HIK HAT
        gi_wp2_with (refine ⟨trivial, ?_⟩)
        refine ⟨⟨?_, by rw [World.size_setCell]; exact hB1⟩, RL.Objs.setCell HI3.out.2.cell _⟩
        rw [hIx]
        exact ⟨HI3.out.1.setCell (p := ⟨g + 1, 0, none⟩) (by show g ≤ g + 1; omega) _, HI3.out.2.set _, HR.out⟩
  case hend =>
    intro Y D hIY hD hBD hBY
    rw [hI] at hIY
    obtain ⟨i1, i2, i3, i4, i5, i6, i7⟩ := hIY
    have r3 := i3.cell
    have r4 := i3.free
    have HFIN := Lib.hid (And.intro (i1.setCell (p := ⟨g + 1, 0, none⟩) (by show g ≤ g + 1; omega) (.bool true)) (i3.set (.bool true)))
    have hmk : Marks [D] (Y.setCell ⟨g + 1, 0, none⟩ (.bool true)) := ⟨by simp, fun E hE => by
      have e : E = D := by simpa using hE
      rw [e]; exact RL.Objs.setCell r3 _ _ _ rfl hD⟩
    have HMK := Lib.hid hmk
    obtain rfl : R = true := hYES i7
    clear i1 i2 i3 i4 i5 i6 i7 hmk hNO hYES hCB hI hIx
    gi_wp2
    refine leaves_marks (B := g) [D] _ HMK.out (fun E hE => by
      have e : E = D := by simpa using hE
      omega) fun w' hb' hcs => ?_
    have hcell := hcs _ _ _ _ HFIN.out.2
    have hc := Box.cell hcell
    refine ⟨.bool true, by simp [results, Try.results10, go_sem, hc], by rw [HRR.out], ?_⟩
    rw [hg]
    exact HFIN.out.1.trans hb'
  case hstop =>
    intro Y D hIY hD hBD hBY
    rw [hIx] at hIY
    obtain ⟨i1, i3, rfl⟩ := hIY
    have HFIN := Lib.hid (And.intro i1 i3)
    have hmk : Marks [D] Y := ⟨by simp, fun E hE => by
      have e : E = D := by simpa using hE
      rw [e]; exact hD⟩
    have HMK := Lib.hid hmk
    clear i1 i3 hmk hNO hYES hCB hI hIx
    gi_wp2
    refine leaves_marks (B := g) [D] _ HMK.out (fun E hE => by
      have e : E = D := by simpa using hE
      omega) fun w' hb' hcs => ?_
    have hcell := hcs _ _ _ _ HFIN.out.2
    have hc := Box.cell hcell
    refine ⟨.bool false, by simp [results, Try.results10, go_sem, hc], by rw [HRR.out], ?_⟩
    rw [hg]
    exact HFIN.out.1.trans hb'
end M
end Go.Proofs.Ytlnlepadninnaaa
/- Lists of lists of lists that are written down; what package pedersen's calls answer for them. -/
namespace Go.Proofs.Ytlnlepadninnaaa
open Go Go.RowKit Go.Lib
namespace MM
def lenC (l : List (List (List Nat))) (s : Nat) : Nat := (l.getD s []).length
def lenCL (l : List (List (List Nat))) (s : Nat) : Nat → Nat := lenL (l.getD s [])
def nlC (l : List (List (List Nat))) (s : Nat) : Nat → Nat → Nat := nlR (l.getD s [])
theorem nlC_lt {l : List (List (List Nat))} (h : l.all (fun r => r.all (fun l => l.all (· < 18446744073709551616))) = true) (s i k : Nat) : nlC l s i k < 18446744073709551616 := by
  unfold nlC
  by_cases hk : s < l.length
  · rw [List.getD_eq_getElem?_getD, List.getElem?_eq_getElem hk]
    exact nlR_lt (List.all_eq_true.1 h _ (List.getElem_mem hk)) i k
  · rw [List.getD_eq_getElem?_getD, List.getElem?_eq_none (by omega)]
    exact nlR_lt (rows := []) rfl i k
end MM
namespace M
def IsC (l : List (List (List Nat))) (v : Value) (w : World) : Prop := ∃ bo c, v = .slice bo l.length c ∧ Cub w bo l.length (MM.lenC l) (MM.lenCL l) (MM.nlC l)
theorem IsC.below {l : List (List (List Nat))} {v : Value} {w w' : World} (h : IsC l v w) (hb : Below w.heap.size w w') : IsC l v w' := let ⟨bo, c, e, h1⟩ := h; ⟨bo, c, e, h1.below hb⟩
def wC (l : List (List (List Nat))) : RK.Word := ⟨IsC l, fun _ _ _ h hb => h.below hb⟩
theorem Cub.cut {W : World} {ao : Option Addr} {n k : Nat} {K : Nat → Nat} {L : Nat → Nat → Nat} {F : Nat → Nat → Nat → Nat} (h : Cub W ao n K L F) (hk : k ≤ n) : Cub W ao k K L F := fun i hi => h i (by omega)
/-- A list of values that are lists of lists. -/
theorem cub_new (w : World) {n : Nat} {K : Nat → Nat} {L : Nat → Nat → Nat} {F : Nat → Nat → Nat → Nat} (vs : List Value) (hv : ∀ i, i < n → ∃ u, vs[i]? = some u ∧ MatV w u (K i) (L i) (F i)) : Cub (w.alloc (.cells vs.toArray 28)) (some ⟨w.heap.size, 0, none⟩) n K L F := fun i hi => by
  obtain ⟨u, h1, h2⟩ := hv i hi
  refine ⟨_, u, rfl, ?_, h2.below (below_box w _)⟩
  rw [add_zero', cell_of_row _ _ _ _ _ _ (heap_alloc_new w _), List.getElem?_toArray]
  exact h1
/-- What reads as a list of lists, with its slice's address. -/
def IsV (l : List (List Nat)) (v : Value) (w : World) : Prop := MatV w v l.length (MM.lenL l) (MM.nlR l)
theorem IsV.below {l : List (List Nat)} {v : Value} {w w' : World} (h : IsV l v w) (hb : Below w.heap.size w w') : IsV l v w' := MatV.below h hb
theorem isV_new (w : World) (rows : List (List Nat)) (vs : List Value) {n : Nat} (hn : rows.length = n) (hv : ∀ i, i < n → ∃ u, vs[i]? = some u ∧ IsR (rows.getD i []) u w) : IsV rows (.slice (some ⟨w.heap.size, 0, none⟩) n n) (w.alloc (.cells vs.toArray 27)) := by
  obtain ⟨bo, c, e, h⟩ := isM_new w rows vs hn hv
  subst hn
  exact ⟨bo, c, e, h, fun h0 => by rw [h0] at e; cases e⟩
theorem IsV.nil (w : World) : IsV [] (.slice none 0 0) w := MatV.nil _ _ _
theorem IsR.nil (w : World) : IsR [] (.slice none 0 0) w := RdV.nil _ _
theorem isC_new (w : World) (l : List (List (List Nat))) (vs : List Value) {n : Nat} (hn : l.length = n) (hv : ∀ i, i < n → ∃ u, vs[i]? = some u ∧ IsV (l.getD i []) u w) : IsC l (.slice (some ⟨w.heap.size, 0, none⟩) n n) (w.alloc (.cells vs.toArray 28)) := by
  subst hn
  exact ⟨_, _, rfl, cub_new w vs hv⟩
/-- The parameters that have nothing but a T of -1. -/
abbrev no8 : Pm := ⟨0, 0, 0, 0, 0, 0, -1, 0, 0, 0, 0, 0⟩
theorem rowcoms_is (l : List (List (List Nat))) (res : List (List Nat)) (n x : Nat) {xi : Int} (hx : (x : Int) = xi) (hf : l.all (fun r => r.all (fun l => l.all (· < 18446744073709551616))) = true)
    (h : n ≤ 1000 ∧ (∀ s, s < n → MM.lenC l s ≤ 1000) ∧ (∀ s, s < n → ∀ i, i < MM.lenC l s → MM.lenCL l s i ≤ 1000) ∧ x < 18446744073709551616 ∧ (∀ s, s < n → MM.widU (MM.lenCL l s) (MM.lenC l s) = MM.lenL res s) ∧ ∀ s, s < n → ∀ j, j < MM.lenL res s → MM.rowT 23 11 x (MM.lenCL l s) (MM.nlC l s) j (MM.lenC l s) = MM.nlR res s j)
    {W : World} {ao : Option Addr} {c : Nat} (ha : Cub W ao n (MM.lenC l) (MM.lenCL l) (MM.nlC l)) :
    Calls Try.prog 6 #[.agg sm8.cells, .slice ao n c, .int .u64 xi] W fun e w' => ∃ bo c', e = .returned (.slice bo n c') ∧ Mat w' bo n (MM.lenL res) (MM.nlR res) ∧ Below W.heap.size W w' := by
  subst hx
  obtain ⟨a1, a2, a3, a4, a5, a6⟩ := h
  refine (rowComs_any sm8 ao n c x _ _ _ a1 a2 a3 (MM.nlC_lt hf) a4 W ha).mono ?_
  rintro e w' ⟨v, rfl, hv, hb⟩
  obtain ⟨bo, c', rfl, hm, _⟩ := hv.matV
  exact ⟨bo, c', rfl, hm.congr a5 fun i hi j hj => by rw [a5 i hi] at hj; exact a6 i hi j hj, hb⟩
theorem colcoms_is (l : List (List (List Nat))) (res : List (List Nat)) (n x : Nat) {xi : Int} (hx : (x : Int) = xi) (hf : l.all (fun r => r.all (fun l => l.all (· < 18446744073709551616))) = true)
    (h : n ≤ 1000 ∧ (∀ s, s < n → MM.lenC l s ≤ 1000) ∧ (∀ s, s < n → ∀ i, i < MM.lenC l s → MM.lenCL l s i ≤ 1000) ∧ x < 18446744073709551616 ∧ (∀ s, s < n → MM.lenC l s = MM.lenL res s) ∧ ∀ s, s < n → ∀ i, i < MM.lenL res s → MM.atN 23 11 x (MM.nlC l s i) (MM.lenCL l s i) = MM.nlR res s i)
    {W : World} {ao : Option Addr} {c : Nat} (ha : Cub W ao n (MM.lenC l) (MM.lenCL l) (MM.nlC l)) :
    Calls Try.prog 7 #[.agg sm8.cells, .slice ao n c, .int .u64 xi] W fun e w' => ∃ bo c', e = .returned (.slice bo n c') ∧ Mat w' bo n (MM.lenL res) (MM.nlR res) ∧ Below W.heap.size W w' := by
  subst hx
  obtain ⟨a1, a2, a3, a4, a5, a6⟩ := h
  refine (colComs_any sm8 ao n c x _ _ _ a1 a2 a3 (MM.nlC_lt hf) a4 W ha).mono ?_
  rintro e w' ⟨v, rfl, hv, hb⟩
  obtain ⟨bo, c', rfl, hm, _⟩ := hv.matV
  exact ⟨bo, c', rfl, hm.congr a5 fun i hi j hj => by rw [a5 i hi] at hj; exact a6 i hi j hj, hb⟩
section
variable {K : Nat → Nat} {L : Nat → Nat → Nat} {F : Nat → Nat → Nat → Nat} {L' : Nat → Nat} {F' : Nat → Nat → Nat}
/-- What is asked of lists of lists of lists: lengths, and numbers. -/
def Okc (n : Nat) (K : Nat → Nat) (L : Nat → Nat → Nat) (F : Nat → Nat → Nat → Nat) : Prop := n ≤ 1000 ∧ (∀ s, s < n → K s ≤ 1000) ∧ (∀ s, s < n → ∀ i, i < K s → L s i ≤ 1000) ∧ ∀ s i j, F s i j < 18446744073709551616
def Okm (n : Nat) (L : Nat → Nat) (F : Nat → Nat → Nat) : Prop := n ≤ 1000 ∧ (∀ s, s < n → L s ≤ 1000) ∧ ∀ s i, F s i < 18446744073709551616
/-- The parameters are such as these calls ask for. -/
def Okp (p : Pm) : Prop := (-1000 ≤ p.T ∧ p.T ≤ 1000) ∧ p.Q < 18446744073709551616 ∧ (0 ≤ p.K ∧ p.K ≤ 1000) ∧ (0 ≤ p.D ∧ p.D ≤ 1000)
theorem sm8_ok : Okp sm8 := by unfold Okp; decide
theorem no8_ok : Okp no8 := by unfold Okp; decide
theorem okc_of {l : List (List (List Nat))} {n : Nat} (hf : l.all (fun r => r.all (fun l => l.all (· < 18446744073709551616))) = true) (h : n ≤ 1000 ∧ (∀ s, s < n → MM.lenC l s ≤ 1000) ∧ ∀ s, s < n → ∀ i, i < MM.lenC l s → MM.lenCL l s i ≤ 1000) : Okc n (MM.lenC l) (MM.lenCL l) (MM.nlC l) := ⟨h.1, h.2.1, h.2.2, MM.nlC_lt hf⟩
theorem okm_of {l : List (List Nat)} {n : Nat} (hf : l.all (fun l => l.all (· < 18446744073709551616)) = true) (h : n ≤ 1000 ∧ ∀ s, s < n → MM.lenL l s ≤ 1000) : Okm n (MM.lenL l) (MM.nlR l) := ⟨h.1, h.2, MM.nlR_lt hf⟩
theorem square_is {p : Pm} (hp : Okp p) {n : Nat} (h : Okc n K L F) {b : Bool} (hb : sqB p n K L F = b) {W : World} {ao : Option Addr} {c : Nat} (ha : Cub W ao n K L F) :
    Calls Try.prog 9 #[.agg p.cells, .slice ao n c] W fun e w' => e = .returned (.bool b) ∧ Below W.heap.size W w' := by
  rw [← hb]; exact square_any p hp.1 hp.2.1 hp.2.2.1 hp.2.2.2 ao n c K L F h.1 h.2.1 h.2.2.1 h.2.2.2 W ha
theorem formed_at {p : Pm} (hp : Okp p) {n : Nat} (h : Okm n L' F') {b : Bool} (hb : formB p n L' F' = b) {W : World} {ao : Option Addr} {c : Nat} (ha : Mat W ao n L' F') :
    Calls Try.prog 11 #[.agg p.cells, .slice ao n c] W fun e w' => e = .returned (.bool b) ∧ Below W.heap.size W w' := by
  rw [← hb]; exact formed_any p hp.1 hp.2.1 hp.2.2.1 hp.2.2.2 ao n c L' F' h.1 h.2.1 h.2.2 W ha
theorem bonded_not {p : Pm} (hp : Okp p) {n m x : Nat} {xi : Int} (hx : (x : Int) = xi) (h : Okc n K L F) (h' : Okm m L' F') (hb : (sqB p n K L F && formB p m L' F') = false) {W : World} {ao bo : Option Addr} {c d : Nat} (ha : Cub W ao n K L F) (hm : Mat W bo m L' F') :
    Calls Try.prog 10 #[.agg p.cells, .slice ao n c, .slice bo m d, .int .u64 xi] W fun e w' => e = .returned (.bool false) ∧ Below W.heap.size W w' := by
  subst hx
  exact bonded_no p hp.1 hp.2.1 hp.2.2.1 hp.2.2.2 ao bo n m c d x K L F L' F' h.1 h'.1 h.2.1 h.2.2.1 h.2.2.2 h'.2.1 h'.2.2 hb W ha hm
theorem bonded_is {p : Pm} (hp : Okp p) {n x : Nat} {xi : Int} (hx : (x : Int) = xi) (hx' : x < 18446744073709551616) (h : Okc n K L F) (h' : Okm n L' F') {b : Bool} (hb : sqB p n K L F = true ∧ formB p n L' F' = true ∧ bonB p x n K L F L' F' = b) {W : World} {ao bo : Option Addr} {c d : Nat} (ha : Cub W ao n K L F) (hm : Mat W bo n L' F') :
    Calls Try.prog 10 #[.agg p.cells, .slice ao n c, .slice bo n d, .int .u64 xi] W fun e w' => e = .returned (.bool b) ∧ Below W.heap.size W w' := by
  subst hx
  obtain ⟨a1, a2, rfl⟩ := hb
  exact bonded_any p hp.1 hp.2.1 hp.2.2.1 hp.2.2.2 ao bo n n c d x K L F L' F' h.1 h'.1 h.2.1 h.2.2.1 h.2.2.2 h'.2.1 h'.2.2 hx' rfl a1 a2 W ha hm
end
end M
end Go.Proofs.Ytlnlepadninnaaa

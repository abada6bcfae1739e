/- PedersenEither: for any parameters, any numbers and any two places the law of rows and columns taken either way answers true, and what was handed in reads as before; the program's two tables are laid by its own text (the card ties them). -/
import Derived.Test.YtlnlepadninnaaaDoorCards
import Derived.Test.YtlnlepadninnaaaDoorTie
import Derived.Test.YtlnlepadninnaaaDoorKE4
import Derived.Test.YtlnlepadninnaaaDoorKE21
import Derived.Test.YtlnlepadninnaaaDoorKE23
import Derived.Lay
namespace Go.Proofs.YtlnlepadninnaaaDoor
open Go.ChangeShapes Go.WideShapes Go.ChangeAt Go.RowKit
namespace PedersenEither
open M

theorem nums_rd {w : World} {v : Value} (h : NumsIn w v) : ∃ ao n cap z, v = .slice ao n cap ∧ n ≤ 9223372036854775807 ∧ (∀ k, z k < 18446744073709551616) ∧ Rd w ao n z := by
  rcases h with rfl | ⟨a, n, cap, z, rfl, h1, h2, h3⟩
  · exact ⟨none, 0, 0, fun _ => 0, rfl, by omega, fun _ => by show (0 : Nat) < _; omega, fun h => absurd h (by omega)⟩
  · exact ⟨some a, n, cap, z, rfl, h1, h2, fun _ => ⟨a, rfl, h3⟩⟩
set_option maxRecDepth 100000 in
set_option maxHeartbeats 4000000 in
theorem core_no (p : Pm) (ao : Option Addr) (n cap x y : Nat) (W : World) (hl : Laid W) (HM : RetBL 8 #[.agg p.cells] (.bool false)) :
    Calls Tryd.prog 4 #[.agg p.cells, .slice ao n cap, .int .u64 (x : Int), .int .u64 (y : Int)] W fun e w' => e = .returned (.bool true) ∧ Below W.heap.size W w' := by
  have HI : Hid (In W W.heap.size p (W.alloc (.cells p.cells 24))) := Lib.hid (In.new W p hl)
  obtain ⟨g, hg⟩ : ∃ g, W.heap.size = g := ⟨_, rfl⟩
  obtain ⟨W1, hW1⟩ : ∃ W1, W.alloc (.cells p.cells 24) = W1 := ⟨_, rfl⟩
  rw [hW1, hg] at HI
  go_enter Tryd.func4, Tryd.ntmps4
  go_wp2_with (first | (go_at_call 7; refine (works8_any _).mono ?_; rintro e w2 ⟨rfl, hb⟩; first | (have HI3 := Lib.hid (HI2.out.step hb)) | (have HI1 := Lib.hid (HI.out.step hb)); clear hb) | (refine wpList_row_if ?_ 24 _ rfl g rfl 24 p.cells (0, 0) _ HI1.out.box Tryd.underlying24 rfl (by kernel_rfl) ?_; first | rfl | (simp [Region.wanted, yielded]; done)) | (go_at_call 8; (with_reducible refine (HM.at _ HI1.out.laid).mono ?_); rintro e w3 ⟨rfl, hb⟩; have HI2 := Lib.hid (HI1.out.step hb); clear hb))
  go_ret
  exact ⟨rfl, by first | exact HI3.out.below | (rw [← hg]; exact HI3.out.below)⟩

set_option maxRecDepth 100000 in
set_option maxHeartbeats 4000000 in
theorem core_long (p : Pm) (ao : Option Addr) (n cap x y : Nat) (hn : 1000 < n) (W : World) (hl : Laid W) (HM : RetBL 8 #[.agg p.cells] (.bool true)) :
    Calls Tryd.prog 4 #[.agg p.cells, .slice ao n cap, .int .u64 (x : Int), .int .u64 (y : Int)] W fun e w' => e = .returned (.bool true) ∧ Below W.heap.size W w' := by
  have HI : Hid (In W W.heap.size p (W.alloc (.cells p.cells 24))) := Lib.hid (In.new W p hl)
  obtain ⟨g, hg⟩ : ∃ g, W.heap.size = g := ⟨_, rfl⟩
  obtain ⟨W1, hW1⟩ : ∃ W1, W.alloc (.cells p.cells 24) = W1 := ⟨_, rfl⟩
  rw [hW1, hg] at HI
  have hnI : (1000 : Int) < (n : Int) := by omega
  go_enter Tryd.func4, Tryd.ntmps4
  go_wp2_with (first | (go_at_call 7; refine (works8_any _).mono ?_; rintro e w2 ⟨rfl, hb⟩; first | (have HI3 := Lib.hid (HI2.out.step hb)) | (have HI1 := Lib.hid (HI.out.step hb)); clear hb) | (refine wpList_row_if ?_ 24 _ rfl g rfl 24 p.cells (0, 0) _ HI1.out.box Tryd.underlying24 rfl (by kernel_rfl) ?_; first | rfl | (simp [Region.wanted, yielded]; done)) | (go_at_call 8; (with_reducible refine (HM.at _ HI1.out.laid).mono ?_); rintro e w3 ⟨rfl, hb⟩; have HI2 := Lib.hid (HI1.out.step hb); clear hb))
  go_ret
  exact ⟨rfl, by first | exact HI3.out.below | (rw [← hg]; exact HI3.out.below)⟩

set_option maxRecDepth 100000 in
set_option maxHeartbeats 16000000 in
theorem core (p : Pm) (ok : PmOk p) (hm : mayB p = true) (ao : Option Addr) (n cap x y : Nat) (z : Nat → Nat) (hz : ∀ k, z k < 18446744073709551616) (hn : n ≤ 1000) (hx : x < 18446744073709551616) (hy : y < 18446744073709551616) (W : World) (hl : Laid W) (hr : Rd W ao n z) (HM : RetBL 8 #[.agg p.cells] (.bool true)) :
    Calls Tryd.prog 4 #[.agg p.cells, .slice ao n cap, .int .u64 (x : Int), .int .u64 (y : Int)] W fun e w' => e = .returned (.bool true) ∧ Below W.heap.size W w' := by
  have HI : Hid (In W W.heap.size p (W.alloc (.cells p.cells 24))) := Lib.hid (In.new W p hl)
  obtain ⟨g, hg⟩ : ∃ g, W.heap.size = g := ⟨_, rfl⟩
  obtain ⟨W1, hW1⟩ : ∃ W1, W.alloc (.cells p.cells 24) = W1 := ⟨_, rfl⟩
  rw [hW1, hg] at HI
  have HR := Lib.hid hr
  have hnI : ¬ (1000 : Int) < (n : Int) := by omega
  have sm := small_of hm
  have HG := Lib.hid (grp8 hm)
  obtain ⟨t, ht⟩ := Int.eq_ofNat_of_zero_le (show (0 : Int) ≤ p.T + 1 by have := sm.T; omega)
  have ht3 : t ≤ 3 := by have := sm.T; omega
  have ht1 : 0 < t := by have := sm.T; omega
  obtain ⟨S, hS⟩ : ∃ S, p.K.toNat * (p.D.toNat + 1) = S := ⟨_, rfl⟩
  have hS3 : S ≤ 10 := by rw [← hS]; exact Nat.mul_le_mul (show p.K.toNat ≤ 2 by have := sm.K; omega) (show p.D.toNat + 1 ≤ 5 by have := sm.D; omega)
  have HTWO := Lib.hid (fun (u : World) (h : Rd u ao n z) => two_any p t S ht (by omega) hS (by omega) (by have := sm.K; omega) (by have := sm.D; omega) ao n cap z (by omega) u h)
  obtain ⟨A, hA⟩ : ∃ A : Nat → Nat → Nat → Nat, A = fun s i j => MM.twoZ n z (((s * t + i) * t + j) % 18446744073709551616) := ⟨_, rfl⟩
  have hAl : ∀ s i j, A s i j < 18446744073709551616 := fun s i j => by rw [hA]; exact MM.twoZ_lt hz (Nat.mod_lt _ (by omega))
  have HAC : Hid (∀ s, s < S → ∀ i, i < t → ∀ j, j < t → MM.twoZ n z ((s * t + i) * t + j) = A s i j) := Lib.hid fun s hs i hi j hj => by
    have h1 : s * t ≤ 10 * 3 := Nat.mul_le_mul (by omega) ht3
    have h2 : (s * t + i) * t ≤ (10 * 3 + 3) * 3 := Nat.mul_le_mul (by omega) ht3
    rw [hA]
    show _ = MM.twoZ n z (((s * t + i) * t + j) % 18446744073709551616)
    rw [Nat.mod_eq_of_lt (by omega)]
  have hF : ∀ s i j, (fun s i j => MM.comU p.P p.G p.H (A s i j) 0) s i j < 18446744073709551616 := fun s i j => MM.comU_lt _ _ _ _ _
  have HOK := Lib.hid ok
  clear hr sm hS hz hA ok
  go_enter Tryd.func4, Tryd.ntmps4
  go_wp2_with (first | (go_at_call 7; refine (works8_any _).mono ?_; rintro e w2 ⟨rfl, hb⟩; first | (have HI3 := Lib.hid (HI2.out.step hb)) | (have HI1 := Lib.hid (HI.out.step hb)); clear hb) | (refine wpList_row_if ?_ 24 _ rfl g rfl 24 p.cells (0, 0) _ HI1.out.box Tryd.underlying24 rfl (by kernel_rfl) ?_; first | rfl | (simp [Region.wanted, yielded]; done)) | (go_at_call 8; (with_reducible refine (HM.at _ HI1.out.laid).mono ?_); rintro e w3 ⟨rfl, hb⟩; have HI2 := Lib.hid (HI1.out.step hb); clear hb))
  clear hnI hg hW1 HM
  refine RK.region (fun u => PBox u g p) 100 (by kernel_rfl) ?_
  have HS0 : PBox w3.drew g p := HI2.out.box.below (below_drewN' w3 1 _)
  have hb0 : Below w3.heap.size w3 w3.drew := below_drewN' w3 1 _
  have hi0 : Below W.heap.size W w3 := HI2.out.below
  refine RK.Any.take 0 23 (.agg p.cells) rfl rfl (by kernel_rfl) (by kernel_rfl) (by kernel_rfl) (by kernel_rfl) (fun _ _ _ h => h) (by rfl) (fun W' hb => load_pbox hb rfl rfl) HS0 ?_
  simp only [List.setIfInBounds_toArray, List.set_cons_zero, List.set_cons_succ]
  refine RK.Any.take 1 24 (.agg p.cells) rfl rfl (by kernel_rfl) (by kernel_rfl) (by kernel_rfl) (by kernel_rfl) (fun _ _ _ h => h) (by rfl) (fun W' hb => load_pbox hb rfl rfl) HS0 ?_
  simp only [List.setIfInBounds_toArray, List.set_cons_zero, List.set_cons_succ]
  refine RK.Any.take 2 25 (.slice ao n cap) rfl rfl (by kernel_rfl) (by kernel_rfl) (by kernel_rfl) (by kernel_rfl) (fun _ _ _ h => h) (by rfl) (fun W' hb => ?_) HS0 ?_
  · go_simp
  simp only [List.setIfInBounds_toArray, List.set_cons_zero, List.set_cons_succ]
  refine RK.Any.call 3 26 9 #[.agg p.cells, .slice ao n cap] (by kernel_rfl) rfl rfl (by rfl) (by go_simp) (Calls.mono (HTWO.out _ (HR.out.below (hi0.trans (hb0.mono hi0.size)))) ?_)
  rintro E X1 ⟨v1, rfl, hv1, hb1⟩
  obtain ⟨ao1, c1, rfl, hc1, _⟩ := hv1.cub
  have hcA := hc1.congr (fun _ _ => rfl) (fun _ _ _ _ => rfl) (F' := A) fun s hs i hi j hj => HAC.out s hs i hi j hj
  have HS1 : PBox X1 g p := HS0.below hb1
  refine ⟨_, rfl, fun _ => HS1, ?_⟩
  simp only [List.setIfInBounds_toArray, List.set_cons_zero, List.set_cons_succ]
  refine RK.Any.call 4 27 10 #[.agg p.cells, .slice ao1 S c1, .slice none 0 0] (by kernel_rfl) rfl rfl (by rfl) (by go_simp) (Calls.mono (matrix_one p HOK.out.b2 HOK.out.b3 hAl (by omega) (by omega) hcA) ?_)
  rintro E X2 ⟨v2, rfl, ⟨ao2, c2, rfl, hm2⟩, hb2⟩
  have HS2 : PBox X2 g p := HS1.below hb2
  refine ⟨_, rfl, fun _ => HS2, ?_⟩
  simp only [List.setIfInBounds_toArray, List.set_cons_zero, List.set_cons_succ]
  refine RK.Any.take 5 9 (.slice ao2 S c2) rfl rfl (by kernel_rfl) (by kernel_rfl) (by kernel_rfl) (by kernel_rfl) (fun _ _ _ h => h) (by rfl) (fun W' hb => ?_) HS2 ?_
  · go_simp
  simp only [List.setIfInBounds_toArray, List.set_cons_zero, List.set_cons_succ]
  refine RK.Any.done (by kernel_rfl) ?_
  have HI3 := Lib.hid ((((HI2.out.step hb0).step hb1).step hb2))
  clear hb0 hb1 hb2 HS0 HS1 HS2 HI2 hi0 hv1 hc1
  have HMX := Lib.hid hm2
  clear hm2
  go_upto_region 4 with fail
  refine RK.region (fun u => PBox u g p) 100 (by kernel_rfl) ?_
  have HS0 : PBox X2.drew g p := HI3.out.box.below (below_drewN' X2 1 _)
  have hb0 : Below X2.heap.size X2 X2.drew := below_drewN' X2 1 _
  refine RK.Any.take 0 28 (.agg p.cells) rfl rfl (by kernel_rfl) (by kernel_rfl) (by kernel_rfl) (by kernel_rfl) (fun _ _ _ h => h) (by rfl) (fun W' hb => load_pbox hb rfl rfl) HS0 ?_
  simp only [List.setIfInBounds_toArray, List.set_cons_zero, List.set_cons_succ]
  refine RK.Any.take 1 29 (.agg p.cells) rfl rfl (by kernel_rfl) (by kernel_rfl) (by kernel_rfl) (by kernel_rfl) (fun _ _ _ h => h) (by rfl) (fun W' hb => load_pbox hb rfl rfl) HS0 ?_
  simp only [List.setIfInBounds_toArray, List.set_cons_zero, List.set_cons_succ]
  refine RK.Any.take 2 30 (.slice ao2 S c2) rfl rfl (by kernel_rfl) (by kernel_rfl) (by kernel_rfl) (by kernel_rfl) (fun _ _ _ h => h) (by rfl) (fun W' hb => ?_) HS0 ?_
  · go_simp
  simp only [List.setIfInBounds_toArray, List.set_cons_zero, List.set_cons_succ]
  refine RK.Any.take 3 31 (.int .u64 (x : Int)) rfl rfl (by kernel_rfl) (by kernel_rfl) (by kernel_rfl) (by kernel_rfl) (fun _ _ _ h => h) (by rfl) (fun W' hb => ?_) HS0 ?_
  · go_simp
  simp only [List.setIfInBounds_toArray, List.set_cons_zero, List.set_cons_succ]
  refine RK.Any.take 5 33 (.int .u64 (y : Int)) rfl rfl (by kernel_rfl) (by kernel_rfl) (by kernel_rfl) (by kernel_rfl) (fun _ _ _ h => h) (by rfl) (fun W' hb => ?_) HS0 ?_
  · go_simp
  simp only [List.setIfInBounds_toArray, List.set_cons_zero, List.set_cons_succ]
  refine RK.Any.take 7 35 (.agg p.cells) rfl rfl (by kernel_rfl) (by kernel_rfl) (by kernel_rfl) (by kernel_rfl) (fun _ _ _ h => h) (by rfl) (fun W' hb => load_pbox hb rfl rfl) HS0 ?_
  simp only [List.setIfInBounds_toArray, List.set_cons_zero, List.set_cons_succ]
  refine RK.Any.take 8 36 (.agg p.cells) rfl rfl (by kernel_rfl) (by kernel_rfl) (by kernel_rfl) (by kernel_rfl) (fun _ _ _ h => h) (by rfl) (fun W' hb => load_pbox hb rfl rfl) HS0 ?_
  simp only [List.setIfInBounds_toArray, List.set_cons_zero, List.set_cons_succ]
  refine RK.Any.take 9 37 (.slice ao2 S c2) rfl rfl (by kernel_rfl) (by kernel_rfl) (by kernel_rfl) (by kernel_rfl) (fun _ _ _ h => h) (by rfl) (fun W' hb => ?_) HS0 ?_
  · go_simp
  simp only [List.setIfInBounds_toArray, List.set_cons_zero, List.set_cons_succ]
  refine RK.Any.take 10 38 (.int .u64 (y : Int)) rfl rfl (by kernel_rfl) (by kernel_rfl) (by kernel_rfl) (by kernel_rfl) (fun _ _ _ h => h) (by rfl) (fun W' hb => ?_) HS0 ?_
  · go_simp
  simp only [List.setIfInBounds_toArray, List.set_cons_zero, List.set_cons_succ]
  refine RK.Any.take 12 40 (.int .u64 (x : Int)) rfl rfl (by kernel_rfl) (by kernel_rfl) (by kernel_rfl) (by kernel_rfl) (fun _ _ _ h => h) (by rfl) (fun W' hb => ?_) HS0 ?_
  · go_simp
  simp only [List.setIfInBounds_toArray, List.set_cons_zero, List.set_cons_succ]
  refine RK.Any.call 4 32 15 #[.agg p.cells, .slice ao2 S c2, .int .u64 (x : Int)] (by kernel_rfl) rfl rfl (by rfl) (by go_simp) (Calls.mono (rowComs_two HG.out hF (by omega) (by omega) ht1 hx (fun _ _ _ => rfl) (HMX.out.below hb0)) ?_)
  rintro E X3 ⟨v3, rfl, ⟨ao3, c3, rfl, hm3⟩, hb3⟩
  have HS3 : PBox X3 g p := HS0.below hb3
  refine ⟨_, rfl, fun _ => HS3, ?_⟩
  simp only [List.setIfInBounds_toArray, List.set_cons_zero, List.set_cons_succ]
  refine RK.Any.call 6 34 19 #[.agg p.cells, .slice ao3 S c3, .int .u64 (y : Int)] (by kernel_rfl) rfl rfl (by rfl) (by go_simp) (Calls.mono (share_two HG.out (fun _ _ => MM.comU_lt _ _ _ _ _) (by omega) (by omega) hy (fun _ _ => rfl) hm3) ?_)
  rintro E X4 ⟨b4, rfl, hm4, hb4⟩
  have HS4 : PBox X4 g p := HS3.below hb4
  refine ⟨_, rfl, fun _ => HS4, ?_⟩
  simp only [List.setIfInBounds_toArray, List.set_cons_zero, List.set_cons_succ]
  refine RK.Any.call 11 39 17 #[.agg p.cells, .slice ao2 S c2, .int .u64 (y : Int)] (by kernel_rfl) rfl rfl (by rfl) (by go_simp) (Calls.mono (colComs_two HG.out hF (by omega) (by omega) hy (fun _ _ _ => rfl) (((HMX.out.below hb0).below hb3).below hb4)) ?_)
  rintro E X5 ⟨v5, rfl, ⟨ao5, c5, rfl, hm5⟩, hb5⟩
  have HS5 : PBox X5 g p := HS4.below hb5
  refine ⟨_, rfl, fun _ => HS5, ?_⟩
  simp only [List.setIfInBounds_toArray, List.set_cons_zero, List.set_cons_succ]
  refine RK.Any.call 13 41 19 #[.agg p.cells, .slice ao5 S c5, .int .u64 (x : Int)] (by kernel_rfl) rfl rfl (by rfl) (by go_simp) (Calls.mono (share_two HG.out (fun _ _ => MM.comU_lt _ _ _ _ _) (by omega) (by omega) hx (fun _ _ => rfl) hm5) ?_)
  rintro E X6 ⟨b6, rfl, hm6, hb6⟩
  have HS6 : PBox X6 g p := HS5.below hb6
  have hEQ : Row X6 ⟨b6, 0, none⟩ S (fun s => MM.comU p.P p.G p.H (MM.evalU (fun j => MM.rowP p.Q x (fun _ => t) (A s) j t) y p.Q t) (MM.evalU (fun j => MM.rowP p.Q x (fun _ => t) (fun _ _ => 0) j t) y p.Q t)) := fun s hs => by
    rw [hm6 s hs]
    have e := fun (C : Nat → Nat → Nat) => MM.row_at p.Q x y t (fun _ => t) C
    simp only [MM.widU_same t t ht1] at e
    simp only [e]
    rfl
  refine ⟨_, rfl, fun _ => HS6, ?_⟩
  simp only [List.setIfInBounds_toArray, List.set_cons_zero, List.set_cons_succ]
  refine RK.Any.call 14 42 18 #[.slice (some ⟨b4, 0, none⟩) S S, .slice (some ⟨b6, 0, none⟩) S S] (by kernel_rfl) rfl rfl (by rfl) (by go_simp) (Calls.mono (nums8_is (by omega) (row_rd' (Row.below (Row.below hm4 hb5) hb6)) (row_rd' hEQ)) ?_)
  rintro E X7 ⟨rfl, hb7⟩
  have HS7 : PBox X7 g p := HS6.below hb7
  refine ⟨_, rfl, fun _ => HS7, ?_⟩
  simp only [List.setIfInBounds_toArray, List.set_cons_zero, List.set_cons_succ]
  refine RK.Any.take 15 8 (.bool true) rfl rfl (by kernel_rfl) (by kernel_rfl) (by kernel_rfl) (by kernel_rfl) (fun _ _ _ h => h) (by rfl) (fun W' hb => ?_) HS7 ?_
  · go_simp
  simp only [List.setIfInBounds_toArray, List.set_cons_zero, List.set_cons_succ]
  refine RK.Any.done (by kernel_rfl) ?_
  have HI4 := Lib.hid ((((((HI3.out.step hb0).step hb3).step hb4).step hb5).step hb6).step hb7)
  clear hb0 hb3 hb4 hb5 hb6 hb7 HS0 HS3 HS4 HS5 HS6 HS7 HI3
  go_wp2_with fail
  go_ret
  exact ⟨rfl, HI4.out.below⟩
theorem walk (p : Pm) (v : Value) (x y : Nat) (ok : PmOk p) (hx : x < 18446744073709551616) (hy : y < 18446744073709551616) (w : World) (hv : NumsIn w v) (hl : Laid w) :
    Calls Tryd.prog 4 #[.agg p.cells, v, .int .u64 (x : Int), .int .u64 (y : Int)] w fun e w' => e = .returned (.bool true) ∧ Below w.heap.size w w' := by
  obtain ⟨ao, n, cap, z, rfl, _, hz, hr⟩ := nums_rd hv
  cases hm : mayB p
  · exact core_no p ao n cap x y w hl (hm ▸ may_any p ok.b0 ok.b1 ok.b2 ok.b3)
  · by_cases hn : 1000 < n
    · exact core_long p ao n cap x y hn w hl (hm ▸ may_any p ok.b0 ok.b1 ok.b2 ok.b3)
    · exact core p ok hm ao n cap x y z hz (by omega) hx hy w hl hr (hm ▸ may_any p ok.b0 ok.b1 ok.b2 ok.b3)

set_option maxRecDepth 100000 in
theorem lifted (os : Os) (started : os.Started) (H : Type) (enc : TypeId × Value → H) :
    ReturnsInHanded {} Tryd.checked os 4 .any (fun w args => (Rows.pedersenEitherSpec.pre enc Tryd.prog Tryd.f4 Rows.pedersenEitherRow.domain false w args ∧ laidMetH Tryd.prog M.laid w) ∧ sizedMet enc Tryd.prog Tryd.f4 (OpenSpec.ofChange Rows.pedersenEitherSpec) false w args)
      (Rows.pedersenEitherSpec.post enc Tryd.prog Tryd.f4 false true false false) := by
  refine returnsInHanded_of_change_and (C := Tryd.checked) (X := fun w _ => laidMetH Tryd.prog M.laid w) (fun _ _ _ hh h => h.of_heap hh) M.own started (by kernel_rfl) Tryd.func4
    (ChangeSpec.witness_shaped (enc := enc) (C := Tryd.checked) (os := os) (X := fun w _ => laidMetH Tryd.prog M.laid w) false (World.laidAll Tryd.prog os M.laid) #[.agg #[.int .u64 0, .int .u64 0, .int .u64 0, .int .u64 0, .int .i64 0, .int .i64 0, .int .i64 0, .int .i64 0, .int .i64 0, .int .i64 0, .int .i64 0, .int .i64 0], .slice none 0 0, .int .u64 0, .int .u64 0] 8 (World.laidAll_os _ _ _)
      (World.shaped_of_ZipB (by kernel_rfl) (by kernel_rfl)) (by kernel_rfl) (by kernel_rfl) (by kernel_rfl)
      (by rw [MakeChecks.laidMetH_plain _ _ _ (by kernel_rfl)]; exact laidMet_laidAll _ (by kernel_rfl) (by kernel_rfl))) ?_
  intro W base args ds gs before hval0 hW _ _ hL _
  have hval : ∀ (j : Nat) t v, Tryd.f4.params[j]? = some t → args[j]? = some v → Value.okWide Tryd.prog W .any base t v := hval0
  have hW' := hW
  obtain ⟨p, q, hA0, hV, rfl, _, _⟩ := hW
  have hA : DataW.TrodAll enc Tryd.prog W 0 (fun _ => true) true Tryd.f4.params.toList args.toList ds p := hA0
  rw [Tryd.params4] at hA hval
  obtain ⟨v0, vs0, d0, ds0, p0, q0, hargs, rfl, rfl, h0, r0⟩ := trodAll_cons hA
  obtain ⟨v1, vs1, d1, ds1, p1, q1, rfl, rfl, rfl, h1, r1⟩ := trodAll_cons r0
  obtain ⟨v2, vs2, d2, ds2, p2, q2, rfl, rfl, rfl, h2, r2⟩ := trodAll_cons r1
  obtain ⟨v3, vs3, d3, ds3, p3, q3, rfl, rfl, rfl, h3, r3⟩ := trodAll_cons r2
  obtain ⟨rfl, rfl, rfl⟩ := trodAll_nil r3
  obtain rfl : args = #[v0, v1, v2, v3] := by cases args; simp_all
  obtain ⟨rfl, rfl⟩ := trodVars_none hV
  have k0 := h0
  have lt0 : ∀ x ∈ p0, x.block < W.heap.size := by obtain ⟨m, hm⟩ := k0; exact DataW.trod_lt m _ _ _ hm
  obtain ⟨a0, rfl, ok0⟩ := M.open_pm (hval 0 24 v0 rfl rfl) h0
  have k1 := h1
  have lt1 : ∀ x ∈ p1, x.block < W.heap.size := by obtain ⟨m, hm⟩ := k1; exact DataW.trod_lt m _ _ _ hm
  have ns1 := M.open_nums (hval 1 25 v1 rfl rfl) h1
  have k2 := h2
  have lt2 : ∀ x ∈ p2, x.block < W.heap.size := by obtain ⟨m, hm⟩ := k2; exact DataW.trod_lt m _ _ _ hm
  obtain ⟨x2, rfl, rfl, rfl, w2⟩ := open_int Tryd.underlying22 (hval 2 22 v2 rfl rfl) h2
  obtain ⟨lo2, hi2⟩ := M.u64_bounds w2
  obtain ⟨a2, rfl⟩ : ∃ a : Nat, x2 = a := ⟨x2.toNat, by omega⟩
  have k3 := h3
  have lt3 : ∀ x ∈ p3, x.block < W.heap.size := by obtain ⟨m, hm⟩ := k3; exact DataW.trod_lt m _ _ _ hm
  obtain ⟨x3, rfl, rfl, rfl, w3⟩ := open_int Tryd.underlying22 (hval 3 22 v3 rfl rfl) h3
  obtain ⟨lo3, hi3⟩ := M.u64_bounds w3
  obtain ⟨a3, rfl⟩ : ∃ a : Nat, x3 = a := ⟨x3.toNat, by omega⟩
  clear hA0 hval0
  simp only [List.append_nil] at hW'
  refine (walk a0 v1 a2 a3 ok0 (by omega) (by omega) W ns1 (M.of_laid hL)).mono fun e W' ⟨he, bel⟩ => ?_
  subst he
  exact ⟨_, rfl, _, _, _, [], _, [], hW', (trodAll_cons_mk (shut_bool Tryd.underlying4 _) trodAll_mk0), (trodAll_cons_mk (Below.trod M.laidOut (by kernel_rfl) (of_decide_eq_true (by kernel_rfl)) k0 bel lt0) (trodAll_cons_mk (Below.trod M.laidOut (by kernel_rfl) (of_decide_eq_true (by kernel_rfl)) k1 bel lt1) (trodAll_cons_mk (Below.trod M.laidOut (by kernel_rfl) (of_decide_eq_true (by kernel_rfl)) k2 bel lt2) (trodAll_cons_mk (Below.trod M.laidOut (by kernel_rfl) (of_decide_eq_true (by kernel_rfl)) k3 bel lt3) trodAll_mk0)))), rfl, bel.frame _, fun h => by cases h⟩

theorem holds : Rows.PedersenEitherSaid :=
  OpenClaim.holds_of_wide 4 Tryd.f4 rfl rfl rfl rfl rfl rfl rfl ⟨rfl, rfl, rfl, rfl, rfl⟩ rfl rfl rfl rfl rfl (by kernel_rfl) Tryd.func4 (by kernel_rfl)
    (of_decide_eq_true (by kernel_rfl)) (by unfold Func.isWrapper; first | (rw [if_pos (by decide +kernel)]; kernel_rfl) | (rw [if_neg (by decide +kernel)]; exact ⟨rfl, rfl⟩))
    (fun os started H enc _ => lifted os started H enc)

end PedersenEither

theorem pedersenEither_card_holds : Rows.PedersenEitherCardSaid :=
  Claim7.holds_tied_plain_at .later [] [.data, .data] true _ false PedersenEither.holds (fun _ h => by cases h) (by kernel_rfl) (fun _ h => by cases h) pedersenEither_row_tie rfl ⟨rfl, rfl⟩ (by kernel_rfl) rfl
    (fun f fn hf hfn => by
      obtain rfl : f = 4 := Option.some.inj ((show Tryd.prog.funcNamed "consistory/consistorylaw08.PedersenEither" = some 4 by kernel_rfl).symm.trans hf) |>.symm
      obtain rfl : fn = Tryd.f4 := (Option.some.inj (Tryd.func4.symm.trans hfn)).symm
      exact ⟨by kernel_rfl, fun j t ht => by
        rw [Tryd.params4] at ht
        have hm : t ∈ [24, 25, 22, 22] := by simpa using Array.mem_of_getElem? ht
        have hall : ([24, 25, 22, 22].all fun u => !Tryd.prog.wantsStandIn u) = true := by kernel_rfl
        exact (show Tryd.prog.wantsStandIn t = false by simpa using List.all_eq_true.1 hall t hm)⟩)
    (by kernel_rfl)
#print axioms pedersenEither_card_holds
end Go.Proofs.YtlnlepadninnaaaDoor

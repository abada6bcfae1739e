/- PedersenRows: for any parameters, any two rows of numbers and any place the law of rows and columns answers true, and what was handed in reads as before; the program's two tables are laid by its own text (the card ties them). -/
import Derived.Test.YtlnlepadninnaaaDoorCards
import Derived.Test.YtlnlepadninnaaaDoorTie
import Derived.Test.YtlnlepadninnaaaDoorKR4
import Derived.Test.YtlnlepadninnaaaDoorKR21
import Derived.Test.YtlnlepadninnaaaDoorKR23
import Derived.Test.YtlnlepadninnaaaDoorKR24
import Derived.Lay
namespace Go.Proofs.YtlnlepadninnaaaDoor
open Go.ChangeShapes Go.WideShapes Go.ChangeAt Go.RowKit
namespace PedersenRows
open M

def wT (S t : Nat) (Z : Nat → Nat → Nat) : RK.Word := ⟨fun v w => MatT w v S t Z, fun _ _ _ h hb => h.below hb⟩
theorem square_two {p : Pm} (g : MM.Grp p.P p.Q p.G p.H) (hQ : p.Q < 18446744073709551616) (sm : Small8 p) {S t : Nat} (ht : p.T + 1 = (t : Int)) (hS : p.K.toNat * (p.D.toNat + 1) = S) (hS9 : S ≤ 10) {F A B : Nat → Nat → Nat → Nat} (hC : ∀ s i j, F s i j = MM.comU p.P p.G p.H (A s i j) (B s i j)) {w : World} {ao : Option Addr} {c : Nat} (h : Cub w ao S (fun _ => t) (fun _ _ => t) F) :
    Calls Tryd.prog 13 #[.agg p.cells, .slice ao S c] w fun e w' => e = .returned (.bool true) ∧ Below w.heap.size w w' := by
  have h1 := square_any p (by have := sm.T; omega) hQ (by have := sm.K; omega) (by have := sm.D; omega) ao S c (fun _ => t) (fun _ _ => t) F (by omega) (fun _ _ => by have := sm.T; omega) (fun _ _ _ _ => by have := sm.T; omega) (fun s i j => by rw [hC]; exact MM.comU_lt _ _ _ _ _) w h
  rwa [sq_yes g ht.symm (by rw [← hS]; rfl) (fun _ => t) (fun _ _ => t) F A B (fun _ _ => rfl) (fun _ _ _ _ => rfl) (fun s _ i _ j _ => hC s i j)] at h1
theorem nums_rd {w : World} {v : Value} (h : NumsIn w v) : ∃ ao n cap z, v = .slice ao n cap ∧ n ≤ 9223372036854775807 ∧ (∀ k, z k < 18446744073709551616) ∧ Rd w ao n z := by
  rcases h with rfl | ⟨a, n, cap, z, rfl, h1, h2, h3⟩
  · exact ⟨none, 0, 0, fun _ => 0, rfl, by omega, fun _ => by show (0 : Nat) < _; omega, fun h => absurd h (by omega)⟩
  · exact ⟨some a, n, cap, z, rfl, h1, h2, fun _ => ⟨a, rfl, h3⟩⟩
set_option maxRecDepth 100000 in
set_option maxHeartbeats 4000000 in
theorem core_no (p : Pm) (ao bo : Option Addr) (n cap m capb x : Nat) (W : World) (hl : Laid W) (HM : RetBL 8 #[.agg p.cells] (.bool false)) :
    Calls Tryd.prog 3 #[.agg p.cells, .slice ao n cap, .slice bo m capb, .int .u64 (x : Int)] W fun e w' => e = .returned (.bool true) ∧ Below W.heap.size W w' := by
  have HI : Hid (In W W.heap.size p (W.alloc (.cells p.cells 24))) := Lib.hid (In.new W p hl)
  obtain ⟨g, hg⟩ : ∃ g, W.heap.size = g := ⟨_, rfl⟩
  obtain ⟨W1, hW1⟩ : ∃ W1, W.alloc (.cells p.cells 24) = W1 := ⟨_, rfl⟩
  rw [hW1, hg] at HI
  go_enter Tryd.func3, Tryd.ntmps3
  go_wp2_with (first | (go_at_call 7; refine (works8_any _).mono ?_; rintro e w2 ⟨rfl, hb⟩; first | (have HI3 := Lib.hid (HI2.out.step hb)) | (have HI1 := Lib.hid (HI.out.step hb)); clear hb) | (refine wpList_row_if ?_ 24 _ rfl g rfl 24 p.cells (0, 0) _ HI1.out.box Tryd.underlying24 rfl (by kernel_rfl) ?_; first | rfl | (simp [Region.wanted, yielded]; done)) | (go_at_call 8; (with_reducible refine (HM.at _ HI1.out.laid).mono ?_); rintro e w3 ⟨rfl, hb⟩; have HI2 := Lib.hid (HI1.out.step hb); clear hb))
  go_ret
  exact ⟨rfl, by first | exact HI3.out.below | (rw [← hg]; exact HI3.out.below)⟩

set_option maxRecDepth 100000 in
set_option maxHeartbeats 4000000 in
theorem core_long (p : Pm) (ao bo : Option Addr) (n cap m capb x : Nat) (hn : (1000 : Int) < wrap64 ((n : Int) + (m : Int))) (W : World) (hl : Laid W) (HM : RetBL 8 #[.agg p.cells] (.bool true)) :
    Calls Tryd.prog 3 #[.agg p.cells, .slice ao n cap, .slice bo m capb, .int .u64 (x : Int)] W fun e w' => e = .returned (.bool true) ∧ Below W.heap.size W w' := by
  have HI : Hid (In W W.heap.size p (W.alloc (.cells p.cells 24))) := Lib.hid (In.new W p hl)
  obtain ⟨g, hg⟩ : ∃ g, W.heap.size = g := ⟨_, rfl⟩
  obtain ⟨W1, hW1⟩ : ∃ W1, W.alloc (.cells p.cells 24) = W1 := ⟨_, rfl⟩
  rw [hW1, hg] at HI
  go_enter Tryd.func3, Tryd.ntmps3
  go_wp2_with (first | (go_at_call 7; refine (works8_any _).mono ?_; rintro e w2 ⟨rfl, hb⟩; first | (have HI3 := Lib.hid (HI2.out.step hb)) | (have HI1 := Lib.hid (HI.out.step hb)); clear hb) | (refine wpList_row_if ?_ 24 _ rfl g rfl 24 p.cells (0, 0) _ HI1.out.box Tryd.underlying24 rfl (by kernel_rfl) ?_; first | rfl | (simp [Region.wanted, yielded]; done)) | (go_at_call 8; (with_reducible refine (HM.at _ HI1.out.laid).mono ?_); rintro e w3 ⟨rfl, hb⟩; have HI2 := Lib.hid (HI1.out.step hb); clear hb))
  go_ret
  exact ⟨rfl, by first | exact HI3.out.below | (rw [← hg]; exact HI3.out.below)⟩

set_option maxRecDepth 100000 in
set_option maxHeartbeats 16000000 in
theorem core (p : Pm) (ok : PmOk p) (hm : mayB p = true) (ao bo : Option Addr) (n cap m capb x : Nat) (z y : Nat → Nat) (hz : ∀ k, z k < 18446744073709551616) (hy : ∀ k, y k < 18446744073709551616) (hn9 : n ≤ 9223372036854775807) (hm9 : m ≤ 9223372036854775807) (hx : x < 18446744073709551616) (hnI : wrap64 ((n : Int) + (m : Int)) ≤ 1000) (W : World) (hl : Laid W) (hr : Rd W ao n z) (hs : Rd W bo m y) (HM : RetBL 8 #[.agg p.cells] (.bool true)) :
    Calls Tryd.prog 3 #[.agg p.cells, .slice ao n cap, .slice bo m capb, .int .u64 (x : Int)] W fun e w' => e = .returned (.bool true) ∧ Below W.heap.size W w' := by
  have HI : Hid (In W W.heap.size p (W.alloc (.cells p.cells 24))) := Lib.hid (In.new W p hl)
  obtain ⟨g, hg⟩ : ∃ g, W.heap.size = g := ⟨_, rfl⟩
  obtain ⟨W1, hW1⟩ : ∃ W1, W.alloc (.cells p.cells 24) = W1 := ⟨_, rfl⟩
  rw [hW1, hg] at HI
  have HR := Lib.hid hr
  have HRB := Lib.hid hs
  have sm := small_of hm
  have HSM := Lib.hid sm
  have HG := Lib.hid (grp8 hm)
  obtain ⟨t, ht⟩ := Int.eq_ofNat_of_zero_le (show (0 : Int) ≤ p.T + 1 by have := sm.T; omega)
  have ht3 : t ≤ 3 := by have := sm.T; omega
  have ht1 : 0 < t := by have := sm.T; omega
  obtain ⟨S, hS⟩ : ∃ S, p.K.toNat * (p.D.toNat + 1) = S := ⟨_, rfl⟩
  have hS3 : S ≤ 10 := by rw [← hS]; exact Nat.mul_le_mul (show p.K.toNat ≤ 2 by have := sm.K; omega) (show p.D.toNat + 1 ≤ 5 by have := sm.D; omega)
  have HTWO := Lib.hid (fun (u : World) (h : Rd u ao n z) => two_any p t S ht (by omega) hS (by omega) (by have := sm.K; omega) (by have := sm.D; omega) ao n cap z (by omega) u h)
  have HTWOB := Lib.hid (fun (u : World) (h : Rd u bo m y) => two_any p t S ht (by omega) hS (by omega) (by have := sm.K; omega) (by have := sm.D; omega) bo m capb y (by omega) u h)
  obtain ⟨A, hA⟩ : ∃ A : Nat → Nat → Nat → Nat, A = fun s i j => MM.twoZ n z (((s * t + i) * t + j) % 18446744073709551616) := ⟨_, rfl⟩
  have hAl : ∀ s i j, A s i j < 18446744073709551616 := fun s i j => by rw [hA]; exact MM.twoZ_lt hz (Nat.mod_lt _ (by omega))
  have HAC : Hid (∀ s, s < S → ∀ i, i < t → ∀ j, j < t → MM.twoZ n z ((s * t + i) * t + j) = A s i j) := Lib.hid fun s hs i hi j hj => by
    have h1 : s * t ≤ 10 * 3 := Nat.mul_le_mul (by omega) ht3
    have h2 : (s * t + i) * t ≤ (10 * 3 + 3) * 3 := Nat.mul_le_mul (by omega) ht3
    rw [hA]
    show _ = MM.twoZ n z (((s * t + i) * t + j) % 18446744073709551616)
    rw [Nat.mod_eq_of_lt (by omega)]
  obtain ⟨B, hB⟩ : ∃ A : Nat → Nat → Nat → Nat, A = fun s i j => MM.twoZ m y (((s * t + i) * t + j) % 18446744073709551616) := ⟨_, rfl⟩
  have hBl : ∀ s i j, B s i j < 18446744073709551616 := fun s i j => by rw [hB]; exact MM.twoZ_lt hy (Nat.mod_lt _ (by omega))
  have HBC : Hid (∀ s, s < S → ∀ i, i < t → ∀ j, j < t → MM.twoZ m y ((s * t + i) * t + j) = B s i j) := Lib.hid fun s hs i hi j hj => by
    have h1 : s * t ≤ 10 * 3 := Nat.mul_le_mul (by omega) ht3
    have h2 : (s * t + i) * t ≤ (10 * 3 + 3) * 3 := Nat.mul_le_mul (by omega) ht3
    rw [hB]
    show _ = MM.twoZ m y (((s * t + i) * t + j) % 18446744073709551616)
    rw [Nat.mod_eq_of_lt (by omega)]
  have hFl : ∀ s i j, (fun s i j => MM.comU p.P p.G p.H (A s i j) (B s i j)) s i j < 18446744073709551616 := fun s i j => MM.comU_lt _ _ _ _ _
  have HOK := Lib.hid ok
  have HTT := Lib.hid ht
  have HSS := Lib.hid hS
  clear hr hs sm hS hz hy hA hB ok ht hn9 hm9 hm
  go_enter Tryd.func3, Tryd.ntmps3
  go_wp2_with (first | (go_at_call 7; refine (works8_any _).mono ?_; rintro e w2 ⟨rfl, hb⟩; first | (have HI3 := Lib.hid (HI2.out.step hb)) | (have HI1 := Lib.hid (HI.out.step hb)); clear hb) | (refine wpList_row_if ?_ 24 _ rfl g rfl 24 p.cells (0, 0) _ HI1.out.box Tryd.underlying24 rfl (by kernel_rfl) ?_; first | rfl | (simp [Region.wanted, yielded]; done)) | (go_at_call 8; (with_reducible refine (HM.at _ HI1.out.laid).mono ?_); rintro e w3 ⟨rfl, hb⟩; have HI2 := Lib.hid (HI1.out.step hb); clear hb))
  clear hnI hg hW1 HM
  refine RK.region (fun u => PBox u g p) 100 (by kernel_rfl) ?_
  have HS0 : PBox w3.drew g p := HI2.out.box.below (below_drewN' w3 1 _)
  have hb0 : Below w3.heap.size w3 w3.drew := below_drewN' w3 1 _
  have hi0 : Below W.heap.size W w3 := HI2.out.below
  refine RK.Any.take 0 33 (.agg p.cells) rfl rfl (by kernel_rfl) (by kernel_rfl) (by kernel_rfl) (by kernel_rfl) (fun _ _ _ h => h) (by rfl) (fun W' hb => load_pbox hb rfl rfl) HS0 ?_
  simp only [List.setIfInBounds_toArray, List.set_cons_zero, List.set_cons_succ]
  refine RK.Any.take 1 34 (.slice ao n cap) rfl rfl (by kernel_rfl) (by kernel_rfl) (by kernel_rfl) (by kernel_rfl) (fun _ _ _ h => h) (by rfl) (fun W' hb => ?_) HS0 ?_
  · go_simp
  simp only [List.setIfInBounds_toArray, List.set_cons_zero, List.set_cons_succ]
  refine RK.Any.take 3 36 (.agg p.cells) rfl rfl (by kernel_rfl) (by kernel_rfl) (by kernel_rfl) (by kernel_rfl) (fun _ _ _ h => h) (by rfl) (fun W' hb => load_pbox hb rfl rfl) HS0 ?_
  simp only [List.setIfInBounds_toArray, List.set_cons_zero, List.set_cons_succ]
  refine RK.Any.take 4 37 (.slice bo m capb) rfl rfl (by kernel_rfl) (by kernel_rfl) (by kernel_rfl) (by kernel_rfl) (fun _ _ _ h => h) (by rfl) (fun W' hb => ?_) HS0 ?_
  · go_simp
  simp only [List.setIfInBounds_toArray, List.set_cons_zero, List.set_cons_succ]
  refine RK.Any.call 2 35 9 #[.agg p.cells, .slice ao n cap] (by kernel_rfl) rfl rfl (by rfl) (by go_simp) (Calls.mono (HTWO.out _ (HR.out.below (hi0.trans (hb0.mono hi0.size)))) ?_)
  rintro E X1 ⟨v1, rfl, hv1, hb1⟩
  obtain ⟨ao1, c1, rfl, hc1, _⟩ := hv1.cub
  have hcA := hc1.congr (fun _ _ => rfl) (fun _ _ _ _ => rfl) (F' := A) fun s hs i hi j hj => HAC.out s hs i hi j hj
  have HS1 : PBox X1 g p := HS0.below hb1
  refine ⟨_, rfl, fun _ => HS1, ?_⟩
  simp only [List.setIfInBounds_toArray, List.set_cons_zero, List.set_cons_succ]
  refine RK.Any.call 5 38 9 #[.agg p.cells, .slice bo m capb] (by kernel_rfl) rfl rfl (by rfl) (by go_simp) (Calls.mono (HTWOB.out _ ((HRB.out.below (hi0.trans (hb0.mono hi0.size))).below hb1)) ?_)
  rintro E X2 ⟨v2, rfl, hv2, hb2⟩
  obtain ⟨ao2, c2, rfl, hc2, _⟩ := hv2.cub
  have hcB := hc2.congr (fun _ _ => rfl) (fun _ _ _ _ => rfl) (F' := B) fun s hs i hi j hj => HBC.out s hs i hi j hj
  have HS2 : PBox X2 g p := HS1.below hb2
  refine ⟨_, rfl, fun _ => HS2, ?_⟩
  simp only [List.setIfInBounds_toArray, List.set_cons_zero, List.set_cons_succ]
  refine RK.Any.take 6 9 (.slice ao1 S c1) rfl rfl (by kernel_rfl) (by kernel_rfl) (by kernel_rfl) (by kernel_rfl) (fun _ _ _ h => h) (by rfl) (fun W' hb => ?_) HS2 ?_
  · go_simp
  simp only [List.setIfInBounds_toArray, List.set_cons_zero, List.set_cons_succ]
  refine RK.Any.take 7 10 (.slice ao2 S c2) rfl rfl (by kernel_rfl) (by kernel_rfl) (by kernel_rfl) (by kernel_rfl) (fun _ _ _ h => h) (by rfl) (fun W' hb => ?_) HS2 ?_
  · go_simp
  simp only [List.setIfInBounds_toArray, List.set_cons_zero, List.set_cons_succ]
  refine RK.Any.done (by kernel_rfl) ?_
  have HI3 := Lib.hid (((HI2.out.step hb0).step hb1).step hb2)
  have HCAX := Lib.hid (hcA.below hb2)
  have HCBX := Lib.hid hcB
  clear hb0 hb1 hb2 HS0 HS1 HS2 HI2 hi0 hv1 hc1 hv2 hc2 hcA hcB HTWO HTWOB HR HRB HAC HBC
  go_wp2_with (first | (refine wpList_row_if ?_ 24 _ rfl g rfl 24 p.cells (0, 0) _ HI3.out.box Tryd.underlying24 rfl (by kernel_rfl) ?_; first | rfl | (simp [Region.wanted, yielded]; done)) | (go_at_call 10; refine (matrix_two p HOK.out.b2 HOK.out.b3 hAl hBl (by omega) (by omega) HCAX.out HCBX.out).mono ?_; rintro e w5 ⟨v5, rfl, ⟨ao5, c5, rfl, hm5⟩, hb5⟩; have HM5 := Lib.hid hm5; have HB5 := Lib.hid hb5; clear hm5 hb5))
  obtain ⟨Wm, hWm⟩ : ∃ Wm, w5 = Wm := ⟨_, rfl⟩
  rw [hWm] at HM5 HB5 ⊢
  have HI5 := Lib.hid (HI3.out.step HB5.out)
  have HCA := Lib.hid (HCAX.out.below HB5.out)
  have HCBB := Lib.hid (HCBX.out.below HB5.out)
  have HQC : Hid (∀ u, Below Wm.heap.size Wm u → u.cell? ⟨g, 1, none⟩ = some (.int .u64 (p.Q : Int))) := Lib.hid fun u hu => (HI5.out.box.below hu).cell 1
  clear HI3 HCAX HCBX hWm
  obtain ⟨Z, hZ⟩ : ∃ Z : Nat → Nat → Nat → Nat, Z = four (fun s j => MM.rowP p.Q x (fun _ => t) (A s) j t) (fun s j => MM.rowP p.Q x (fun _ => t) (B s) j t) (fun s i => MM.colP p.Q x (fun _ => t) (A s) i) (fun s i => MM.colP p.Q x (fun _ => t) (B s) i) := ⟨_, rfl⟩
  obtain ⟨C, hC⟩ : ∃ C : Nat → Nat → Value → World → Prop, C = fun i k u X => RowC Wm.heap.size X u t (Z i k) := ⟨_, rfl⟩
  have HCS : Hid (∀ i k u X Y, C i k u X → Sm 25 31 X Y → C i k u Y) := Lib.hid fun i k u X Y h hsm => by
    rw [hC] at h ⊢
    exact h.same fun _ _ e => hsm _ _ _ _ (by decide) (by decide) e
  have HCI0 : Hid (∀ s X u, RowC Wm.heap.size X u t (fun j => MM.rowP p.Q x (fun _ => t) (A s) j t) → C 0 s u X) := Lib.hid fun s X u h => by rw [hC, hZ]; exact h
  have HCI1 : Hid (∀ s X u, RowC Wm.heap.size X u t (fun j => MM.rowP p.Q x (fun _ => t) (B s) j t) → C 1 s u X) := Lib.hid fun s X u h => by rw [hC, hZ]; exact h
  have HCI2 : Hid (∀ s X u, RowC Wm.heap.size X u t (fun i => MM.colP p.Q x (fun _ => t) (A s) i) → C 2 s u X) := Lib.hid fun s X u h => by rw [hC, hZ]; exact h
  have HCI3 : Hid (∀ s X u, RowC Wm.heap.size X u t (fun i => MM.colP p.Q x (fun _ => t) (B s) i) → C 3 s u X) := Lib.hid fun s X u h => by rw [hC, hZ]; exact h
  have HCE := Lib.hid hC
  have HZE := Lib.hid hZ
  clear hC hZ
  go_loopw [12, 13, 14, 15, 16] (fun s12 s13 s14 s15 s16 wx => ∃ s : Nat, s ≤ S ∧ s16 = .int .i64 (s : Int) ∧ Hid (Fam 25 Wm.heap.size 4 C (four s12 s13 s14 s15) (four s s s s) wx ∧ Below Wm.heap.size Wm wx)) (fun _ _ _ _ s16 _ => S - (RowKit.intOf s16).toNat)
  case atStart => exact ⟨0, Nat.zero_le _, rfl, Lib.hid ⟨Fam.start _ _ _ _ _ (fun i hi => by match i, hi with | 0, _ => rfl | 1, _ => rfl | 2, _ => rfl | 3, _ => rfl) (fun i hi => by match i, hi with | 0, _ => rfl | 1, _ => rfl | 2, _ => rfl | 3, _ => rfl), Below.refl _ _⟩⟩
  case round =>
    obtain ⟨s, hs, rfl, HFA⟩ := hrel
    by_cases hlt : s < S
    · have hs1 : (s : Int) < (S : Int) := by omega
      have hs0 : (0 : Int) ≤ (s : Int) := Int.natCast_nonneg _
      have hw2 := add_wrap (a := s) (by omega)
      go_upto_region 9 with fail
      refine RK.region (Below Wm.heap.size Wm) 100 (by kernel_rfl) ?_
      have hF0 := HFA.out.1.as (Y := wr.drew) (fun i k u h => HCS.out i k u _ _ h (.of_as (CellsAs.refl _))) (fun _ _ _ e => e)
      have hS0 : Below Wm.heap.size Wm wr.drew := HFA.out.2.trans (below_drewN' wr 1 _)
      obtain ⟨Y0, hY0⟩ : ∃ Y0, wr.drew = Y0 := ⟨_, rfl⟩
      rw [hY0] at hF0 hS0 ⊢
      obtain ⟨ad0, v00, hao0, hcl, bo0, bc0, rfl, hmt, _⟩ := HCA.out s hlt
      have hcl' : ∀ u, Below Wm.heap.size Wm u → u.cell? (ad0.add s) = some (.slice bo0 t bc0) := fun u hu => (hu.cell (World.block_lt_of_cell? Wm _ hcl)).trans hcl
      cases hao0
      refine RK.Any.take 0 49 (u12) rfl rfl (by kernel_rfl) (by kernel_rfl) (by kernel_rfl) (by kernel_rfl) (fun _ _ _ h => h) (by rfl) (fun W' hb => ?_) hS0 ?_
      · go_simp
      simp only [List.setIfInBounds_toArray, List.set_cons_zero, List.set_cons_succ]
      refine RK.Any.take 1 50 (.slice (some ad0) S c1) rfl rfl (by kernel_rfl) (by kernel_rfl) (by kernel_rfl) (by kernel_rfl) (fun _ _ _ h => h) (by rfl) (fun W' hb => ?_) hS0 ?_
      · go_simp
      simp only [List.setIfInBounds_toArray, List.set_cons_zero, List.set_cons_succ]
      refine RK.Any.take 2 51 (.int .i64 (s : Int)) rfl rfl (by kernel_rfl) (by kernel_rfl) (by kernel_rfl) (by kernel_rfl) (fun _ _ _ h => h) (by rfl) (fun W' hb => ?_) hS0 ?_
      · go_simp
      simp only [List.setIfInBounds_toArray, List.set_cons_zero, List.set_cons_succ]
      refine RK.Any.take 3 52 (.pointer (some (ad0.add s))) rfl rfl (by kernel_rfl) (by kernel_rfl) (by kernel_rfl) (by kernel_rfl) (fun _ _ _ h => h) (by rfl) (fun W' hb => ?_) hS0 ?_
      · go_simp
      simp only [List.setIfInBounds_toArray, List.set_cons_zero, List.set_cons_succ]
      refine RK.Any.take 4 53 (.slice bo0 t bc0) rfl rfl (by kernel_rfl) (by kernel_rfl) (by kernel_rfl) (by kernel_rfl) (fun _ _ _ h => h) (by rfl) (fun W' hb => ?_) hS0 ?_
      · have c := hcl' W' hb; go_simp
      simp only [List.setIfInBounds_toArray, List.set_cons_zero, List.set_cons_succ]
      refine RK.Any.take 5 54 (.int .u64 (x : Int)) rfl rfl (by kernel_rfl) (by kernel_rfl) (by kernel_rfl) (by kernel_rfl) (fun _ _ _ h => h) (by rfl) (fun W' hb => ?_) hS0 ?_
      · go_simp
      simp only [List.setIfInBounds_toArray, List.set_cons_zero, List.set_cons_succ]
      refine RK.Any.take 6 55 (.pointer (some ⟨g, 1, none⟩)) rfl rfl (by kernel_rfl) (by kernel_rfl) (by kernel_rfl) (by kernel_rfl) (fun _ _ _ h => h) (by rfl) (fun W' hb => ?_) hS0 ?_
      · go_simp
      simp only [List.setIfInBounds_toArray, List.set_cons_zero, List.set_cons_succ]
      refine RK.Any.take 7 56 (.int .u64 (p.Q : Int)) rfl rfl (by kernel_rfl) (by kernel_rfl) (by kernel_rfl) (by kernel_rfl) (fun _ _ _ h => h) (by rfl) (fun W' hb => ?_) hS0 ?_
      · have c := HQC.out W' hb; go_simp
      simp only [List.setIfInBounds_toArray, List.set_cons_zero, List.set_cons_succ]
      have hcon := row_any bo0 bc0 t x p.Q (fun _ => t) (A s) (by omega) (fun _ _ => by omega) (hAl s) hx Y0 (hmt.below hS0)
      rw [MM.widU_same t t ht1] at hcon
      refine RK.Any.call 8 57 11 #[.slice bo0 t bc0, .int .u64 (x : Int), .int .u64 (p.Q : Int)] (by kernel_rfl) rfl rfl (by rfl) (by go_simp) (Calls.mono (hcon) ?_)
      rintro E Y1 ⟨rfl, hmn⟩
      have hS1 : Below Wm.heap.size Wm Y1 := hS0.trans (hmn.below.mono hS0.size)
      refine ⟨_, rfl, fun _ => hS1, ?_⟩
      simp only [List.setIfInBounds_toArray, List.set_cons_zero, List.set_cons_succ]
      have hF1 := hF0.as (Y := Y1) (fun i k u h => HCS.out i k u _ _ h (.of_as (.of_below hmn.below))) (fun _ _ _ e => CellsAs.of_below hmn.below _ _ _ _ e)
      obtain ⟨i0, hi0, hz0, hz1, hz2⟩ := info_parts info_rows
      obtain ⟨ao', c', Y3, hrun, hF3, hsm3, hsz3, hlow3, e1, e2, e3⟩ := hF1.more (S := 31) Tryd.underlying31 hi0 hz0 hz1 hz2 rfl (by decide) hS1.size 0 (by omega) (show s ≤ 900000 by omega) (.slice (some ⟨Y0.heap.size, 0, none⟩) t t) 1 rfl (HCI0.out s Y1 _ (hmn.rowC.mono hS0.size)) HCS.out
      have hb2 := below_box Y1 (.cells #[.slice (some ⟨Y0.heap.size, 0, none⟩) t t] 25)
      have hS2 := hS1.trans (hb2.mono hS1.size)
      have hS3 : Below Wm.heap.size Wm Y3 := hS1.trans ⟨e1, e2, e3, hsz3, fun k hk => hlow3 k hk⟩
      refine RK.Any.exec 9 58 (.slice (some ⟨Y1.heap.size, 0, none⟩) 1 1) (w1 := Y1.alloc (.cells #[.slice (some ⟨Y0.heap.size, 0, none⟩) t t] 25)) (by kernel_rfl) rfl rfl (by rfl) (by go_simp) hS2 ?_
      simp only [List.setIfInBounds_toArray, List.set_cons_zero, List.set_cons_succ]
      refine RK.Any.exec 10 59 (.slice ao' (s + 1) c') (w1 := Y3) (by kernel_rfl) rfl rfl (by rfl) (RK.exec_append _ _ _ _ rfl _ _ rfl rfl hrun) hS3 ?_
      simp only [List.setIfInBounds_toArray, List.set_cons_zero, List.set_cons_succ]
      refine RK.Any.take 11 12 (.slice ao' (s + 1) c') rfl rfl (by kernel_rfl) (by kernel_rfl) (by kernel_rfl) (by kernel_rfl) (fun _ _ _ h => h) (by rfl) (fun W' hb => ?_) hS3 ?_
      · go_simp
      simp only [List.setIfInBounds_toArray, List.set_cons_zero, List.set_cons_succ]
      refine RK.Any.done (by kernel_rfl) ?_
      have hF4 : Fam 25 Wm.heap.size 4 C (four (.slice ao' (s + 1) c') u13 u14 u15) (four (s + 1) s s s) Y3 := hF3.congr (fun i hi => by match i, hi with | 0, _ => rfl | 1, _ => rfl | 2, _ => rfl | 3, _ => rfl) (fun i hi => by match i, hi with | 0, _ => rfl | 1, _ => rfl | 2, _ => rfl | 3, _ => rfl)
      obtain ⟨q0, hq0⟩ : ∃ q : Value, q = .slice ao' (s + 1) c' := ⟨_, rfl⟩
      rw [← hq0] at hF4 ⊢
      obtain ⟨y0, hy0⟩ : ∃ y, Y3 = y := ⟨_, rfl⟩
      rw [hy0] at hF4 hS3 ⊢
      have HF0 := Lib.hid (And.intro hF4 hS3)
      clear hF0 hS0 hF1 hS1 hS2 hS3 hF3 hF4 hrun hsm3 hsz3 hlow3 e1 e2 e3 hb2 hmn hcon hcl hcl' hmt hY0 hy0 hq0 HFA hi0 hz0 hz1 hz2
      go_upto_region 10 with fail
      refine RK.region (Below Wm.heap.size Wm) 100 (by kernel_rfl) ?_
      have hF0 := HF0.out.1.as (Y := y0.drew) (fun i k u h => HCS.out i k u _ _ h (.of_as (CellsAs.refl _))) (fun _ _ _ e => e)
      have hS0 : Below Wm.heap.size Wm y0.drew := HF0.out.2.trans (below_drewN' y0 1 _)
      obtain ⟨Y0, hY0⟩ : ∃ Y0, y0.drew = Y0 := ⟨_, rfl⟩
      rw [hY0] at hF0 hS0 ⊢
      obtain ⟨ad1, v10, hao1, hcl, bo1, bc1, rfl, hmt, _⟩ := HCBB.out s hlt
      have hcl' : ∀ u, Below Wm.heap.size Wm u → u.cell? (ad1.add s) = some (.slice bo1 t bc1) := fun u hu => (hu.cell (World.block_lt_of_cell? Wm _ hcl)).trans hcl
      cases hao1
      refine RK.Any.take 0 60 (u13) rfl rfl (by kernel_rfl) (by kernel_rfl) (by kernel_rfl) (by kernel_rfl) (fun _ _ _ h => h) (by rfl) (fun W' hb => ?_) hS0 ?_
      · go_simp
      simp only [List.setIfInBounds_toArray, List.set_cons_zero, List.set_cons_succ]
      refine RK.Any.take 1 61 (.slice (some ad1) S c2) rfl rfl (by kernel_rfl) (by kernel_rfl) (by kernel_rfl) (by kernel_rfl) (fun _ _ _ h => h) (by rfl) (fun W' hb => ?_) hS0 ?_
      · go_simp
      simp only [List.setIfInBounds_toArray, List.set_cons_zero, List.set_cons_succ]
      refine RK.Any.take 2 62 (.int .i64 (s : Int)) rfl rfl (by kernel_rfl) (by kernel_rfl) (by kernel_rfl) (by kernel_rfl) (fun _ _ _ h => h) (by rfl) (fun W' hb => ?_) hS0 ?_
      · go_simp
      simp only [List.setIfInBounds_toArray, List.set_cons_zero, List.set_cons_succ]
      refine RK.Any.take 3 63 (.pointer (some (ad1.add s))) rfl rfl (by kernel_rfl) (by kernel_rfl) (by kernel_rfl) (by kernel_rfl) (fun _ _ _ h => h) (by rfl) (fun W' hb => ?_) hS0 ?_
      · go_simp
      simp only [List.setIfInBounds_toArray, List.set_cons_zero, List.set_cons_succ]
      refine RK.Any.take 4 64 (.slice bo1 t bc1) rfl rfl (by kernel_rfl) (by kernel_rfl) (by kernel_rfl) (by kernel_rfl) (fun _ _ _ h => h) (by rfl) (fun W' hb => ?_) hS0 ?_
      · have c := hcl' W' hb; go_simp
      simp only [List.setIfInBounds_toArray, List.set_cons_zero, List.set_cons_succ]
      refine RK.Any.take 5 65 (.int .u64 (x : Int)) rfl rfl (by kernel_rfl) (by kernel_rfl) (by kernel_rfl) (by kernel_rfl) (fun _ _ _ h => h) (by rfl) (fun W' hb => ?_) hS0 ?_
      · go_simp
      simp only [List.setIfInBounds_toArray, List.set_cons_zero, List.set_cons_succ]
      refine RK.Any.take 6 66 (.pointer (some ⟨g, 1, none⟩)) rfl rfl (by kernel_rfl) (by kernel_rfl) (by kernel_rfl) (by kernel_rfl) (fun _ _ _ h => h) (by rfl) (fun W' hb => ?_) hS0 ?_
      · go_simp
      simp only [List.setIfInBounds_toArray, List.set_cons_zero, List.set_cons_succ]
      refine RK.Any.take 7 67 (.int .u64 (p.Q : Int)) rfl rfl (by kernel_rfl) (by kernel_rfl) (by kernel_rfl) (by kernel_rfl) (fun _ _ _ h => h) (by rfl) (fun W' hb => ?_) hS0 ?_
      · have c := HQC.out W' hb; go_simp
      simp only [List.setIfInBounds_toArray, List.set_cons_zero, List.set_cons_succ]
      have hcon := row_any bo1 bc1 t x p.Q (fun _ => t) (B s) (by omega) (fun _ _ => by omega) (hBl s) hx Y0 (hmt.below hS0)
      rw [MM.widU_same t t ht1] at hcon
      refine RK.Any.call 8 68 11 #[.slice bo1 t bc1, .int .u64 (x : Int), .int .u64 (p.Q : Int)] (by kernel_rfl) rfl rfl (by rfl) (by go_simp) (Calls.mono (hcon) ?_)
      rintro E Y1 ⟨rfl, hmn⟩
      have hS1 : Below Wm.heap.size Wm Y1 := hS0.trans (hmn.below.mono hS0.size)
      refine ⟨_, rfl, fun _ => hS1, ?_⟩
      simp only [List.setIfInBounds_toArray, List.set_cons_zero, List.set_cons_succ]
      have hF1 := hF0.as (Y := Y1) (fun i k u h => HCS.out i k u _ _ h (.of_as (.of_below hmn.below))) (fun _ _ _ e => CellsAs.of_below hmn.below _ _ _ _ e)
      obtain ⟨i0, hi0, hz0, hz1, hz2⟩ := info_parts info_rows
      obtain ⟨ao', c', Y3, hrun, hF3, hsm3, hsz3, hlow3, e1, e2, e3⟩ := hF1.more (S := 31) Tryd.underlying31 hi0 hz0 hz1 hz2 rfl (by decide) hS1.size 1 (by omega) (show s ≤ 900000 by omega) (.slice (some ⟨Y0.heap.size, 0, none⟩) t t) 1 rfl (HCI1.out s Y1 _ (hmn.rowC.mono hS0.size)) HCS.out
      have hb2 := below_box Y1 (.cells #[.slice (some ⟨Y0.heap.size, 0, none⟩) t t] 25)
      have hS2 := hS1.trans (hb2.mono hS1.size)
      have hS3 : Below Wm.heap.size Wm Y3 := hS1.trans ⟨e1, e2, e3, hsz3, fun k hk => hlow3 k hk⟩
      refine RK.Any.exec 9 69 (.slice (some ⟨Y1.heap.size, 0, none⟩) 1 1) (w1 := Y1.alloc (.cells #[.slice (some ⟨Y0.heap.size, 0, none⟩) t t] 25)) (by kernel_rfl) rfl rfl (by rfl) (by go_simp) hS2 ?_
      simp only [List.setIfInBounds_toArray, List.set_cons_zero, List.set_cons_succ]
      refine RK.Any.exec 10 70 (.slice ao' (s + 1) c') (w1 := Y3) (by kernel_rfl) rfl rfl (by rfl) (RK.exec_append _ _ _ _ rfl _ _ rfl rfl hrun) hS3 ?_
      simp only [List.setIfInBounds_toArray, List.set_cons_zero, List.set_cons_succ]
      refine RK.Any.take 11 13 (.slice ao' (s + 1) c') rfl rfl (by kernel_rfl) (by kernel_rfl) (by kernel_rfl) (by kernel_rfl) (fun _ _ _ h => h) (by rfl) (fun W' hb => ?_) hS3 ?_
      · go_simp
      simp only [List.setIfInBounds_toArray, List.set_cons_zero, List.set_cons_succ]
      refine RK.Any.done (by kernel_rfl) ?_
      have hF4 : Fam 25 Wm.heap.size 4 C (four q0 (.slice ao' (s + 1) c') u14 u15) (four (s + 1) (s + 1) s s) Y3 := hF3.congr (fun i hi => by match i, hi with | 0, _ => rfl | 1, _ => rfl | 2, _ => rfl | 3, _ => rfl) (fun i hi => by match i, hi with | 0, _ => rfl | 1, _ => rfl | 2, _ => rfl | 3, _ => rfl)
      obtain ⟨q1, hq1⟩ : ∃ q : Value, q = .slice ao' (s + 1) c' := ⟨_, rfl⟩
      rw [← hq1] at hF4 ⊢
      obtain ⟨y1, hy1⟩ : ∃ y, Y3 = y := ⟨_, rfl⟩
      rw [hy1] at hF4 hS3 ⊢
      have HF1 := Lib.hid (And.intro hF4 hS3)
      clear hF0 hS0 hF1 hS1 hS2 hS3 hF3 hF4 hrun hsm3 hsz3 hlow3 e1 e2 e3 hb2 hmn hcon hcl hcl' hmt hY0 hy1 hq1 HF0 hi0 hz0 hz1 hz2
      go_upto_region 11 with fail
      refine RK.region (Below Wm.heap.size Wm) 100 (by kernel_rfl) ?_
      have hF0 := HF1.out.1.as (Y := y1.drew) (fun i k u h => HCS.out i k u _ _ h (.of_as (CellsAs.refl _))) (fun _ _ _ e => e)
      have hS0 : Below Wm.heap.size Wm y1.drew := HF1.out.2.trans (below_drewN' y1 1 _)
      obtain ⟨Y0, hY0⟩ : ∃ Y0, y1.drew = Y0 := ⟨_, rfl⟩
      rw [hY0] at hF0 hS0 ⊢
      obtain ⟨ad2, v20, hao2, hcl, bo2, bc2, rfl, hmt, _⟩ := HCA.out s hlt
      have hcl' : ∀ u, Below Wm.heap.size Wm u → u.cell? (ad2.add s) = some (.slice bo2 t bc2) := fun u hu => (hu.cell (World.block_lt_of_cell? Wm _ hcl)).trans hcl
      cases hao2
      refine RK.Any.take 0 71 (u14) rfl rfl (by kernel_rfl) (by kernel_rfl) (by kernel_rfl) (by kernel_rfl) (fun _ _ _ h => h) (by rfl) (fun W' hb => ?_) hS0 ?_
      · go_simp
      simp only [List.setIfInBounds_toArray, List.set_cons_zero, List.set_cons_succ]
      refine RK.Any.take 1 72 (.slice (some ad0) S c1) rfl rfl (by kernel_rfl) (by kernel_rfl) (by kernel_rfl) (by kernel_rfl) (fun _ _ _ h => h) (by rfl) (fun W' hb => ?_) hS0 ?_
      · go_simp
      simp only [List.setIfInBounds_toArray, List.set_cons_zero, List.set_cons_succ]
      refine RK.Any.take 2 73 (.int .i64 (s : Int)) rfl rfl (by kernel_rfl) (by kernel_rfl) (by kernel_rfl) (by kernel_rfl) (fun _ _ _ h => h) (by rfl) (fun W' hb => ?_) hS0 ?_
      · go_simp
      simp only [List.setIfInBounds_toArray, List.set_cons_zero, List.set_cons_succ]
      refine RK.Any.take 3 74 (.pointer (some (ad0.add s))) rfl rfl (by kernel_rfl) (by kernel_rfl) (by kernel_rfl) (by kernel_rfl) (fun _ _ _ h => h) (by rfl) (fun W' hb => ?_) hS0 ?_
      · go_simp
      simp only [List.setIfInBounds_toArray, List.set_cons_zero, List.set_cons_succ]
      refine RK.Any.take 4 75 (.slice bo2 t bc2) rfl rfl (by kernel_rfl) (by kernel_rfl) (by kernel_rfl) (by kernel_rfl) (fun _ _ _ h => h) (by rfl) (fun W' hb => ?_) hS0 ?_
      · have c := hcl' W' hb; go_simp
      simp only [List.setIfInBounds_toArray, List.set_cons_zero, List.set_cons_succ]
      refine RK.Any.take 5 76 (.int .u64 (x : Int)) rfl rfl (by kernel_rfl) (by kernel_rfl) (by kernel_rfl) (by kernel_rfl) (fun _ _ _ h => h) (by rfl) (fun W' hb => ?_) hS0 ?_
      · go_simp
      simp only [List.setIfInBounds_toArray, List.set_cons_zero, List.set_cons_succ]
      refine RK.Any.take 6 77 (.pointer (some ⟨g, 1, none⟩)) rfl rfl (by kernel_rfl) (by kernel_rfl) (by kernel_rfl) (by kernel_rfl) (fun _ _ _ h => h) (by rfl) (fun W' hb => ?_) hS0 ?_
      · go_simp
      simp only [List.setIfInBounds_toArray, List.set_cons_zero, List.set_cons_succ]
      refine RK.Any.take 7 78 (.int .u64 (p.Q : Int)) rfl rfl (by kernel_rfl) (by kernel_rfl) (by kernel_rfl) (by kernel_rfl) (fun _ _ _ h => h) (by rfl) (fun W' hb => ?_) hS0 ?_
      · have c := HQC.out W' hb; go_simp
      simp only [List.setIfInBounds_toArray, List.set_cons_zero, List.set_cons_succ]
      have hcon := col_any bo2 bc2 t x p.Q (fun _ => t) (A s) (by omega) (fun _ _ => by omega) hx Y0 (hmt.below hS0)
      refine RK.Any.call 8 79 12 #[.slice bo2 t bc2, .int .u64 (x : Int), .int .u64 (p.Q : Int)] (by kernel_rfl) rfl rfl (by rfl) (by go_simp) (Calls.mono (hcon) ?_)
      rintro E Y1 ⟨rfl, hmn⟩
      have hS1 : Below Wm.heap.size Wm Y1 := hS0.trans (hmn.below.mono hS0.size)
      refine ⟨_, rfl, fun _ => hS1, ?_⟩
      simp only [List.setIfInBounds_toArray, List.set_cons_zero, List.set_cons_succ]
      have hF1 := hF0.as (Y := Y1) (fun i k u h => HCS.out i k u _ _ h (.of_as (.of_below hmn.below))) (fun _ _ _ e => CellsAs.of_below hmn.below _ _ _ _ e)
      obtain ⟨i0, hi0, hz0, hz1, hz2⟩ := info_parts info_rows
      obtain ⟨ao', c', Y3, hrun, hF3, hsm3, hsz3, hlow3, e1, e2, e3⟩ := hF1.more (S := 31) Tryd.underlying31 hi0 hz0 hz1 hz2 rfl (by decide) hS1.size 2 (by omega) (show s ≤ 900000 by omega) (.slice (some ⟨Y0.heap.size, 0, none⟩) t t) 1 rfl (HCI2.out s Y1 _ (hmn.rowC.mono hS0.size)) HCS.out
      have hb2 := below_box Y1 (.cells #[.slice (some ⟨Y0.heap.size, 0, none⟩) t t] 25)
      have hS2 := hS1.trans (hb2.mono hS1.size)
      have hS3 : Below Wm.heap.size Wm Y3 := hS1.trans ⟨e1, e2, e3, hsz3, fun k hk => hlow3 k hk⟩
      refine RK.Any.exec 9 80 (.slice (some ⟨Y1.heap.size, 0, none⟩) 1 1) (w1 := Y1.alloc (.cells #[.slice (some ⟨Y0.heap.size, 0, none⟩) t t] 25)) (by kernel_rfl) rfl rfl (by rfl) (by go_simp) hS2 ?_
      simp only [List.setIfInBounds_toArray, List.set_cons_zero, List.set_cons_succ]
      refine RK.Any.exec 10 81 (.slice ao' (s + 1) c') (w1 := Y3) (by kernel_rfl) rfl rfl (by rfl) (RK.exec_append _ _ _ _ rfl _ _ rfl rfl hrun) hS3 ?_
      simp only [List.setIfInBounds_toArray, List.set_cons_zero, List.set_cons_succ]
      refine RK.Any.take 11 14 (.slice ao' (s + 1) c') rfl rfl (by kernel_rfl) (by kernel_rfl) (by kernel_rfl) (by kernel_rfl) (fun _ _ _ h => h) (by rfl) (fun W' hb => ?_) hS3 ?_
      · go_simp
      simp only [List.setIfInBounds_toArray, List.set_cons_zero, List.set_cons_succ]
      refine RK.Any.done (by kernel_rfl) ?_
      have hF4 : Fam 25 Wm.heap.size 4 C (four q0 q1 (.slice ao' (s + 1) c') u15) (four (s + 1) (s + 1) (s + 1) s) Y3 := hF3.congr (fun i hi => by match i, hi with | 0, _ => rfl | 1, _ => rfl | 2, _ => rfl | 3, _ => rfl) (fun i hi => by match i, hi with | 0, _ => rfl | 1, _ => rfl | 2, _ => rfl | 3, _ => rfl)
      obtain ⟨q2, hq2⟩ : ∃ q : Value, q = .slice ao' (s + 1) c' := ⟨_, rfl⟩
      rw [← hq2] at hF4 ⊢
      obtain ⟨y2, hy2⟩ : ∃ y, Y3 = y := ⟨_, rfl⟩
      rw [hy2] at hF4 hS3 ⊢
      have HF2 := Lib.hid (And.intro hF4 hS3)
      clear hF0 hS0 hF1 hS1 hS2 hS3 hF3 hF4 hrun hsm3 hsz3 hlow3 e1 e2 e3 hb2 hmn hcon hcl hcl' hmt hY0 hy2 hq2 HF1 hi0 hz0 hz1 hz2
      go_upto_region 12 with fail
      refine RK.region (Below Wm.heap.size Wm) 100 (by kernel_rfl) ?_
      have hF0 := HF2.out.1.as (Y := y2.drew) (fun i k u h => HCS.out i k u _ _ h (.of_as (CellsAs.refl _))) (fun _ _ _ e => e)
      have hS0 : Below Wm.heap.size Wm y2.drew := HF2.out.2.trans (below_drewN' y2 1 _)
      obtain ⟨Y0, hY0⟩ : ∃ Y0, y2.drew = Y0 := ⟨_, rfl⟩
      rw [hY0] at hF0 hS0 ⊢
      obtain ⟨ad3, v30, hao3, hcl, bo3, bc3, rfl, hmt, _⟩ := HCBB.out s hlt
      have hcl' : ∀ u, Below Wm.heap.size Wm u → u.cell? (ad3.add s) = some (.slice bo3 t bc3) := fun u hu => (hu.cell (World.block_lt_of_cell? Wm _ hcl)).trans hcl
      cases hao3
      refine RK.Any.take 0 82 (u15) rfl rfl (by kernel_rfl) (by kernel_rfl) (by kernel_rfl) (by kernel_rfl) (fun _ _ _ h => h) (by rfl) (fun W' hb => ?_) hS0 ?_
      · go_simp
      simp only [List.setIfInBounds_toArray, List.set_cons_zero, List.set_cons_succ]
      refine RK.Any.take 1 83 (.slice (some ad1) S c2) rfl rfl (by kernel_rfl) (by kernel_rfl) (by kernel_rfl) (by kernel_rfl) (fun _ _ _ h => h) (by rfl) (fun W' hb => ?_) hS0 ?_
      · go_simp
      simp only [List.setIfInBounds_toArray, List.set_cons_zero, List.set_cons_succ]
      refine RK.Any.take 2 84 (.int .i64 (s : Int)) rfl rfl (by kernel_rfl) (by kernel_rfl) (by kernel_rfl) (by kernel_rfl) (fun _ _ _ h => h) (by rfl) (fun W' hb => ?_) hS0 ?_
      · go_simp
      simp only [List.setIfInBounds_toArray, List.set_cons_zero, List.set_cons_succ]
      refine RK.Any.take 3 85 (.pointer (some (ad1.add s))) rfl rfl (by kernel_rfl) (by kernel_rfl) (by kernel_rfl) (by kernel_rfl) (fun _ _ _ h => h) (by rfl) (fun W' hb => ?_) hS0 ?_
      · go_simp
      simp only [List.setIfInBounds_toArray, List.set_cons_zero, List.set_cons_succ]
      refine RK.Any.take 4 86 (.slice bo3 t bc3) rfl rfl (by kernel_rfl) (by kernel_rfl) (by kernel_rfl) (by kernel_rfl) (fun _ _ _ h => h) (by rfl) (fun W' hb => ?_) hS0 ?_
      · have c := hcl' W' hb; go_simp
      simp only [List.setIfInBounds_toArray, List.set_cons_zero, List.set_cons_succ]
      refine RK.Any.take 5 87 (.int .u64 (x : Int)) rfl rfl (by kernel_rfl) (by kernel_rfl) (by kernel_rfl) (by kernel_rfl) (fun _ _ _ h => h) (by rfl) (fun W' hb => ?_) hS0 ?_
      · go_simp
      simp only [List.setIfInBounds_toArray, List.set_cons_zero, List.set_cons_succ]
      refine RK.Any.take 6 88 (.pointer (some ⟨g, 1, none⟩)) rfl rfl (by kernel_rfl) (by kernel_rfl) (by kernel_rfl) (by kernel_rfl) (fun _ _ _ h => h) (by rfl) (fun W' hb => ?_) hS0 ?_
      · go_simp
      simp only [List.setIfInBounds_toArray, List.set_cons_zero, List.set_cons_succ]
      refine RK.Any.take 7 89 (.int .u64 (p.Q : Int)) rfl rfl (by kernel_rfl) (by kernel_rfl) (by kernel_rfl) (by kernel_rfl) (fun _ _ _ h => h) (by rfl) (fun W' hb => ?_) hS0 ?_
      · have c := HQC.out W' hb; go_simp
      simp only [List.setIfInBounds_toArray, List.set_cons_zero, List.set_cons_succ]
      have hcon := col_any bo3 bc3 t x p.Q (fun _ => t) (B s) (by omega) (fun _ _ => by omega) hx Y0 (hmt.below hS0)
      refine RK.Any.call 8 90 12 #[.slice bo3 t bc3, .int .u64 (x : Int), .int .u64 (p.Q : Int)] (by kernel_rfl) rfl rfl (by rfl) (by go_simp) (Calls.mono (hcon) ?_)
      rintro E Y1 ⟨rfl, hmn⟩
      have hS1 : Below Wm.heap.size Wm Y1 := hS0.trans (hmn.below.mono hS0.size)
      refine ⟨_, rfl, fun _ => hS1, ?_⟩
      simp only [List.setIfInBounds_toArray, List.set_cons_zero, List.set_cons_succ]
      have hF1 := hF0.as (Y := Y1) (fun i k u h => HCS.out i k u _ _ h (.of_as (.of_below hmn.below))) (fun _ _ _ e => CellsAs.of_below hmn.below _ _ _ _ e)
      obtain ⟨i0, hi0, hz0, hz1, hz2⟩ := info_parts info_rows
      obtain ⟨ao', c', Y3, hrun, hF3, hsm3, hsz3, hlow3, e1, e2, e3⟩ := hF1.more (S := 31) Tryd.underlying31 hi0 hz0 hz1 hz2 rfl (by decide) hS1.size 3 (by omega) (show s ≤ 900000 by omega) (.slice (some ⟨Y0.heap.size, 0, none⟩) t t) 1 rfl (HCI3.out s Y1 _ (hmn.rowC.mono hS0.size)) HCS.out
      have hb2 := below_box Y1 (.cells #[.slice (some ⟨Y0.heap.size, 0, none⟩) t t] 25)
      have hS2 := hS1.trans (hb2.mono hS1.size)
      have hS3 : Below Wm.heap.size Wm Y3 := hS1.trans ⟨e1, e2, e3, hsz3, fun k hk => hlow3 k hk⟩
      refine RK.Any.exec 9 91 (.slice (some ⟨Y1.heap.size, 0, none⟩) 1 1) (w1 := Y1.alloc (.cells #[.slice (some ⟨Y0.heap.size, 0, none⟩) t t] 25)) (by kernel_rfl) rfl rfl (by rfl) (by go_simp) hS2 ?_
      simp only [List.setIfInBounds_toArray, List.set_cons_zero, List.set_cons_succ]
      refine RK.Any.exec 10 92 (.slice ao' (s + 1) c') (w1 := Y3) (by kernel_rfl) rfl rfl (by rfl) (RK.exec_append _ _ _ _ rfl _ _ rfl rfl hrun) hS3 ?_
      simp only [List.setIfInBounds_toArray, List.set_cons_zero, List.set_cons_succ]
      refine RK.Any.take 11 15 (.slice ao' (s + 1) c') rfl rfl (by kernel_rfl) (by kernel_rfl) (by kernel_rfl) (by kernel_rfl) (fun _ _ _ h => h) (by rfl) (fun W' hb => ?_) hS3 ?_
      · go_simp
      simp only [List.setIfInBounds_toArray, List.set_cons_zero, List.set_cons_succ]
      refine RK.Any.done (by kernel_rfl) ?_
      have hF4 : Fam 25 Wm.heap.size 4 C (four q0 q1 q2 (.slice ao' (s + 1) c')) (four (s + 1) (s + 1) (s + 1) (s + 1)) Y3 := hF3.congr (fun i hi => by match i, hi with | 0, _ => rfl | 1, _ => rfl | 2, _ => rfl | 3, _ => rfl) (fun i hi => by match i, hi with | 0, _ => rfl | 1, _ => rfl | 2, _ => rfl | 3, _ => rfl)
      obtain ⟨q3, hq3⟩ : ∃ q : Value, q = .slice ao' (s + 1) c' := ⟨_, rfl⟩
      rw [← hq3] at hF4 ⊢
      obtain ⟨y3, hy3⟩ : ∃ y, Y3 = y := ⟨_, rfl⟩
      rw [hy3] at hF4 hS3 ⊢
      have HF3 := Lib.hid (And.intro hF4 hS3)
      clear hF0 hS0 hF1 hS1 hS2 hS3 hF3 hF4 hrun hsm3 hsz3 hlow3 e1 e2 e3 hb2 hmn hcon hcl hcl' hmt hY0 hy3 hq3 HF2 hi0 hz0 hz1 hz2
      go_wp2_with fail
      go_roundw
      case rel => exact ⟨s + 1, by omega, by go_num, HF3⟩
      case measure => simp [RowKit.intOf]; omega
    · obtain rfl : s = S := by omega
      have hs1 : ¬ (s : Int) < (s : Int) := by omega
      rw [HCE.out] at HFA
      obtain ⟨r0, d0, e0, m0⟩ := HFA.out.1.mat (i := 0) (by decide)
      obtain ⟨r1, d1, e1, m1⟩ := HFA.out.1.mat (i := 1) (by decide)
      obtain ⟨r2, d2, e2, m2⟩ := HFA.out.1.mat (i := 2) (by decide)
      obtain ⟨r3, d3, e3, m3⟩ := HFA.out.1.mat (i := 3) (by decide)
      change _ = Value.slice r0 s d0 at e0
      change _ = Value.slice r1 s d1 at e1
      change _ = Value.slice r2 s d2 at e2
      change _ = Value.slice r3 s d3 at e3
      change u12 = _ at e0
      change u13 = _ at e1
      change u14 = _ at e2
      change u15 = _ at e3
      subst e0 e1 e2 e3
      rw [HZE.out] at m0 m1 m2 m3
      have hS13 : PBox wr g p ∧ Cub wr ao5 s (fun _ => t) (fun _ _ => t) (fun s i j => MM.comU p.P p.G p.H (A s i j) (B s i j)) ∧ Mat wr r0 s (fun _ => t) (fun s j => MM.rowP p.Q x (fun _ => t) (A s) j t) ∧ Mat wr r1 s (fun _ => t) (fun s j => MM.rowP p.Q x (fun _ => t) (B s) j t) ∧ Mat wr r2 s (fun _ => t) (fun s i => MM.colP p.Q x (fun _ => t) (A s) i) ∧ Mat wr r3 s (fun _ => t) (fun s i => MM.colP p.Q x (fun _ => t) (B s) i) ∧ Below W.heap.size W wr := ⟨HI5.out.box.below HFA.out.2, HM5.out.below HFA.out.2, m0, m1, m2, m3, (HI5.out.step HFA.out.2).below⟩
      clear m0 m1 m2 m3 HFA HCI0 HCI1 HCI2 HCI3 HCS HCE HZE HQC HCA HCBB HI5 HM5 HB5
      go_upto_region 13 with fail
      refine RK.tame [none, none, none, none, none, none, none, none, some 25, none, none, none, none, none, none, none, none, none, none, none, none, none, none, none, none, none, none, none, none, none, none, none, none, none, none, none, none, none, none, none, none, none, none, none, none, none, none, none, none, none, none, none, none, none, none, none, none, none, none, none, none, none, none, none, none, none, none, none, none, none, none, none, none, none, none, none, none, none, none, none, none, none, none, none, none, none, none, none, none, none, none, none, none, some 0, some 1, some 2, some 3, some 4, some 5, some 6, some 7, some 8, some 9, some 10, some 11, some 12, some 13, some 14, some 15, some 16, some 17, some 18, some 19, some 20, some 21, some 22, some 23, some 24] [RK.Word.eq (.agg p.cells), RK.Word.eq (.slice ao5 s c5), RK.Word.eq (.bool true), RK.Word.eq (.bool true), RK.Word.eq (.agg p.cells), RK.Word.eq (.slice ao5 s c5), RK.Word.eq (.int .u64 (x : Int)), wT s t (fun s j => MM.comU p.P p.G p.H (MM.rowP p.Q x (fun _ => t) (A s) j t) (MM.rowP p.Q x (fun _ => t) (B s) j t)), RK.Word.eq (.agg p.cells), RK.Word.eq (.slice r0 s d0), RK.Word.eq (.slice r1 s d1), wT s t (fun s j => MM.comU p.P p.G p.H (MM.rowP p.Q x (fun _ => t) (A s) j t) (MM.rowP p.Q x (fun _ => t) (B s) j t)), RK.Word.eq (.bool true), RK.Word.eq (.bool true), RK.Word.eq (.bool true), RK.Word.eq (.agg p.cells), RK.Word.eq (.slice ao5 s c5), RK.Word.eq (.int .u64 (x : Int)), wT s t (fun s i => MM.comU p.P p.G p.H (MM.colP p.Q x (fun _ => t) (A s) i) (MM.colP p.Q x (fun _ => t) (B s) i)), RK.Word.eq (.agg p.cells), RK.Word.eq (.slice r2 s d2), RK.Word.eq (.slice r3 s d3), wT s t (fun s i => MM.comU p.P p.G p.H (MM.colP p.Q x (fun _ => t) (A s) i) (MM.colP p.Q x (fun _ => t) (B s) i)), RK.Word.eq (.bool true), RK.Word.eq (.bool true), RK.Word.eq (.bool true)] (fun u => PBox u g p ∧ Cub u ao5 s (fun _ => t) (fun _ _ => t) (fun s i j => MM.comU p.P p.G p.H (A s i j) (B s i j)) ∧ Mat u r0 s (fun _ => t) (fun s j => MM.rowP p.Q x (fun _ => t) (A s) j t) ∧ Mat u r1 s (fun _ => t) (fun s j => MM.rowP p.Q x (fun _ => t) (B s) j t) ∧ Mat u r2 s (fun _ => t) (fun s i => MM.colP p.Q x (fun _ => t) (A s) i) ∧ Mat u r3 s (fun _ => t) (fun s i => MM.colP p.Q x (fun _ => t) (B s) i) ∧ Below W.heap.size W u) (by kernel_rfl) (by kernel_rfl) (by kernel_rfl) hS13 (fun _ _ h hb => ⟨h.1.below hb, h.2.1.below hb, h.2.2.1.below hb, h.2.2.2.1.below hb, h.2.2.2.2.1.below hb, h.2.2.2.2.2.1.below hb, h.2.2.2.2.2.2.trans (hb.mono h.2.2.2.2.2.2.size)⟩) (fun i hi a' val w' hF => ?_) (fun val w' hw hp => ?_)
      · have hi2 : i = 0 ∨ i = 1 ∨ i = 2 ∨ i = 3 ∨ i = 4 ∨ i = 5 ∨ i = 6 ∨ i = 7 ∨ i = 8 ∨ i = 9 ∨ i = 10 ∨ i = 11 ∨ i = 12 ∨ i = 13 ∨ i = 14 ∨ i = 15 ∨ i = 16 ∨ i = 17 ∨ i = 18 ∨ i = 19 ∨ i = 20 ∨ i = 21 ∨ i = 22 ∨ i = 23 ∨ i = 24 ∨ i = 25 := by
          have : i < 26 := hi
          omega
        clear hi
        rcases hi2 with rfl | rfl | rfl | rfl | rfl | rfl | rfl | rfl | rfl | rfl | rfl | rfl | rfl | rfl | rfl | rfl | rfl | rfl | rfl | rfl | rfl | rfl | rfl | rfl | rfl | rfl
        · have r4 : a'.eval (.tmp 4) = .pointer (some ⟨g, 0, none⟩) := (hF.old 4 (.inr rfl)).trans rfl
          refine RK.owes_exec (v := .agg p.cells) (w' := w') rfl (RK.wanted_any rfl) ?_ (Below.refl _ _) rfl
          exact load_pbox hF.S.1 rfl r4
        · have r11 : a'.eval (.tmp 11) = .slice ao5 s c5 := (hF.old 11 (.inr rfl)).trans rfl
          refine RK.owes_exec (v := .slice ao5 s c5) (w' := w') rfl (RK.wanted_any rfl) ?_ (Below.refl _ _) rfl
          have rk : ∀ c, a'.eval (.const c) = c := fun _ => rfl
          generalize a'.eval = ρ at *
          go_simp
        · have p0 : val 0 = .agg p.cells := hF.post 0 (by kernel_rfl)
          have r93 : a'.eval (.tmp 93) = .agg p.cells := (hF.ev 93 0 rfl (by kernel_rfl) (of_decide_eq_true (by kernel_rfl))).trans p0
          have p1 : val 1 = .slice ao5 s c5 := hF.post 1 (by kernel_rfl)
          have r94 : a'.eval (.tmp 94) = .slice ao5 s c5 := (hF.ev 94 1 rfl (by kernel_rfl) (of_decide_eq_true (by kernel_rfl))).trans p1
          refine RK.owes_call (g := 13) (args := #[.agg p.cells, .slice ao5 s c5]) rfl (RK.wanted_any rfl) ?_ ?_
          · have rk : ∀ c, a'.eval (.const c) = c := fun _ => rfl
            have rf : ∀ f, a'.eval (.func f) = .func (.func f) #[] #[] := fun _ => rfl
            generalize a'.eval = ρ at *
            go_simp
          · refine (square_two HG.out HOK.out.b1 HSM.out HTT.out HSS.out (by omega) (fun _ _ _ => rfl) hF.S.2.1).mono ?_
            rintro e w2 ⟨rfl, hb⟩
            exact ⟨_, rfl, hb, rfl⟩
        · have p2 : val 2 = .bool true := hF.post 2 (by kernel_rfl)
          have r95 : a'.eval (.tmp 95) = .bool true := (hF.ev 95 2 rfl (by kernel_rfl) (of_decide_eq_true (by kernel_rfl))).trans p2
          refine RK.owes_exec (v := .bool true) (w' := w') rfl (RK.wanted_any rfl) ?_ (Below.refl _ _) rfl
          have rk : ∀ c, a'.eval (.const c) = c := fun _ => rfl
          generalize a'.eval = ρ at *
          go_simp
        · have r4 : a'.eval (.tmp 4) = .pointer (some ⟨g, 0, none⟩) := (hF.old 4 (.inr rfl)).trans rfl
          have hwn : ∀ o : Oper, o.guard = some (3, true) → Region.wanted o _ = true := fun o h => RK.wanted_if h (hF.yields rfl rfl rfl (by kernel_rfl) (of_decide_eq_true (by kernel_rfl)) (hF.post 3 (by kernel_rfl)))
          refine RK.owes_exec (v := .agg p.cells) (w' := w') rfl (hwn _ rfl) ?_ (Below.refl _ _) rfl
          exact load_pbox hF.S.1 rfl r4
        · have r11 : a'.eval (.tmp 11) = .slice ao5 s c5 := (hF.old 11 (.inr rfl)).trans rfl
          have hwn : ∀ o : Oper, o.guard = some (3, true) → Region.wanted o _ = true := fun o h => RK.wanted_if h (hF.yields rfl rfl rfl (by kernel_rfl) (of_decide_eq_true (by kernel_rfl)) (hF.post 3 (by kernel_rfl)))
          refine RK.owes_exec (v := .slice ao5 s c5) (w' := w') rfl (hwn _ rfl) ?_ (Below.refl _ _) rfl
          have rk : ∀ c, a'.eval (.const c) = c := fun _ => rfl
          generalize a'.eval = ρ at *
          go_simp
        · have r3 : a'.eval (.tmp 3) = .int .u64 (x : Int) := (hF.old 3 (.inr rfl)).trans rfl
          have hwn : ∀ o : Oper, o.guard = some (3, true) → Region.wanted o _ = true := fun o h => RK.wanted_if h (hF.yields rfl rfl rfl (by kernel_rfl) (of_decide_eq_true (by kernel_rfl)) (hF.post 3 (by kernel_rfl)))
          refine RK.owes_exec (v := .int .u64 (x : Int)) (w' := w') rfl (hwn _ rfl) ?_ (Below.refl _ _) rfl
          have rk : ∀ c, a'.eval (.const c) = c := fun _ => rfl
          generalize a'.eval = ρ at *
          go_simp
        · have p4 : val 4 = .agg p.cells := hF.post 4 (by kernel_rfl)
          have r97 : a'.eval (.tmp 97) = .agg p.cells := (hF.ev 97 4 rfl (by kernel_rfl) (of_decide_eq_true (by kernel_rfl))).trans p4
          have p5 : val 5 = .slice ao5 s c5 := hF.post 5 (by kernel_rfl)
          have r98 : a'.eval (.tmp 98) = .slice ao5 s c5 := (hF.ev 98 5 rfl (by kernel_rfl) (of_decide_eq_true (by kernel_rfl))).trans p5
          have p6 : val 6 = .int .u64 (x : Int) := hF.post 6 (by kernel_rfl)
          have r99 : a'.eval (.tmp 99) = .int .u64 (x : Int) := (hF.ev 99 6 rfl (by kernel_rfl) (of_decide_eq_true (by kernel_rfl))).trans p6
          have hwn : ∀ o : Oper, o.guard = some (3, true) → Region.wanted o _ = true := fun o h => RK.wanted_if h (hF.yields rfl rfl rfl (by kernel_rfl) (of_decide_eq_true (by kernel_rfl)) (hF.post 3 (by kernel_rfl)))
          refine RK.owes_call (g := 15) (args := #[.agg p.cells, .slice ao5 s c5, .int .u64 (x : Int)]) rfl (hwn _ rfl) ?_ ?_
          · have rk : ∀ c, a'.eval (.const c) = c := fun _ => rfl
            have rf : ∀ f, a'.eval (.func f) = .func (.func f) #[] #[] := fun _ => rfl
            generalize a'.eval = ρ at *
            go_simp
          · refine (rowComs_two HG.out hFl (by omega) (by omega) ht1 hx (fun _ _ _ => rfl) hF.S.2.1).mono ?_
            rintro e w2 ⟨v, rfl, hv, hb⟩
            exact ⟨_, rfl, hb, hv⟩
        · have r4 : a'.eval (.tmp 4) = .pointer (some ⟨g, 0, none⟩) := (hF.old 4 (.inr rfl)).trans rfl
          have hwn : ∀ o : Oper, o.guard = some (3, true) → Region.wanted o _ = true := fun o h => RK.wanted_if h (hF.yields rfl rfl rfl (by kernel_rfl) (of_decide_eq_true (by kernel_rfl)) (hF.post 3 (by kernel_rfl)))
          refine RK.owes_exec (v := .agg p.cells) (w' := w') rfl (hwn _ rfl) ?_ (Below.refl _ _) rfl
          exact load_pbox hF.S.1 rfl r4
        · have r12 : a'.eval (.tmp 12) = .slice r0 s d0 := (hF.old 12 (.inr rfl)).trans rfl
          have hwn : ∀ o : Oper, o.guard = some (3, true) → Region.wanted o _ = true := fun o h => RK.wanted_if h (hF.yields rfl rfl rfl (by kernel_rfl) (of_decide_eq_true (by kernel_rfl)) (hF.post 3 (by kernel_rfl)))
          refine RK.owes_exec (v := .slice r0 s d0) (w' := w') rfl (hwn _ rfl) ?_ (Below.refl _ _) rfl
          have rk : ∀ c, a'.eval (.const c) = c := fun _ => rfl
          generalize a'.eval = ρ at *
          go_simp
        · have r13 : a'.eval (.tmp 13) = .slice r1 s d1 := (hF.old 13 (.inr rfl)).trans rfl
          have hwn : ∀ o : Oper, o.guard = some (3, true) → Region.wanted o _ = true := fun o h => RK.wanted_if h (hF.yields rfl rfl rfl (by kernel_rfl) (of_decide_eq_true (by kernel_rfl)) (hF.post 3 (by kernel_rfl)))
          refine RK.owes_exec (v := .slice r1 s d1) (w' := w') rfl (hwn _ rfl) ?_ (Below.refl _ _) rfl
          have rk : ∀ c, a'.eval (.const c) = c := fun _ => rfl
          generalize a'.eval = ρ at *
          go_simp
        · have p8 : val 8 = .agg p.cells := hF.post 8 (by kernel_rfl)
          have r101 : a'.eval (.tmp 101) = .agg p.cells := (hF.ev 101 8 rfl (by kernel_rfl) (of_decide_eq_true (by kernel_rfl))).trans p8
          have p9 : val 9 = .slice r0 s d0 := hF.post 9 (by kernel_rfl)
          have r102 : a'.eval (.tmp 102) = .slice r0 s d0 := (hF.ev 102 9 rfl (by kernel_rfl) (of_decide_eq_true (by kernel_rfl))).trans p9
          have p10 : val 10 = .slice r1 s d1 := hF.post 10 (by kernel_rfl)
          have r103 : a'.eval (.tmp 103) = .slice r1 s d1 := (hF.ev 103 10 rfl (by kernel_rfl) (of_decide_eq_true (by kernel_rfl))).trans p10
          have hwn : ∀ o : Oper, o.guard = some (3, true) → Region.wanted o _ = true := fun o h => RK.wanted_if h (hF.yields rfl rfl rfl (by kernel_rfl) (of_decide_eq_true (by kernel_rfl)) (hF.post 3 (by kernel_rfl)))
          refine RK.owes_call (g := 16) (args := #[.agg p.cells, .slice r0 s d0, .slice r1 s d1]) rfl (hwn _ rfl) ?_ ?_
          · have rk : ∀ c, a'.eval (.const c) = c := fun _ => rfl
            have rf : ∀ f, a'.eval (.func f) = .func (.func f) #[] #[] := fun _ => rfl
            generalize a'.eval = ρ at *
            go_simp
          · refine (coms_two p HOK.out.b2 HOK.out.b3 (fun _ _ => MM.rowP_lt _ _ _ _ _ _) (fun _ _ => MM.rowP_lt _ _ _ _ _ _) (by omega) (by omega) hF.S.2.2.1 hF.S.2.2.2.1).mono ?_
            rintro e w2 ⟨v, rfl, hv, hb⟩
            exact ⟨_, rfl, hb, hv⟩
        · obtain ⟨ao7, c7, e7, h7⟩ : ∃ ao c, val 7 = .slice ao s c ∧ Mat w' ao s (fun _ => t) (fun s j => MM.comU p.P p.G p.H (MM.rowP p.Q x (fun _ => t) (A s) j t) (MM.rowP p.Q x (fun _ => t) (B s) j t)) := (hF.post 7 (by kernel_rfl))
          have r100 : a'.eval (.tmp 100) = .slice ao7 s c7 := (hF.ev 100 7 rfl (by kernel_rfl) (of_decide_eq_true (by kernel_rfl))).trans e7
          obtain ⟨ao11, c11, e11, h11⟩ : ∃ ao c, val 11 = .slice ao s c ∧ Mat w' ao s (fun _ => t) (fun s j => MM.comU p.P p.G p.H (MM.rowP p.Q x (fun _ => t) (A s) j t) (MM.rowP p.Q x (fun _ => t) (B s) j t)) := (hF.post 11 (by kernel_rfl))
          have r104 : a'.eval (.tmp 104) = .slice ao11 s c11 := (hF.ev 104 11 rfl (by kernel_rfl) (of_decide_eq_true (by kernel_rfl))).trans e11
          have hwn : ∀ o : Oper, o.guard = some (3, true) → Region.wanted o _ = true := fun o h => RK.wanted_if h (hF.yields rfl rfl rfl (by kernel_rfl) (of_decide_eq_true (by kernel_rfl)) (hF.post 3 (by kernel_rfl)))
          refine RK.owes_call (g := 14) (args := #[.slice ao7 s c7, .slice ao11 s c11]) rfl (hwn _ rfl) ?_ ?_
          · have rk : ∀ c, a'.eval (.const c) = c := fun _ => rfl
            have rf : ∀ f, a'.eval (.func f) = .func (.func f) #[] #[] := fun _ => rfl
            generalize a'.eval = ρ at *
            go_simp
          · refine (lists8_is ⟨by omega, fun _ _ => by show t ≤ 1000; omega⟩ h7 h11).mono ?_
            rintro e w2 ⟨rfl, hb⟩
            exact ⟨_, rfl, hb, rfl⟩
        · have p3 : val 3 = .bool true := hF.post 3 (by kernel_rfl)
          have r96 : a'.eval (.tmp 96) = .bool true := (hF.ev 96 3 rfl (by kernel_rfl) (of_decide_eq_true (by kernel_rfl))).trans p3
          have p12 : val 12 = .bool true := hF.post 12 (by kernel_rfl)
          have r105 : a'.eval (.tmp 105) = .bool true := (hF.ev 105 12 rfl (by kernel_rfl) (of_decide_eq_true (by kernel_rfl))).trans p12
          refine RK.owes_exec (v := .bool true) (w' := w') rfl (RK.wanted_any rfl) ?_ (Below.refl _ _) rfl
          have rk : ∀ c, a'.eval (.const c) = c := fun _ => rfl
          generalize a'.eval = ρ at *
          go_simp
        · have p13 : val 13 = .bool true := hF.post 13 (by kernel_rfl)
          have r106 : a'.eval (.tmp 106) = .bool true := (hF.ev 106 13 rfl (by kernel_rfl) (of_decide_eq_true (by kernel_rfl))).trans p13
          refine RK.owes_exec (v := .bool true) (w' := w') rfl (RK.wanted_any rfl) ?_ (Below.refl _ _) rfl
          have rk : ∀ c, a'.eval (.const c) = c := fun _ => rfl
          generalize a'.eval = ρ at *
          go_simp
        · have r4 : a'.eval (.tmp 4) = .pointer (some ⟨g, 0, none⟩) := (hF.old 4 (.inr rfl)).trans rfl
          have hwn : ∀ o : Oper, o.guard = some (14, true) → Region.wanted o _ = true := fun o h => RK.wanted_if h (hF.yields rfl rfl rfl (by kernel_rfl) (of_decide_eq_true (by kernel_rfl)) (hF.post 14 (by kernel_rfl)))
          refine RK.owes_exec (v := .agg p.cells) (w' := w') rfl (hwn _ rfl) ?_ (Below.refl _ _) rfl
          exact load_pbox hF.S.1 rfl r4
        · have r11 : a'.eval (.tmp 11) = .slice ao5 s c5 := (hF.old 11 (.inr rfl)).trans rfl
          have hwn : ∀ o : Oper, o.guard = some (14, true) → Region.wanted o _ = true := fun o h => RK.wanted_if h (hF.yields rfl rfl rfl (by kernel_rfl) (of_decide_eq_true (by kernel_rfl)) (hF.post 14 (by kernel_rfl)))
          refine RK.owes_exec (v := .slice ao5 s c5) (w' := w') rfl (hwn _ rfl) ?_ (Below.refl _ _) rfl
          have rk : ∀ c, a'.eval (.const c) = c := fun _ => rfl
          generalize a'.eval = ρ at *
          go_simp
        · have r3 : a'.eval (.tmp 3) = .int .u64 (x : Int) := (hF.old 3 (.inr rfl)).trans rfl
          have hwn : ∀ o : Oper, o.guard = some (14, true) → Region.wanted o _ = true := fun o h => RK.wanted_if h (hF.yields rfl rfl rfl (by kernel_rfl) (of_decide_eq_true (by kernel_rfl)) (hF.post 14 (by kernel_rfl)))
          refine RK.owes_exec (v := .int .u64 (x : Int)) (w' := w') rfl (hwn _ rfl) ?_ (Below.refl _ _) rfl
          have rk : ∀ c, a'.eval (.const c) = c := fun _ => rfl
          generalize a'.eval = ρ at *
          go_simp
        · have p15 : val 15 = .agg p.cells := hF.post 15 (by kernel_rfl)
          have r108 : a'.eval (.tmp 108) = .agg p.cells := (hF.ev 108 15 rfl (by kernel_rfl) (of_decide_eq_true (by kernel_rfl))).trans p15
          have p16 : val 16 = .slice ao5 s c5 := hF.post 16 (by kernel_rfl)
          have r109 : a'.eval (.tmp 109) = .slice ao5 s c5 := (hF.ev 109 16 rfl (by kernel_rfl) (of_decide_eq_true (by kernel_rfl))).trans p16
          have p17 : val 17 = .int .u64 (x : Int) := hF.post 17 (by kernel_rfl)
          have r110 : a'.eval (.tmp 110) = .int .u64 (x : Int) := (hF.ev 110 17 rfl (by kernel_rfl) (of_decide_eq_true (by kernel_rfl))).trans p17
          have hwn : ∀ o : Oper, o.guard = some (14, true) → Region.wanted o _ = true := fun o h => RK.wanted_if h (hF.yields rfl rfl rfl (by kernel_rfl) (of_decide_eq_true (by kernel_rfl)) (hF.post 14 (by kernel_rfl)))
          refine RK.owes_call (g := 17) (args := #[.agg p.cells, .slice ao5 s c5, .int .u64 (x : Int)]) rfl (hwn _ rfl) ?_ ?_
          · have rk : ∀ c, a'.eval (.const c) = c := fun _ => rfl
            have rf : ∀ f, a'.eval (.func f) = .func (.func f) #[] #[] := fun _ => rfl
            generalize a'.eval = ρ at *
            go_simp
          · refine (colComs_two HG.out hFl (by omega) (by omega) hx (fun _ _ _ => rfl) hF.S.2.1).mono ?_
            rintro e w2 ⟨v, rfl, hv, hb⟩
            exact ⟨_, rfl, hb, hv⟩
        · have r4 : a'.eval (.tmp 4) = .pointer (some ⟨g, 0, none⟩) := (hF.old 4 (.inr rfl)).trans rfl
          have hwn : ∀ o : Oper, o.guard = some (14, true) → Region.wanted o _ = true := fun o h => RK.wanted_if h (hF.yields rfl rfl rfl (by kernel_rfl) (of_decide_eq_true (by kernel_rfl)) (hF.post 14 (by kernel_rfl)))
          refine RK.owes_exec (v := .agg p.cells) (w' := w') rfl (hwn _ rfl) ?_ (Below.refl _ _) rfl
          exact load_pbox hF.S.1 rfl r4
        · have r14 : a'.eval (.tmp 14) = .slice r2 s d2 := (hF.old 14 (.inr rfl)).trans rfl
          have hwn : ∀ o : Oper, o.guard = some (14, true) → Region.wanted o _ = true := fun o h => RK.wanted_if h (hF.yields rfl rfl rfl (by kernel_rfl) (of_decide_eq_true (by kernel_rfl)) (hF.post 14 (by kernel_rfl)))
          refine RK.owes_exec (v := .slice r2 s d2) (w' := w') rfl (hwn _ rfl) ?_ (Below.refl _ _) rfl
          have rk : ∀ c, a'.eval (.const c) = c := fun _ => rfl
          generalize a'.eval = ρ at *
          go_simp
        · have r15 : a'.eval (.tmp 15) = .slice r3 s d3 := (hF.old 15 (.inr rfl)).trans rfl
          have hwn : ∀ o : Oper, o.guard = some (14, true) → Region.wanted o _ = true := fun o h => RK.wanted_if h (hF.yields rfl rfl rfl (by kernel_rfl) (of_decide_eq_true (by kernel_rfl)) (hF.post 14 (by kernel_rfl)))
          refine RK.owes_exec (v := .slice r3 s d3) (w' := w') rfl (hwn _ rfl) ?_ (Below.refl _ _) rfl
          have rk : ∀ c, a'.eval (.const c) = c := fun _ => rfl
          generalize a'.eval = ρ at *
          go_simp
        · have p19 : val 19 = .agg p.cells := hF.post 19 (by kernel_rfl)
          have r112 : a'.eval (.tmp 112) = .agg p.cells := (hF.ev 112 19 rfl (by kernel_rfl) (of_decide_eq_true (by kernel_rfl))).trans p19
          have p20 : val 20 = .slice r2 s d2 := hF.post 20 (by kernel_rfl)
          have r113 : a'.eval (.tmp 113) = .slice r2 s d2 := (hF.ev 113 20 rfl (by kernel_rfl) (of_decide_eq_true (by kernel_rfl))).trans p20
          have p21 : val 21 = .slice r3 s d3 := hF.post 21 (by kernel_rfl)
          have r114 : a'.eval (.tmp 114) = .slice r3 s d3 := (hF.ev 114 21 rfl (by kernel_rfl) (of_decide_eq_true (by kernel_rfl))).trans p21
          have hwn : ∀ o : Oper, o.guard = some (14, true) → Region.wanted o _ = true := fun o h => RK.wanted_if h (hF.yields rfl rfl rfl (by kernel_rfl) (of_decide_eq_true (by kernel_rfl)) (hF.post 14 (by kernel_rfl)))
          refine RK.owes_call (g := 16) (args := #[.agg p.cells, .slice r2 s d2, .slice r3 s d3]) rfl (hwn _ rfl) ?_ ?_
          · have rk : ∀ c, a'.eval (.const c) = c := fun _ => rfl
            have rf : ∀ f, a'.eval (.func f) = .func (.func f) #[] #[] := fun _ => rfl
            generalize a'.eval = ρ at *
            go_simp
          · refine (coms_two p HOK.out.b2 HOK.out.b3 (fun _ _ => MM.colP_lt _ _ _ _ _) (fun _ _ => MM.colP_lt _ _ _ _ _) (by omega) (by omega) hF.S.2.2.2.2.1 hF.S.2.2.2.2.2.1).mono ?_
            rintro e w2 ⟨v, rfl, hv, hb⟩
            exact ⟨_, rfl, hb, hv⟩
        · obtain ⟨ao18, c18, e18, h18⟩ : ∃ ao c, val 18 = .slice ao s c ∧ Mat w' ao s (fun _ => t) (fun s i => MM.comU p.P p.G p.H (MM.colP p.Q x (fun _ => t) (A s) i) (MM.colP p.Q x (fun _ => t) (B s) i)) := (hF.post 18 (by kernel_rfl))
          have r111 : a'.eval (.tmp 111) = .slice ao18 s c18 := (hF.ev 111 18 rfl (by kernel_rfl) (of_decide_eq_true (by kernel_rfl))).trans e18
          obtain ⟨ao22, c22, e22, h22⟩ : ∃ ao c, val 22 = .slice ao s c ∧ Mat w' ao s (fun _ => t) (fun s i => MM.comU p.P p.G p.H (MM.colP p.Q x (fun _ => t) (A s) i) (MM.colP p.Q x (fun _ => t) (B s) i)) := (hF.post 22 (by kernel_rfl))
          have r115 : a'.eval (.tmp 115) = .slice ao22 s c22 := (hF.ev 115 22 rfl (by kernel_rfl) (of_decide_eq_true (by kernel_rfl))).trans e22
          have hwn : ∀ o : Oper, o.guard = some (14, true) → Region.wanted o _ = true := fun o h => RK.wanted_if h (hF.yields rfl rfl rfl (by kernel_rfl) (of_decide_eq_true (by kernel_rfl)) (hF.post 14 (by kernel_rfl)))
          refine RK.owes_call (g := 14) (args := #[.slice ao18 s c18, .slice ao22 s c22]) rfl (hwn _ rfl) ?_ ?_
          · have rk : ∀ c, a'.eval (.const c) = c := fun _ => rfl
            have rf : ∀ f, a'.eval (.func f) = .func (.func f) #[] #[] := fun _ => rfl
            generalize a'.eval = ρ at *
            go_simp
          · refine (lists8_is ⟨by omega, fun _ _ => by show t ≤ 1000; omega⟩ h18 h22).mono ?_
            rintro e w2 ⟨rfl, hb⟩
            exact ⟨_, rfl, hb, rfl⟩
        · have p14 : val 14 = .bool true := hF.post 14 (by kernel_rfl)
          have r107 : a'.eval (.tmp 107) = .bool true := (hF.ev 107 14 rfl (by kernel_rfl) (of_decide_eq_true (by kernel_rfl))).trans p14
          have p23 : val 23 = .bool true := hF.post 23 (by kernel_rfl)
          have r116 : a'.eval (.tmp 116) = .bool true := (hF.ev 116 23 rfl (by kernel_rfl) (of_decide_eq_true (by kernel_rfl))).trans p23
          refine RK.owes_exec (v := .bool true) (w' := w') rfl (RK.wanted_any rfl) ?_ (Below.refl _ _) rfl
          have rk : ∀ c, a'.eval (.const c) = c := fun _ => rfl
          generalize a'.eval = ρ at *
          go_simp
        · have p24 : val 24 = .bool true := hF.post 24 (by kernel_rfl)
          have r117 : a'.eval (.tmp 117) = .bool true := (hF.ev 117 24 rfl (by kernel_rfl) (of_decide_eq_true (by kernel_rfl))).trans p24
          refine RK.owes_exec (v := .bool true) (w' := w') rfl (RK.wanted_any rfl) ?_ (Below.refl _ _) rfl
          have rk : ∀ c, a'.eval (.const c) = c := fun _ => rfl
          generalize a'.eval = ρ at *
          go_simp
      · have hz : val 25 = .bool true := hp 25 (of_decide_eq_true (by kernel_rfl))
        simp only [RK.slotsL, if_true, hz]
        have hbw := hw.2.2.2.2.2.2
        clear hp hw
        go_wp2_with fail
        go_ret
        exact ⟨rfl, hbw⟩
theorem walk (p : Pm) (v1 v2 : Value) (x : Nat) (ok : PmOk p) (hx : x < 18446744073709551616) (w : World) (hv1 : NumsIn w v1) (hv2 : NumsIn w v2) (hl : Laid w) :
    Calls Tryd.prog 3 #[.agg p.cells, v1, v2, .int .u64 (x : Int)] w fun e w' => e = .returned (.bool true) ∧ Below w.heap.size w w' := by
  obtain ⟨ao, n, cap, z, rfl, hn9, hz, hr⟩ := nums_rd hv1
  obtain ⟨bo, m, capb, y, rfl, hm9, hy, hs⟩ := nums_rd hv2
  cases hm : mayB p
  · exact core_no p ao bo n cap m capb x w hl (hm ▸ may_any p ok.b0 ok.b1 ok.b2 ok.b3)
  · by_cases hn : (1000 : Int) < wrap64 ((n : Int) + (m : Int))
    · exact core_long p ao bo n cap m capb x hn w hl (hm ▸ may_any p ok.b0 ok.b1 ok.b2 ok.b3)
    · exact core p ok hm ao bo n cap m capb x z y hz hy hn9 hm9 hx (by omega) w hl hr hs (hm ▸ may_any p ok.b0 ok.b1 ok.b2 ok.b3)

set_option maxRecDepth 100000 in
theorem lifted (os : Os) (started : os.Started) (H : Type) (enc : TypeId × Value → H) :
    ReturnsInHanded {} Tryd.checked os 3 .any (fun w args => (Rows.pedersenRowsSpec.pre enc Tryd.prog Tryd.f3 Rows.pedersenRowsRow.domain false w args ∧ laidMetH Tryd.prog M.laid w) ∧ sizedMet enc Tryd.prog Tryd.f3 (OpenSpec.ofChange Rows.pedersenRowsSpec) false w args)
      (Rows.pedersenRowsSpec.post enc Tryd.prog Tryd.f3 false true false false) := by
  refine returnsInHanded_of_change_and (C := Tryd.checked) (X := fun w _ => laidMetH Tryd.prog M.laid w) (fun _ _ _ hh h => h.of_heap hh) M.own started (by kernel_rfl) Tryd.func3
    (ChangeSpec.witness_shaped (enc := enc) (C := Tryd.checked) (os := os) (X := fun w _ => laidMetH Tryd.prog M.laid w) false (World.laidAll Tryd.prog os M.laid) #[.agg #[.int .u64 0, .int .u64 0, .int .u64 0, .int .u64 0, .int .i64 0, .int .i64 0, .int .i64 0, .int .i64 0, .int .i64 0, .int .i64 0, .int .i64 0, .int .i64 0], .slice none 0 0, .slice none 0 0, .int .u64 0] 8 (World.laidAll_os _ _ _)
      (World.shaped_of_ZipB (by kernel_rfl) (by kernel_rfl)) (by kernel_rfl) (by kernel_rfl) (by kernel_rfl)
      (by rw [MakeChecks.laidMetH_plain _ _ _ (by kernel_rfl)]; exact laidMet_laidAll _ (by kernel_rfl) (by kernel_rfl))) ?_
  intro W base args ds gs before hval0 hW _ _ hL _
  have hval : ∀ (j : Nat) t v, Tryd.f3.params[j]? = some t → args[j]? = some v → Value.okWide Tryd.prog W .any base t v := hval0
  have hW' := hW
  obtain ⟨p, q, hA0, hV, rfl, _, _⟩ := hW
  have hA : DataW.TrodAll enc Tryd.prog W 0 (fun _ => true) true Tryd.f3.params.toList args.toList ds p := hA0
  rw [Tryd.params3] at hA hval
  obtain ⟨v0, vs0, d0, ds0, p0, q0, hargs, rfl, rfl, h0, r0⟩ := trodAll_cons hA
  obtain ⟨v1, vs1, d1, ds1, p1, q1, rfl, rfl, rfl, h1, r1⟩ := trodAll_cons r0
  obtain ⟨v2, vs2, d2, ds2, p2, q2, rfl, rfl, rfl, h2, r2⟩ := trodAll_cons r1
  obtain ⟨v3, vs3, d3, ds3, p3, q3, rfl, rfl, rfl, h3, r3⟩ := trodAll_cons r2
  obtain ⟨rfl, rfl, rfl⟩ := trodAll_nil r3
  obtain rfl : args = #[v0, v1, v2, v3] := by cases args; simp_all
  obtain ⟨rfl, rfl⟩ := trodVars_none hV
  have k0 := h0
  have lt0 : ∀ x ∈ p0, x.block < W.heap.size := by obtain ⟨m, hm⟩ := k0; exact DataW.trod_lt m _ _ _ hm
  obtain ⟨a0, rfl, ok0⟩ := M.open_pm (hval 0 24 v0 rfl rfl) h0
  have k1 := h1
  have lt1 : ∀ x ∈ p1, x.block < W.heap.size := by obtain ⟨m, hm⟩ := k1; exact DataW.trod_lt m _ _ _ hm
  have ns1 := M.open_nums (hval 1 25 v1 rfl rfl) h1
  have k2 := h2
  have lt2 : ∀ x ∈ p2, x.block < W.heap.size := by obtain ⟨m, hm⟩ := k2; exact DataW.trod_lt m _ _ _ hm
  have ns2 := M.open_nums (hval 2 25 v2 rfl rfl) h2
  have k3 := h3
  have lt3 : ∀ x ∈ p3, x.block < W.heap.size := by obtain ⟨m, hm⟩ := k3; exact DataW.trod_lt m _ _ _ hm
  obtain ⟨x3, rfl, rfl, rfl, w3⟩ := open_int Tryd.underlying22 (hval 3 22 v3 rfl rfl) h3
  obtain ⟨lo3, hi3⟩ := M.u64_bounds w3
  obtain ⟨a3, rfl⟩ : ∃ a : Nat, x3 = a := ⟨x3.toNat, by omega⟩
  clear hA0 hval0
  simp only [List.append_nil] at hW'
  refine (walk a0 v1 v2 a3 ok0 (by omega) W ns1 ns2 (M.of_laid hL)).mono fun e W' ⟨he, bel⟩ => ?_
  subst he
  exact ⟨_, rfl, _, _, _, [], _, [], hW', (trodAll_cons_mk (shut_bool Tryd.underlying4 _) trodAll_mk0), (trodAll_cons_mk (Below.trod M.laidOut (by kernel_rfl) (of_decide_eq_true (by kernel_rfl)) k0 bel lt0) (trodAll_cons_mk (Below.trod M.laidOut (by kernel_rfl) (of_decide_eq_true (by kernel_rfl)) k1 bel lt1) (trodAll_cons_mk (Below.trod M.laidOut (by kernel_rfl) (of_decide_eq_true (by kernel_rfl)) k2 bel lt2) (trodAll_cons_mk (Below.trod M.laidOut (by kernel_rfl) (of_decide_eq_true (by kernel_rfl)) k3 bel lt3) trodAll_mk0)))), rfl, bel.frame _, fun h => by cases h⟩

theorem holds : Rows.PedersenRowsSaid :=
  OpenClaim.holds_of_wide 3 Tryd.f3 rfl rfl rfl rfl rfl rfl rfl ⟨rfl, rfl, rfl, rfl, rfl⟩ rfl rfl rfl rfl rfl (by kernel_rfl) Tryd.func3 (by kernel_rfl)
    (of_decide_eq_true (by kernel_rfl)) (by unfold Func.isWrapper; first | (rw [if_pos (by decide +kernel)]; kernel_rfl) | (rw [if_neg (by decide +kernel)]; exact ⟨rfl, rfl⟩))
    (fun os started H enc _ => lifted os started H enc)

end PedersenRows

theorem pedersenRows_card_holds : Rows.PedersenRowsCardSaid :=
  Claim7.holds_tied_plain_at .later [] [.data, .data] true _ false PedersenRows.holds (fun _ h => by cases h) (by kernel_rfl) (fun _ h => by cases h) pedersenRows_row_tie rfl ⟨rfl, rfl⟩ (by kernel_rfl) rfl
    (fun f fn hf hfn => by
      obtain rfl : f = 3 := Option.some.inj ((show Tryd.prog.funcNamed "consistory/consistorylaw08.PedersenRows" = some 3 by kernel_rfl).symm.trans hf) |>.symm
      obtain rfl : fn = Tryd.f3 := (Option.some.inj (Tryd.func3.symm.trans hfn)).symm
      exact ⟨by kernel_rfl, fun j t ht => by
        rw [Tryd.params3] at ht
        have hm : t ∈ [24, 25, 25, 22] := by simpa using Array.mem_of_getElem? ht
        have hall : ([24, 25, 25, 22].all fun u => !Tryd.prog.wantsStandIn u) = true := by kernel_rfl
        exact (show Tryd.prog.wantsStandIn t = false by simpa using List.all_eq_true.1 hall t hm)⟩)
    (by kernel_rfl)
#print axioms pedersenRows_card_holds
end Go.Proofs.YtlnlepadninnaaaDoor

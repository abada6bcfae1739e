/- ModNames: the closed statement of the examples, of the least and the greatest modulus, and of primes and what is nearly one, answers true; the program's two tables are laid by its own text (the card ties them). -/
import Derived.Test.YtojekblcdokjjaaDoorCards
import Derived.Test.YtojekblcdokjjaaDoorTie
import Derived.Test.YtojekblcdokjjaaDoorModFrame
import Derived.Lay
import Derived.Test.YtojekblcdokjjaaDoorModRet
import Derived.Test.YtojekblcdokjjaaDoorModMath6
import Derived.Deep.RegionHeld
namespace Go.Proofs.YtojekblcdokjjaaDoor
open Go.ChangeShapes Go.WideShapes Go.ChangeAt Go.RowKit
namespace ModNames
open M

def L1 : List Nat := [0, 2305843009213693953, 18446744073709551615]
def L2 : List Nat := [2, 3, 5, 37, 41, 97, 65537, 1000003, 2147483647, 2305843009213693951]
def L3 : List Nat := [0, 1, 4, 9, 561, 1369, 2047, 3215031751, 3474749660383, 341550071728321, 140739635773439, 2305843009213693952, 2305843009213693967, 18446744073709551557]
theorem l1_bad : ∀ k, k < 3 → L1.getD k 0 = 0 ∨ 2305843009213693952 < L1.getD k 0 := by decide
theorem l2_prime : ∀ k, k < 10 → MM.primeF (L2.getD k 0) = true := by decide +kernel
theorem l3_not : ∀ k, k < 14 → MM.primeF (L3.getD k 0) = false := by decide +kernel

/-- The cells of a slice that lists numbers. -/
def nums (l : List Nat) : Array Value := (l.map fun n : Nat => Value.int .u64 (n : Int)).toArray
theorem nums_cell (w : World) (l : List Nat) (t : TypeId) (k : Nat) (h : k < l.length) : (w.alloc (.cells (nums l) t)).cell? ⟨w.heap.size, k, none⟩ = some (.int .u64 ((l.getD k 0 : Nat) : Int)) := by
  rw [World.cell?_alloc_new]
  unfold nums
  simp [List.getD_eq_getElem?_getD, List.getElem?_eq_getElem h]
theorem laid_alloc {w : World} (h : Laid w) (o : Obj) : Laid (w.alloc o) := by
  obtain ⟨⟨t, fr, h1⟩, h2⟩ := h
  refine ⟨⟨t, fr, ?_⟩, fun j hj => ?_⟩
  · have hs : (0 : Nat) < w.heap.size := by
      rcases Nat.lt_or_ge (0 : Nat) w.heap.size with h | h
      · exact h
      · rw [Array.getElem?_eq_none h] at h1; cases h1
    rw [heap_alloc_old _ _ hs]; exact h1
  · have := h2 j hj
    rw [World.cell?_alloc_some _ _ _ (by rw [this]; rfl)]; exact this

theorem A1 : Ret 12 #[.int .u64 5, .int .u64 1] (.tuple #[.int .u64 0, .int .i64 0]) := ret_inv 5 1 0 (by omega) (by omega) ⟨by omega, by decide +kernel⟩
theorem B1 : Ret 13 #[.int .u64 7, .int .u64 8, .int .u64 1] (.int .u64 0) := ret_add 7 8 1 0 (by omega) (by omega) (by decide +kernel)
theorem B2 : Ret 16 #[.int .u64 9, .int .u64 0, .int .u64 1] (.int .u64 0) := ret_pow 9 0 1 0 (by omega) (by omega) (by omega) (by omega) (by rw [MM.powF_eq _ _ _ (by omega) (by omega)]; decide +kernel)
theorem C1 : Ret 12 #[.int .u64 2305843009213693951, .int .u64 2305843009213693952] (.tuple #[.int .u64 2305843009213693951, .int .i64 0]) := ret_inv 2305843009213693951 2305843009213693952 2305843009213693951 (by omega) (by omega) ⟨by omega, by decide +kernel⟩
theorem D1 : Ret 12 #[.int .u64 0, .int .u64 11] (.tuple #[.int .u64 0, .int .i64 5]) := ret_inv_none 0 11 (by omega) (by omega) (by decide)
theorem E1 : Ret 13 #[.int .u64 2305843009213693951, .int .u64 2305843009213693951, .int .u64 2305843009213693952] (.int .u64 2305843009213693950) := ret_add 2305843009213693951 2305843009213693951 2305843009213693952 2305843009213693950 (by omega) (by omega) (by decide +kernel)
theorem E2 : Ret 14 #[.int .u64 0, .int .u64 1, .int .u64 2305843009213693952] (.int .u64 2305843009213693951) := ret_sub 0 1 2305843009213693952 2305843009213693951 (by omega) (by omega) (by decide +kernel)
theorem E3 : Ret 15 #[.int .u64 2305843009213693951, .int .u64 2305843009213693951, .int .u64 2305843009213693952] (.int .u64 1) := ret_mul 2305843009213693951 2305843009213693951 2305843009213693952 1 (by omega) (by omega) (by omega) (by omega) (by decide +kernel)
theorem E4 : Ret 16 #[.int .u64 2305843009213693951, .int .u64 18446744073709551615, .int .u64 2305843009213693952] (.int .u64 2305843009213693951) := ret_pow 2305843009213693951 18446744073709551615 2305843009213693952 2305843009213693951 (by omega) (by omega) (by omega) (by omega) (by rw [MM.powF_eq _ _ _ (by omega) (by omega)]; decide +kernel)
theorem E5 : Ret 15 #[.int .u64 18446744073709551615, .int .u64 18446744073709551615, .int .u64 2305843009213693951] (.int .u64 49) := ret_mul 18446744073709551615 18446744073709551615 2305843009213693951 49 (by omega) (by omega) (by omega) (by omega) (by decide +kernel)
theorem F1 : Ret 16 #[.int .u64 0, .int .u64 0, .int .u64 11] (.int .u64 1) := ret_pow 0 0 11 1 (by omega) (by omega) (by omega) (by omega) (by rw [MM.powF_eq _ _ _ (by omega) (by omega)]; decide +kernel)
theorem F2 : Ret 13 #[.int .u64 1, .int .u64 1, .int .u64 0] (.int .u64 0) := ret_no _ (.inl rfl) 1 1 0 (.inl rfl)

set_option maxHeartbeats 4000000 in
set_option maxRecDepth 100000 in
theorem walk (w : World) (hl : Laid w) : Calls Tryd.prog 3 #[] w fun e w' => e = .returned (.bool true) ∧ Grown w w' := by
  have HK := ret_awake
  have HL := Lib.hid hl
  clear hl
  go_enter Tryd.func3, Tryd.ntmps3
  go_wp2_with (go_at_call 11; (with_reducible refine (HK.at _ HL.out).mono ?_); rintro e w' ⟨rfl, n, rfl⟩)
  have HC1 : Hid (∀ k, k < 3 → ((w.drewN n).alloc (.cells (nums L1) 23)).cell? ⟨w.heap.size, k, none⟩ = some (.int .u64 ((L1.getD k 0 : Nat) : Int))) := fun k hk => nums_cell (w.drewN n) L1 23 k hk
  have HG1 : Hid (Grown w ((w.drewN n).alloc (.cells (nums L1) 23))) := (grown_drewN (Grown.refl w) _).alloc _ _
  have HL1 := Lib.hid (laid_alloc (HL.out.drewN n) (.cells (nums L1) 23))
  have eW : (w.drewN n).alloc (.cells (nums L1) 23) = (w.drewN n).alloc (.cells #[.int .u64 0, .int .u64 2305843009213693953, .int .u64 18446744073709551615] 23) := rfl
  rw [← eW]
  clear eW
  generalize (w.drewN n).alloc (.cells (nums L1) 23) = W1 at *
  go_loopw [21] (fun s21 wx => ∃ k n : Nat, k ≤ 3 ∧ s21 = .int .i64 (k : Int) ∧ wx = W1.drewN n) (fun s21 _ => 3 - (RowKit.intOf s21).toNat)
  case atStart => exact ⟨0, 0, by omega, rfl, rfl⟩
  case round =>
    obtain ⟨k, n1, hk, rfl, rfl⟩ := hrel
    by_cases h3 : k < 3
    · have hcell := HC1.out k h3
      have hbad := l1_bad k h3
      generalize L1.getD k 0 = v at *
      have N1 : Ret 12 #[.int .u64 1, .int .u64 (v : Int)] (.tuple #[.int .u64 0, .int .i64 1]) := ret_inv_no 1 v hbad
      have N2 : Ret 13 #[.int .u64 1, .int .u64 1, .int .u64 (v : Int)] (.int .u64 0) := ret_no _ (.inl rfl) 1 1 v hbad
      have N3 : Ret 14 #[.int .u64 3, .int .u64 1, .int .u64 (v : Int)] (.int .u64 0) := ret_no _ (.inr (.inl rfl)) 3 1 v hbad
      have N4 : Ret 15 #[.int .u64 3, .int .u64 3, .int .u64 (v : Int)] (.int .u64 0) := ret_no _ (.inr (.inr (.inl rfl))) 3 3 v hbad
      have N5 : Ret 16 #[.int .u64 3, .int .u64 3, .int .u64 (v : Int)] (.int .u64 0) := ret_no _ (.inr (.inr (.inr rfl))) 3 3 v hbad
      have N6 : Ret 16 #[.int .u64 3, .int .u64 0, .int .u64 (v : Int)] (.int .u64 0) := ret_no _ (.inr (.inr (.inr rfl))) 3 0 v hbad
      clear hbad
      have h3' : (k : Int) < 3 := by omega
      go_wp2_with (first | (go_at_call 12; first | ((with_reducible refine (N1.at _).mono ?_); rintro e w' ⟨rfl, n, rfl⟩)) | (go_at_call 13; first | ((with_reducible refine (N2.at _).mono ?_); rintro e w' ⟨rfl, n, rfl⟩)) | (go_at_call 14; first | ((with_reducible refine (N3.at _).mono ?_); rintro e w' ⟨rfl, n, rfl⟩)) | (go_at_call 15; first | ((with_reducible refine (N4.at _).mono ?_); rintro e w' ⟨rfl, n, rfl⟩)) | (go_at_call 16; first | ((with_reducible refine (N5.at _).mono ?_); rintro e w' ⟨rfl, n, rfl⟩) | ((with_reducible refine (N6.at _).mono ?_); rintro e w' ⟨rfl, n, rfl⟩)))
      go_roundw
      case rel => exact ⟨k + 1, _, by omega, int_eq (by omega), rfl⟩
      case measure => simp [RowKit.intOf]; omega
    · have h3' : ¬ ((k : Int) < 3) := by omega
      go_wp2_with (first | (go_at_call 12; first | ((with_reducible refine (A1.at _).mono ?_); rintro e w' ⟨rfl, n, rfl⟩) | ((with_reducible refine (C1.at _).mono ?_); rintro e w' ⟨rfl, n, rfl⟩) | ((with_reducible refine (D1.at _).mono ?_); rintro e w' ⟨rfl, n, rfl⟩)) | (go_at_call 13; first | ((with_reducible refine (B1.at _).mono ?_); rintro e w' ⟨rfl, n, rfl⟩) | ((with_reducible refine (E1.at _).mono ?_); rintro e w' ⟨rfl, n, rfl⟩) | ((with_reducible refine (F2.at _).mono ?_); rintro e w' ⟨rfl, n, rfl⟩)) | (go_at_call 16; first | ((with_reducible refine (B2.at _).mono ?_); rintro e w' ⟨rfl, n, rfl⟩) | ((with_reducible refine (E4.at _).mono ?_); rintro e w' ⟨rfl, n, rfl⟩) | ((with_reducible refine (F1.at _).mono ?_); rintro e w' ⟨rfl, n, rfl⟩)) | (go_at_call 14; first | ((with_reducible refine (E2.at _).mono ?_); rintro e w' ⟨rfl, n, rfl⟩)) | (go_at_call 15; first | ((with_reducible refine (E3.at _).mono ?_); rintro e w' ⟨rfl, n, rfl⟩) | ((with_reducible refine (E5.at _).mono ?_); rintro e w' ⟨rfl, n, rfl⟩)))
      generalize hV : W1.drewN _ = V2
      have HC2 : Hid (∀ k, k < 10 → (V2.alloc (.cells (nums L2) 23)).cell? ⟨W1.heap.size, k, none⟩ = some (.int .u64 ((L2.getD k 0 : Nat) : Int))) := by
        intro k hk
        rw [← hV]
        exact nums_cell _ L2 23 k hk
      have HG2 : Hid (Grown w (V2.alloc (.cells (nums L2) 23))) := by
        rw [← hV]
        exact (grown_drewN HG1.out _).alloc _ _
      have HL2 : Hid (Laid (V2.alloc (.cells (nums L2) 23))) := by
        rw [← hV]
        exact laid_alloc (HL1.out.drewN _) _
      clear hV
      have eW : V2.alloc (.cells (nums L2) 23) = V2.alloc (.cells #[.int .u64 2, .int .u64 3, .int .u64 5, .int .u64 37, .int .u64 41, .int .u64 97, .int .u64 65537, .int .u64 1000003, .int .u64 2147483647, .int .u64 2305843009213693951] 23) := rfl
      rw [← eW]
      clear eW
      generalize V2.alloc (.cells (nums L2) 23) = W2 at *
      go_loopw [116] (fun s21 wx => ∃ k n : Nat, k ≤ 10 ∧ s21 = .int .i64 (k : Int) ∧ wx = W2.drewN n) (fun s21 _ => 10 - (RowKit.intOf s21).toNat)
      case atStart => exact ⟨0, 0, by omega, rfl, rfl⟩
      case round =>
        obtain ⟨k2, n2, hk2, rfl, rfl⟩ := hrel
        by_cases h32 : k2 < 10
        · have hcell := HC2.out k2 h32
          have hpr := l2_prime k2 h32
          generalize L2.getD k2 0 = v at *
          have HP := ret_prime v true (by rw [← hpr]; exact MM.primeF_eq v)
          clear hpr
          have h3' : (k2 : Int) < 10 := by omega
          go_wp2_with (go_at_call 17; (with_reducible refine (HP.at _ (HL2.out.drewN _)).mono ?_); rintro e w' ⟨rfl, n, rfl⟩)
          go_roundw
          case rel => exact ⟨k2 + 1, _, by omega, int_eq (by omega), rfl⟩
          case measure => simp [RowKit.intOf]; omega
        · have h3' : ¬ ((k2 : Int) < 10) := by omega
          go_wp2_with (first | (go_at_call 12; first | ((with_reducible refine (A1.at _).mono ?_); rintro e w' ⟨rfl, n, rfl⟩) | ((with_reducible refine (C1.at _).mono ?_); rintro e w' ⟨rfl, n, rfl⟩) | ((with_reducible refine (D1.at _).mono ?_); rintro e w' ⟨rfl, n, rfl⟩)) | (go_at_call 13; first | ((with_reducible refine (B1.at _).mono ?_); rintro e w' ⟨rfl, n, rfl⟩) | ((with_reducible refine (E1.at _).mono ?_); rintro e w' ⟨rfl, n, rfl⟩) | ((with_reducible refine (F2.at _).mono ?_); rintro e w' ⟨rfl, n, rfl⟩)) | (go_at_call 16; first | ((with_reducible refine (B2.at _).mono ?_); rintro e w' ⟨rfl, n, rfl⟩) | ((with_reducible refine (E4.at _).mono ?_); rintro e w' ⟨rfl, n, rfl⟩) | ((with_reducible refine (F1.at _).mono ?_); rintro e w' ⟨rfl, n, rfl⟩)) | (go_at_call 14; first | ((with_reducible refine (E2.at _).mono ?_); rintro e w' ⟨rfl, n, rfl⟩)) | (go_at_call 15; first | ((with_reducible refine (E3.at _).mono ?_); rintro e w' ⟨rfl, n, rfl⟩) | ((with_reducible refine (E5.at _).mono ?_); rintro e w' ⟨rfl, n, rfl⟩)))
          generalize hV : W2.drewN _ = V3
          have HC3 : Hid (∀ k, k < 14 → (V3.alloc (.cells (nums L3) 23)).cell? ⟨W2.heap.size, k, none⟩ = some (.int .u64 ((L3.getD k 0 : Nat) : Int))) := by
            intro k hk
            rw [← hV]
            exact nums_cell _ L3 23 k hk
          have HG3 : Hid (Grown w (V3.alloc (.cells (nums L3) 23))) := by
            rw [← hV]
            exact (grown_drewN HG2.out _).alloc _ _
          have HL3 : Hid (Laid (V3.alloc (.cells (nums L3) 23))) := by
            rw [← hV]
            exact laid_alloc (HL2.out.drewN _) _
          clear hV
          have eW : V3.alloc (.cells (nums L3) 23) = V3.alloc (.cells #[.int .u64 0, .int .u64 1, .int .u64 4, .int .u64 9, .int .u64 561, .int .u64 1369, .int .u64 2047, .int .u64 3215031751, .int .u64 3474749660383, .int .u64 341550071728321, .int .u64 140739635773439, .int .u64 2305843009213693952, .int .u64 2305843009213693967, .int .u64 18446744073709551557] 23) := rfl
          rw [← eW]
          clear eW
          generalize V3.alloc (.cells (nums L3) 23) = W3 at *
          go_loopw [126] (fun s21 wx => ∃ k n : Nat, k ≤ 14 ∧ s21 = .int .i64 (k : Int) ∧ wx = W3.drewN n) (fun s21 _ => 14 - (RowKit.intOf s21).toNat)
          case atStart => exact ⟨0, 0, by omega, rfl, rfl⟩
          case round =>
            obtain ⟨k3, n3, hk3, rfl, rfl⟩ := hrel
            by_cases h33 : k3 < 14
            · have hcell := HC3.out k3 h33
              have hpr := l3_not k3 h33
              generalize L3.getD k3 0 = v at *
              have HP := ret_prime v false (by rw [← hpr]; exact MM.primeF_eq v)
              clear hpr
              have h3' : (k3 : Int) < 14 := by omega
              go_wp2_with (go_at_call 17; (with_reducible refine (HP.at _ (HL3.out.drewN _)).mono ?_); rintro e w' ⟨rfl, n, rfl⟩)
              go_roundw
              case rel => exact ⟨k3 + 1, _, by omega, int_eq (by omega), rfl⟩
              case measure => simp [RowKit.intOf]; omega
            · have h3' : ¬ ((k3 : Int) < 14) := by omega
              go_wp2_with (first | (go_at_call 12; first | ((with_reducible refine (A1.at _).mono ?_); rintro e w' ⟨rfl, n, rfl⟩) | ((with_reducible refine (C1.at _).mono ?_); rintro e w' ⟨rfl, n, rfl⟩) | ((with_reducible refine (D1.at _).mono ?_); rintro e w' ⟨rfl, n, rfl⟩)) | (go_at_call 13; first | ((with_reducible refine (B1.at _).mono ?_); rintro e w' ⟨rfl, n, rfl⟩) | ((with_reducible refine (E1.at _).mono ?_); rintro e w' ⟨rfl, n, rfl⟩) | ((with_reducible refine (F2.at _).mono ?_); rintro e w' ⟨rfl, n, rfl⟩)) | (go_at_call 16; first | ((with_reducible refine (B2.at _).mono ?_); rintro e w' ⟨rfl, n, rfl⟩) | ((with_reducible refine (E4.at _).mono ?_); rintro e w' ⟨rfl, n, rfl⟩) | ((with_reducible refine (F1.at _).mono ?_); rintro e w' ⟨rfl, n, rfl⟩)) | (go_at_call 14; first | ((with_reducible refine (E2.at _).mono ?_); rintro e w' ⟨rfl, n, rfl⟩)) | (go_at_call 15; first | ((with_reducible refine (E3.at _).mono ?_); rintro e w' ⟨rfl, n, rfl⟩) | ((with_reducible refine (E5.at _).mono ?_); rintro e w' ⟨rfl, n, rfl⟩)))
              go_ret
              exact ⟨rfl, grown_drewN HG3.out _⟩


set_option maxRecDepth 100000 in
theorem lifted (os : Os) (started : os.Started) (H : Type) (enc : TypeId × Value → H) :
    ReturnsInHanded {} Tryd.checked os 3 .any (fun w args => (Rows.modNamesSpec.pre enc Tryd.prog Tryd.f3 Rows.modNamesRow.domain false w args ∧ laidMetH Tryd.prog M.laid w) ∧ sizedMet enc Tryd.prog Tryd.f3 (OpenSpec.ofChange Rows.modNamesSpec) false w args)
      (Rows.modNamesSpec.post enc Tryd.prog Tryd.f3 false true false false) := by
  refine returnsInHanded_of_change_and (C := Tryd.checked) (X := fun w _ => laidMetH Tryd.prog M.laid w) (fun _ _ _ hh h => h.of_heap hh) M.own started (by kernel_rfl) Tryd.func3
    (ChangeSpec.witness_shaped (enc := enc) (C := Tryd.checked) (os := os) (X := fun w _ => laidMetH Tryd.prog M.laid w) false (World.laidAll Tryd.prog os M.laid) #[] 8 (World.laidAll_os _ _ _)
      (World.shaped_of_ZipB (by kernel_rfl) (by kernel_rfl)) (by kernel_rfl) (by kernel_rfl) (by kernel_rfl)
      (by rw [MakeChecks.laidMetH_plain _ _ _ (by kernel_rfl)]; exact laidMet_laidAll _ (by kernel_rfl) (by kernel_rfl))) ?_
  intro W base args ds gs before hval0 hW _ _ hL _
  have hval : ∀ (j : Nat) t v, Tryd.f3.params[j]? = some t → args[j]? = some v → Value.okWide Tryd.prog W .any base t v := hval0
  have hW' := hW
  obtain ⟨p, q, hA0, hV, rfl, _, _⟩ := hW
  have hA : DataW.TrodAll enc Tryd.prog W 0 (fun _ => true) true Tryd.f3.params.toList args.toList ds p := hA0
  rw [Tryd.params3] at hA hval
  obtain ⟨rfl, rfl, rfl⟩ := trodAll_none hA
  obtain ⟨rfl, rfl⟩ := trodVars_none hV
  clear hA0 hval0
  simp only [List.append_nil] at hW'
  refine (walk   W (M.of_laid hL)).mono fun e W' ⟨he, hg⟩ => ?_
  subst he
  exact ⟨_, rfl, post_of_same (pa := []) (pv := []) hW' (fun _ _ _ => (trodAll_cons_mk (shut_bool Tryd.underlying4 _) trodAll_mk0)) (fun _ _ => trodAll_mk0) (fun _ _ => rfl) rfl
    (hg.frame _) hg.2.1 (ok_one (by kernel_rfl) rfl (okWide_bool_mk Tryd.underlying4 _))⟩

theorem holds : Rows.ModNamesSaid :=
  OpenClaim.holds_of_wide 3 Tryd.f3 rfl rfl rfl rfl rfl rfl rfl ⟨rfl, rfl, rfl, rfl, rfl⟩ rfl rfl rfl rfl rfl (by kernel_rfl) Tryd.func3 (by kernel_rfl)
    (of_decide_eq_true (by kernel_rfl)) (by unfold Func.isWrapper; first | (rw [if_pos (by decide +kernel)]; kernel_rfl) | (rw [if_neg (by decide +kernel)]; exact ⟨rfl, rfl⟩))
    (fun os started H enc _ => lifted os started H enc)

end ModNames

theorem modNames_card_holds : Rows.ModNamesCardSaid :=
  Claim7.holds_tied_plain_at .later [] [.data, .data] true _ false ModNames.holds (fun _ h => by cases h) (by kernel_rfl) (fun _ h => by cases h) modNames_row_tie rfl ⟨rfl, rfl⟩ (by kernel_rfl) rfl
    (fun f fn hf hfn => by
      obtain rfl : f = 3 := Option.some.inj ((show Tryd.prog.funcNamed "consistory/consistorylaw01.ModNames" = some 3 by kernel_rfl).symm.trans hf) |>.symm
      obtain rfl : fn = Tryd.f3 := (Option.some.inj (Tryd.func3.symm.trans hfn)).symm
      exact ⟨by kernel_rfl, fun j t ht => by
        rw [Tryd.params3] at ht
        simp at ht⟩)
    (by kernel_rfl)
#print axioms modNames_card_holds
end Go.Proofs.YtojekblcdokjjaaDoor

/- ModTells: for any four numbers what the program's sum, difference, product, power and inverse modulo m answer is what the document's own answer; the program's two tables are laid by its own text (the card ties them). -/
import Derived.Test.YtojekblcdokjjaaDoorCards
import Derived.Test.YtojekblcdokjjaaDoorTie
import Derived.Test.YtojekblcdokjjaaDoorModFrame
import Derived.Lay
import Derived.Test.YtojekblcdokjjaaDoorModR2
namespace Go.Proofs.YtojekblcdokjjaaDoor
open Go.ChangeShapes Go.WideShapes Go.ChangeAt Go.RowKit
namespace ModTells
open M

set_option maxHeartbeats 4000000 in
set_option maxRecDepth 100000 in
theorem core (a b e m : Nat) (x c s d p q : Int) (w : World) (hl : Laid w)
    (HI : Ret 12 #[.int .u64 (a : Int), .int .u64 (m : Int)] (.tuple #[.int .u64 x, .int .i64 c]))
    (RI : Ret 18 #[.int .u64 (a : Int), .int .u64 (m : Int)] (.tuple #[.int .u64 x, .int .i64 c]))
    (HA : Ret 13 #[.int .u64 (a : Int), .int .u64 (b : Int), .int .u64 (m : Int)] (.int .u64 s))
    (RA : Ret 19 #[.int .u64 (a : Int), .int .u64 (b : Int), .int .u64 (m : Int)] (.int .u64 s))
    (HS : Ret 14 #[.int .u64 (a : Int), .int .u64 (b : Int), .int .u64 (m : Int)] (.int .u64 d))
    (RS : Ret 20 #[.int .u64 (a : Int), .int .u64 (b : Int), .int .u64 (m : Int)] (.int .u64 d))
    (HM : Ret 15 #[.int .u64 (a : Int), .int .u64 (b : Int), .int .u64 (m : Int)] (.int .u64 p))
    (RM : Ret 21 #[.int .u64 (a : Int), .int .u64 (b : Int), .int .u64 (m : Int)] (.int .u64 p))
    (HP : Ret 16 #[.int .u64 (a : Int), .int .u64 (e : Int), .int .u64 (m : Int)] (.int .u64 q))
    (RP : Ret 22 #[.int .u64 (a : Int), .int .u64 (e : Int), .int .u64 (m : Int)] (.int .u64 q)) :
    Calls Tryd.prog 4 #[.int .u64 (a : Int), .int .u64 (b : Int), .int .u64 (e : Int), .int .u64 (m : Int)] w fun e w' => e = .returned (.bool true) ∧ Grown w w' := by
  have HK := ret_awake
  have HL := Lib.hid hl
  clear hl
  go_enter Tryd.func4, Tryd.ntmps4
  go_wp2_with (first | (go_at_call 12; first | ((with_reducible refine (HI.at _).mono ?_); rintro e w' ⟨rfl, n, rfl⟩)) | (go_at_call 18; first | ((with_reducible refine (RI.at _).mono ?_); rintro e w' ⟨rfl, n, rfl⟩)) | (go_at_call 13; first | ((with_reducible refine (HA.at _).mono ?_); rintro e w' ⟨rfl, n, rfl⟩)) | (go_at_call 19; first | ((with_reducible refine (RA.at _).mono ?_); rintro e w' ⟨rfl, n, rfl⟩)) | (go_at_call 14; first | ((with_reducible refine (HS.at _).mono ?_); rintro e w' ⟨rfl, n, rfl⟩)) | (go_at_call 20; first | ((with_reducible refine (RS.at _).mono ?_); rintro e w' ⟨rfl, n, rfl⟩)) | (go_at_call 15; first | ((with_reducible refine (HM.at _).mono ?_); rintro e w' ⟨rfl, n, rfl⟩)) | (go_at_call 21; first | ((with_reducible refine (RM.at _).mono ?_); rintro e w' ⟨rfl, n, rfl⟩)) | (go_at_call 16; first | ((with_reducible refine (HP.at _).mono ?_); rintro e w' ⟨rfl, n, rfl⟩)) | (go_at_call 22; first | ((with_reducible refine (RP.at _).mono ?_); rintro e w' ⟨rfl, n, rfl⟩)) | (go_at_call 11; first | ((with_reducible refine (HK.at _ (HL.out.drewN _)).mono ?_); rintro e w' ⟨rfl, n, rfl⟩) | ((with_reducible refine (HK.at _ HL.out).mono ?_); rintro e w' ⟨rfl, n, rfl⟩)))
  go_ret
  exact ⟨rfl, grown_drewN (Grown.refl w) _⟩

theorem walk (a b e m : Nat) (ha : a < 18446744073709551616) (hb : b < 18446744073709551616) (he : e < 18446744073709551616) (_hm : m < 18446744073709551616) (w : World) (hl : Laid w) :
    Calls Tryd.prog 4 #[.int .u64 (a : Int), .int .u64 (b : Int), .int .u64 (e : Int), .int .u64 (m : Int)] w fun e w' => e = .returned (.bool true) ∧ Grown w w' := by
  rcases bad_or m with hbad | ⟨hm, h61⟩
  · exact core a b e m 0 1 0 0 0 0 w hl (ret_inv_no a m hbad) (rinv_no a m hbad) (ret_no _ (.inl rfl) a b m hbad) (rno_core _ (.inl rfl) a b m hbad) (ret_no _ (.inr (.inl rfl)) a b m hbad) (rno_core _ (.inr rfl) a b m hbad)
      (ret_no _ (.inr (.inr (.inl rfl))) a b m hbad) (rmul_no a b m hbad hb) (ret_no _ (.inr (.inr (.inr rfl))) a e m hbad) (rpow_no a e m hbad ha he)
  · by_cases hg : Nat.gcd a m = 1
    · obtain ⟨X, hX, hret⟩ := rinv_yes a m hm h61 hg
      exact core a b e m X 0 _ _ _ _ w hl (ret_inv a m X hm h61 hX) hret (ret_add _ _ _ _ hm h61 rfl) (radd _ _ _ _ hm h61 rfl) (ret_sub _ _ _ _ hm h61 rfl) (rsub _ _ _ _ hm h61 rfl)
        (ret_mul _ _ _ _ hm h61 ha hb rfl) (rmul _ _ _ _ hm h61 hb rfl) (ret_pow _ _ _ _ hm h61 ha he rfl) (rpow _ _ _ _ hm h61 ha he rfl)
    · exact core a b e m 0 5 _ _ _ _ w hl (ret_inv_none a m hm h61 hg) (rinv_none a m hm h61 hg) (ret_add _ _ _ _ hm h61 rfl) (radd _ _ _ _ hm h61 rfl) (ret_sub _ _ _ _ hm h61 rfl) (rsub _ _ _ _ hm h61 rfl)
        (ret_mul _ _ _ _ hm h61 ha hb rfl) (rmul _ _ _ _ hm h61 hb rfl) (ret_pow _ _ _ _ hm h61 ha he rfl) (rpow _ _ _ _ hm h61 ha he rfl)


set_option maxRecDepth 100000 in
theorem lifted (os : Os) (started : os.Started) (H : Type) (enc : TypeId × Value → H) :
    ReturnsInHanded {} Tryd.checked os 4 .any (fun w args => (Rows.modTellsSpec.pre enc Tryd.prog Tryd.f4 Rows.modTellsRow.domain false w args ∧ laidMetH Tryd.prog M.laid w) ∧ sizedMet enc Tryd.prog Tryd.f4 (OpenSpec.ofChange Rows.modTellsSpec) false w args)
      (Rows.modTellsSpec.post enc Tryd.prog Tryd.f4 false true false false) := by
  refine returnsInHanded_of_change_and (C := Tryd.checked) (X := fun w _ => laidMetH Tryd.prog M.laid w) (fun _ _ _ hh h => h.of_heap hh) M.own started (by kernel_rfl) Tryd.func4
    (ChangeSpec.witness_shaped (enc := enc) (C := Tryd.checked) (os := os) (X := fun w _ => laidMetH Tryd.prog M.laid w) false (World.laidAll Tryd.prog os M.laid) #[.int .u64 0, .int .u64 0, .int .u64 0, .int .u64 0] 8 (World.laidAll_os _ _ _)
      (World.shaped_of_ZipB (by kernel_rfl) (by kernel_rfl)) (by kernel_rfl) (by kernel_rfl) (by kernel_rfl)
      (by rw [MakeChecks.laidMetH_plain _ _ _ (by kernel_rfl)]; exact laidMet_laidAll _ (by kernel_rfl) (by kernel_rfl))) ?_
  intro W base args ds gs before hval0 hW _ _ hL _
  have hval : ∀ (j : Nat) t v, Tryd.f4.params[j]? = some t → args[j]? = some v → Value.okWide Tryd.prog W .any base t v := hval0
  have hW' := hW
  obtain ⟨p, q, hA0, hV, rfl, _, _⟩ := hW
  have hA : DataW.TrodAll enc Tryd.prog W 0 (fun _ => true) true Tryd.f4.params.toList args.toList ds p := hA0
  rw [Tryd.params4] at hA hval
  obtain ⟨v0, vs0, d0, ds0, p0, q0, hargs, rfl, rfl, h0, r0⟩ := trodAll_cons hA
  obtain ⟨v1, vs1, d1, ds1, p1, q1, rfl, rfl, rfl, h1, r1⟩ := trodAll_cons r0
  obtain ⟨v2, vs2, d2, ds2, p2, q2, rfl, rfl, rfl, h2, r2⟩ := trodAll_cons r1
  obtain ⟨v3, vs3, d3, ds3, p3, q3, rfl, rfl, rfl, h3, r3⟩ := trodAll_cons r2
  obtain ⟨rfl, rfl, rfl⟩ := trodAll_nil r3
  obtain rfl : args = #[v0, v1, v2, v3] := by cases args; simp_all
  obtain ⟨rfl, rfl⟩ := trodVars_none hV
  obtain ⟨x0, rfl, rfl, rfl, w0⟩ := open_int Tryd.underlying23 (hval 0 23 v0 rfl rfl) h0
  obtain ⟨lo0, hi0⟩ := M.u64_bounds w0
  obtain ⟨a0, rfl⟩ : ∃ a : Nat, x0 = a := ⟨x0.toNat, by omega⟩
  obtain ⟨x1, rfl, rfl, rfl, w1⟩ := open_int Tryd.underlying23 (hval 1 23 v1 rfl rfl) h1
  obtain ⟨lo1, hi1⟩ := M.u64_bounds w1
  obtain ⟨a1, rfl⟩ : ∃ a : Nat, x1 = a := ⟨x1.toNat, by omega⟩
  obtain ⟨x2, rfl, rfl, rfl, w2⟩ := open_int Tryd.underlying23 (hval 2 23 v2 rfl rfl) h2
  obtain ⟨lo2, hi2⟩ := M.u64_bounds w2
  obtain ⟨a2, rfl⟩ : ∃ a : Nat, x2 = a := ⟨x2.toNat, by omega⟩
  obtain ⟨x3, rfl, rfl, rfl, w3⟩ := open_int Tryd.underlying23 (hval 3 23 v3 rfl rfl) h3
  obtain ⟨lo3, hi3⟩ := M.u64_bounds w3
  obtain ⟨a3, rfl⟩ : ∃ a : Nat, x3 = a := ⟨x3.toNat, by omega⟩
  clear hA0 hval0
  simp only [List.append_nil] at hW'
  refine (walk a0 a1 a2 a3 (by omega) (by omega) (by omega) (by omega) W (M.of_laid hL)).mono fun e W' ⟨he, hg⟩ => ?_
  subst he
  exact ⟨_, rfl, post_of_same (pa := []) (pv := []) hW' (fun _ _ _ => (trodAll_cons_mk (shut_bool Tryd.underlying4 _) trodAll_mk0)) (fun _ _ => (trodAll_cons_mk (shut_int Tryd.underlying23 w0) (trodAll_cons_mk (shut_int Tryd.underlying23 w1) (trodAll_cons_mk (shut_int Tryd.underlying23 w2) (trodAll_cons_mk (shut_int Tryd.underlying23 w3) trodAll_mk0))))) (fun _ _ => rfl) rfl
    (hg.frame _) hg.2.1 (ok_one (by kernel_rfl) rfl (okWide_bool_mk Tryd.underlying4 _))⟩

theorem holds : Rows.ModTellsSaid :=
  OpenClaim.holds_of_wide 4 Tryd.f4 rfl rfl rfl rfl rfl rfl rfl ⟨rfl, rfl, rfl, rfl, rfl⟩ rfl rfl rfl rfl rfl (by kernel_rfl) Tryd.func4 (by kernel_rfl)
    (of_decide_eq_true (by kernel_rfl)) (by unfold Func.isWrapper; first | (rw [if_pos (by decide +kernel)]; kernel_rfl) | (rw [if_neg (by decide +kernel)]; exact ⟨rfl, rfl⟩))
    (fun os started H enc _ => lifted os started H enc)

end ModTells

theorem modTells_card_holds : Rows.ModTellsCardSaid :=
  Claim7.holds_tied_plain_at .later [] [.data, .data] true _ false ModTells.holds (fun _ h => by cases h) (by kernel_rfl) (fun _ h => by cases h) modTells_row_tie rfl ⟨rfl, rfl⟩ (by kernel_rfl) rfl
    (fun f fn hf hfn => by
      obtain rfl : f = 4 := Option.some.inj ((show Tryd.prog.funcNamed "consistory/consistorylaw01.ModTells" = some 4 by kernel_rfl).symm.trans hf) |>.symm
      obtain rfl : fn = Tryd.f4 := (Option.some.inj (Tryd.func4.symm.trans hfn)).symm
      exact ⟨by kernel_rfl, fun j t ht => by
        rw [Tryd.params4] at ht
        have hm : t ∈ [23, 23, 23, 23] := by simpa using Array.mem_of_getElem? ht
        have hall : ([23, 23, 23, 23].all fun u => !Tryd.prog.wantsStandIn u) = true := by kernel_rfl
        exact (show Tryd.prog.wantsStandIn t = false by simpa using List.all_eq_true.1 hall t hm)⟩)
    (by kernel_rfl)
#print axioms modTells_card_holds
end Go.Proofs.YtojekblcdokjjaaDoor

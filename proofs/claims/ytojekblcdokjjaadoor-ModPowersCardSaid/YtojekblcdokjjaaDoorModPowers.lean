/- ModPowers: for any numbers and exponents, and any m from 1 to 2^61, the law of powers answers true; the program's two tables are laid by its own text (the card ties them). -/
import Derived.Test.YtojekblcdokjjaaDoorCards
import Derived.Test.YtojekblcdokjjaaDoorTie
import Derived.Test.YtojekblcdokjjaaDoorModFrame
import Derived.Lay
import Derived.Test.YtojekblcdokjjaaDoorModRet
import Derived.Test.YtojekblcdokjjaaDoorModPowersC
namespace Go.Proofs.YtojekblcdokjjaaDoor
open Go.ChangeShapes Go.WideShapes Go.ChangeAt Go.RowKit
namespace ModPowers
open M

theorem walk (a b d e n : Nat) (ha : a < 18446744073709551616) (hb : b < 18446744073709551616) (hd : d < 18446744073709551616) (he : e < 18446744073709551616) (_hn : n < 18446744073709551616) (w : World) (hl : Laid w) :
    Calls Tryd.prog 7 #[.int .u64 (a : Int), .int .u64 (b : Int), .int .u64 (d : Int), .int .u64 (e : Int), .int .u64 (n : Int)] w fun e w' => e = .returned (.bool true) ∧ Grown w w' := by
  obtain ⟨m, hme⟩ : ∃ m, 1 + n % 2305843009213693952 = m := ⟨_, rfl⟩
  have hm : 0 < m := by omega
  have hb61 : m ≤ 2305843009213693952 := by omega
  have hw := within_any n
  rw [hme] at hw
  have lp : ∀ g k, MM.powm g k m < 18446744073709551616 := fun g k => by have := Nat.mod_lt (g ^ k) hm; show g ^ k % m < _; omega
  have lab : a * b % m < 18446744073709551616 := by have := Nat.mod_lt (a * b) hm; omega
  have hxy : d / 2 % 4294967296 * (e / 2 % 4294967296) < 18446744073709551616 := by
    have h1 := Nat.mul_le_mul (show d / 2 % 4294967296 ≤ 4294967295 by omega) (show e / 2 % 4294967296 ≤ 4294967295 by omega)
    omega
  refine core a b d e n m (d / 2 + e / 2) (d / 2) (e / 2) (MM.powm a (d / 2 + e / 2) m) (MM.powm a (d / 2) m) (MM.powm a (e / 2) m) (a * b % m) (MM.powm (a * b % m) (e / 2) m) (MM.powm b (e / 2) m)
    (d / 2 % 4294967296) (e / 2 % 4294967296) (MM.powm a (d / 2 % 4294967296) m) (MM.powm (MM.powm a (d / 2 % 4294967296) m) (e / 2 % 4294967296) m) (d / 2 % 4294967296 * (e / 2 % 4294967296)) (1 % m) (a % m) (a * a % m) w hl
    (by omega) (by omega) (by omega) (wrapN _ (by omega)) (by omega) (by omega) (Int.natCast_mul _ _).symm (wrapN _ hxy) (by omega) (by rw [Int.ofNat_tmod]; rfl) (Int.natCast_emod a m).symm
    (ret_pow _ _ _ _ hm hb61 ha (by omega) rfl) (ret_pow _ _ _ _ hm hb61 ha (by omega) rfl) (ret_pow _ _ _ _ hm hb61 ha (by omega) rfl)
    (ret_mul _ _ _ _ hm hb61 (lp _ _) (lp _ _) (by unfold MM.powm; rw [← Nat.mul_mod, Nat.pow_add]))
    (ret_mul _ _ _ _ hm hb61 ha hb rfl) (ret_pow _ _ _ _ hm hb61 lab (by omega) rfl) (ret_pow _ _ _ _ hm hb61 hb (by omega) rfl)
    (ret_mul _ _ _ _ hm hb61 (lp _ _) (lp _ _) (by unfold MM.powm; rw [← Nat.mul_mod, MM.pow_mod', Nat.mul_pow]))
    (ret_pow _ _ _ _ hm hb61 ha (by omega) rfl) (ret_pow _ _ _ _ hm hb61 (lp _ _) (by omega) rfl)
    (ret_pow _ _ _ _ hm hb61 ha hxy (by unfold MM.powm; rw [MM.pow_mod', Nat.pow_mul]))
    (ret_pow a 0 _ _ hm hb61 ha (by omega) (by unfold MM.powm; rw [Nat.pow_zero])) (ret_pow a 1 _ _ hm hb61 ha (by omega) (by unfold MM.powm; rw [Nat.pow_one]))
    (ret_pow a 2 _ _ hm hb61 ha (by omega) (by unfold MM.powm; rw [Nat.pow_two])) (ret_mul _ _ _ _ hm hb61 ha ha rfl) hw


set_option maxRecDepth 100000 in
theorem lifted (os : Os) (started : os.Started) (H : Type) (enc : TypeId × Value → H) :
    ReturnsInHanded {} Tryd.checked os 7 .any (fun w args => (Rows.modPowersSpec.pre enc Tryd.prog Tryd.f7 Rows.modPowersRow.domain false w args ∧ laidMetH Tryd.prog M.laid w) ∧ sizedMet enc Tryd.prog Tryd.f7 (OpenSpec.ofChange Rows.modPowersSpec) false w args)
      (Rows.modPowersSpec.post enc Tryd.prog Tryd.f7 false true false false) := by
  refine returnsInHanded_of_change_and (C := Tryd.checked) (X := fun w _ => laidMetH Tryd.prog M.laid w) (fun _ _ _ hh h => h.of_heap hh) M.own started (by kernel_rfl) Tryd.func7
    (ChangeSpec.witness_shaped (enc := enc) (C := Tryd.checked) (os := os) (X := fun w _ => laidMetH Tryd.prog M.laid w) false (World.laidAll Tryd.prog os M.laid) #[.int .u64 0, .int .u64 0, .int .u64 0, .int .u64 0, .int .u64 0] 8 (World.laidAll_os _ _ _)
      (World.shaped_of_ZipB (by kernel_rfl) (by kernel_rfl)) (by kernel_rfl) (by kernel_rfl) (by kernel_rfl)
      (by rw [MakeChecks.laidMetH_plain _ _ _ (by kernel_rfl)]; exact laidMet_laidAll _ (by kernel_rfl) (by kernel_rfl))) ?_
  intro W base args ds gs before hval0 hW _ _ hL _
  have hval : ∀ (j : Nat) t v, Tryd.f7.params[j]? = some t → args[j]? = some v → Value.okWide Tryd.prog W .any base t v := hval0
  have hW' := hW
  obtain ⟨p, q, hA0, hV, rfl, _, _⟩ := hW
  have hA : DataW.TrodAll enc Tryd.prog W 0 (fun _ => true) true Tryd.f7.params.toList args.toList ds p := hA0
  rw [Tryd.params7] at hA hval
  obtain ⟨v0, vs0, d0, ds0, p0, q0, hargs, rfl, rfl, h0, r0⟩ := trodAll_cons hA
  obtain ⟨v1, vs1, d1, ds1, p1, q1, rfl, rfl, rfl, h1, r1⟩ := trodAll_cons r0
  obtain ⟨v2, vs2, d2, ds2, p2, q2, rfl, rfl, rfl, h2, r2⟩ := trodAll_cons r1
  obtain ⟨v3, vs3, d3, ds3, p3, q3, rfl, rfl, rfl, h3, r3⟩ := trodAll_cons r2
  obtain ⟨v4, vs4, d4, ds4, p4, q4, rfl, rfl, rfl, h4, r4⟩ := trodAll_cons r3
  obtain ⟨rfl, rfl, rfl⟩ := trodAll_nil r4
  obtain rfl : args = #[v0, v1, v2, v3, v4] := by cases args; simp_all
  obtain ⟨rfl, rfl⟩ := trodVars_none hV
  obtain ⟨x0, rfl, rfl, rfl, w0⟩ := open_int Tryd.underlying23 (hval 0 23 v0 rfl rfl) h0
  obtain ⟨lo0, hi0⟩ := M.u64_bounds w0
  obtain ⟨a0, rfl⟩ : ∃ a : Nat, x0 = a := ⟨x0.toNat, by omega⟩
  obtain ⟨x1, rfl, rfl, rfl, w1⟩ := open_int Tryd.underlying23 (hval 1 23 v1 rfl rfl) h1
  obtain ⟨lo1, hi1⟩ := M.u64_bounds w1
  obtain ⟨a1, rfl⟩ : ∃ a : Nat, x1 = a := ⟨x1.toNat, by omega⟩
  obtain ⟨x2, rfl, rfl, rfl, w2⟩ := open_int Tryd.underlying23 (hval 2 23 v2 rfl rfl) h2
  obtain ⟨lo2, hi2⟩ := M.u64_bounds w2
  obtain ⟨a2, rfl⟩ : ∃ a : Nat, x2 = a := ⟨x2.toNat, by omega⟩
  obtain ⟨x3, rfl, rfl, rfl, w3⟩ := open_int Tryd.underlying23 (hval 3 23 v3 rfl rfl) h3
  obtain ⟨lo3, hi3⟩ := M.u64_bounds w3
  obtain ⟨a3, rfl⟩ : ∃ a : Nat, x3 = a := ⟨x3.toNat, by omega⟩
  obtain ⟨x4, rfl, rfl, rfl, w4⟩ := open_int Tryd.underlying23 (hval 4 23 v4 rfl rfl) h4
  obtain ⟨lo4, hi4⟩ := M.u64_bounds w4
  obtain ⟨a4, rfl⟩ : ∃ a : Nat, x4 = a := ⟨x4.toNat, by omega⟩
  clear hA0 hval0
  simp only [List.append_nil] at hW'
  refine (walk a0 a1 a2 a3 a4 (by omega) (by omega) (by omega) (by omega) (by omega) W (M.of_laid hL)).mono fun e W' ⟨he, hg⟩ => ?_
  subst he
  exact ⟨_, rfl, post_of_same (pa := []) (pv := []) hW' (fun _ _ _ => (trodAll_cons_mk (shut_bool Tryd.underlying4 _) trodAll_mk0)) (fun _ _ => (trodAll_cons_mk (shut_int Tryd.underlying23 w0) (trodAll_cons_mk (shut_int Tryd.underlying23 w1) (trodAll_cons_mk (shut_int Tryd.underlying23 w2) (trodAll_cons_mk (shut_int Tryd.underlying23 w3) (trodAll_cons_mk (shut_int Tryd.underlying23 w4) trodAll_mk0)))))) (fun _ _ => rfl) rfl
    (hg.frame _) hg.2.1 (ok_one (by kernel_rfl) rfl (okWide_bool_mk Tryd.underlying4 _))⟩

theorem holds : Rows.ModPowersSaid :=
  OpenClaim.holds_of_wide 7 Tryd.f7 rfl rfl rfl rfl rfl rfl rfl ⟨rfl, rfl, rfl, rfl, rfl⟩ rfl rfl rfl rfl rfl (by kernel_rfl) Tryd.func7 (by kernel_rfl)
    (of_decide_eq_true (by kernel_rfl)) (by unfold Func.isWrapper; first | (rw [if_pos (by decide +kernel)]; kernel_rfl) | (rw [if_neg (by decide +kernel)]; exact ⟨rfl, rfl⟩))
    (fun os started H enc _ => lifted os started H enc)

end ModPowers

theorem modPowers_card_holds : Rows.ModPowersCardSaid :=
  Claim7.holds_tied_plain_at .later [] [.data, .data] true _ false ModPowers.holds (fun _ h => by cases h) (by kernel_rfl) (fun _ h => by cases h) modPowers_row_tie rfl ⟨rfl, rfl⟩ (by kernel_rfl) rfl
    (fun f fn hf hfn => by
      obtain rfl : f = 7 := Option.some.inj ((show Tryd.prog.funcNamed "consistory/consistorylaw01.ModPowers" = some 7 by kernel_rfl).symm.trans hf) |>.symm
      obtain rfl : fn = Tryd.f7 := (Option.some.inj (Tryd.func7.symm.trans hfn)).symm
      exact ⟨by kernel_rfl, fun j t ht => by
        rw [Tryd.params7] at ht
        have hm : t ∈ [23, 23, 23, 23, 23] := by simpa using Array.mem_of_getElem? ht
        have hall : ([23, 23, 23, 23, 23].all fun u => !Tryd.prog.wantsStandIn u) = true := by kernel_rfl
        exact (show Tryd.prog.wantsStandIn t = false by simpa using List.all_eq_true.1 hall t hm)⟩)
    (by kernel_rfl)
#print axioms modPowers_card_holds
end Go.Proofs.YtojekblcdokjjaaDoor

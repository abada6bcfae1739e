/- ModInverse: for any two numbers and any m from 1 to 2^61 the law of inverses answers true; the program's two tables are laid by its own text (the card ties them). -/
import Derived.Test.YtojekblcdokjjaaDoorCards
import Derived.Test.YtojekblcdokjjaaDoorTie
import Derived.Test.YtojekblcdokjjaaDoorModFrame
import Derived.Lay
import Derived.Test.YtojekblcdokjjaaDoorModRet
import Derived.Test.YtojekblcdokjjaaDoorModMath5
import Derived.Test.YtojekblcdokjjaaDoorModInverseC
namespace Go.Proofs.YtojekblcdokjjaaDoor
open Go.ChangeShapes Go.WideShapes Go.ChangeAt Go.RowKit
namespace ModInverse
open M

theorem walk (a b n : Nat) (ha : a < 18446744073709551616) (hb : b < 18446744073709551616) (_hn : n < 18446744073709551616) (w : World) (hl : Laid w) :
    Calls Tryd.prog 8 #[.int .u64 (a : Int), .int .u64 (b : Int), .int .u64 (n : Int)] w fun e w' => e = .returned (.bool true) ∧ Grown w w' := by
  obtain ⟨m, hme⟩ : ∃ m, 1 + n % 2305843009213693952 = m := ⟨_, rfl⟩
  have hm : 0 < m := by omega
  have hb61 : m ≤ 2305843009213693952 := by omega
  have hw := within_any n
  rw [hme] at hw
  have hr : (a : Int) % (m : Int) = ((a % m : Nat) : Int) := (Int.natCast_emod a m).symm
  have hone : Int.tmod 1 (m : Int) = ((1 % m : Nat) : Int) := by rw [Int.ofNat_tmod]; rfl
  have hgc := ret_gcd (a % m) m
  rw [MM.gcd_mod] at hgc
  have hp := ret_mul a b m (a * b % m) hm hb61 ha hb rfl
  by_cases ga : Nat.gcd a m = 1
  · obtain ⟨x, hx⟩ := MM.exists_inv hm ga
    have hxl := hx.1
    rw [ga] at hgc
    by_cases gb : Nat.gcd b m = 1
    · obtain ⟨y, hy⟩ := MM.exists_inv hm gb
      have hyl := hy.1
      exact core1 a b n m _ (a % m) y x (1 % m) (x * y % m) w hl hr (by omega) hone hx.1 (ret_inv _ _ _ hm hb61 hx) (ret_inv _ _ _ hm hb61 hy) hp (ret_inv _ _ _ hm hb61 (hx.mul hy)) hgc
        (ret_inv _ _ _ hm hb61 hx.back) (ret_mul _ _ _ _ hm hb61 ha (by omega) hx.2) (ret_mul _ _ _ _ hm hb61 (by omega) (by omega) rfl) hw
    · exact core2 a b n m _ (a % m) 0 x (1 % m) w hl hr (by omega) hone hx.1 (ret_inv _ _ _ hm hb61 hx) (ret_inv_none _ _ hm hb61 gb) hp (ret_inv_none _ _ hm hb61 (MM.gcd_mul_right gb)) hgc
        (ret_inv _ _ _ hm hb61 hx.back) (ret_mul _ _ _ _ hm hb61 ha (by omega) hx.2) hw
  · have hgv : (((Nat.gcd a m : Nat) : Int) == 1) = false := by simp; omega
    by_cases gb : Nat.gcd b m = 1
    · obtain ⟨y, hy⟩ := MM.exists_inv hm gb
      exact core3 a b n m _ (a % m) y _ 0 w hl hr hm hgv (ret_inv_none _ _ hm hb61 ga) (ret_inv _ _ _ hm hb61 hy) hp (ret_inv_none _ _ hm hb61 (MM.gcd_mul_left ga)) hgc hw
    · exact core3 a b n m _ (a % m) 0 _ 5 w hl hr hm hgv (ret_inv_none _ _ hm hb61 ga) (ret_inv_none _ _ hm hb61 gb) hp (ret_inv_none _ _ hm hb61 (MM.gcd_mul_left ga)) hgc hw


set_option maxRecDepth 100000 in
theorem lifted (os : Os) (started : os.Started) (H : Type) (enc : TypeId × Value → H) :
    ReturnsInHanded {} Tryd.checked os 8 .any (fun w args => (Rows.modInverseSpec.pre enc Tryd.prog Tryd.f8 Rows.modInverseRow.domain false w args ∧ laidMetH Tryd.prog M.laid w) ∧ sizedMet enc Tryd.prog Tryd.f8 (OpenSpec.ofChange Rows.modInverseSpec) false w args)
      (Rows.modInverseSpec.post enc Tryd.prog Tryd.f8 false true false false) := by
  refine returnsInHanded_of_change_and (C := Tryd.checked) (X := fun w _ => laidMetH Tryd.prog M.laid w) (fun _ _ _ hh h => h.of_heap hh) M.own started (by kernel_rfl) Tryd.func8
    (ChangeSpec.witness_shaped (enc := enc) (C := Tryd.checked) (os := os) (X := fun w _ => laidMetH Tryd.prog M.laid w) false (World.laidAll Tryd.prog os M.laid) #[.int .u64 0, .int .u64 0, .int .u64 0] 8 (World.laidAll_os _ _ _)
      (World.shaped_of_ZipB (by kernel_rfl) (by kernel_rfl)) (by kernel_rfl) (by kernel_rfl) (by kernel_rfl)
      (by rw [MakeChecks.laidMetH_plain _ _ _ (by kernel_rfl)]; exact laidMet_laidAll _ (by kernel_rfl) (by kernel_rfl))) ?_
  intro W base args ds gs before hval0 hW _ _ hL _
  have hval : ∀ (j : Nat) t v, Tryd.f8.params[j]? = some t → args[j]? = some v → Value.okWide Tryd.prog W .any base t v := hval0
  have hW' := hW
  obtain ⟨p, q, hA0, hV, rfl, _, _⟩ := hW
  have hA : DataW.TrodAll enc Tryd.prog W 0 (fun _ => true) true Tryd.f8.params.toList args.toList ds p := hA0
  rw [Tryd.params8] at hA hval
  obtain ⟨v0, vs0, d0, ds0, p0, q0, hargs, rfl, rfl, h0, r0⟩ := trodAll_cons hA
  obtain ⟨v1, vs1, d1, ds1, p1, q1, rfl, rfl, rfl, h1, r1⟩ := trodAll_cons r0
  obtain ⟨v2, vs2, d2, ds2, p2, q2, rfl, rfl, rfl, h2, r2⟩ := trodAll_cons r1
  obtain ⟨rfl, rfl, rfl⟩ := trodAll_nil r2
  obtain rfl : args = #[v0, v1, v2] := by cases args; simp_all
  obtain ⟨rfl, rfl⟩ := trodVars_none hV
  obtain ⟨x0, rfl, rfl, rfl, w0⟩ := open_int Tryd.underlying23 (hval 0 23 v0 rfl rfl) h0
  obtain ⟨lo0, hi0⟩ := M.u64_bounds w0
  obtain ⟨a0, rfl⟩ : ∃ a : Nat, x0 = a := ⟨x0.toNat, by omega⟩
  obtain ⟨x1, rfl, rfl, rfl, w1⟩ := open_int Tryd.underlying23 (hval 1 23 v1 rfl rfl) h1
  obtain ⟨lo1, hi1⟩ := M.u64_bounds w1
  obtain ⟨a1, rfl⟩ : ∃ a : Nat, x1 = a := ⟨x1.toNat, by omega⟩
  obtain ⟨x2, rfl, rfl, rfl, w2⟩ := open_int Tryd.underlying23 (hval 2 23 v2 rfl rfl) h2
  obtain ⟨lo2, hi2⟩ := M.u64_bounds w2
  obtain ⟨a2, rfl⟩ : ∃ a : Nat, x2 = a := ⟨x2.toNat, by omega⟩
  clear hA0 hval0
  simp only [List.append_nil] at hW'
  refine (walk a0 a1 a2 (by omega) (by omega) (by omega) W (M.of_laid hL)).mono fun e W' ⟨he, hg⟩ => ?_
  subst he
  exact ⟨_, rfl, post_of_same (pa := []) (pv := []) hW' (fun _ _ _ => (trodAll_cons_mk (shut_bool Tryd.underlying4 _) trodAll_mk0)) (fun _ _ => (trodAll_cons_mk (shut_int Tryd.underlying23 w0) (trodAll_cons_mk (shut_int Tryd.underlying23 w1) (trodAll_cons_mk (shut_int Tryd.underlying23 w2) trodAll_mk0)))) (fun _ _ => rfl) rfl
    (hg.frame _) hg.2.1 (ok_one (by kernel_rfl) rfl (okWide_bool_mk Tryd.underlying4 _))⟩

theorem holds : Rows.ModInverseSaid :=
  OpenClaim.holds_of_wide 8 Tryd.f8 rfl rfl rfl rfl rfl rfl rfl ⟨rfl, rfl, rfl, rfl, rfl⟩ rfl rfl rfl rfl rfl (by kernel_rfl) Tryd.func8 (by kernel_rfl)
    (of_decide_eq_true (by kernel_rfl)) (by unfold Func.isWrapper; first | (rw [if_pos (by decide +kernel)]; kernel_rfl) | (rw [if_neg (by decide +kernel)]; exact ⟨rfl, rfl⟩))
    (fun os started H enc _ => lifted os started H enc)

end ModInverse

theorem modInverse_card_holds : Rows.ModInverseCardSaid :=
  Claim7.holds_tied_plain_at .later [] [.data, .data] true _ false ModInverse.holds (fun _ h => by cases h) (by kernel_rfl) (fun _ h => by cases h) modInverse_row_tie rfl ⟨rfl, rfl⟩ (by kernel_rfl) rfl
    (fun f fn hf hfn => by
      obtain rfl : f = 8 := Option.some.inj ((show Tryd.prog.funcNamed "consistory/consistorylaw01.ModInverse" = some 8 by kernel_rfl).symm.trans hf) |>.symm
      obtain rfl : fn = Tryd.f8 := (Option.some.inj (Tryd.func8.symm.trans hfn)).symm
      exact ⟨by kernel_rfl, fun j t ht => by
        rw [Tryd.params8] at ht
        have hm : t ∈ [23, 23, 23] := by simpa using Array.mem_of_getElem? ht
        have hall : ([23, 23, 23].all fun u => !Tryd.prog.wantsStandIn u) = true := by kernel_rfl
        exact (show Tryd.prog.wantsStandIn t = false by simpa using List.all_eq_true.1 hall t hm)⟩)
    (by kernel_rfl)
#print axioms modInverse_card_holds
end Go.Proofs.YtojekblcdokjjaaDoor

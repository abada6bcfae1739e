/- ModRing: for any three numbers and any m from 1 to 2^61 the law of rings answers true; the program's two tables are laid by its own text (the card ties them). -/
import Derived.Test.YtojekblcdokjjaaDoorCards
import Derived.Test.YtojekblcdokjjaaDoorTie
import Derived.Test.YtojekblcdokjjaaDoorModFrame
import Derived.Lay
import Derived.Test.YtojekblcdokjjaaDoorModRingC
namespace Go.Proofs.YtojekblcdokjjaaDoor
open Go.ChangeShapes Go.WideShapes Go.ChangeAt Go.RowKit
namespace ModRing
open M

theorem ret_add (a b m r : Nat) (hm : 0 < m) (hb : m ≤ 2305843009213693952) (h : (a + b) % m = r) : Ret 13 #[.int .u64 (a : Int), .int .u64 (b : Int), .int .u64 (m : Int)] (.int .u64 (r : Int)) := fun W => by rw [← h]; exact add_any a b m hm hb W
theorem ret_sub (a b m r : Nat) (hm : 0 < m) (hb : m ≤ 2305843009213693952) (h : MM.subm a b m = r) : Ret 14 #[.int .u64 (a : Int), .int .u64 (b : Int), .int .u64 (m : Int)] (.int .u64 (r : Int)) := fun W => by rw [← h]; exact sub_any a b m hm hb W
theorem ret_mul (a b m r : Nat) (hm : 0 < m) (hb : m ≤ 2305843009213693952) (ha : a < 18446744073709551616) (hb' : b < 18446744073709551616) (h : a * b % m = r) : Ret 15 #[.int .u64 (a : Int), .int .u64 (b : Int), .int .u64 (m : Int)] (.int .u64 (r : Int)) := fun W => by rw [← h]; exact mul_any a b m hm hb ha hb' W

theorem sub_add (a b m : Nat) (hm : 0 < m) : (MM.subm a b m + b) % m = a % m := by
  obtain ⟨k, hk⟩ := MM.subm_int a b m hm
  refine MM.mod_of_int ⟨k, ?_⟩
  rw [Int.natCast_add, hk]; omega
theorem add_sub (a b m : Nat) (hm : 0 < m) : MM.subm ((a + b) % m) b m = a % m := by
  have hlt : MM.subm ((a + b) % m) b m < m := Nat.mod_lt _ hm
  obtain ⟨k, hk⟩ := MM.subm_int ((a + b) % m) b m hm
  obtain ⟨k2, hk2⟩ := MM.mod_int (a + b) m
  have h : MM.subm ((a + b) % m) b m % m = a % m := by
    refine MM.mod_of_int ⟨k + k2, ?_⟩
    rw [hk, hk2, Int.natCast_add, Int.mul_add]; omega
  rwa [Nat.mod_eq_of_lt hlt] at h
theorem sub_sub (a b m : Nat) (hm : 0 < m) : (MM.subm a b m + MM.subm b a m) % m = 0 := by
  obtain ⟨k, hk⟩ := MM.subm_int a b m hm
  obtain ⟨k2, hk2⟩ := MM.subm_int b a m hm
  have h : (MM.subm a b m + MM.subm b a m) % m = 0 % m := by
    refine MM.mod_of_int ⟨k + k2, ?_⟩
    rw [Int.natCast_add, hk, hk2, Int.mul_add]; omega
  rwa [Nat.zero_mod] at h

theorem walk (a b c n : Nat) (ha : a < 18446744073709551616) (hb : b < 18446744073709551616) (hc : c < 18446744073709551616) (_hn : n < 18446744073709551616) (w : World) (hl : Laid w) :
    Calls Tryd.prog 6 #[.int .u64 (a : Int), .int .u64 (b : Int), .int .u64 (c : Int), .int .u64 (n : Int)] w fun e w' => e = .returned (.bool true) ∧ Grown w w' := by
  obtain ⟨m, hme⟩ : ∃ m, 1 + n % 2305843009213693952 = m := ⟨_, rfl⟩
  have hm : 0 < m := by omega
  have hb61 : m ≤ 2305843009213693952 := by omega
  have hw := within_any n
  rw [hme] at hw
  have l1 := Nat.mod_lt (a + b) hm
  have l2 := Nat.mod_lt (a * b) hm
  have l3 : MM.subm a b m < m := Nat.mod_lt _ hm
  have l4 := Nat.mod_lt (b * c) hm
  refine core a b c n m ((a + b) % m) (a * b % m) (MM.subm a b m) ((a + b + c) % m) ((b + c) % m) (a * b * c % m) (b * c % m) ((a + b) * c % m) (a * c % m) (a % m) (MM.subm b a m) w hl hm l1 l2 l3 (Int.natCast_emod a m).symm
    (ret_add _ _ _ _ hm hb61 rfl) (ret_mul _ _ _ _ hm hb61 ha hb rfl) (ret_sub _ _ _ _ hm hb61 rfl)
    (ret_add _ _ _ _ hm hb61 (by rw [Nat.add_comm])) (ret_mul _ _ _ _ hm hb61 hb ha (by rw [Nat.mul_comm]))
    (ret_add _ _ _ _ hm hb61 (by rw [Nat.mod_add_mod])) (ret_add _ _ _ _ hm hb61 rfl) (ret_add _ _ _ _ hm hb61 (by rw [Nat.add_mod_mod, Nat.add_assoc]))
    (ret_mul _ _ _ _ hm hb61 (by omega) hc (MM.mul_mod_left' _ _ _)) (ret_mul _ _ _ _ hm hb61 hb hc rfl) (ret_mul _ _ _ _ hm hb61 ha (by omega) (by rw [MM.mul_mod_right', Nat.mul_assoc]))
    (ret_mul _ _ _ _ hm hb61 (by omega) hc (MM.mul_mod_left' _ _ _)) (ret_mul _ _ _ _ hm hb61 ha hc rfl) (ret_add _ _ _ _ hm hb61 (by rw [← Nat.add_mod, Nat.add_mul]))
    (ret_sub _ _ _ _ hm hb61 (add_sub a b m hm)) (ret_add _ _ _ _ hm hb61 (sub_add a b m hm)) (ret_mul a 1 _ _ hm hb61 ha (by omega) (by rw [Nat.mul_one])) (ret_add a 0 _ _ hm hb61 (by rw [Nat.add_zero]))
    (ret_sub _ _ _ _ hm hb61 rfl) (ret_add _ _ _ 0 hm hb61 (sub_sub a b m hm)) hw


set_option maxRecDepth 100000 in
theorem lifted (os : Os) (started : os.Started) (H : Type) (enc : TypeId × Value → H) :
    ReturnsInHanded {} Tryd.checked os 6 .any (fun w args => (Rows.modRingSpec.pre enc Tryd.prog Tryd.f6 Rows.modRingRow.domain false w args ∧ laidMetH Tryd.prog M.laid w) ∧ sizedMet enc Tryd.prog Tryd.f6 (OpenSpec.ofChange Rows.modRingSpec) false w args)
      (Rows.modRingSpec.post enc Tryd.prog Tryd.f6 false true false false) := by
  refine returnsInHanded_of_change_and (C := Tryd.checked) (X := fun w _ => laidMetH Tryd.prog M.laid w) (fun _ _ _ hh h => h.of_heap hh) M.own started (by kernel_rfl) Tryd.func6
    (ChangeSpec.witness_shaped (enc := enc) (C := Tryd.checked) (os := os) (X := fun w _ => laidMetH Tryd.prog M.laid w) false (World.laidAll Tryd.prog os M.laid) #[.int .u64 0, .int .u64 0, .int .u64 0, .int .u64 0] 8 (World.laidAll_os _ _ _)
      (World.shaped_of_ZipB (by kernel_rfl) (by kernel_rfl)) (by kernel_rfl) (by kernel_rfl) (by kernel_rfl)
      (by rw [MakeChecks.laidMetH_plain _ _ _ (by kernel_rfl)]; exact laidMet_laidAll _ (by kernel_rfl) (by kernel_rfl))) ?_
  intro W base args ds gs before hval0 hW _ _ hL _
  have hval : ∀ (j : Nat) t v, Tryd.f6.params[j]? = some t → args[j]? = some v → Value.okWide Tryd.prog W .any base t v := hval0
  have hW' := hW
  obtain ⟨p, q, hA0, hV, rfl, _, _⟩ := hW
  have hA : DataW.TrodAll enc Tryd.prog W 0 (fun _ => true) true Tryd.f6.params.toList args.toList ds p := hA0
  rw [Tryd.params6] at hA hval
  obtain ⟨v0, vs0, d0, ds0, p0, q0, hargs, rfl, rfl, h0, r0⟩ := trodAll_cons hA
  obtain ⟨v1, vs1, d1, ds1, p1, q1, rfl, rfl, rfl, h1, r1⟩ := trodAll_cons r0
  obtain ⟨v2, vs2, d2, ds2, p2, q2, rfl, rfl, rfl, h2, r2⟩ := trodAll_cons r1
  obtain ⟨v3, vs3, d3, ds3, p3, q3, rfl, rfl, rfl, h3, r3⟩ := trodAll_cons r2
  obtain ⟨rfl, rfl, rfl⟩ := trodAll_nil r3
  obtain rfl : args = #[v0, v1, v2, v3] := by cases args; simp_all
  obtain ⟨rfl, rfl⟩ := trodVars_none hV
  obtain ⟨x0, rfl, rfl, rfl, w0⟩ := open_int Tryd.underlying23 (hval 0 23 v0 rfl rfl) h0
  obtain ⟨lo0, hi0⟩ := M.u64_bounds w0
  obtain ⟨a0, rfl⟩ : ∃ a : Nat, x0 = a := ⟨x0.toNat, by omega⟩
  obtain ⟨x1, rfl, rfl, rfl, w1⟩ := open_int Tryd.underlying23 (hval 1 23 v1 rfl rfl) h1
  obtain ⟨lo1, hi1⟩ := M.u64_bounds w1
  obtain ⟨a1, rfl⟩ : ∃ a : Nat, x1 = a := ⟨x1.toNat, by omega⟩
  obtain ⟨x2, rfl, rfl, rfl, w2⟩ := open_int Tryd.underlying23 (hval 2 23 v2 rfl rfl) h2
  obtain ⟨lo2, hi2⟩ := M.u64_bounds w2
  obtain ⟨a2, rfl⟩ : ∃ a : Nat, x2 = a := ⟨x2.toNat, by omega⟩
  obtain ⟨x3, rfl, rfl, rfl, w3⟩ := open_int Tryd.underlying23 (hval 3 23 v3 rfl rfl) h3
  obtain ⟨lo3, hi3⟩ := M.u64_bounds w3
  obtain ⟨a3, rfl⟩ : ∃ a : Nat, x3 = a := ⟨x3.toNat, by omega⟩
  clear hA0 hval0
  simp only [List.append_nil] at hW'
  refine (walk a0 a1 a2 a3 (by omega) (by omega) (by omega) (by omega) W (M.of_laid hL)).mono fun e W' ⟨he, hg⟩ => ?_
  subst he
  exact ⟨_, rfl, post_of_same (pa := []) (pv := []) hW' (fun _ _ _ => (trodAll_cons_mk (shut_bool Tryd.underlying4 _) trodAll_mk0)) (fun _ _ => (trodAll_cons_mk (shut_int Tryd.underlying23 w0) (trodAll_cons_mk (shut_int Tryd.underlying23 w1) (trodAll_cons_mk (shut_int Tryd.underlying23 w2) (trodAll_cons_mk (shut_int Tryd.underlying23 w3) trodAll_mk0))))) (fun _ _ => rfl) rfl
    (hg.frame _) hg.2.1 (ok_one (by kernel_rfl) rfl (okWide_bool_mk Tryd.underlying4 _))⟩

theorem holds : Rows.ModRingSaid :=
  OpenClaim.holds_of_wide 6 Tryd.f6 rfl rfl rfl rfl rfl rfl rfl ⟨rfl, rfl, rfl, rfl, rfl⟩ rfl rfl rfl rfl rfl (by kernel_rfl) Tryd.func6 (by kernel_rfl)
    (of_decide_eq_true (by kernel_rfl)) (by unfold Func.isWrapper; first | (rw [if_pos (by decide +kernel)]; kernel_rfl) | (rw [if_neg (by decide +kernel)]; exact ⟨rfl, rfl⟩))
    (fun os started H enc _ => lifted os started H enc)

end ModRing

theorem modRing_card_holds : Rows.ModRingCardSaid :=
  Claim7.holds_tied_plain_at .later [] [.data, .data] true _ false ModRing.holds (fun _ h => by cases h) (by kernel_rfl) (fun _ h => by cases h) modRing_row_tie rfl ⟨rfl, rfl⟩ (by kernel_rfl) rfl
    (fun f fn hf hfn => by
      obtain rfl : f = 6 := Option.some.inj ((show Tryd.prog.funcNamed "consistory/consistorylaw01.ModRing" = some 6 by kernel_rfl).symm.trans hf) |>.symm
      obtain rfl : fn = Tryd.f6 := (Option.some.inj (Tryd.func6.symm.trans hfn)).symm
      exact ⟨by kernel_rfl, fun j t ht => by
        rw [Tryd.params6] at ht
        have hm : t ∈ [23, 23, 23, 23] := by simpa using Array.mem_of_getElem? ht
        have hall : ([23, 23, 23, 23].all fun u => !Tryd.prog.wantsStandIn u) = true := by kernel_rfl
        exact (show Tryd.prog.wantsStandIn t = false by simpa using List.all_eq_true.1 hall t hm)⟩)
    (by kernel_rfl)
#print axioms modRing_card_holds
end Go.Proofs.YtojekblcdokjjaaDoor

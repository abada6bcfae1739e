/- GroupPowers: for any parameters and any three numbers the law of powers answers true; the program's two tables are laid by its own text (the card ties them). -/
import Derived.Test.YtmeaiindbkkkiaaDoorCards
import Derived.Test.YtmeaiindbkkkiaaDoorTie
import Derived.Test.YtmeaiindbkkkiaaDoorOpen
import Derived.Lay
import Derived.Test.YtmeaiindbkkkiaaDoorGrpLaw
import Derived.Test.YtmeaiindbkkkiaaDoorGroupPowersC
namespace Go.Proofs.YtmeaiindbkkkiaaDoor
open Go.ChangeShapes Go.WideShapes Go.ChangeAt Go.RowKit
namespace GroupPowers
open M

theorem walk (p : Pm) (a e f : Nat) (ok : PmOk p) (ha : a < 18446744073709551616) (he : e < 18446744073709551616) (hf : f < 18446744073709551616) (w : World) (hl : Laid w) :
    Calls Tryd.prog 6 #[.agg p.cells, .int .u64 (a : Int), .int .u64 (e : Int), .int .u64 (f : Int)] w fun e w' => e = .returned (.bool true) ∧ Below w.heap.size w w' := by
  cases hm : mayB p
  · exact core_no p a e f w hl works_any (may_yes hm ok.b0 ok.b1 ok.b2 ok.b3)
  · have g := grp_of hm
    have hQ : 0 < p.Q := g.gQ.1
    have hx := g.root a
    have hQe : e % p.Q < 18446744073709551616 := by have := Nat.mod_lt e hQ; have := g.gQ.2; omega
    exact core p a e f (MM.powU p.G a p.P) (MM.powU (MM.powU p.G a p.P) e p.P) (MM.powU (MM.powU p.G a p.P) f p.P) (MM.powU (MM.powU p.G a p.P) (MM.addU e f p.Q) p.P) (MM.addU e f p.Q) (e % p.Q)
      (MM.powU (MM.powU (MM.powU p.G a p.P) e p.P) f p.P) (MM.mulU e f p.Q) w hl works_any (may_yes hm ok.b0 ok.b1 ok.b2 ok.b3)
      (power_any p _ _ ok.b2 ha) (power_any p _ _ (MM.powU_lt _ _ _) he) (power_any p _ _ (MM.powU_lt _ _ _) hf) (ret_addU e f p.Q).toB (power_any p _ _ (MM.powU_lt _ _ _) (MM.addU_lt _ _ _))
      ((g.exp (MM.powU p.G a p.P) e hx) ▸ power_any p _ (e % p.Q) (MM.powU_lt _ _ _) hQe) (power_any p _ _ (MM.powU_lt _ _ _) hf) (ret_mulU e f p.Q he hf).toB
      ((g.fold (MM.powU p.G a p.P) e f hx) ▸ power_any p _ _ (MM.powU_lt _ _ _) (MM.mulU_lt _ _ _))
      (times_two p _ _ _ (MM.powU_lt _ _ _) (MM.powU_lt _ _ _) (g.sum _ e f hx)) (by omega) (by rw [Int.ofNat_tmod])

set_option maxRecDepth 100000 in
theorem lifted (os : Os) (started : os.Started) (H : Type) (enc : TypeId × Value → H) :
    ReturnsInHanded {} Tryd.checked os 6 .any (fun w args => (Rows.groupPowersSpec.pre enc Tryd.prog Tryd.f6 Rows.groupPowersRow.domain false w args ∧ laidMetH Tryd.prog M.laid w) ∧ sizedMet enc Tryd.prog Tryd.f6 (OpenSpec.ofChange Rows.groupPowersSpec) false w args)
      (Rows.groupPowersSpec.post enc Tryd.prog Tryd.f6 false true false false) := by
  refine returnsInHanded_of_change_and (C := Tryd.checked) (X := fun w _ => laidMetH Tryd.prog M.laid w) (fun _ _ _ hh h => h.of_heap hh) M.own started (by kernel_rfl) Tryd.func6
    (ChangeSpec.witness_shaped (enc := enc) (C := Tryd.checked) (os := os) (X := fun w _ => laidMetH Tryd.prog M.laid w) false (World.laidAll Tryd.prog os M.laid) #[.agg #[.int .u64 0, .int .u64 0, .int .u64 0, .int .u64 0, .int .i64 0, .int .i64 0, .int .i64 0, .int .i64 0, .int .i64 0, .int .i64 0, .int .i64 0, .int .i64 0], .int .u64 0, .int .u64 0, .int .u64 0] 8 (World.laidAll_os _ _ _)
      (World.shaped_of_ZipB (by kernel_rfl) (by kernel_rfl)) (by kernel_rfl) (by kernel_rfl) (by kernel_rfl)
      (by rw [MakeChecks.laidMetH_plain _ _ _ (by kernel_rfl)]; exact laidMet_laidAll _ (by kernel_rfl) (by kernel_rfl))) ?_
  intro W base args ds gs before hval0 hW _ _ hL _
  have hval : ∀ (j : Nat) t v, Tryd.f6.params[j]? = some t → args[j]? = some v → Value.okWide Tryd.prog W .any base t v := hval0
  have hW' := hW
  obtain ⟨p, q, hA0, hV, rfl, _, _⟩ := hW
  have hA : DataW.TrodAll enc Tryd.prog W 0 (fun _ => true) true Tryd.f6.params.toList args.toList ds p := hA0
  rw [Tryd.params6] at hA hval
  obtain ⟨v0, vs0, d0, ds0, p0, q0, hargs, rfl, rfl, h0, r0⟩ := trodAll_cons hA
  obtain ⟨v1, vs1, d1, ds1, p1, q1, rfl, rfl, rfl, h1, r1⟩ := trodAll_cons r0
  obtain ⟨v2, vs2, d2, ds2, p2, q2, rfl, rfl, rfl, h2, r2⟩ := trodAll_cons r1
  obtain ⟨v3, vs3, d3, ds3, p3, q3, rfl, rfl, rfl, h3, r3⟩ := trodAll_cons r2
  obtain ⟨rfl, rfl, rfl⟩ := trodAll_nil r3
  obtain rfl : args = #[v0, v1, v2, v3] := by cases args; simp_all
  obtain ⟨rfl, rfl⟩ := trodVars_none hV
  have k0 := h0
  have lt0 : ∀ x ∈ p0, x.block < W.heap.size := by obtain ⟨m, hm⟩ := k0; exact DataW.trod_lt m _ _ _ hm
  obtain ⟨a0, rfl, ok0⟩ := M.open_pm (hval 0 25 v0 rfl rfl) h0
  have k1 := h1
  have lt1 : ∀ x ∈ p1, x.block < W.heap.size := by obtain ⟨m, hm⟩ := k1; exact DataW.trod_lt m _ _ _ hm
  obtain ⟨x1, rfl, rfl, rfl, w1⟩ := open_int Tryd.underlying23 (hval 1 23 v1 rfl rfl) h1
  obtain ⟨lo1, hi1⟩ := M.u64_bounds w1
  obtain ⟨a1, rfl⟩ : ∃ a : Nat, x1 = a := ⟨x1.toNat, by omega⟩
  have k2 := h2
  have lt2 : ∀ x ∈ p2, x.block < W.heap.size := by obtain ⟨m, hm⟩ := k2; exact DataW.trod_lt m _ _ _ hm
  obtain ⟨x2, rfl, rfl, rfl, w2⟩ := open_int Tryd.underlying23 (hval 2 23 v2 rfl rfl) h2
  obtain ⟨lo2, hi2⟩ := M.u64_bounds w2
  obtain ⟨a2, rfl⟩ : ∃ a : Nat, x2 = a := ⟨x2.toNat, by omega⟩
  have k3 := h3
  have lt3 : ∀ x ∈ p3, x.block < W.heap.size := by obtain ⟨m, hm⟩ := k3; exact DataW.trod_lt m _ _ _ hm
  obtain ⟨x3, rfl, rfl, rfl, w3⟩ := open_int Tryd.underlying23 (hval 3 23 v3 rfl rfl) h3
  obtain ⟨lo3, hi3⟩ := M.u64_bounds w3
  obtain ⟨a3, rfl⟩ : ∃ a : Nat, x3 = a := ⟨x3.toNat, by omega⟩
  clear hA0 hval0
  simp only [List.append_nil] at hW'
  refine (walk a0 a1 a2 a3 ok0 (by omega) (by omega) (by omega) W (M.of_laid hL)).mono fun e W' ⟨he, bel⟩ => ?_
  subst he
  exact ⟨_, rfl, _, _, _, [], _, [], hW', (trodAll_cons_mk (shut_bool Tryd.underlying4 _) trodAll_mk0), (trodAll_cons_mk (Below.trod M.laidOut (by kernel_rfl) (of_decide_eq_true (by kernel_rfl)) k0 bel lt0) (trodAll_cons_mk (Below.trod M.laidOut (by kernel_rfl) (of_decide_eq_true (by kernel_rfl)) k1 bel lt1) (trodAll_cons_mk (Below.trod M.laidOut (by kernel_rfl) (of_decide_eq_true (by kernel_rfl)) k2 bel lt2) (trodAll_cons_mk (Below.trod M.laidOut (by kernel_rfl) (of_decide_eq_true (by kernel_rfl)) k3 bel lt3) trodAll_mk0)))), rfl, bel.frame _, fun h => by cases h⟩

theorem holds : Rows.GroupPowersSaid :=
  OpenClaim.holds_of_wide 6 Tryd.f6 rfl rfl rfl rfl rfl rfl rfl ⟨rfl, rfl, rfl, rfl, rfl⟩ rfl rfl rfl rfl rfl (by kernel_rfl) Tryd.func6 (by kernel_rfl)
    (of_decide_eq_true (by kernel_rfl)) (by unfold Func.isWrapper; first | (rw [if_pos (by decide +kernel)]; kernel_rfl) | (rw [if_neg (by decide +kernel)]; exact ⟨rfl, rfl⟩))
    (fun os started H enc _ => lifted os started H enc)

end GroupPowers

theorem groupPowers_card_holds : Rows.GroupPowersCardSaid :=
  Claim7.holds_tied_plain_at .later [] [.data, .data] true _ false GroupPowers.holds (fun _ h => by cases h) (by kernel_rfl) (fun _ h => by cases h) groupPowers_row_tie rfl ⟨rfl, rfl⟩ (by kernel_rfl) rfl
    (fun f fn hf hfn => by
      obtain rfl : f = 6 := Option.some.inj ((show Tryd.prog.funcNamed "consistory/consistorylaw02.GroupPowers" = some 6 by kernel_rfl).symm.trans hf) |>.symm
      obtain rfl : fn = Tryd.f6 := (Option.some.inj (Tryd.func6.symm.trans hfn)).symm
      exact ⟨by kernel_rfl, fun j t ht => by
        rw [Tryd.params6] at ht
        have hm : t ∈ [25, 23, 23, 23] := by simpa using Array.mem_of_getElem? ht
        have hall : ([25, 23, 23, 23].all fun u => !Tryd.prog.wantsStandIn u) = true := by kernel_rfl
        exact (show Tryd.prog.wantsStandIn t = false by simpa using List.all_eq_true.1 hall t hm)⟩)
    (by kernel_rfl)
#print axioms groupPowers_card_holds
end Go.Proofs.YtmeaiindbkkkiaaDoor

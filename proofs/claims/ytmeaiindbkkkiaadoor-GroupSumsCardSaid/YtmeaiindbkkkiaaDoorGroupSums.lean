/- GroupSums: for any parameters, any two pairs and any number the law of sums answers true; the program's two tables are laid by its own text (the card ties them). -/
import Derived.Test.YtmeaiindbkkkiaaDoorCards
import Derived.Test.YtmeaiindbkkkiaaDoorTie
import Derived.Test.YtmeaiindbkkkiaaDoorOpen
import Derived.Lay
import Derived.Test.YtmeaiindbkkkiaaDoorGrpLaw
import Derived.Test.YtmeaiindbkkkiaaDoorGroupSumsC
namespace Go.Proofs.YtmeaiindbkkkiaaDoor
open Go.ChangeShapes Go.WideShapes Go.ChangeAt Go.RowKit
namespace GroupSums
open M

theorem walk (p : Pm) (xs xb ys yb k : Nat) (ok : PmOk p) (hxs : xs < 18446744073709551616) (hxb : xb < 18446744073709551616) (hys : ys < 18446744073709551616) (hyb : yb < 18446744073709551616) (hk : k < 18446744073709551616) (w : World) (hl : Laid w) :
    Calls Tryd.prog 7 #[.agg p.cells, .agg (pair xs xb), .agg (pair ys yb), .int .u64 (k : Int)] w fun e w' => e = .returned (.bool true) ∧ Below w.heap.size w w' := by
  cases hm : mayB p
  · exact core_no p xs xb ys yb k w hl works_any (may_yes hm ok.b0 ok.b1 ok.b2 ok.b3)
  · have g := grp_of hm
    exact core p xs xb ys yb k (MM.addU xs ys p.Q) (MM.addU xb yb p.Q) (MM.mulU xs k p.Q) (MM.mulU xb k p.Q) (MM.comU p.P p.G p.H xs xb) (MM.comU p.P p.G p.H ys yb) (MM.comU p.P p.G p.H (MM.addU xs ys p.Q) (MM.addU xb yb p.Q))
      (MM.comU p.P p.G p.H (MM.mulU xs k p.Q) (MM.mulU xb k p.Q)) w hl works_any (may_yes hm ok.b0 ok.b1 ok.b2 ok.b3)
      (ret_addU xs ys p.Q) (ret_addU xb yb p.Q) (ret_mulU xs k p.Q hxs hk) (ret_mulU xb k p.Q hxb hk)
      (commit_any p _ _ hxs hxb ok.b2 ok.b3) (commit_any p _ _ hys hyb ok.b2 ok.b3) (commit_any p _ _ (MM.addU_lt _ _ _) (MM.addU_lt _ _ _) ok.b2 ok.b3)
      (power_to p _ _ _ (MM.comU_lt _ _ _ _ _) hk (g.comFold xs xb k)) (commit_any p _ _ (MM.mulU_lt _ _ _) (MM.mulU_lt _ _ _) ok.b2 ok.b3)
      (times_two p _ _ _ (MM.comU_lt _ _ _ _ _) (MM.comU_lt _ _ _ _ _) (g.comSum xs xb ys yb))

set_option maxRecDepth 100000 in
theorem lifted (os : Os) (started : os.Started) (H : Type) (enc : TypeId × Value → H) :
    ReturnsInHanded {} Tryd.checked os 7 .any (fun w args => (Rows.groupSumsSpec.pre enc Tryd.prog Tryd.f7 Rows.groupSumsRow.domain false w args ∧ laidMetH Tryd.prog M.laid w) ∧ sizedMet enc Tryd.prog Tryd.f7 (OpenSpec.ofChange Rows.groupSumsSpec) false w args)
      (Rows.groupSumsSpec.post enc Tryd.prog Tryd.f7 false true false false) := by
  refine returnsInHanded_of_change_and (C := Tryd.checked) (X := fun w _ => laidMetH Tryd.prog M.laid w) (fun _ _ _ hh h => h.of_heap hh) M.own started (by kernel_rfl) Tryd.func7
    (ChangeSpec.witness_shaped (enc := enc) (C := Tryd.checked) (os := os) (X := fun w _ => laidMetH Tryd.prog M.laid w) false (World.laidAll Tryd.prog os M.laid) #[.agg #[.int .u64 0, .int .u64 0, .int .u64 0, .int .u64 0, .int .i64 0, .int .i64 0, .int .i64 0, .int .i64 0, .int .i64 0, .int .i64 0, .int .i64 0, .int .i64 0], .agg #[.int .u64 0, .int .u64 0], .agg #[.int .u64 0, .int .u64 0], .int .u64 0] 8 (World.laidAll_os _ _ _)
      (World.shaped_of_ZipB (by kernel_rfl) (by kernel_rfl)) (by kernel_rfl) (by kernel_rfl) (by kernel_rfl)
      (by rw [MakeChecks.laidMetH_plain _ _ _ (by kernel_rfl)]; exact laidMet_laidAll _ (by kernel_rfl) (by kernel_rfl))) ?_
  intro W base args ds gs before hval0 hW _ _ hL _
  have hval : ∀ (j : Nat) t v, Tryd.f7.params[j]? = some t → args[j]? = some v → Value.okWide Tryd.prog W .any base t v := hval0
  have hW' := hW
  obtain ⟨p, q, hA0, hV, rfl, _, _⟩ := hW
  have hA : DataW.TrodAll enc Tryd.prog W 0 (fun _ => true) true Tryd.f7.params.toList args.toList ds p := hA0
  rw [Tryd.params7] at hA hval
  obtain ⟨v0, vs0, d0, ds0, p0, q0, hargs, rfl, rfl, h0, r0⟩ := trodAll_cons hA
  obtain ⟨v1, vs1, d1, ds1, p1, q1, rfl, rfl, rfl, h1, r1⟩ := trodAll_cons r0
  obtain ⟨v2, vs2, d2, ds2, p2, q2, rfl, rfl, rfl, h2, r2⟩ := trodAll_cons r1
  obtain ⟨v3, vs3, d3, ds3, p3, q3, rfl, rfl, rfl, h3, r3⟩ := trodAll_cons r2
  obtain ⟨rfl, rfl, rfl⟩ := trodAll_nil r3
  obtain rfl : args = #[v0, v1, v2, v3] := by cases args; simp_all
  obtain ⟨rfl, rfl⟩ := trodVars_none hV
  have k0 := h0
  have lt0 : ∀ x ∈ p0, x.block < W.heap.size := by obtain ⟨m, hm⟩ := k0; exact DataW.trod_lt m _ _ _ hm
  obtain ⟨a0, rfl, ok0⟩ := M.open_pm (hval 0 25 v0 rfl rfl) h0
  have k1 := h1
  have lt1 : ∀ x ∈ p1, x.block < W.heap.size := by obtain ⟨m, hm⟩ := k1; exact DataW.trod_lt m _ _ _ hm
  obtain ⟨a1, b1, rfl, oka1, okb1⟩ := M.open_pair (hval 1 35 v1 rfl rfl) h1
  have k2 := h2
  have lt2 : ∀ x ∈ p2, x.block < W.heap.size := by obtain ⟨m, hm⟩ := k2; exact DataW.trod_lt m _ _ _ hm
  obtain ⟨a2, b2, rfl, oka2, okb2⟩ := M.open_pair (hval 2 35 v2 rfl rfl) h2
  have k3 := h3
  have lt3 : ∀ x ∈ p3, x.block < W.heap.size := by obtain ⟨m, hm⟩ := k3; exact DataW.trod_lt m _ _ _ hm
  obtain ⟨x3, rfl, rfl, rfl, w3⟩ := open_int Tryd.underlying23 (hval 3 23 v3 rfl rfl) h3
  obtain ⟨lo3, hi3⟩ := M.u64_bounds w3
  obtain ⟨a3, rfl⟩ : ∃ a : Nat, x3 = a := ⟨x3.toNat, by omega⟩
  clear hA0 hval0
  simp only [List.append_nil] at hW'
  refine (walk a0 a1 b1 a2 b2 a3 ok0 oka1 okb1 oka2 okb2 (by omega) W (M.of_laid hL)).mono fun e W' ⟨he, bel⟩ => ?_
  subst he
  exact ⟨_, rfl, _, _, _, [], _, [], hW', (trodAll_cons_mk (shut_bool Tryd.underlying4 _) trodAll_mk0), (trodAll_cons_mk (Below.trod M.laidOut (by kernel_rfl) (of_decide_eq_true (by kernel_rfl)) k0 bel lt0) (trodAll_cons_mk (Below.trod M.laidOut (by kernel_rfl) (of_decide_eq_true (by kernel_rfl)) k1 bel lt1) (trodAll_cons_mk (Below.trod M.laidOut (by kernel_rfl) (of_decide_eq_true (by kernel_rfl)) k2 bel lt2) (trodAll_cons_mk (Below.trod M.laidOut (by kernel_rfl) (of_decide_eq_true (by kernel_rfl)) k3 bel lt3) trodAll_mk0)))), rfl, bel.frame _, fun h => by cases h⟩

theorem holds : Rows.GroupSumsSaid :=
  OpenClaim.holds_of_wide 7 Tryd.f7 rfl rfl rfl rfl rfl rfl rfl ⟨rfl, rfl, rfl, rfl, rfl⟩ rfl rfl rfl rfl rfl (by kernel_rfl) Tryd.func7 (by kernel_rfl)
    (of_decide_eq_true (by kernel_rfl)) (by unfold Func.isWrapper; first | (rw [if_pos (by decide +kernel)]; kernel_rfl) | (rw [if_neg (by decide +kernel)]; exact ⟨rfl, rfl⟩))
    (fun os started H enc _ => lifted os started H enc)

end GroupSums

theorem groupSums_card_holds : Rows.GroupSumsCardSaid :=
  Claim7.holds_tied_plain_at .later [] [.data, .data] true _ false GroupSums.holds (fun _ h => by cases h) (by kernel_rfl) (fun _ h => by cases h) groupSums_row_tie rfl ⟨rfl, rfl⟩ (by kernel_rfl) rfl
    (fun f fn hf hfn => by
      obtain rfl : f = 7 := Option.some.inj ((show Tryd.prog.funcNamed "consistory/consistorylaw02.GroupSums" = some 7 by kernel_rfl).symm.trans hf) |>.symm
      obtain rfl : fn = Tryd.f7 := (Option.some.inj (Tryd.func7.symm.trans hfn)).symm
      exact ⟨by kernel_rfl, fun j t ht => by
        rw [Tryd.params7] at ht
        have hm : t ∈ [25, 35, 35, 23] := by simpa using Array.mem_of_getElem? ht
        have hall : ([25, 35, 35, 23].all fun u => !Tryd.prog.wantsStandIn u) = true := by kernel_rfl
        exact (show Tryd.prog.wantsStandIn t = false by simpa using List.all_eq_true.1 hall t hm)⟩)
    (by kernel_rfl)
#print axioms groupSums_card_holds
end Go.Proofs.YtmeaiindbkkkiaaDoor

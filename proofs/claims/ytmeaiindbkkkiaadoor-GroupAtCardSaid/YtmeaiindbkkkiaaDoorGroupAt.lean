/- GroupAt: for any parameters, any row of pairs of coefficients and any place the law of values answers true; the program's two tables are laid by its own text (the card ties them). -/
import Derived.Test.YtmeaiindbkkkiaaDoorCards
import Derived.Test.YtmeaiindbkkkiaaDoorTie
import Derived.Test.YtmeaiindbkkkiaaDoorOpen
import Derived.Lay
import Derived.Test.YtmeaiindbkkkiaaDoorOpenS
import Derived.Test.YtmeaiindbkkkiaaDoorGroupAtD
namespace Go.Proofs.YtmeaiindbkkkiaaDoor
open Go.ChangeShapes Go.WideShapes Go.ChangeAt Go.RowKit
namespace GroupAt
open M

theorem walk (p : Pm) (v : Value) (i : Nat) (ok : PmOk p) (hi : i < 18446744073709551616) (w : World) (hv : PairsIn w v) (hl : Laid w) :
    Calls Tryd.prog 8 #[.agg p.cells, v, .int .u64 (i : Int)] w fun e w' => e = .returned (.bool true) ∧ Below w.heap.size w w' := by
  cases hm : mayB p
  · exact core_no p v i w hl works_any (may_yes hm ok.b0 ok.b1 ok.b2 ok.b3)
  · have g := grp_of hm
    have HM := may_yes hm ok.b0 ok.b1 ok.b2 ok.b3
    have hQ : 0 < p.Q := g.gQ.1
    have hQi : i % p.Q < 18446744073709551616 := by have := Nat.mod_lt i hQ; have := g.gQ.2; omega
    have hz : ∀ (ao : Option Addr) (cap : Nat), Calls Tryd.prog 8 #[.agg p.cells, .slice ao 0 cap, .int .u64 (i : Int)] w fun e w' => e = .returned (.bool true) ∧ Below w.heap.size w w' := fun ao cap =>
      core_zero p ao cap i (i % p.Q) (MM.addU 0 1 p.P) w hl (by omega) (by rw [Int.ofNat_tmod]) works_any HM (at_nil p i) (at_nil p (i % p.Q))
        (commit_to p 0 0 _ (by omega) (by omega) ok.b2 ok.b3 (by rw [MM.comU_of g.gP, MM.addU_of g.gP, Nat.pow_zero, Nat.pow_zero]))
    rcases hv with rfl | ⟨a, n, cap, s, b, rfl, _, hs, hb, hc⟩
    · exact hz none 0
    · rcases Nat.eq_zero_or_pos n with rfl | hpos
      · exact hz (some a) cap
      · by_cases hn : n ≤ 20
        · obtain ⟨ba, off, spot⟩ := a
          obtain rfl : spot = none := by simpa [Addr.add] using World.cell?_spot (hc 0 hpos).1
          have plain : ∀ j, (⟨ba, off, none⟩ : Addr).add j = ⟨ba, off + j, none⟩ := fun j => by
            unfold Addr.add
            by_cases h0 : j = 0
            · subst h0; rfl
            · rw [if_neg h0]
          have hcom : ∀ k, k < n → MM.comU p.P p.G p.H (s k) (b k) < 18446744073709551616 := fun k _ => MM.comU_lt _ _ _ _ _
          refine core p ba off n cap i (i % p.Q) (MM.comU p.P p.G p.H (MM.valN p.Q i s n) (MM.valN p.Q i b n)) s b (fun k => MM.comU p.P p.G p.H (s k) (b k)) (MM.expN p.Q i) (MM.valN p.Q i s) (MM.valN p.Q i b) w hl hn hpos
            (fun k hk => by rw [← plain, Nat.add_assoc, ← plain]; exact hc k hk) rfl rfl rfl (by omega) (by rw [Int.ofNat_tmod]) works_any HM (fun k _ => commit_any p _ _ (hs k) (hb k) ok.b2 ok.b3)
            (fun k _ => ⟨_, ret_mulU _ _ _ (hs k) (MM.expN_lt _ _ _), ret_addU _ _ _⟩) (fun k _ => ⟨_, ret_mulU _ _ _ (hb k) (MM.expN_lt _ _ _), ret_addU _ _ _⟩) (fun k _ => ret_mulU _ _ _ (MM.expN_lt _ _ _) hi)
            (fun a' cap' W' h => ?_) (fun a' cap' W' h => ?_) (commit_any p _ _ (MM.valN_lt _ _ _ _) (MM.valN_lt _ _ _ _) ok.b2 ok.b3)
          · exact at_to p a' n cap' i _ _ hcom hi (by omega) (g.at i s b n) W' h
          · exact at_to p a' n cap' (i % p.Q) _ _ hcom hQi (by omega) (by rw [g.atMod]; exact g.at i s b n) W' h
        · exact core_long p a n cap i w hl (by omega) works_any HM

set_option maxRecDepth 100000 in
theorem lifted (os : Os) (started : os.Started) (H : Type) (enc : TypeId × Value → H) :
    ReturnsInHanded {} Tryd.checked os 8 .any (fun w args => (Rows.groupAtSpec.pre enc Tryd.prog Tryd.f8 Rows.groupAtRow.domain false w args ∧ laidMetH Tryd.prog M.laid w) ∧ sizedMet enc Tryd.prog Tryd.f8 (OpenSpec.ofChange Rows.groupAtSpec) false w args)
      (Rows.groupAtSpec.post enc Tryd.prog Tryd.f8 false true false false) := by
  refine returnsInHanded_of_change_and (C := Tryd.checked) (X := fun w _ => laidMetH Tryd.prog M.laid w) (fun _ _ _ hh h => h.of_heap hh) M.own started (by kernel_rfl) Tryd.func8
    (ChangeSpec.witness_shaped (enc := enc) (C := Tryd.checked) (os := os) (X := fun w _ => laidMetH Tryd.prog M.laid w) false (World.laidAll Tryd.prog os M.laid) #[.agg #[.int .u64 0, .int .u64 0, .int .u64 0, .int .u64 0, .int .i64 0, .int .i64 0, .int .i64 0, .int .i64 0, .int .i64 0, .int .i64 0, .int .i64 0, .int .i64 0], .slice none 0 0, .int .u64 0] 8 (World.laidAll_os _ _ _)
      (World.shaped_of_ZipB (by kernel_rfl) (by kernel_rfl)) (by kernel_rfl) (by kernel_rfl) (by kernel_rfl)
      (by rw [MakeChecks.laidMetH_plain _ _ _ (by kernel_rfl)]; exact laidMet_laidAll _ (by kernel_rfl) (by kernel_rfl))) ?_
  intro W base args ds gs before hval0 hW _ _ hL _
  have hval : ∀ (j : Nat) t v, Tryd.f8.params[j]? = some t → args[j]? = some v → Value.okWide Tryd.prog W .any base t v := hval0
  have hW' := hW
  obtain ⟨p, q, hA0, hV, rfl, _, _⟩ := hW
  have hA : DataW.TrodAll enc Tryd.prog W 0 (fun _ => true) true Tryd.f8.params.toList args.toList ds p := hA0
  rw [Tryd.params8] at hA hval
  obtain ⟨v0, vs0, d0, ds0, p0, q0, hargs, rfl, rfl, h0, r0⟩ := trodAll_cons hA
  obtain ⟨v1, vs1, d1, ds1, p1, q1, rfl, rfl, rfl, h1, r1⟩ := trodAll_cons r0
  obtain ⟨v2, vs2, d2, ds2, p2, q2, rfl, rfl, rfl, h2, r2⟩ := trodAll_cons r1
  obtain ⟨rfl, rfl, rfl⟩ := trodAll_nil r2
  obtain rfl : args = #[v0, v1, v2] := by cases args; simp_all
  obtain ⟨rfl, rfl⟩ := trodVars_none hV
  have k0 := h0
  have lt0 : ∀ x ∈ p0, x.block < W.heap.size := by obtain ⟨m, hm⟩ := k0; exact DataW.trod_lt m _ _ _ hm
  obtain ⟨a0, rfl, ok0⟩ := M.open_pm (hval 0 25 v0 rfl rfl) h0
  have k1 := h1
  have lt1 : ∀ x ∈ p1, x.block < W.heap.size := by obtain ⟨m, hm⟩ := k1; exact DataW.trod_lt m _ _ _ hm
  have ns1 := M.open_pairs (hval 1 40 v1 rfl rfl) h1
  have k2 := h2
  have lt2 : ∀ x ∈ p2, x.block < W.heap.size := by obtain ⟨m, hm⟩ := k2; exact DataW.trod_lt m _ _ _ hm
  obtain ⟨x2, rfl, rfl, rfl, w2⟩ := open_int Tryd.underlying23 (hval 2 23 v2 rfl rfl) h2
  obtain ⟨lo2, hi2⟩ := M.u64_bounds w2
  obtain ⟨a2, rfl⟩ : ∃ a : Nat, x2 = a := ⟨x2.toNat, by omega⟩
  clear hA0 hval0
  simp only [List.append_nil] at hW'
  refine (walk a0 v1 a2 ok0 (by omega) W ns1 (M.of_laid hL)).mono fun e W' ⟨he, bel⟩ => ?_
  subst he
  exact ⟨_, rfl, _, _, _, [], _, [], hW', (trodAll_cons_mk (shut_bool Tryd.underlying4 _) trodAll_mk0), (trodAll_cons_mk (Below.trod M.laidOut (by kernel_rfl) (of_decide_eq_true (by kernel_rfl)) k0 bel lt0) (trodAll_cons_mk (Below.trod M.laidOut (by kernel_rfl) (of_decide_eq_true (by kernel_rfl)) k1 bel lt1) (trodAll_cons_mk (Below.trod M.laidOut (by kernel_rfl) (of_decide_eq_true (by kernel_rfl)) k2 bel lt2) trodAll_mk0))), rfl, bel.frame _, fun h => by cases h⟩

theorem holds : Rows.GroupAtSaid :=
  OpenClaim.holds_of_wide 8 Tryd.f8 rfl rfl rfl rfl rfl rfl rfl ⟨rfl, rfl, rfl, rfl, rfl⟩ rfl rfl rfl rfl rfl (by kernel_rfl) Tryd.func8 (by kernel_rfl)
    (of_decide_eq_true (by kernel_rfl)) (by unfold Func.isWrapper; first | (rw [if_pos (by decide +kernel)]; kernel_rfl) | (rw [if_neg (by decide +kernel)]; exact ⟨rfl, rfl⟩))
    (fun os started H enc _ => lifted os started H enc)

end GroupAt

theorem groupAt_card_holds : Rows.GroupAtCardSaid :=
  Claim7.holds_tied_plain_at .later [] [.data, .data] true _ false GroupAt.holds (fun _ h => by cases h) (by kernel_rfl) (fun _ h => by cases h) groupAt_row_tie rfl ⟨rfl, rfl⟩ (by kernel_rfl) rfl
    (fun f fn hf hfn => by
      obtain rfl : f = 8 := Option.some.inj ((show Tryd.prog.funcNamed "consistory/consistorylaw02.GroupAt" = some 8 by kernel_rfl).symm.trans hf) |>.symm
      obtain rfl : fn = Tryd.f8 := (Option.some.inj (Tryd.func8.symm.trans hfn)).symm
      exact ⟨by kernel_rfl, fun j t ht => by
        rw [Tryd.params8] at ht
        have hm : t ∈ [25, 40, 23] := by simpa using Array.mem_of_getElem? ht
        have hall : ([25, 40, 23].all fun u => !Tryd.prog.wantsStandIn u) = true := by kernel_rfl
        exact (show Tryd.prog.wantsStandIn t = false by simpa using List.all_eq_true.1 hall t hm)⟩)
    (by kernel_rfl)
#print axioms groupAt_card_holds
end Go.Proofs.YtmeaiindbkkkiaaDoor

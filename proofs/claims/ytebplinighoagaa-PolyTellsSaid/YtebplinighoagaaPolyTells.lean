/- Values, degrees, sums, multiples and products of any rows, modulo any number, are the document's: the statement, for every input. -/
import Derived.Test.YtebplinighoagaaRows
import Derived.Test.YtebplinighoagaaOpenN
import Derived.Test.YtebplinighoagaaLaw03c
import Derived.Lib.AppendZeros
namespace Go.Proofs.Ytebplinighoagaa
open Go.ChangeShapes Go.WideShapes Go.ChangeAt Go.RowKit
namespace PolyTells
open M

set_option maxHeartbeats 4000000 in
theorem core (ao bo : Option Addr) (la ca lb cb x k q : Nat) (a b : Nat → Nat) (hal : ∀ j, a j < 18446744073709551616) (hbl : ∀ j, b j < 18446744073709551616) (hla : la ≤ 40) (hlb : lb ≤ 40) (hx : x < 18446744073709551616) (hk : k < 18446744073709551616) (W : World) (ha : Src W ao la ca a) (hb : Src W bo lb cb b) :
    Calls Try.prog 4 #[.slice ao la ca, .slice bo lb cb, .int .u64 (x : Int), .int .u64 (k : Int), .int .u64 (q : Int)] W fun e w' => e = .returned (.bool true) ∧ Below W.heap.size W w' := by
  obtain ⟨co, cc, W2, hr1, hc2, hb2⟩ := copy_run W ao la ca a (by omega) ha
  obtain ⟨do_, cd, W3, hr2, hd3, hb3⟩ := copy_run W2 bo lb cb b (by omega) (hb.below hb2)
  have hb4 := Below.tr hb2 hb3
  have hca := hc2.below hb3
  have has := ha.1.below hb4
  have hbs := hb.1.below hb4
  obtain ⟨n1, z1, hn1, ps1, pr1⟩ := pair_sum (q := q) (cc := cc) (cd := cd) (ca := ca) (cb := cb) hla hlb hca hd3 has hbs
  obtain ⟨n2, z2, hn2, ps2, pr2⟩ := pair_scale (q := q) (cc := cc) (ca := ca) hk hal hla hca has
  obtain ⟨n3, z3, hn3, ps3, pr3⟩ := pair_times (q := q) (cc := cc) (cd := cd) (ca := ca) (cb := cb) hal hbl hla hlb hca hd3 has hbs
  obtain ⟨r4, S4⟩ := same_eval (q := q) (cc := cc) (ca := ca) hx hla hca has
  obtain ⟨r5, S5⟩ := same_degree (q := q) (cc := cc) (ca := ca) hla hca has
  obtain ⟨r6, S6⟩ := same_same (q := q) (cc := cc) (cd := cd) (ca := ca) (cb := cb) hla hlb hca hd3 has hbs
  have N1 := Lib.hid fun W' (h : Below W3.heap.size W3 W') => rnumbers_yes co ao la cc ca a (by omega) W' (hca.below h) (has.below h)
  have N2 := Lib.hid fun W' (h : Below W3.heap.size W3 W') => rnumbers_yes do_ bo lb cd cb b (by omega) W' (hd3.below h) (hbs.below h)
  replace ps1 := Lib.hid ps1
  replace pr1 := Lib.hid pr1
  replace ps2 := Lib.hid ps2
  replace pr2 := Lib.hid pr2
  replace ps3 := Lib.hid ps3
  replace pr3 := Lib.hid pr3
  replace hb4 := Lib.hid hb4
  replace S4 := Lib.hid S4
  replace S5 := Lib.hid S5
  replace S6 := Lib.hid S6
  have q1 : ¬ (40 : Int) < (la : Int) := by omega
  have q2 : ¬ (40 : Int) < (lb : Int) := by omega
  clear hc2 hd3 hb3 hb2 hca has hbs ha hb
  go_enter Try.func4, Try.ntmps4
  go_wp2_with (at_builtin; first | refine Lib.wpList_append_run _ rfl _ _ _ _ rfl _ _ rfl rfl _ _ hr1 ?_ | refine Lib.wpList_append_run _ rfl _ _ _ _ rfl _ _ rfl rfl _ _ hr2 ?_)
  clear hr1 hr2
  have HJ0 : Hid (Below W3.heap.size W3 W3) := Lib.hid (Below.refl _ _)
  go_loopw [13] (fun s13 wx => ∃ m : Nat, m ≤ 2 ∧ s13 = .int .i64 (m : Int) ∧ Hid (Below W3.heap.size W3 wx)) (fun s13 _ => 2 - (RowKit.intOf s13).toNat)
  case atStart => exact ⟨0, by omega, rfl, HJ0⟩
  case round =>
    clear HJ0
    obtain ⟨m, hm, rfl, HJ⟩ := hrel
    rename_i wr
    by_cases hlt : m < 2
    · have p1 : (m : Int) < 2 := by omega
      go_wp2_with fail
      refine (ps1.out _ HJ.out).mono ?_
      rintro e u1 ⟨v1, rfl, hp1, hb1⟩
      have HA1 := Lib.hid (Below.tr HJ.out hb1)
      have HL1 := Lib.hid HJ.out.size
      go_wp2_with fail
      refine (pr1.out _ HA1.out).mono ?_
      rintro e t1 ⟨bo1, cb1, rfl, hd1, hc1⟩
      have HB1 := Lib.hid (Below.tr HA1.out hc1)
      have HP1 := Lib.hid (hp1.below hc1)
      have HD1 := Lib.hid hd1
      clear hp1 hb1 hd1 hc1 HA1 HJ
      go_wp2_with fail
      refine (told_any v1 bo1 n1 cb1 _ z1 (by omega) t1 HP1.out HD1.out).mono ?_
      rintro e y1 ⟨rfl, hb1⟩
      have HC1 := Lib.hid (HB1.out.trans (hb1.mono HL1.out))
      clear hb1 HB1 HP1 HD1 HL1
      go_wp2_with fail
      refine (ps2.out _ HC1.out).mono ?_
      rintro e u2 ⟨v2, rfl, hp2, hb2⟩
      have HA2 := Lib.hid (Below.tr HC1.out hb2)
      have HL2 := Lib.hid HC1.out.size
      go_wp2_with fail
      refine (pr2.out _ HA2.out).mono ?_
      rintro e t2 ⟨bo2, cb2, rfl, hd2, hc2⟩
      have HB2 := Lib.hid (Below.tr HA2.out hc2)
      have HP2 := Lib.hid (hp2.below hc2)
      have HD2 := Lib.hid hd2
      clear hp2 hb2 hd2 hc2 HA2 HC1
      go_wp2_with fail
      refine (told_any v2 bo2 n2 cb2 _ z2 (by omega) t2 HP2.out HD2.out).mono ?_
      rintro e y2 ⟨rfl, hb2⟩
      have HC2 := Lib.hid (HB2.out.trans (hb2.mono HL2.out))
      clear hb2 HB2 HP2 HD2 HL2
      go_wp2_with fail
      refine (ps3.out _ HC2.out).mono ?_
      rintro e u3 ⟨v3, rfl, hp3, hb3⟩
      have HA3 := Lib.hid (Below.tr HC2.out hb3)
      have HL3 := Lib.hid HC2.out.size
      go_wp2_with fail
      refine (pr3.out _ HA3.out).mono ?_
      rintro e t3 ⟨bo3, cb3, rfl, hd3, hc3⟩
      have HB3 := Lib.hid (Below.tr HA3.out hc3)
      have HP3 := Lib.hid (hp3.below hc3)
      have HD3 := Lib.hid hd3
      clear hp3 hb3 hd3 hc3 HA3 HC2
      go_wp2_with fail
      refine (told_any v3 bo3 n3 cb3 _ z3 (by omega) t3 HP3.out HD3.out).mono ?_
      rintro e y3 ⟨rfl, hb3⟩
      have HC3 := Lib.hid (HB3.out.trans (hb3.mono HL3.out))
      clear hb3 HB3 HP3 HD3 HL3
      go_wp2_with fail
      go_roundw
      case rel => exact ⟨m + 1, by omega, by go_num, HC3⟩
      case measure => simp [RowKit.intOf]; omega
    · obtain rfl : m = 2 := by omega
      go_wp2_with fail
      refine (S4.out.1 _ HJ.out).mono ?_
      rintro e u1 ⟨rfl, hb1⟩
      have H1 := Lib.hid (Below.tr HJ.out hb1)
      clear hb1
      go_wp2_with fail
      refine (S4.out.2 _ H1.out).mono ?_
      rintro e u2 ⟨rfl, hb1⟩
      have H2 := Lib.hid (Below.tr H1.out hb1)
      clear hb1
      go_wp2_with fail
      refine (S5.out.1 _ H2.out).mono ?_
      rintro e u3 ⟨rfl, hb1⟩
      have H3 := Lib.hid (Below.tr H2.out hb1)
      clear hb1
      go_wp2_with fail
      refine (S5.out.2 _ H3.out).mono ?_
      rintro e u4 ⟨rfl, hb1⟩
      have H4 := Lib.hid (Below.tr H3.out hb1)
      clear hb1
      go_wp2_with fail
      refine (S6.out.1 _ H4.out).mono ?_
      rintro e u5 ⟨rfl, hb1⟩
      have H5 := Lib.hid (Below.tr H4.out hb1)
      clear hb1
      go_wp2_with fail
      refine (S6.out.2 _ H5.out).mono ?_
      rintro e u6 ⟨rfl, hb1⟩
      have H6 := Lib.hid (Below.tr H5.out hb1)
      clear hb1
      go_wp2_with fail
      refine (N1.out _ H6.out).mono ?_
      rintro e u7 ⟨rfl, m7, rfl⟩
      have H7 := Lib.hid (Below.tr H6.out (below_drewN' _ m7 _))
      go_wp2_with fail
      refine (N2.out _ H7.out).mono ?_
      rintro e u8 ⟨rfl, m8, rfl⟩
      go_wp2_with fail
      refine (awake_any _).mono ?_
      rintro e u9 ⟨rfl, hb1⟩
      have H9 := Lib.hid (Below.tr hb4.out (Below.tr (Below.tr H6.out (below_drewN' _ (m7 + m8) _)) hb1))
      go_wp2_with fail
      go_ret
      exact ⟨rfl, H9.out⟩
set_option maxHeartbeats 4000000 in
theorem long (ao bo : Option Addr) (la ca lb cb x k q : Nat) (hl : 40 < la ∨ 40 < lb) (W : World) :
    Calls Try.prog 4 #[.slice ao la ca, .slice bo lb cb, .int .u64 (x : Int), .int .u64 (k : Int), .int .u64 (q : Int)] W fun e w' => e = .returned (.bool true) ∧ Below W.heap.size W w' := by
  rcases Nat.lt_or_ge 40 la with h | h
  · have q1 : (40 : Int) < (la : Int) := by omega
    go_enter Try.func4, Try.ntmps4
    go_wp2_with (go_at_call 6; refine (awake_any _).mono ?_; rintro e u9 ⟨rfl, hb1⟩; have H9 := Lib.hid hb1; clear hb1)
    go_ret
    exact ⟨rfl, H9.out⟩
  · have q1 : ¬ (40 : Int) < (la : Int) := by omega
    have q2 : (40 : Int) < (lb : Int) := by omega
    go_enter Try.func4, Try.ntmps4
    go_wp2_with (go_at_call 6; refine (awake_any _).mono ?_; rintro e u9 ⟨rfl, hb1⟩; have H9 := Lib.hid hb1; clear hb1)
    go_ret
    exact ⟨rfl, H9.out⟩
theorem nums_src {W : World} {v : Value} (h : NumsIn W v) : ∃ (ao : Option Addr) (n c : Nat) (z : Nat → Nat), v = .slice ao n c ∧ (∀ j, z j < 18446744073709551616) ∧ Src W ao n c z := by
  rcases h with rfl | ⟨a, n, c, z, rfl, _, hz, hr⟩
  · exact ⟨none, 0, 0, fun _ => 0, rfl, fun _ => Nat.zero_lt_succ _, fun h => absurd h (by omega), fun _ => ⟨rfl, rfl⟩⟩
  · exact ⟨some a, n, c, z, rfl, hz, row_rd hr, fun h => by cases h⟩
theorem walk (v0 v1 : Value) (x k q : Nat) (hx : x < 18446744073709551616) (hk : k < 18446744073709551616) (_hq : q < 18446744073709551616) (W : World) (h0 : NumsIn W v0) (h1 : NumsIn W v1) :
    Calls Try.prog 4 #[v0, v1, .int .u64 (x : Int), .int .u64 (k : Int), .int .u64 (q : Int)] W fun e w' => e = .returned (.bool true) ∧ Below W.heap.size W w' := by
  obtain ⟨ao, la, ca, a, rfl, hal, ha⟩ := nums_src h0
  obtain ⟨bo, lb, cb, b, rfl, hbl, hb⟩ := nums_src h1
  by_cases hl : 40 < la ∨ 40 < lb
  · exact long ao bo la ca lb cb x k q hl W
  · exact core ao bo la ca lb cb x k q a b hal hbl (by omega) (by omega) hx hk W ha hb

set_option maxRecDepth 100000 in
theorem lifted (os : Os) (started : os.Started) (H : Type) (enc : TypeId × Value → H) :
    ReturnsInHanded {} Try.checked os 4 .any (Rows.polyTellsSpec.pre6 enc Try.prog Try.f4 Rows.polyTellsRow.domain false) (Rows.polyTellsSpec.post enc Try.prog Try.f4 false true false false) := by
  refine returnsInHanded_of_change (C := Try.checked) M.own started (by kernel_rfl) Try.func4
    (ChangeSpec.witness6 (enc := enc) (C := Try.checked) false ⟨#[], #[.slice none 0 0, .slice none 0 0, .int .u64 0, .int .u64 0, .int .u64 0], []⟩ 8 (by kernel_rfl) (by kernel_rfl) (by kernel_rfl) (by kernel_rfl)) ?_
  intro W base args ds gs before hval0 hW _ _
  have hval : ∀ (j : Nat) t v, Try.f4.params[j]? = some t → args[j]? = some v → Value.okWide Try.prog W .any base t v := hval0
  have hW' := hW
  obtain ⟨p, q, hA0, hV, rfl, _, _⟩ := hW
  have hA : DataW.TrodAll enc Try.prog W 0 (fun _ => true) true Try.f4.params.toList args.toList ds p := hA0
  rw [Try.params4] at hA hval
  obtain ⟨v0, vs0, d0, ds0, p0, q0, hargs, rfl, rfl, h0, r0⟩ := trodAll_cons hA
  obtain ⟨v1, vs1, d1, ds1, p1, q1, rfl, rfl, rfl, h1, r1⟩ := trodAll_cons r0
  obtain ⟨v2, vs2, d2, ds2, p2, q2, rfl, rfl, rfl, h2, r2⟩ := trodAll_cons r1
  obtain ⟨v3, vs3, d3, ds3, p3, q3, rfl, rfl, rfl, h3, r3⟩ := trodAll_cons r2
  obtain ⟨v4, vs4, d4, ds4, p4, q4, rfl, rfl, rfl, h4, r4⟩ := trodAll_cons r3
  obtain ⟨rfl, rfl, rfl⟩ := trodAll_nil r4
  obtain rfl : args = #[v0, v1, v2, v3, v4] := by cases args; simp_all
  obtain ⟨rfl, rfl⟩ := trodVars_none hV
  have k0 := h0
  have lt0 : ∀ x ∈ p0, x.block < W.heap.size := by obtain ⟨m, hm⟩ := k0; exact DataW.trod_lt m _ _ _ hm
  have ns0 := M.open_nums (hval 0 24 v0 rfl rfl) h0
  have k1 := h1
  have lt1 : ∀ x ∈ p1, x.block < W.heap.size := by obtain ⟨m, hm⟩ := k1; exact DataW.trod_lt m _ _ _ hm
  have ns1 := M.open_nums (hval 1 24 v1 rfl rfl) h1
  have k2 := h2
  have lt2 : ∀ x ∈ p2, x.block < W.heap.size := by obtain ⟨m, hm⟩ := k2; exact DataW.trod_lt m _ _ _ hm
  obtain ⟨x2, rfl, rfl, rfl, w2⟩ := open_int Try.underlying23 (hval 2 23 v2 rfl rfl) h2
  obtain ⟨lo2, hi2⟩ := M.u64_bounds w2
  obtain ⟨a2, rfl⟩ : ∃ a : Nat, x2 = a := ⟨x2.toNat, by omega⟩
  have k3 := h3
  have lt3 : ∀ x ∈ p3, x.block < W.heap.size := by obtain ⟨m, hm⟩ := k3; exact DataW.trod_lt m _ _ _ hm
  obtain ⟨x3, rfl, rfl, rfl, w3⟩ := open_int Try.underlying23 (hval 3 23 v3 rfl rfl) h3
  obtain ⟨lo3, hi3⟩ := M.u64_bounds w3
  obtain ⟨a3, rfl⟩ : ∃ a : Nat, x3 = a := ⟨x3.toNat, by omega⟩
  have k4 := h4
  have lt4 : ∀ x ∈ p4, x.block < W.heap.size := by obtain ⟨m, hm⟩ := k4; exact DataW.trod_lt m _ _ _ hm
  obtain ⟨x4, rfl, rfl, rfl, w4⟩ := open_int Try.underlying23 (hval 4 23 v4 rfl rfl) h4
  obtain ⟨lo4, hi4⟩ := M.u64_bounds w4
  obtain ⟨a4, rfl⟩ : ∃ a : Nat, x4 = a := ⟨x4.toNat, by omega⟩
  clear hA0 hval0
  simp only [List.append_nil] at hW'
  refine (walk v0 v1 a2 a3 a4 (by omega) (by omega) (by omega) W ns0 ns1).mono fun e W' ⟨he, bel⟩ => ?_
  subst he
  exact ⟨_, rfl, _, _, _, [], _, [], hW', (trodAll_cons_mk (shut_bool Try.underlying4 _) trodAll_mk0), (trodAll_cons_mk (Below.trod M.laidOut (by kernel_rfl) (of_decide_eq_true (by kernel_rfl)) k0 bel lt0) (trodAll_cons_mk (Below.trod M.laidOut (by kernel_rfl) (of_decide_eq_true (by kernel_rfl)) k1 bel lt1) (trodAll_cons_mk (Below.trod M.laidOut (by kernel_rfl) (of_decide_eq_true (by kernel_rfl)) k2 bel lt2) (trodAll_cons_mk (Below.trod M.laidOut (by kernel_rfl) (of_decide_eq_true (by kernel_rfl)) k3 bel lt3) (trodAll_cons_mk (Below.trod M.laidOut (by kernel_rfl) (of_decide_eq_true (by kernel_rfl)) k4 bel lt4) trodAll_mk0))))), rfl, bel.frame _, fun h => by cases h⟩

theorem holds : Rows.PolyTellsSaid :=
  OpenClaim.holds_of_wide 4 Try.f4 rfl rfl rfl rfl rfl rfl rfl ⟨rfl, rfl, rfl, rfl, rfl⟩ rfl rfl rfl rfl rfl (by kernel_rfl) Try.func4 (by kernel_rfl)
    (of_decide_eq_true (by kernel_rfl)) (by unfold Func.isWrapper; first | (rw [if_pos (by decide +kernel)]; kernel_rfl) | (rw [if_neg (by decide +kernel)]; exact ⟨rfl, rfl⟩))
    (fun os started H enc _ => lifted os started H enc)

end PolyTells

theorem polyTells_holds : Rows.PolyTellsSaid := PolyTells.holds
#print axioms polyTells_holds
end Go.Proofs.Ytebplinighoagaa

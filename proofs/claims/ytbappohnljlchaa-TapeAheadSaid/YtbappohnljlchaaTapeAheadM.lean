/- Whatever numbers are told ahead, whatever seed and whatever bound: they come in their row, modulo the bound, and behind them the draws are those of the seed's own tape. -/
import Derived.Test.YtbappohnljlchaaRows
import Derived.Test.YtbappohnljlchaaWB1
import Derived.Test.YtbappohnljlchaaWB5
import Derived.Test.YtbappohnljlchaaWB6
namespace Go.Proofs.Ytbappohnljlchaa
open Go.ChangeShapes Go.WideShapes Go.ChangeAt Go.RowKit
namespace TapeAhead
open M

open MM Go.Lib
theorem after_all {n s : Nat} {z : Nat → Nat} {q : Nat} : (Tp.of (lst n z) s).run (allq q) n = (Tp.new s).as n := by
  rw [run_of _ _ _ _ (by rw [lst_len]; exact Nat.le_refl _), List.drop_of_length_le (by rw [lst_len]; exact Nat.le_refl _)]
  rfl
set_option maxHeartbeats 4000000 in
set_option maxRecDepth 100000 in
theorem walkHere (ao : Option Addr) (n c : Nat) (z : Nat → Nat) (s q : Nat) (hn : n ≤ 500) (hz : ∀ k, z k < 18446744073709551616) (hs : s < 18446744073709551616) (hq : q < 18446744073709551616) (W : World) (hr : Rd W ao n z) (h0 : ao = none → n = 0 ∧ c = 0) :
    Calls Try.prog 7 #[.slice ao n c, .int .u64 (s : Int), .int .u64 (q : Int)] W fun e w' => e = .returned (.bool true) ∧ Below W.heap.size W w' := by
  have n5 : ¬ (500 : Int) < (n : Int) := by omega
  have HO := Lib.hid (fun w (hb : Below W.heap.size W w) => (Tz.start hb).of_ (ao := ao) (n := n) (c := c) (s := s) (z := z) (by omega) hz hr h0 hs)
  have HU := Lib.hid (fun L w (h : Tz W L w) => h.new_ hs)
  have HL := Lib.hid (fun w (hb : Below W.heap.size W w) => hr.below hb)
  have HQ := Lib.hid hq
  have HN : Hid ((Tp.of (lst n z) s).n = 0) := Lib.hid rfl
  have HE : Hid ((Tp.of (lst n z) s).run (allq q) n = (Tp.new s).as n) := Lib.hid after_all
  have HG : Hid (∀ k, k < n → (Tp.of (lst n z) s).get (allq q) k = red (z k) q) := Lib.hid fun k hk => get_of _ _ _ (lst_get n z hk)
  obtain ⟨t, ht⟩ : ∃ t, Tp.of (lst n z) s = t := ⟨_, rfl⟩
  rw [ht] at HO HN HE HG
  obtain ⟨u, hu⟩ : ∃ u, Tp.new s = u := ⟨_, rfl⟩
  have HUN : Hid (u.n = 0) := Lib.hid (by rw [← hu]; rfl)
  rw [hu] at HU HE
  clear hr h0 hz hs ht hq hu
  go_enter Try.func7, Try.ntmps7
  go_wp2_with (first
    | (go_at_call 10; (with_reducible refine (works_any _).mono ?_); rintro e w1 ⟨rfl, hb⟩; have HB := Lib.hid hb; clear hb)
    | (go_at_call 16; (with_reducible refine (HO.out _ HB.out).mono ?_); rintro e w2 ⟨B, rfl, hd⟩; have HD := Lib.hid hd; clear hd)
    | (go_at_call 15; (with_reducible refine (HU.out _ _ HD.out).mono ?_); rintro e w3 ⟨C, rfl, hd⟩; have HD3 : Hid (Tz W [(true, B, t), (true, C, u)] w3) := Lib.hid hd; clear hd))
  go_loopw [9, 10] (fun s9 _ wx => ∃ k : Nat, k ≤ n ∧ s9 = .int .i64 (k : Int) ∧ Hid (Tz W [(true, B, t.run (allq q) k), (true, C, u)] wx)) (fun s9 _ _ => n - (RowKit.intOf s9).toNat)
  case atStart => exact ⟨0, Nat.zero_le _, rfl, HD3⟩
  case round =>
    clear HD3 HD HB HO HU
    obtain ⟨k, hk, rfl, HD⟩ := hrel
    rename_i wr
    by_cases hlt : k < n
    · have hk0 : (0 : Int) ≤ (k : Int) := Int.natCast_nonneg _
      have hk1 : (k : Int) < (n : Int) := by omega
      obtain ⟨ad, rfl, hc⟩ := (HL.out wr HD.out.below).at_ hlt
      have hnk : (t.run (allq q) k).n = k := by rw [Tp.run_n, HN.out]; omega
      have HX := Lib.hid ((HD.out.next (i := 0) rfl q HQ.out (by omega)))
      have hv : (t.run (allq q) k).val q = red (z k) q := HG.out k hlt
      rw [hv] at HX
      have HXX : Hid (∀ w, Tz W ([(true, B, t.run (allq q) k), (true, C, u)].set 0 (true, B, (t.run (allq q) k).next q)) w → Tz W [(true, B, t.run (allq q) (k + 1)), (true, C, u)] w) := Lib.hid fun w h => h
      generalize z k = x at *
      clear hnk hv
      by_cases h1 : q = 0
      · have g1 : ¬ (0 : Int) < (q : Int) := by omega
        have g2 : ¬ 0 < q := by omega
        have hrd : red x q = x := by rw [h1]; exact if_pos rfl
        rw [hrd] at HX
        clear h1 hrd
        go_wp2_with (go_at_call 11; (with_reducible refine (HX.out).mono ?_); rintro e w2 ⟨rfl, h⟩; have HD2 := Lib.hid (HXX.out _ h); clear h)
        go_roundw
        case rel => exact ⟨k + 1, by omega, by go_num, HD2⟩
        case measure => simp [RowKit.intOf]; omega
      · have g1 : (0 : Int) < (q : Int) := by omega
        have g2 : 0 < q := by omega
        have hrd : red x q = x % q := if_neg h1
        have hm : (x : Int) % (q : Int) = ((x % q : Nat) : Int) := rfl
        rw [hrd] at HX
        generalize x % q = xm at *
        clear hrd
        go_wp2_with (go_at_call 11; (with_reducible refine (HX.out).mono ?_); rintro e w2 ⟨rfl, h⟩; have HD2 := Lib.hid (HXX.out _ h); clear h)
        go_roundw
        case rel => exact ⟨k + 1, by omega, by go_num, HD2⟩
        case measure => simp [RowKit.intOf]; omega
    · obtain rfl : k = n := by omega
      have HA : Hid (Calls Try.prog 12 #[ptr B, .int .i64 10, .int .u64 (q : Int)] wr fun e w' => ∃ R, e = .returned (.slice (some ⟨R, 0, none⟩) 10 10) ∧ Nm R 10 (u.get (allq q)) w' ∧ (∃ t2, Tz W [(true, B, t2), (true, C, u)] w')) := Lib.hid ((HD.out.draws (i := 0) rfl 10 q (by omega) HQ.out (by rw [Tp.run_n, HN.out]; omega)).mono fun _ _ ⟨R, a, _, b, d, _⟩ => ⟨R, a, by
        rw [HE.out] at b
        exact b.congr fun k _ => Tp.as_get u _ _ k, _, d⟩)
      have HB2 : Hid (∀ t2 R w, Tz W [(true, B, t2), (true, C, u)] w → Nm R 10 (u.get (allq q)) w → Calls Try.prog 12 #[ptr C, .int .i64 10, .int .u64 (q : Int)] w fun e w' => ∃ R2, e = .returned (.slice (some ⟨R2, 0, none⟩) 10 10) ∧ Nm R2 10 (u.get (allq q)) w' ∧ Nm R 10 (u.get (allq q)) w' ∧ Below W.heap.size W w') := Lib.hid fun t2 R w h hnm => by
        obtain ⟨lo, hi, hts⟩ := h
        obtain ⟨T, cs, hbx, hT⟩ := (hts.each 1 _ rfl).bx
        exact (hts.draws (i := 1) rfl 10 q (by omega) HQ.out (by rw [HUN.out]; omega)).mono fun _ _ ⟨R2, a, _, b, d, f⟩ => ⟨R2, a, b, hnm.turn f (hnm.apart hbx hT), d.below⟩
      have HNM : Hid (∀ R R2 w, Nm R 10 (u.get (allq q)) w → Nm R2 10 (u.get (allq q)) w → Calls Try.prog 20 #[.slice (some ⟨R, 0, none⟩) 10 10, .slice (some ⟨R2, 0, none⟩) 10 10] w fun e w' => e = .returned (.bool true) ∧ ∃ m, w' = w.drewN m) := Lib.hid fun R R2 w h1 h2 => nums_any _ _ 10 10 10 _ (by omega) w h1.rd h2.rd
      clear HE HG HD HN HL
      go_wp2_with (first
        | (go_at_call 12; (with_reducible refine (HA.out).mono ?_); rintro e w2 ⟨R, rfl, h, ⟨t2, h'⟩⟩; have HR := Lib.hid h; have HT := Lib.hid h'; clear h h')
        | (go_at_call 12; (with_reducible refine (HB2.out _ _ _ HT.out HR.out).mono ?_); rintro e w3 ⟨R2, rfl, h, h', h''⟩; have HR2 := Lib.hid h; have HR3 := Lib.hid h'; have HBB := Lib.hid h''; clear h h' h'')
        | (go_at_call 20; (with_reducible refine (HNM.out _ _ _ HR3.out HR2.out).mono ?_); rintro e w4 ⟨rfl, nd, rfl⟩))
      go_ret
      exact ⟨rfl, HBB.out.trans (below_drewN' _ _ _)⟩
theorem walkOut (ao : Option Addr) (n c s q : Nat) (h : 500 < n) (W : World) :
    Calls Try.prog 7 #[.slice ao n c, .int .u64 (s : Int), .int .u64 (q : Int)] W fun e w' => e = .returned (.bool true) ∧ Below W.heap.size W w' := by
  have g : (500 : Int) < (n : Int) := by omega
  go_enter Try.func7, Try.ntmps7
  go_wp2_with (go_at_call 10; (with_reducible refine (works_any _).mono ?_); rintro e w1 ⟨rfl, hb⟩)
  go_ret
  exact ⟨rfl, bnext (by assumption) (by assumption)⟩
theorem walk (v : Value) (s q : Nat) (hs : s < 18446744073709551616) (hq : q < 18446744073709551616) (W : World) (hv : NumsIn W v) :
    Calls Try.prog 7 #[v, .int .u64 (s : Int), .int .u64 (q : Int)] W fun e w' => e = .returned (.bool true) ∧ Below W.heap.size W w' := by
  obtain ⟨ao, n, c, z, rfl, _, _, hz, hr, h0⟩ := hv
  by_cases h1 : 500 < n
  · exact walkOut ao n c s q h1 W
  exact walkHere ao n c z s q (by omega) hz hs hq W hr h0

set_option maxRecDepth 100000 in
theorem lifted (os : Os) (started : os.Started) (H : Type) (enc : TypeId × Value → H) :
    ReturnsInHanded {} Try.checked os 7 .any (Rows.tapeAheadSpec.pre6 enc Try.prog Try.f7 Rows.tapeAheadRow.domain false) (Rows.tapeAheadSpec.post enc Try.prog Try.f7 false true false false) := by
  refine returnsInHanded_of_change (C := Try.checked) M.own started (by kernel_rfl) Try.func7
    (ChangeSpec.witness6 (enc := enc) (C := Try.checked) false ⟨#[], #[.slice none 0 0, .int .u64 0, .int .u64 0], []⟩ 8 (by kernel_rfl) (by kernel_rfl) (by kernel_rfl) (by kernel_rfl)) ?_
  intro W base args ds gs before hval0 hW _ _
  have hval : ∀ (j : Nat) t v, Try.f7.params[j]? = some t → args[j]? = some v → Value.okWide Try.prog W .any base t v := hval0
  have hW' := hW
  obtain ⟨p, q, hA0, hV, rfl, _, _⟩ := hW
  have hA : DataW.TrodAll enc Try.prog W 0 (fun _ => true) true Try.f7.params.toList args.toList ds p := hA0
  rw [Try.params7] at hA hval
  obtain ⟨v0, vs0, d0, ds0, p0, q0, hargs, rfl, rfl, h0, r0⟩ := trodAll_cons hA
  obtain ⟨v1, vs1, d1, ds1, p1, q1, rfl, rfl, rfl, h1, r1⟩ := trodAll_cons r0
  obtain ⟨v2, vs2, d2, ds2, p2, q2, rfl, rfl, rfl, h2, r2⟩ := trodAll_cons r1
  obtain ⟨rfl, rfl, rfl⟩ := trodAll_nil r2
  obtain rfl : args = #[v0, v1, v2] := by cases args; simp_all
  obtain ⟨rfl, rfl⟩ := trodVars_none hV
  have k0 := h0
  have lt0 : ∀ x ∈ p0, x.block < W.heap.size := by obtain ⟨m, hm⟩ := k0; exact DataW.trod_lt m _ _ _ hm
  have ns0 := M.open_nums (hval 0 26 v0 rfl rfl) h0
  have k1 := h1
  have lt1 : ∀ x ∈ p1, x.block < W.heap.size := by obtain ⟨m, hm⟩ := k1; exact DataW.trod_lt m _ _ _ hm
  obtain ⟨x1, rfl, rfl, rfl, w1⟩ := open_int Try.underlying24 (hval 1 24 v1 rfl rfl) h1
  obtain ⟨lo1, hi1⟩ := M.u64_bounds w1
  obtain ⟨a1, rfl⟩ : ∃ a : Nat, x1 = a := ⟨x1.toNat, by omega⟩
  have k2 := h2
  have lt2 : ∀ x ∈ p2, x.block < W.heap.size := by obtain ⟨m, hm⟩ := k2; exact DataW.trod_lt m _ _ _ hm
  obtain ⟨x2, rfl, rfl, rfl, w2⟩ := open_int Try.underlying24 (hval 2 24 v2 rfl rfl) h2
  obtain ⟨lo2, hi2⟩ := M.u64_bounds w2
  obtain ⟨a2, rfl⟩ : ∃ a : Nat, x2 = a := ⟨x2.toNat, by omega⟩
  clear hA0 hval0
  simp only [List.append_nil] at hW'
  refine (walk v0 a1 a2 (by omega) (by omega) W ns0).mono fun e W' ⟨he, bel⟩ => ?_
  subst he
  exact ⟨_, rfl, _, _, _, [], _, [], hW', (trodAll_cons_mk (shut_bool Try.underlying4 _) trodAll_mk0), (trodAll_cons_mk (Below.trod M.laidOut (by kernel_rfl) (of_decide_eq_true (by kernel_rfl)) k0 bel lt0) (trodAll_cons_mk (Below.trod M.laidOut (by kernel_rfl) (of_decide_eq_true (by kernel_rfl)) k1 bel lt1) (trodAll_cons_mk (Below.trod M.laidOut (by kernel_rfl) (of_decide_eq_true (by kernel_rfl)) k2 bel lt2) trodAll_mk0))), rfl, bel.frame _, fun h => by cases h⟩

theorem holds : Rows.TapeAheadSaid :=
  OpenClaim.holds_of_wide 7 Try.f7 rfl rfl rfl rfl rfl rfl rfl ⟨rfl, rfl, rfl, rfl, rfl⟩ rfl rfl rfl rfl rfl (by kernel_rfl) Try.func7 (by kernel_rfl)
    (of_decide_eq_true (by kernel_rfl)) (by unfold Func.isWrapper; first | (rw [if_pos (by decide +kernel)]; kernel_rfl) | (rw [if_neg (by decide +kernel)]; exact ⟨rfl, rfl⟩))
    (fun os started H enc _ => lifted os started H enc)

end TapeAhead

theorem tapeAhead_holds : Rows.TapeAheadSaid := TapeAhead.holds
#print axioms tapeAhead_holds
end Go.Proofs.Ytbappohnljlchaa

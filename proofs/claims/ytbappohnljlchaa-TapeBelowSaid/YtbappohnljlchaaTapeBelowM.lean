/- Whatever numbers are told ahead, whatever seed and whatever bounds: a draw below q is below q, if q is not 0, and each draw counts one. -/
import Derived.Test.YtbappohnljlchaaRows
import Derived.Test.YtbappohnljlchaaWB1
import Derived.Test.YtbappohnljlchaaWB5
namespace Go.Proofs.Ytbappohnljlchaa
open Go.ChangeShapes Go.WideShapes Go.ChangeAt Go.RowKit
namespace TapeBelow
open M

open MM Go.Lib
set_option maxHeartbeats 4000000 in
set_option maxRecDepth 100000 in
theorem walkHere (ao : Option Addr) (n c : Nat) (z : Nat → Nat) (s : Nat) (bo : Option Addr) (m d : Nat) (y : Nat → Nat) (hn : n ≤ 500) (hm : m ≤ 500) (hz : ∀ k, z k < 18446744073709551616) (hy : ∀ k, y k < 18446744073709551616) (hs : s < 18446744073709551616) (W : World) (hr : Rd W ao n z) (h0 : ao = none → n = 0 ∧ c = 0) (hl : Rd W bo m y) :
    Calls Try.prog 5 #[.slice ao n c, .int .u64 (s : Int), .slice bo m d] W fun e w' => e = .returned (.bool true) ∧ Below W.heap.size W w' := by
  have n5 : ¬ (500 : Int) < (n : Int) := by omega
  have m5 : ¬ (500 : Int) < (m : Int) := by omega
  have HO := Lib.hid (fun w (hb : Below W.heap.size W w) => (Tz.start hb).of_ (ao := ao) (n := n) (c := c) (s := s) (z := z) (by omega) hz hr h0 hs)
  have HL := Lib.hid (fun w (hb : Below W.heap.size W w) => hl.below hb)
  have HY := Lib.hid hy
  obtain ⟨t, ht⟩ : ∃ t, Tp.of (lst n z) s = t := ⟨_, rfl⟩
  have HN : Hid (t.n = 0) := Lib.hid (by rw [← ht]; rfl)
  rw [ht] at HO
  clear hr hl h0 hz hy hs ht
  go_enter Try.func5, Try.ntmps5
  go_wp2_with (first
    | (go_at_call 10; (with_reducible refine (works_any _).mono ?_); rintro e w1 ⟨rfl, hb⟩; have HB := Lib.hid hb; clear hb)
    | (go_at_call 16; (with_reducible refine (HO.out _ HB.out).mono ?_); rintro e w2 ⟨B, rfl, hd⟩; have HD := Lib.hid hd; clear hd))
  go_loopw [8, 9] (fun s8 _ wx => ∃ k : Nat, k ≤ m ∧ s8 = .int .i64 (k : Int) ∧ Hid (Tz W [(true, B, t.run y k)] wx)) (fun s8 _ _ => m - (RowKit.intOf s8).toNat)
  case atStart => exact ⟨0, Nat.zero_le _, rfl, HD⟩
  case round =>
    clear HD HB HO
    obtain ⟨k, hk, rfl, HD⟩ := hrel
    rename_i wr
    by_cases hlt : k < m
    · have hk0 : (0 : Int) ≤ (k : Int) := Int.natCast_nonneg _
      have hk1 : (k : Int) < (m : Int) := by omega
      obtain ⟨ad, rfl, hc⟩ := (HL.out wr HD.out.below).at_ hlt
      have HC : Hid (∀ w, Below W.heap.size W w → w.cell? (ad.add k) = some (.int .u64 ((y k : Nat) : Int))) := Lib.hid fun w hb => by
        obtain ⟨ad', e, h⟩ := (HL.out w hb).at_ hlt
        cases e
        exact h
      have hnk : (t.run y k).n = k := by rw [Tp.run_n, HN.out]; omega
      have HX := Lib.hid ((HD.out.next (i := 0) rfl (y k) (HY.out k) (by omega)))
      have hnn : (t.run y (k + 1)).n = k + 1 := by rw [Tp.run_n, HN.out]; omega
      have HA : Hid (∀ w, Tz W [(true, B, t.run y (k + 1))] w → Calls Try.prog 13 #[ptr B] w fun e w' => e = .returned (.int .i64 ((k + 1 : Nat) : Int)) ∧ w' = w) := Lib.hid fun w h => by
        have := h.at_ (i := 0) rfl
        rwa [hnn] at this
      have hw : wrap64 ((k : Int) + 1) = ((k + 1 : Nat) : Int) := IntWalk.wrap64_in _ ⟨by omega, by omega⟩
      have hbl := fun h => Tp.val_below (t.run y k) (q := y k) h
      obtain ⟨x, hx⟩ : ∃ x, (t.run y k).val (y k) = x := ⟨_, rfl⟩
      rw [hx] at HX hbl
      obtain ⟨q, hq⟩ : ∃ q, y k = q := ⟨_, rfl⟩
      have HXX : Hid (∀ w, Tz W ([(true, B, t.run y k)].set 0 (true, B, (t.run y k).next (y k))) w → Tz W [(true, B, t.run y (k + 1))] w) := Lib.hid fun w h => h
      rw [hq] at HX HC hc hbl HXX
      clear hx hnk hnn hq
      have hle : q = 0 ∨ (0 < q ∧ ¬ q ≤ x) := by
        rcases Nat.eq_zero_or_pos q with h | h
        · exact .inl h
        · exact .inr ⟨h, by have := hbl h; omega⟩
      clear hbl
      rcases hle with h1 | ⟨h1, h2⟩
      · have g1 : ¬ (0 : Int) < (q : Int) := by omega
        have g2 : ¬ 0 < q := by omega
        have HQ := Lib.hid h1
        clear h1
        go_wp2_with (first
          | (go_at_call 11; (with_reducible refine (HX.out).mono ?_); rintro e w2 ⟨rfl, h⟩; have HD2 := Lib.hid (HXX.out _ h); have hc2 := HC.out w2 h.below; clear h)
          | (go_at_call 13; (with_reducible refine (HA.out _ HD2.out).mono ?_); rintro e w3 ⟨rfl, rfl⟩))
        go_roundw
        case rel => exact ⟨k + 1, by omega, by go_num, HD2⟩
        case measure => simp [RowKit.intOf]; omega
      · have g1 : (0 : Int) < (q : Int) := by omega
        have g2 : ¬ (q : Int) ≤ (x : Int) := by omega
        have g3 : decide ((q : Int) ≤ (x : Int)) = false := decide_eq_false g2
        go_wp2_with (first
          | (go_at_call 11; (with_reducible refine (HX.out).mono ?_); rintro e w2 ⟨rfl, h⟩; have HD2 := Lib.hid (HXX.out _ h); have hc2 := HC.out w2 h.below; clear h)
          | (go_at_call 13; (with_reducible refine (HA.out _ HD2.out).mono ?_); rintro e w3 ⟨rfl, rfl⟩))
        go_roundw
        case rel => exact ⟨k + 1, by omega, by go_num, HD2⟩
        case measure => simp [RowKit.intOf]; omega
    · obtain rfl : k = m := by omega
      go_wp2_with fail
      go_ret
      exact ⟨rfl, HD.out.below⟩
set_option maxHeartbeats 4000000 in
theorem walkOut (ao : Option Addr) (n c s : Nat) (bo : Option Addr) (m d : Nat) (h : 500 < n ∨ (n ≤ 500 ∧ 500 < m)) (W : World) :
    Calls Try.prog 5 #[.slice ao n c, .int .u64 (s : Int), .slice bo m d] W fun e w' => e = .returned (.bool true) ∧ Below W.heap.size W w' := by
  rcases h with h | ⟨h1, h⟩
  · have g : (500 : Int) < (n : Int) := by omega
    go_enter Try.func5, Try.ntmps5
    go_wp2_with (go_at_call 10; (with_reducible refine (works_any _).mono ?_); rintro e w1 ⟨rfl, hb⟩)
    go_ret
    exact ⟨rfl, bnext (by assumption) (by assumption)⟩
  · have g1 : ¬ (500 : Int) < (n : Int) := by omega
    have g : (500 : Int) < (m : Int) := by omega
    go_enter Try.func5, Try.ntmps5
    go_wp2_with (go_at_call 10; (with_reducible refine (works_any _).mono ?_); rintro e w1 ⟨rfl, hb⟩)
    go_ret
    exact ⟨rfl, bnext (by assumption) (by assumption)⟩
theorem walk (v : Value) (s : Nat) (u : Value) (hs : s < 18446744073709551616) (W : World) (hv : NumsIn W v) (hu : NumsIn W u) :
    Calls Try.prog 5 #[v, .int .u64 (s : Int), u] W fun e w' => e = .returned (.bool true) ∧ Below W.heap.size W w' := by
  obtain ⟨ao, n, c, z, rfl, _, _, hz, hr, h0⟩ := hv
  obtain ⟨bo, m, d, y, rfl, _, _, hy, hl, _⟩ := hu
  by_cases h1 : 500 < n
  · exact walkOut ao n c s bo m d (.inl h1) W
  by_cases h2 : 500 < m
  · exact walkOut ao n c s bo m d (.inr ⟨by omega, h2⟩) W
  exact walkHere ao n c z s bo m d y (by omega) (by omega) hz hy hs W hr h0 hl

set_option maxRecDepth 100000 in
theorem lifted (os : Os) (started : os.Started) (H : Type) (enc : TypeId × Value → H) :
    ReturnsInHanded {} Try.checked os 5 .any (Rows.tapeBelowSpec.pre6 enc Try.prog Try.f5 Rows.tapeBelowRow.domain false) (Rows.tapeBelowSpec.post enc Try.prog Try.f5 false true false false) := by
  refine returnsInHanded_of_change (C := Try.checked) M.own started (by kernel_rfl) Try.func5
    (ChangeSpec.witness6 (enc := enc) (C := Try.checked) false ⟨#[], #[.slice none 0 0, .int .u64 0, .slice none 0 0], []⟩ 8 (by kernel_rfl) (by kernel_rfl) (by kernel_rfl) (by kernel_rfl)) ?_
  intro W base args ds gs before hval0 hW _ _
  have hval : ∀ (j : Nat) t v, Try.f5.params[j]? = some t → args[j]? = some v → Value.okWide Try.prog W .any base t v := hval0
  have hW' := hW
  obtain ⟨p, q, hA0, hV, rfl, _, _⟩ := hW
  have hA : DataW.TrodAll enc Try.prog W 0 (fun _ => true) true Try.f5.params.toList args.toList ds p := hA0
  rw [Try.params5] at hA hval
  obtain ⟨v0, vs0, d0, ds0, p0, q0, hargs, rfl, rfl, h0, r0⟩ := trodAll_cons hA
  obtain ⟨v1, vs1, d1, ds1, p1, q1, rfl, rfl, rfl, h1, r1⟩ := trodAll_cons r0
  obtain ⟨v2, vs2, d2, ds2, p2, q2, rfl, rfl, rfl, h2, r2⟩ := trodAll_cons r1
  obtain ⟨rfl, rfl, rfl⟩ := trodAll_nil r2
  obtain rfl : args = #[v0, v1, v2] := by cases args; simp_all
  obtain ⟨rfl, rfl⟩ := trodVars_none hV
  have k0 := h0
  have lt0 : ∀ x ∈ p0, x.block < W.heap.size := by obtain ⟨m, hm⟩ := k0; exact DataW.trod_lt m _ _ _ hm
  have ns0 := M.open_nums (hval 0 26 v0 rfl rfl) h0
  have k1 := h1
  have lt1 : ∀ x ∈ p1, x.block < W.heap.size := by obtain ⟨m, hm⟩ := k1; exact DataW.trod_lt m _ _ _ hm
  obtain ⟨x1, rfl, rfl, rfl, w1⟩ := open_int Try.underlying24 (hval 1 24 v1 rfl rfl) h1
  obtain ⟨lo1, hi1⟩ := M.u64_bounds w1
  obtain ⟨a1, rfl⟩ : ∃ a : Nat, x1 = a := ⟨x1.toNat, by omega⟩
  have k2 := h2
  have lt2 : ∀ x ∈ p2, x.block < W.heap.size := by obtain ⟨m, hm⟩ := k2; exact DataW.trod_lt m _ _ _ hm
  have ns2 := M.open_nums (hval 2 26 v2 rfl rfl) h2
  clear hA0 hval0
  simp only [List.append_nil] at hW'
  refine (walk v0 a1 v2 (by omega) W ns0 ns2).mono fun e W' ⟨he, bel⟩ => ?_
  subst he
  exact ⟨_, rfl, _, _, _, [], _, [], hW', (trodAll_cons_mk (shut_bool Try.underlying4 _) trodAll_mk0), (trodAll_cons_mk (Below.trod M.laidOut (by kernel_rfl) (of_decide_eq_true (by kernel_rfl)) k0 bel lt0) (trodAll_cons_mk (Below.trod M.laidOut (by kernel_rfl) (of_decide_eq_true (by kernel_rfl)) k1 bel lt1) (trodAll_cons_mk (Below.trod M.laidOut (by kernel_rfl) (of_decide_eq_true (by kernel_rfl)) k2 bel lt2) trodAll_mk0))), rfl, bel.frame _, fun h => by cases h⟩

theorem holds : Rows.TapeBelowSaid :=
  OpenClaim.holds_of_wide 5 Try.f5 rfl rfl rfl rfl rfl rfl rfl ⟨rfl, rfl, rfl, rfl, rfl⟩ rfl rfl rfl rfl rfl (by kernel_rfl) Try.func5 (by kernel_rfl)
    (of_decide_eq_true (by kernel_rfl)) (by unfold Func.isWrapper; first | (rw [if_pos (by decide +kernel)]; kernel_rfl) | (rw [if_neg (by decide +kernel)]; exact ⟨rfl, rfl⟩))
    (fun os started H enc _ => lifted os started H enc)

end TapeBelow

theorem tapeBelow_holds : Rows.TapeBelowSaid := TapeBelow.holds
#print axioms tapeBelow_holds
end Go.Proofs.Ytbappohnljlchaa

/- The bytes of any byte, number, whole number, text and list, behind any bytes, are the document's, or it is refused: whatever comes in. -/
import Derived.Test.YtaijnejbffnfpaaRows
import Derived.Test.YtaijnejbffnfpaaWB1
import Derived.Test.YtaijnejbffnfpaaWB7
namespace Go.Proofs.Ytaijnejbffnfpaa
open Go.ChangeShapes Go.WideShapes Go.ChangeAt Go.RowKit
namespace WirePuts
open M

theorem text_both (s t : List UInt8) (hs : s.length ≤ 3000) : ∃ (x : List UInt8) (e : Int), RetB 22 #[.string ⟨s.toArray⟩, .string ⟨t.toArray⟩] (.tuple #[.string ⟨x.toArray⟩, .int .i64 e]) ∧ RetB 24 #[.string ⟨s.toArray⟩, .string ⟨t.toArray⟩] (.tuple #[.string ⟨x.toArray⟩, .int .i64 e]) := by
  by_cases h : t.length ≤ 2048
  · exact ⟨_, _, text_yes s t (by omega) h, rtext_yes s t (by omega) h⟩
  · exact ⟨_, _, text_no s t (by omega) (Nat.lt_of_not_le h), rtext_no s t (Nat.lt_of_not_le h)⟩
theorem list_both (s : List UInt8) (ao : Option Addr) (n cap : Nat) (z : Nat → Nat) (hz : ∀ k, z k < 18446744073709551616) (hs : s.length ≤ 3000) : ∃ (x : List UInt8) (e : Int),
    (∀ w, Rd w ao n z → Calls Try.prog 23 #[.string ⟨s.toArray⟩, .slice ao n cap] w fun e' w' => e' = .returned (.tuple #[.string ⟨x.toArray⟩, .int .i64 e]) ∧ Below w.heap.size w w') ∧
    (∀ w, Rd w ao n z → Calls Try.prog 25 #[.string ⟨s.toArray⟩, .slice ao n cap] w fun e' w' => e' = .returned (.tuple #[.string ⟨x.toArray⟩, .int .i64 e]) ∧ Below w.heap.size w w') := by
  by_cases h : n ≤ 1024
  · exact ⟨_, _, fun w hr => list_yes s ao n cap z (by omega) h w hr, fun w hr => rlist_yes s ao n cap z (by omega) h hz w hr⟩
  · exact ⟨_, _, fun w _ => (list_no s ao n cap (by omega) (Nat.lt_of_not_le h)).at w, fun w _ => (rlist_no s ao n cap (Nat.lt_of_not_le h)).at w⟩
set_option maxHeartbeats 4000000 in
set_option maxRecDepth 100000 in
theorem walkHere (s : List UInt8) (b n : Nat) (i : Int) (t : List UInt8) (ao : Option Addr) (len c : Nat) (z : Nat → Nat) (hb : b < 256) (hn : n < 18446744073709551616) (hz : ∀ k, z k < 18446744073709551616) (hs : s.length ≤ 3000) (ht : t.length ≤ 3000) (hl : len ≤ 1200) (W : World) (hr : Rd W ao len z) :
    Calls Try.prog 4 #[.string ⟨s.toArray⟩, .int .u8 (b : Int), .int .u64 (n : Int), .int .i64 i, .string ⟨t.toArray⟩, .slice ao len c] W fun e w' => e = .returned (.bool true) ∧ Below W.heap.size W w' := by
  have hs2 : ¬ (3000 : Int) < (s.length : Int) := by omega
  have ht2 : ¬ (3000 : Int) < (t.length : Int) := by omega
  have hl2 : ¬ (1200 : Int) < (len : Int) := by omega
  obtain ⟨x1, e1, A1, B1⟩ := text_both s t hs
  obtain ⟨x2, e2, A2, B2⟩ := list_both s ao len c z hz hs
  have A3 := byte_any s b (by omega) hb
  have B3 := rbyte_any s b (by omega) hb
  have A4 := num_any s n (by omega)
  have B4 := rnum_any s n (by omega) hn
  have A5 := int_any s i (by omega)
  have B5 := rint_any s i (by omega)
  generalize s ++ MM.dig b 1 = x3 at *
  generalize s ++ MM.dig n 8 = x4 at *
  generalize s ++ MM.dig (MM.u64 i) 8 = x5 at *
  have HR := Lib.hid hr
  have HB := Lib.hid (Below.refl W.heap.size W)
  clear hr hs ht hl hb hn hz
  go_enter Try.func4, Try.ntmps4
  go_wp2_with (go_at_call 22; (with_reducible refine (A1.at _).mono ?_); rintro e w1 ⟨rfl, hb⟩; have HB1 := Lib.hid (HB.out.trans (hb.mono HB.out.size)); clear hb)
  go_wp2_with (go_at_call 24; (with_reducible refine (B1.at _).mono ?_); rintro e w2 ⟨rfl, hb⟩; have HB2 := Lib.hid (HB1.out.trans (hb.mono HB1.out.size)); clear hb)
  go_wp2_with (go_at_call 23; (with_reducible refine (A2 _ (HR.out.below HB2.out)).mono ?_); rintro e w3 ⟨rfl, hb⟩; have HB3 := Lib.hid (HB2.out.trans (hb.mono HB2.out.size)); clear hb)
  go_wp2_with (go_at_call 25; (with_reducible refine (B2 _ (HR.out.below HB3.out)).mono ?_); rintro e w4 ⟨rfl, hb⟩; have HB4 := Lib.hid (HB3.out.trans (hb.mono HB3.out.size)); clear hb)
  go_wp2_with (go_at_call 26; (with_reducible refine (A3.at _).mono ?_); rintro e w5 ⟨rfl, hb⟩; have HB5 := Lib.hid (HB4.out.trans (hb.mono HB4.out.size)); clear hb)
  go_wp2_with (go_at_call 27; (with_reducible refine (B3.at _).mono ?_); rintro e w6 ⟨rfl, hb⟩; have HB6 := Lib.hid (HB5.out.trans (hb.mono HB5.out.size)); clear hb)
  go_wp2_with (go_at_call 28; (with_reducible refine (A4.at _).mono ?_); rintro e w7 ⟨rfl, hb⟩; have HB7 := Lib.hid (HB6.out.trans (hb.mono HB6.out.size)); clear hb)
  go_wp2_with (go_at_call 29; (with_reducible refine (B4.at _).mono ?_); rintro e w8 ⟨rfl, hb⟩; have HB8 := Lib.hid (HB7.out.trans (hb.mono HB7.out.size)); clear hb)
  go_wp2_with (go_at_call 30; (with_reducible refine (A5.at _).mono ?_); rintro e w9 ⟨rfl, hb⟩; have HB9 := Lib.hid (HB8.out.trans (hb.mono HB8.out.size)); clear hb)
  go_wp2_with (go_at_call 31; (with_reducible refine (B5.at _).mono ?_); rintro e w10 ⟨rfl, hb⟩; have HB10 := Lib.hid (HB9.out.trans (hb.mono HB9.out.size)); clear hb)
  go_wp2_with (go_at_call 16; (with_reducible refine (awake_any _).mono ?_); rintro e w11 ⟨rfl, hb⟩; have HB11 := Lib.hid (HB10.out.trans (hb.mono HB10.out.size)); clear hb)
  go_ret
  exact ⟨rfl, HB11.out⟩
set_option maxHeartbeats 4000000 in
set_option maxRecDepth 100000 in
theorem walk_out (s : List UInt8) (b n : Nat) (i : Int) (t : List UInt8) (ao : Option Addr) (len c : Nat) (h : 3000 < s.length ∨ (s.length ≤ 3000 ∧ 3000 < t.length) ∨ (s.length ≤ 3000 ∧ t.length ≤ 3000 ∧ 1200 < len)) (W : World) :
    Calls Try.prog 4 #[.string ⟨s.toArray⟩, .int .u8 (b : Int), .int .u64 (n : Int), .int .i64 i, .string ⟨t.toArray⟩, .slice ao len c] W fun e w' => e = .returned (.bool true) ∧ Below W.heap.size W w' := by
  rcases h with h | ⟨h1, h⟩ | ⟨h1, h2, h⟩
  · have g : (3000 : Int) < (s.length : Int) := by omega
    go_enter Try.func4, Try.ntmps4
    go_wp2_with (go_at_call 16; (with_reducible refine (awake_any _).mono ?_); rintro e w11 ⟨rfl, hb⟩)
    go_ret
    exact ⟨rfl, hb⟩
  · have g1 : ¬ (3000 : Int) < (s.length : Int) := by omega
    have g : (3000 : Int) < (t.length : Int) := by omega
    go_enter Try.func4, Try.ntmps4
    go_wp2_with (go_at_call 16; (with_reducible refine (awake_any _).mono ?_); rintro e w11 ⟨rfl, hb⟩)
    go_ret
    exact ⟨rfl, hb⟩
  · have g1 : ¬ (3000 : Int) < (s.length : Int) := by omega
    have g2 : ¬ (3000 : Int) < (t.length : Int) := by omega
    have g : (1200 : Int) < (len : Int) := by omega
    go_enter Try.func4, Try.ntmps4
    go_wp2_with (go_at_call 16; (with_reducible refine (awake_any _).mono ?_); rintro e w11 ⟨rfl, hb⟩)
    go_ret
    exact ⟨rfl, hb⟩
theorem walk (s : List UInt8) (b n : Nat) (i : Int) (t : List UInt8) (v : Value) (_ : s.length ≤ 9223372036854775807) (hb : b < 256) (hn : n < 18446744073709551616) (_ : -9223372036854775808 ≤ i ∧ i ≤ 9223372036854775807) (_ : t.length ≤ 9223372036854775807) (W : World) (hv : NumsIn W v) :
    Calls Try.prog 4 #[.string ⟨s.toArray⟩, .int .u8 (b : Int), .int .u64 (n : Int), .int .i64 i, .string ⟨t.toArray⟩, v] W fun e w' => e = .returned (.bool true) ∧ Below W.heap.size W w' := by
  obtain ⟨ao, len, c, z, rfl, _, _, hz, hr, _⟩ := hv
  by_cases h1 : 3000 < s.length
  · exact walk_out s b n i t ao len c (.inl h1) W
  by_cases h2 : 3000 < t.length
  · exact walk_out s b n i t ao len c (.inr (.inl ⟨by omega, h2⟩)) W
  by_cases h3 : 1200 < len
  · exact walk_out s b n i t ao len c (.inr (.inr ⟨by omega, by omega, h3⟩)) W
  exact walkHere s b n i t ao len c z hb hn hz (by omega) (by omega) (by omega) W hr

set_option maxRecDepth 100000 in
theorem lifted (os : Os) (started : os.Started) (H : Type) (enc : TypeId × Value → H) :
    ReturnsInHanded {} Try.checked os 4 .any (Rows.wirePutsSpec.pre6 enc Try.prog Try.f4 Rows.wirePutsRow.domain false) (Rows.wirePutsSpec.post enc Try.prog Try.f4 false true false false) := by
  refine returnsInHanded_of_change (C := Try.checked) M.own started (by kernel_rfl) Try.func4
    (ChangeSpec.witness6 (enc := enc) (C := Try.checked) false ⟨#[], #[.string ⟨#[]⟩, .int .u8 0, .int .u64 0, .int .i64 0, .string ⟨#[]⟩, .slice none 0 0], []⟩ 8 (by kernel_rfl) (by kernel_rfl) (by kernel_rfl) (by kernel_rfl)) ?_
  intro W base args ds gs before hval0 hW _ _
  have hval : ∀ (j : Nat) t v, Try.f4.params[j]? = some t → args[j]? = some v → Value.okWide Try.prog W .any base t v := hval0
  have hW' := hW
  obtain ⟨p, q, hA0, hV, rfl, _, _⟩ := hW
  have hA : DataW.TrodAll enc Try.prog W 0 (fun _ => true) true Try.f4.params.toList args.toList ds p := hA0
  rw [Try.params4] at hA hval
  obtain ⟨v0, vs0, d0, ds0, p0, q0, hargs, rfl, rfl, h0, r0⟩ := trodAll_cons hA
  obtain ⟨v1, vs1, d1, ds1, p1, q1, rfl, rfl, rfl, h1, r1⟩ := trodAll_cons r0
  obtain ⟨v2, vs2, d2, ds2, p2, q2, rfl, rfl, rfl, h2, r2⟩ := trodAll_cons r1
  obtain ⟨v3, vs3, d3, ds3, p3, q3, rfl, rfl, rfl, h3, r3⟩ := trodAll_cons r2
  obtain ⟨v4, vs4, d4, ds4, p4, q4, rfl, rfl, rfl, h4, r4⟩ := trodAll_cons r3
  obtain ⟨v5, vs5, d5, ds5, p5, q5, rfl, rfl, rfl, h5, r5⟩ := trodAll_cons r4
  obtain ⟨rfl, rfl, rfl⟩ := trodAll_nil r5
  obtain rfl : args = #[v0, v1, v2, v3, v4, v5] := by cases args; simp_all
  obtain ⟨rfl, rfl⟩ := trodVars_none hV
  have k0 := h0
  have lt0 : ∀ x ∈ p0, x.block < W.heap.size := by obtain ⟨m, hm⟩ := k0; exact DataW.trod_lt m _ _ _ hm
  obtain ⟨y0, rfl, rfl, rfl, w0⟩ := Go.ChangeMaps.open_string Try.underlying9 (hval 0 9 v0 rfl rfl) h0
  obtain ⟨a0, rfl⟩ : ∃ l : List UInt8, y0 = ⟨l.toArray⟩ := ⟨y0.data.toList, (Lib.mk_data y0).symm⟩
  have k1 := h1
  have lt1 : ∀ x ∈ p1, x.block < W.heap.size := by obtain ⟨m, hm⟩ := k1; exact DataW.trod_lt m _ _ _ hm
  obtain ⟨x1, rfl, rfl, rfl, w1⟩ := open_int Try.underlying5 (hval 1 5 v1 rfl rfl) h1
  obtain ⟨lo1, hi1⟩ := M.u8_bounds w1
  obtain ⟨a1, rfl⟩ : ∃ a : Nat, x1 = a := ⟨x1.toNat, by omega⟩
  have k2 := h2
  have lt2 : ∀ x ∈ p2, x.block < W.heap.size := by obtain ⟨m, hm⟩ := k2; exact DataW.trod_lt m _ _ _ hm
  obtain ⟨x2, rfl, rfl, rfl, w2⟩ := open_int Try.underlying26 (hval 2 26 v2 rfl rfl) h2
  obtain ⟨lo2, hi2⟩ := M.u64_bounds w2
  obtain ⟨a2, rfl⟩ : ∃ a : Nat, x2 = a := ⟨x2.toNat, by omega⟩
  have k3 := h3
  have lt3 : ∀ x ∈ p3, x.block < W.heap.size := by obtain ⟨m, hm⟩ := k3; exact DataW.trod_lt m _ _ _ hm
  obtain ⟨x3, rfl, rfl, rfl, w3⟩ := open_int Try.underlying2 (hval 3 2 v3 rfl rfl) h3
  have k4 := h4
  have lt4 : ∀ x ∈ p4, x.block < W.heap.size := by obtain ⟨m, hm⟩ := k4; exact DataW.trod_lt m _ _ _ hm
  obtain ⟨y4, rfl, rfl, rfl, w4⟩ := Go.ChangeMaps.open_string Try.underlying9 (hval 4 9 v4 rfl rfl) h4
  obtain ⟨a4, rfl⟩ : ∃ l : List UInt8, y4 = ⟨l.toArray⟩ := ⟨y4.data.toList, (Lib.mk_data y4).symm⟩
  have k5 := h5
  have lt5 : ∀ x ∈ p5, x.block < W.heap.size := by obtain ⟨m, hm⟩ := k5; exact DataW.trod_lt m _ _ _ hm
  have ns5 := M.open_nums (hval 5 35 v5 rfl rfl) h5
  clear hA0 hval0
  simp only [List.append_nil] at hW'
  refine (walk a0 a1 a2 x3 a4 v5 (by unfold maxLen at w0; simpa [ByteArray.size_mk'] using w0) (by omega) (by omega) (M.i64_bounds w3) (by unfold maxLen at w4; simpa [ByteArray.size_mk'] using w4) W ns5).mono fun e W' ⟨he, bel⟩ => ?_
  subst he
  exact ⟨_, rfl, _, _, _, [], _, [], hW', (trodAll_cons_mk (shut_bool Try.underlying4 _) trodAll_mk0), (trodAll_cons_mk (Below.trod M.laidOut (by kernel_rfl) (of_decide_eq_true (by kernel_rfl)) k0 bel lt0) (trodAll_cons_mk (Below.trod M.laidOut (by kernel_rfl) (of_decide_eq_true (by kernel_rfl)) k1 bel lt1) (trodAll_cons_mk (Below.trod M.laidOut (by kernel_rfl) (of_decide_eq_true (by kernel_rfl)) k2 bel lt2) (trodAll_cons_mk (Below.trod M.laidOut (by kernel_rfl) (of_decide_eq_true (by kernel_rfl)) k3 bel lt3) (trodAll_cons_mk (Below.trod M.laidOut (by kernel_rfl) (of_decide_eq_true (by kernel_rfl)) k4 bel lt4) (trodAll_cons_mk (Below.trod M.laidOut (by kernel_rfl) (of_decide_eq_true (by kernel_rfl)) k5 bel lt5) trodAll_mk0)))))), rfl, bel.frame _, fun h => by cases h⟩

theorem holds : Rows.WirePutsSaid :=
  OpenClaim.holds_of_wide 4 Try.f4 rfl rfl rfl rfl rfl rfl rfl ⟨rfl, rfl, rfl, rfl, rfl⟩ rfl rfl rfl rfl rfl (by kernel_rfl) Try.func4 (by kernel_rfl)
    (of_decide_eq_true (by kernel_rfl)) (by unfold Func.isWrapper; first | (rw [if_pos (by decide +kernel)]; kernel_rfl) | (rw [if_neg (by decide +kernel)]; exact ⟨rfl, rfl⟩))
    (fun os started H enc _ => lifted os started H enc)

end WirePuts

theorem wirePuts_holds : Rows.WirePutsSaid := WirePuts.holds
#print axioms wirePuts_holds
end Go.Proofs.Ytaijnejbffnfpaa

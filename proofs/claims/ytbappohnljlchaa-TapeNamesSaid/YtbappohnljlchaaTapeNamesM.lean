/- The examples, the limits, and what is asked of nobody's tape, are as the document has them. -/
import Derived.Test.YtbappohnljlchaaRows
import Derived.Test.YtbappohnljlchaaWB1
import Derived.Test.YtbappohnljlchaaWB5
import Derived.Test.YtbappohnljlchaaWB6
namespace Go.Proofs.Ytbappohnljlchaa
open Go.ChangeShapes Go.WideShapes Go.ChangeAt Go.RowKit
namespace TapeNames
open M

open MM Go.Lib
theorem tk1 : taken 9223372036854775809 (mix (nxt 0)) = false := by decide +kernel
theorem tk2 : taken 9223372036854775809 (mix (nxt (nxt 0))) = true := by decide +kernel
theorem acc1 : acc 9223372036854775809 (nxt 0) = nxt (nxt 0) := by
  rw [(acc_no (nxt_lt 0) tk1).1, acc_yes tk2]
theorem val1 : (Tp.new 0).val 9223372036854775809 = 7960286522194355700 := by
  show (Tp.mk [] 0 0).val 9223372036854775809 = _
  rw [Tp.val_nil, acc1, m2]
  decide +kernel
theorem next1 : (Tp.new 0).next 9223372036854775809 = ⟨[], nxt (nxt 0), 1⟩ := by
  show (Tp.mk [] 0 0).next 9223372036854775809 = _
  rw [Tp.next_nil, acc1]
theorem val2 : (Tp.mk [] (nxt (nxt 0)) 1).val 0 = 487617019471545679 := by rw [val_free, m3]
theorem val3 : (Tp.new 0).val 0 = 16294208416658607535 := (val_free 0 0).trans m1
theorem val4 : (Tp.of [18446744073709551615] 0).val 9223372036854775809 = 9223372036854775806 := by
  show red 18446744073709551615 9223372036854775809 = _
  decide +kernel
set_option maxHeartbeats 4000000 in
set_option maxRecDepth 100000 in
theorem walk (W : World) : Calls Try.prog 3 #[] W fun e w' => e = .returned (.bool true) ∧ Below W.heap.size W w' := by
  have H1 : Hid (∀ w, Below W.heap.size W w → Calls Try.prog 15 #[.int .u64 0] w fun e w' => ∃ B, e = .returned (ptr B) ∧ Tz W [(true, B, Tp.new 0)] w') := Lib.hid fun w h => (new_any w 0 ok0).mono fun _ _ ⟨B, a, b⟩ => ⟨B, a, (Tz.start h).addP b⟩
  have N1 : Hid (∀ w, Calls Try.prog 11 #[.pointer none, .int .u64 5] w fun e w' => e = .returned (.int .u64 0) ∧ w' = w) := Lib.hid fun w => next_none 5 w
  have N2 : Hid (∀ w, Calls Try.prog 12 #[.pointer none, .int .i64 3, .int .u64 5] w fun e w' => e = .returned (.slice none 0 0) ∧ w' = w) := Lib.hid fun w => draws_none 3 5 w
  have N3 := Lib.hid at_none
  have N4 := Lib.hid copy_none
  have D1 : Hid (∀ B w, Calls Try.prog 12 #[ptr B, .int .i64 (-1), .int .u64 5] w fun e w' => e = .returned (.slice none 0 0) ∧ w' = w) := Lib.hid fun B w => draws_few B (-1) 5 w (by omega)
  have D2 : Hid (∀ B w, Calls Try.prog 12 #[ptr B, .int .i64 1025, .int .u64 5] w fun e w' => e = .returned (.slice none 0 0) ∧ w' = w) := Lib.hid fun B w => draws_few B 1025 5 w (by omega)
  have A1 : Hid (∀ B w, Tz W [(true, B, Tp.new 0)] w → Calls Try.prog 13 #[ptr B] w fun e w' => e = .returned (.int .i64 0) ∧ w' = w) := Lib.hid fun B w h => h.at_ (i := 0) rfl
  have D3 : Hid (∀ B w, Tz W [(true, B, Tp.new 0)] w → Calls Try.prog 12 #[ptr B, .int .i64 1024, .int .u64 5] w fun e w' => ∃ R, e = .returned (.slice (some ⟨R, 0, none⟩) 1024 1024) ∧ Tz W [(true, B, (Tp.new 0).run (allq 5) 1024)] w') := Lib.hid fun B w h => (h.draws (i := 0) rfl 1024 5 (by omega) (by omega) (by show (0 : Nat) < _; decide)).mono fun _ _ ⟨R, a, _, _, d, _⟩ => ⟨R, a, d⟩
  have hn : ((Tp.new 0).run (allq 5) 1024).n = 1024 := by rw [Tp.run_n]; rfl
  have A2 : Hid (∀ B w, Tz W [(true, B, (Tp.new 0).run (allq 5) 1024)] w → Calls Try.prog 13 #[ptr B] w fun e w' => e = .returned (.int .i64 1024) ∧ w' = w) := Lib.hid fun B w h => by
    have := h.at_ (i := 0) rfl
    rw [hn] at this
    exact this
  generalize (Tp.new 0).run (allq 5) 1024 = t1 at *
  have E1 : Hid (∀ B w, Tz W [(true, B, Tp.new 0)] w → Calls Try.prog 11 #[ptr B, .int .u64 9223372036854775809] w fun e w' => e = .returned (.int .u64 7960286522194355700) ∧ Tz W [(true, B, ⟨[], nxt (nxt 0), 1⟩)] w') := Lib.hid fun B w h => by
    have h1 := h.next (i := 0) rfl 9223372036854775809 (by omega) (by show (0 : Nat) < _; decide)
    rw [val1, next1] at h1
    exact h1
  have A3 : Hid (∀ B w, Tz W [(true, B, ⟨[], nxt (nxt 0), 1⟩)] w → Calls Try.prog 13 #[ptr B] w fun e w' => e = .returned (.int .i64 1) ∧ w' = w) := Lib.hid fun B w h => h.at_ (i := 0) rfl
  have E2 : Hid (∀ B w, Tz W [(true, B, ⟨[], nxt (nxt 0), 1⟩)] w → Calls Try.prog 11 #[ptr B, .int .u64 0] w fun e w' => e = .returned (.int .u64 487617019471545679) ∧ Below W.heap.size W w') := Lib.hid fun B w h => by
    have h1 := h.next (i := 0) rfl 0 (by omega) (by show (1 : Nat) < _; decide)
    rw [val2] at h1
    exact h1.mono fun _ _ ⟨a, b⟩ => ⟨a, b.below⟩
  have O1 : Hid (∀ w, Below W.heap.size W w → Calls Try.prog 16 #[.slice none 0 0, .int .u64 0] w fun e w' => ∃ B, e = .returned (ptr B) ∧ Tz W [(true, B, Tp.new 0)] w') := Lib.hid fun w h => (of_any w none 0 0 [] (by simp) (Src.nil w) ok0).mono fun _ _ ⟨B, a, b⟩ => ⟨B, a, (Tz.start h).addP b⟩
  have E3 : Hid (∀ B w, Tz W [(true, B, Tp.new 0)] w → Calls Try.prog 11 #[ptr B, .int .u64 0] w fun e w' => e = .returned (.int .u64 16294208416658607535) ∧ Below W.heap.size W w') := Lib.hid fun B w h => by
    have h1 := h.next (i := 0) rfl 0 (by omega) (by show (0 : Nat) < _; decide)
    rw [val3] at h1
    exact h1.mono fun _ _ ⟨a, b⟩ => ⟨a, b.below⟩
  have O2 : Hid (∀ w, Below W.heap.size W w → Calls Try.prog 16 #[.slice (some ⟨w.heap.size, 0, none⟩) 1 1, .int .u64 0] (w.alloc (.cells #[.int .u64 18446744073709551615] 24)) fun e w' => ∃ B, e = .returned (ptr B) ∧ Tz W [(true, B, Tp.of [18446744073709551615] 0)] w') := Lib.hid fun w h => (of_any _ (some ⟨w.heap.size, 0, none⟩) 1 0 [18446744073709551615] (by simp) ⟨fun _ => ⟨_, rfl, Row.of_block (heap_alloc_new w _) fun k hk => by
      have h3 : k = 0 := by simp at hk; omega
      subst h3
      rfl⟩, fun e => by cases e⟩ (Tp.Ok.of (by intro x hx; simp at hx; omega) (by omega))).mono fun _ _ ⟨B, a, b⟩ => ⟨B, a, (Tz.start (h.trans ((below_box w _).mono h.size))).addP b⟩
  have E4 : Hid (∀ B w, Tz W [(true, B, Tp.of [18446744073709551615] 0)] w → Calls Try.prog 11 #[ptr B, .int .u64 9223372036854775809] w fun e w' => e = .returned (.int .u64 9223372036854775806) ∧ Below W.heap.size W w') := Lib.hid fun B w h => by
    have h1 := h.next (i := 0) rfl 9223372036854775809 (by omega) (by show (0 : Nat) < _; decide)
    rw [val4] at h1
    exact h1.mono fun _ _ ⟨a, b⟩ => ⟨a, b.below⟩
  clear hn
  go_enter Try.func3, Try.ntmps3
  go_wp2_with (first
    | (go_at_call 10; (with_reducible refine (works_any _).mono ?_); rintro e w1 ⟨rfl, hb⟩; have HB := Lib.hid hb; clear hb)
    | (go_at_call 11; (with_reducible refine (N1.out _).mono ?_); rintro e wx ⟨rfl, rfl⟩)
    | (go_at_call 12; (with_reducible refine (N2.out _).mono ?_); rintro e wx ⟨rfl, rfl⟩)
    | (go_at_call 13; (with_reducible refine (N3.out _).mono ?_); rintro e wx ⟨rfl, rfl⟩)
    | (go_at_call 14; (with_reducible refine (N4.out _).mono ?_); rintro e wx ⟨rfl, rfl⟩)
    | (go_at_call 15; (with_reducible refine (H1.out _ HB2.out).mono ?_); rintro e w6 ⟨C, rfl, h⟩; have HU := Lib.hid h; clear h HB2)
    | (go_at_call 15; (with_reducible refine (H1.out _ HB.out).mono ?_); rintro e w2 ⟨B, rfl, h⟩; have HD := Lib.hid h; clear h HB)
    | (go_at_call 12; (with_reducible refine (D1.out _ _).mono ?_); rintro e wx ⟨rfl, rfl⟩)
    | (go_at_call 12; (with_reducible refine (D2.out _ _).mono ?_); rintro e wx ⟨rfl, rfl⟩)
    | (go_at_call 12; (with_reducible refine (D3.out _ _ HD.out).mono ?_); rintro e w3 ⟨R, rfl, h⟩; have HD3 := Lib.hid h; have HB2 := Lib.hid h.below; clear h HD)
    | (go_at_call 13; (with_reducible refine (A1.out _ _ HD.out).mono ?_); rintro e wx ⟨rfl, rfl⟩)
    | (go_at_call 13; (with_reducible refine (A2.out _ _ HD3.out).mono ?_); rintro e wx ⟨rfl, rfl⟩)
    | (go_at_call 11; (with_reducible refine (E1.out _ _ HU.out).mono ?_); rintro e w7 ⟨rfl, h⟩; have HU2 := Lib.hid h; clear h HU)
    | (go_at_call 13; (with_reducible refine (A3.out _ _ HU2.out).mono ?_); rintro e wx ⟨rfl, rfl⟩)
    | (go_at_call 11; (with_reducible refine (E2.out _ _ HU2.out).mono ?_); rintro e w8 ⟨rfl, h⟩; have HB3 := Lib.hid h; clear h HU2)
    | (go_at_call 16; (with_reducible refine (O1.out _ HB3.out).mono ?_); rintro e w9 ⟨F, rfl, h⟩; have HV := Lib.hid h; clear h HB3)
    | (go_at_call 11; (with_reducible refine (E3.out _ _ HV.out).mono ?_); rintro e w10 ⟨rfl, h⟩; have HB4 := Lib.hid h; clear h HV)
    | (go_at_call 16; (with_reducible refine (O2.out _ HB4.out).mono ?_); rintro e w11 ⟨G, rfl, h⟩; have HV2 := Lib.hid h; clear h HB4)
    | (go_at_call 11; (with_reducible refine (E4.out _ _ HV2.out).mono ?_); rintro e w12 ⟨rfl, h⟩; have HB5 := Lib.hid h; clear h HV2))
  go_ret
  exact ⟨rfl, HB5.out⟩

set_option maxRecDepth 100000 in
theorem lifted (os : Os) (started : os.Started) (H : Type) (enc : TypeId × Value → H) :
    ReturnsInHanded {} Try.checked os 3 .any (Rows.tapeNamesSpec.pre6 enc Try.prog Try.f3 Rows.tapeNamesRow.domain false) (Rows.tapeNamesSpec.post enc Try.prog Try.f3 false true false false) := by
  refine returnsInHanded_of_change (C := Try.checked) M.own started (by kernel_rfl) Try.func3
    (ChangeSpec.witness6 (enc := enc) (C := Try.checked) false ⟨#[], #[], []⟩ 8 (by kernel_rfl) (by kernel_rfl) (by kernel_rfl) (by kernel_rfl)) ?_
  intro W base args ds gs before hval0 hW _ _
  have hval : ∀ (j : Nat) t v, Try.f3.params[j]? = some t → args[j]? = some v → Value.okWide Try.prog W .any base t v := hval0
  have hW' := hW
  obtain ⟨p, q, hA0, hV, rfl, _, _⟩ := hW
  have hA : DataW.TrodAll enc Try.prog W 0 (fun _ => true) true Try.f3.params.toList args.toList ds p := hA0
  rw [Try.params3] at hA hval
  obtain ⟨rfl, rfl, rfl⟩ := trodAll_none hA
  obtain ⟨rfl, rfl⟩ := trodVars_none hV
  clear hA0 hval0
  simp only [List.append_nil] at hW'
  refine (walk  W ).mono fun e W' ⟨he, bel⟩ => ?_
  subst he
  exact ⟨_, rfl, _, _, _, [], _, [], hW', (trodAll_cons_mk (shut_bool Try.underlying4 _) trodAll_mk0), trodAll_mk0, rfl, bel.frame _, fun h => by cases h⟩

theorem holds : Rows.TapeNamesSaid :=
  OpenClaim.holds_of_wide 3 Try.f3 rfl rfl rfl rfl rfl rfl rfl ⟨rfl, rfl, rfl, rfl, rfl⟩ rfl rfl rfl rfl rfl (by kernel_rfl) Try.func3 (by kernel_rfl)
    (of_decide_eq_true (by kernel_rfl)) (by unfold Func.isWrapper; first | (rw [if_pos (by decide +kernel)]; kernel_rfl) | (rw [if_neg (by decide +kernel)]; exact ⟨rfl, rfl⟩))
    (fun os started H enc _ => lifted os started H enc)

end TapeNames

theorem tapeNames_holds : Rows.TapeNamesSaid := TapeNames.holds
#print axioms tapeNames_holds
end Go.Proofs.Ytbappohnljlchaa

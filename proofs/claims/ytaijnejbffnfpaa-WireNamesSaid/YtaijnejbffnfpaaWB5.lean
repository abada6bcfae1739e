/- The texts WirMeth, WirLst, one behind the other. -/
import Derived.Test.YtaijnejbffnfpaaWB4
/- The reader's methods for a text and a count, and its end. -/
namespace Go.Proofs.Ytaijnejbffnfpaa
open Go Go.RowKit Go.Lib
namespace M
set_option maxHeartbeats 1000000 in
theorem text_nil (W : World) : Calls Try.prog 14 #[.pointer none] W fun e' w' => e' = .returned (.tuple #[.string ⟨#[]⟩, .int .i64 2]) ∧ Below W.heap.size W w' := by
  have hmf : ∀ (fn : Fn) (first cap : Array Value) (w : World), (Instr.makeFunc fn first cap).run Try.prog w = .ok (.func fn first cap) w := fun _ _ _ _ => rfl
  have H := fun fv w => item_nil_text fv w
  have HB := Lib.hid (below_box W (.cells #[.pointer none] 22))
  go_enter Try.func14, Try.ntmps14
  go_wp2_with (go_at_call 54; (with_reducible refine (H _ _).mono ?_); rintro e w' ⟨rfl, hb⟩)
  go_ret2
  exact ⟨rfl, HB.out.trans (hb.mono HB.out.size)⟩
set_option maxHeartbeats 1000000 in
theorem text_bad (g : Nat) (s : List UInt8) (k : Int) (W : World) (h : RAt WR g s 0 W)
    (hcl : ∀ c w, w.cell? ⟨c, 0, none⟩ = some (.pointer (some ⟨g, 0, none⟩)) → RAt WR g s 0 w → Calls Try.prog 55 #[.pointer (some ⟨c, 0, none⟩)] w fun e w' => e = .panicked (ErrP k) ∧ (∃ s2, RAt WR g s2 0 w') ∧ Turn g w w') :
    Calls Try.prog 14 #[.pointer (some ⟨g, 0, none⟩)] W fun e' w' => e' = .returned (.tuple #[.string ⟨#[]⟩, .int .i64 k]) ∧ RAt WR g [] k w' ∧ Turn g W w' := by
  have hmf : ∀ (fn : Fn) (first cap : Array Value) (w : World), (Instr.makeFunc fn first cap).run Try.prog w = .ok (.func fn first cap) w := fun _ _ _ _ => rfl
  have HB := Lib.hid (below_box W (.cells #[.pointer (some ⟨g, 0, none⟩)] 22))
  have HX := h.step HB.out
  have hcx : (W.alloc (.cells #[.pointer (some ⟨g, 0, none⟩)] 22)).cell? ⟨W.heap.size, 0, none⟩ = some (.pointer (some ⟨g, 0, none⟩)) := by simp [go_sem]
  have HC := Lib.hid hcx
  clear hcx
  have H := item_bad_text 55 #[.pointer (some ⟨W.heap.size, 0, none⟩)] g s k _ HX (fun w => by kernel_rfl)
    (fun w hw => hcl W.heap.size w ((hw.cell (p := ⟨W.heap.size, 0, none⟩) (by simp)).trans HC.out) (HX.step hw))
  go_enter Try.func14, Try.ntmps14
  go_wp2_with (go_at_call 54; (with_reducible refine H.mono ?_); rintro e w' ⟨rfl, hr, ht⟩)
  go_ret2
  exact ⟨rfl, hr, (Turn.of HB.out).trans ht⟩
set_option maxHeartbeats 1000000 in
theorem text_ask (g : Nat) (s : List UInt8) (e : Int) (W : World) (h : RAt WR g s e W) :
    Calls Try.prog 14 #[.pointer (some ⟨g, 0, none⟩)] W fun e' w' => e' = .returned (.tuple #[.string ⟨(MM.rText s e).1.toArray⟩, .int .i64 (MM.rText s e).2.1]) ∧ RAt WR g (MM.rText s e).2.2 (MM.rText s e).2.1 w' ∧ Turn g W w' := by
  have hmf : ∀ (fn : Fn) (first cap : Array Value) (w : World), (Instr.makeFunc fn first cap).run Try.prog w = .ok (.func fn first cap) w := fun _ _ _ _ => rfl
  by_cases he : e = 0
  · subst he
    by_cases hs : s.length < 2
    · rw [MM.rText_short hs]
      exact text_bad g s 8 W h fun c w hc hr => cl_text_bad c g s 8 w hc hr fun w hr => (length_short g s 0 2048 w hr hs).mono fun _ _ ⟨a, b, c⟩ => ⟨a, ⟨_, b⟩, c⟩
    have hs := Nat.le_of_not_lt hs
    by_cases hm : 2048 < MM.val (s.take 2)
    · rw [MM.rText_large hs hm]
      exact text_bad g s 40 W h fun c w hc hr => cl_text_bad c g s 40 w hc hr fun w hr => (length_large g s 0 2048 w hr hs hm).mono fun _ _ ⟨a, b, c⟩ => ⟨a, ⟨_, b⟩, c⟩
    have hm := Nat.le_of_not_lt hm
    by_cases hl : s.length - 2 < MM.val (s.take 2)
    · rw [MM.rText_less hs hm hl]
      exact text_bad g s 8 W h fun c w hc hr => cl_text_less c g s w hc hr hs hm hl
    have hl := Nat.le_of_not_lt hl
    rw [MM.rText_good hs hm hl]
    have HB := Lib.hid (below_box W (.cells #[.pointer (some ⟨g, 0, none⟩)] 22))
    have HX := h.step HB.out
    have hcx : (W.alloc (.cells #[.pointer (some ⟨g, 0, none⟩)] 22)).cell? ⟨W.heap.size, 0, none⟩ = some (.pointer (some ⟨g, 0, none⟩)) := by simp [go_sem]
    have HC := Lib.hid hcx
    clear hcx
    have H := item_ok_text 55 #[.pointer (some ⟨W.heap.size, 0, none⟩)] g s _ HX (fun w v w' => v = .string ⟨((s.drop 2).take (MM.val (s.take 2))).toArray⟩ ∧ RAt WR g ((s.drop 2).drop (MM.val (s.take 2))) 0 w' ∧ Turn g w w') (fun w => by kernel_rfl) (fun w v w' h => h.2.2)
      (fun w hw => cl_text_good W.heap.size g s w ((hw.cell (p := ⟨W.heap.size, 0, none⟩) (by simp)).trans HC.out) (HX.step hw) hs hm hl)
    generalize MM.val (s.take 2) = v at *
    go_enter Try.func14, Try.ntmps14
    go_wp2_with (go_at_call 54; (with_reducible refine H.mono ?_); rintro e w' ⟨v, w1, rfl, hb, rfl, hr, ht⟩)
    go_ret2
    exact ⟨rfl, hr, (Turn.of HB.out).trans ((Turn.of hb).trans ht)⟩
  · rw [MM.rText_old he]
    have HB := Lib.hid (below_box W (.cells #[.pointer (some ⟨g, 0, none⟩)] 22))
    have HX := h.step HB.out
    have H := fun fv => item_old_text fv g s e _ HX he
    go_enter Try.func14, Try.ntmps14
    go_wp2_with (go_at_call 54; (with_reducible refine (H _).mono ?_); rintro e w' ⟨rfl, hb⟩)
    go_ret2
    exact ⟨rfl, HX.step hb, (Turn.of HB.out).trans (Turn.of hb)⟩
theorem cl_count_bad (c d g : Nat) (s : List UInt8) (w : World) (hc : w.cell? ⟨c, 0, none⟩ = some (.pointer (some ⟨g, 0, none⟩))) (h : RAt WR g s 0 w) (hs : s.length < 8) :
    Calls Try.prog 53 #[.pointer (some ⟨c, 0, none⟩), .pointer (some ⟨d, 0, none⟩)] w fun e w' => e = .panicked (ErrP 8) ∧ (∃ s2, RAt WR g s2 0 w') ∧ Turn g w w' := by
  have H : Calls Try.prog 47 #[.pointer (some ⟨g, 0, none⟩), .int .i64 8] w fun e' w' => e' = .panicked (ErrP 8) ∧ RAt WR g s 0 w' ∧ Turn g w w' := number_bad g s 0 8 w h hs
  go_enter Try.func53, Try.ntmps53
  go_wp2_with (go_at_call 47; (with_reducible refine H.mono ?_); rintro e w' ⟨rfl, hr, ht⟩)
  exact ⟨rfl, rfl, ⟨s, hr⟩, ht⟩
set_option maxHeartbeats 1000000 in
theorem cl_count_form (c d g : Nat) (most : Int) (s : List UInt8) (w : World) (hc : w.cell? ⟨c, 0, none⟩ = some (.pointer (some ⟨g, 0, none⟩))) (hd : w.cell? ⟨d, 0, none⟩ = some (.int .i64 most)) (h : RAt WR g s 0 w) (hs : 8 ≤ s.length) (hm : most < 0 ∨ most < (MM.val (s.take 8) : Int)) (hm2 : most ≤ 9223372036854775807) :
    Calls Try.prog 53 #[.pointer (some ⟨c, 0, none⟩), .pointer (some ⟨d, 0, none⟩)] w fun e w' => e = .panicked (ErrP 4) ∧ (∃ s2, RAt WR g s2 0 w') ∧ Turn g w w' := by
  have hdg : d ≠ g := fun e => by subst e; rw [h.rest] at hd; cases hd
  have H : Calls Try.prog 47 #[.pointer (some ⟨g, 0, none⟩), .int .i64 8] w fun e' w' => e' = .returned (.int .u64 ((MM.val (s.take 8) : Nat) : Int)) ∧ RAt WR g (s.drop 8) 0 w' ∧ Turn g w w' := number_good g s 0 8 w h hs (by omega)
  generalize MM.val (s.take 8) = v at *
  by_cases h0 : most < 0
  · go_enter Try.func53, Try.ntmps53
    go_wp2_with (go_at_call 47; (with_reducible refine H.mono ?_); rintro e w' ⟨rfl, hr, ht⟩; have hd1 := ht.cell hd hdg)
    exact ⟨rfl, rfl, ⟨_, hr⟩, ht⟩
  · have hw : IntKind.u64.wrap most = most := by simp [IntKind.wrap, IntKind.bits, IntKind.signed]; omega
    have hlt : most < (v : Int) := hm.resolve_left h0
    have hlt2 : decide (most < (v : Int)) = true := decide_eq_true hlt
    go_enter Try.func53, Try.ntmps53
    go_wp2_with (go_at_call 47; (with_reducible refine H.mono ?_); rintro e w' ⟨rfl, hr, ht⟩; have hd1 := ht.cell hd hdg)
    exact ⟨rfl, rfl, ⟨_, hr⟩, ht⟩
set_option maxHeartbeats 1000000 in
theorem cl_count_good (c d g : Nat) (most : Int) (s : List UInt8) (w : World) (hc : w.cell? ⟨c, 0, none⟩ = some (.pointer (some ⟨g, 0, none⟩))) (hd : w.cell? ⟨d, 0, none⟩ = some (.int .i64 most)) (h : RAt WR g s 0 w) (hs : 8 ≤ s.length) (hm : ¬ (most < 0 ∨ most < (MM.val (s.take 8) : Int))) (hm2 : most ≤ 9223372036854775807) :
    Calls Try.prog 53 #[.pointer (some ⟨c, 0, none⟩), .pointer (some ⟨d, 0, none⟩)] w fun e w' => ∃ v, e = .returned v ∧ (v = .int .i64 ((MM.val (s.take 8) : Nat) : Int) ∧ RAt WR g (s.drop 8) 0 w' ∧ Turn g w w') := by
  have hdg : d ≠ g := fun e => by subst e; rw [h.rest] at hd; cases hd
  have H : Calls Try.prog 47 #[.pointer (some ⟨g, 0, none⟩), .int .i64 8] w fun e' w' => e' = .returned (.int .u64 ((MM.val (s.take 8) : Nat) : Int)) ∧ RAt WR g (s.drop 8) 0 w' ∧ Turn g w w' := number_good g s 0 8 w h hs (by omega)
  generalize MM.val (s.take 8) = v at *
  have h0 : ¬ most < 0 := fun h => hm (.inl h)
  have hlt : ¬ most < (v : Int) := fun h => hm (.inr h)
  have hlt2 : decide (most < (v : Int)) = false := decide_eq_false hlt
  have hw : IntKind.u64.wrap most = most := by simp [IntKind.wrap, IntKind.bits, IntKind.signed]; omega
  have hv : IntKind.i64.wrap (v : Int) = (v : Int) := by simp [IntKind.wrap, IntKind.bits, IntKind.signed]; omega
  clear hm
  go_enter Try.func53, Try.ntmps53
  go_wp2_with (go_at_call 47; (with_reducible refine H.mono ?_); rintro e w' ⟨rfl, hr, ht⟩; have hd1 := ht.cell hd hdg)
  go_ret
  exact ⟨_, rfl, rfl, hr, ht⟩
set_option maxHeartbeats 1000000 in
theorem count_nil (most : Int) (W : World) : Calls Try.prog 13 #[.pointer none, .int .i64 most] W fun e' w' => e' = .returned (.tuple #[.int .i64 0, .int .i64 2]) ∧ Below W.heap.size W w' := by
  have hmf : ∀ (fn : Fn) (first cap : Array Value) (w : World), (Instr.makeFunc fn first cap).run Try.prog w = .ok (.func fn first cap) w := fun _ _ _ _ => rfl
  have H := fun fv w => item_nil_count fv w
  have HB : Hid (Below W.heap.size W ((W.alloc (.cells #[.pointer none] 22)).alloc (.cells #[.int .i64 most] 3))) := Lib.hid ((below_box _ _).alloc (by simp) _)
  go_enter Try.func13, Try.ntmps13
  go_wp2_with (go_at_call 52; (with_reducible refine (H _ _).mono ?_); rintro e w' ⟨rfl, hb⟩)
  go_ret2
  exact ⟨rfl, HB.out.trans (hb.mono HB.out.size)⟩
set_option maxHeartbeats 1000000 in
theorem count_ask (g : Nat) (s : List UInt8) (e most : Int) (hm2 : most ≤ 9223372036854775807) (W : World) (h : RAt WR g s e W) :
    Calls Try.prog 13 #[.pointer (some ⟨g, 0, none⟩), .int .i64 most] W fun e' w' => e' = .returned (.tuple #[.int .i64 (((MM.rCount most s e).1 : Nat) : Int), .int .i64 (MM.rCount most s e).2.1]) ∧ RAt WR g (MM.rCount most s e).2.2 (MM.rCount most s e).2.1 w' ∧ Turn g W w' := by
  have hmf : ∀ (fn : Fn) (first cap : Array Value) (w : World), (Instr.makeFunc fn first cap).run Try.prog w = .ok (.func fn first cap) w := fun _ _ _ _ => rfl
  have HB : Hid (Below W.heap.size W ((W.alloc (.cells #[.pointer (some ⟨g, 0, none⟩)] 22)).alloc (.cells #[.int .i64 most] 3))) := Lib.hid ((below_box _ _).alloc (by simp) _)
  have HX := h.step HB.out
  have hcx : ((W.alloc (.cells #[.pointer (some ⟨g, 0, none⟩)] 22)).alloc (.cells #[.int .i64 most] 3)).cell? ⟨W.heap.size, 0, none⟩ = some (.pointer (some ⟨g, 0, none⟩)) := by simp [go_sem]
  have hdx : ((W.alloc (.cells #[.pointer (some ⟨g, 0, none⟩)] 22)).alloc (.cells #[.int .i64 most] 3)).cell? ⟨W.heap.size + 1, 0, none⟩ = some (.int .i64 most) := by simp [go_sem]
  have hsz : ((W.alloc (.cells #[.pointer (some ⟨g, 0, none⟩)] 22)).alloc (.cells #[.int .i64 most] 3)).heap.size = W.heap.size + 2 := by simp
  have HC := Lib.hid hcx
  have HDx := Lib.hid hdx
  have HS := Lib.hid hsz
  clear hcx hdx hsz
  have hcc : ∀ w, Below ((W.alloc (.cells #[.pointer (some ⟨g, 0, none⟩)] 22)).alloc (.cells #[.int .i64 most] 3)).heap.size ((W.alloc (.cells #[.pointer (some ⟨g, 0, none⟩)] 22)).alloc (.cells #[.int .i64 most] 3)) w → w.cell? ⟨W.heap.size, 0, none⟩ = some (.pointer (some ⟨g, 0, none⟩)) := fun w hw => (hw.cell (p := ⟨W.heap.size, 0, none⟩) (by rw [HS.out]; exact Nat.lt_add_of_pos_right (by omega))).trans HC.out
  have hdd : ∀ w, Below ((W.alloc (.cells #[.pointer (some ⟨g, 0, none⟩)] 22)).alloc (.cells #[.int .i64 most] 3)).heap.size ((W.alloc (.cells #[.pointer (some ⟨g, 0, none⟩)] 22)).alloc (.cells #[.int .i64 most] 3)) w → w.cell? ⟨W.heap.size + 1, 0, none⟩ = some (.int .i64 most) := fun w hw => (hw.cell (p := ⟨W.heap.size + 1, 0, none⟩) (by rw [HS.out]; exact Nat.lt_succ_self _)).trans HDx.out
  have HCC := Lib.hid hcc
  have HDD := Lib.hid hdd
  clear hcc hdd
  by_cases he : e = 0
  · subst he
    by_cases hs : s.length < 8
    · rw [MM.rCount_short hs]
      have H := item_bad_count 53 #[.pointer (some ⟨W.heap.size, 0, none⟩), .pointer (some ⟨W.heap.size + 1, 0, none⟩)] g s 8 _ HX (fun w => by kernel_rfl)
        (fun w hw => cl_count_bad W.heap.size (W.heap.size + 1) g s w (HCC.out w hw) (HX.step hw) hs)
      go_enter Try.func13, Try.ntmps13
      go_wp2_with (go_at_call 52; (with_reducible refine H.mono ?_); rintro e w' ⟨rfl, hr, ht⟩)
      go_ret2
      exact ⟨rfl, hr, (Turn.of HB.out).trans ht⟩
    have hs := Nat.le_of_not_lt hs
    by_cases hm : most < 0 ∨ most < (MM.val (s.take 8) : Int)
    · rw [MM.rCount_form hs hm]
      have H := item_bad_count 53 #[.pointer (some ⟨W.heap.size, 0, none⟩), .pointer (some ⟨W.heap.size + 1, 0, none⟩)] g s 4 _ HX (fun w => by kernel_rfl)
        (fun w hw => cl_count_form W.heap.size (W.heap.size + 1) g most s w (HCC.out w hw) (HDD.out w hw) (HX.step hw) hs hm hm2)
      clear hm
      go_enter Try.func13, Try.ntmps13
      go_wp2_with (go_at_call 52; (with_reducible refine H.mono ?_); rintro e w' ⟨rfl, hr, ht⟩)
      go_ret2
      exact ⟨rfl, hr, (Turn.of HB.out).trans ht⟩
    · rw [MM.rCount_good hs hm]
      have H := item_ok_count 53 #[.pointer (some ⟨W.heap.size, 0, none⟩), .pointer (some ⟨W.heap.size + 1, 0, none⟩)] g s _ HX (fun w v w' => v = .int .i64 ((MM.val (s.take 8) : Nat) : Int) ∧ RAt WR g (s.drop 8) 0 w' ∧ Turn g w w') (fun w => by kernel_rfl) (fun w v w' h => h.2.2)
        (fun w hw => cl_count_good W.heap.size (W.heap.size + 1) g most s w (HCC.out w hw) (HDD.out w hw) (HX.step hw) hs hm hm2)
      clear hm
      go_enter Try.func13, Try.ntmps13
      go_wp2_with (go_at_call 52; (with_reducible refine H.mono ?_); rintro e w' ⟨v, w1, rfl, hb, rfl, hr, ht⟩)
      go_ret2
      exact ⟨rfl, hr, (Turn.of HB.out).trans ((Turn.of hb).trans ht)⟩
  · rw [MM.rCount_old he]
    have H := fun fv => item_old_count fv g s e _ HX he
    go_enter Try.func13, Try.ntmps13
    go_wp2_with (go_at_call 52; (with_reducible refine (H _).mono ?_); rintro e w' ⟨rfl, hb⟩)
    go_ret2
    exact ⟨rfl, HX.step hb, (Turn.of HB.out).trans (Turn.of hb)⟩
theorem end_nil (W : World) : Calls Try.prog 17 #[.pointer none] W fun e' w' => e' = .returned (.int .i64 2) ∧ w' = W := by
  have H1 := left_nil W
  have H2 := wrong_nil W
  go_enter Try.func17, Try.ntmps17
  go_wp2_with (first
    | (go_at_call 19; (with_reducible refine H1.mono ?_); rintro e w' ⟨rfl, rfl⟩)
    | (go_at_call 18; (with_reducible refine H2.mono ?_); rintro e w' ⟨rfl, rfl⟩))
  go_ret
  exact ⟨rfl, rfl⟩
theorem end_none (g : Nat) (e : Int) (W : World) (h : RAt WR g [] e W) : Calls Try.prog 17 #[.pointer (some ⟨g, 0, none⟩)] W fun e' w' => e' = .returned (.int .i64 e) ∧ w' = W := by
  have H1 := left_any g [] e W h
  have H2 := wrong_any g [] e W h
  go_enter Try.func17, Try.ntmps17
  go_wp2_with (first
    | (go_at_call 19; (with_reducible refine H1.mono ?_); rintro e w' ⟨rfl, rfl⟩)
    | (go_at_call 18; (with_reducible refine H2.mono ?_); rintro e w' ⟨rfl, rfl⟩))
  go_ret
  exact ⟨rfl, rfl⟩
set_option maxHeartbeats 1000000 in
theorem end_some (g : Nat) (s : List UInt8) (e : Int) (W : World) (h : RAt WR g s e W) (hs : s ≠ []) : Calls Try.prog 17 #[.pointer (some ⟨g, 0, none⟩)] W fun e' w' => e' = .returned (.int .i64 10) ∧ RAt WR g [] 10 w' ∧ Turn g W w' := by
  have H1 := left_any g s e W h
  have H2 := fail_any g s e 10 W h
  have hl : (0 : Int) < (s.length : Int) := by have := List.length_pos_iff.2 hs; omega
  have hl2 : 0 < s.length := by omega
  clear hs
  go_enter Try.func17, Try.ntmps17
  go_wp2_with (first
    | (go_at_call 19; (with_reducible refine H1.mono ?_); rintro e w' ⟨rfl, rfl⟩)
    | (go_at_call 61; (with_reducible refine H2.mono ?_); rintro e w' ⟨rfl, hr, ht⟩; have HR := Lib.hid hr; have HT := Lib.hid ht; clear hr ht)
    | (go_at_call 18; (with_reducible refine (wrong_any g [] 10 _ HR.out).mono ?_); rintro e w' ⟨rfl, rfl⟩))
  go_ret
  exact ⟨rfl, HR.out, HT.out⟩
end M
end Go.Proofs.Ytaijnejbffnfpaa
/- The reader's method for a list. -/
namespace Go.Proofs.Ytaijnejbffnfpaa
open Go Go.RowKit Go.Lib
namespace MM
/-- The numbers that bytes are, eight by eight. -/
def num8 (t : List UInt8) (k : Nat) : Nat := val ((t.drop (8 * k)).take 8)
/-- A list: what was wrong, how many, which, what is left. -/
def rList (s : List UInt8) (e : Int) : Int × Nat × (Nat → Nat) × List UInt8 :=
  if e ≠ 0 then (e, 0, fun _ => 0, s) else if s.length < 2 then (8, 0, fun _ => 0, []) else if 1024 < val (s.take 2) then (40, 0, fun _ => 0, []) else if s.length - 2 < 8 * val (s.take 2) then (8, 0, fun _ => 0, [])
  else (0, val (s.take 2), num8 (s.drop 2), (s.drop 2).drop (8 * val (s.take 2)))
theorem rList_old {s : List UInt8} {e : Int} (he : e ≠ 0) : rList s e = (e, 0, fun _ => 0, s) := by simp [rList, he]
theorem rList_short {s : List UInt8} (h : s.length < 2) : rList s 0 = (8, 0, fun _ => 0, []) := by simp [rList, h]
theorem rList_large {s : List UInt8} (h : 2 ≤ s.length) (hm : 1024 < val (s.take 2)) : rList s 0 = (40, 0, fun _ => 0, []) := by
  have : ¬ s.length < 2 := by omega
  simp [rList, this, hm]
theorem rList_less {s : List UInt8} (h : 2 ≤ s.length) (hm : val (s.take 2) ≤ 1024) (hl : s.length - 2 < 8 * val (s.take 2)) : rList s 0 = (8, 0, fun _ => 0, []) := by
  have h1 : ¬ s.length < 2 := by omega
  have h2 : ¬ 1024 < val (s.take 2) := by omega
  simp [rList, h1, h2, hl]
theorem rList_good {s : List UInt8} (h : 2 ≤ s.length) (hm : val (s.take 2) ≤ 1024) (hl : 8 * val (s.take 2) ≤ s.length - 2) : rList s 0 = (0, val (s.take 2), num8 (s.drop 2), (s.drop 2).drop (8 * val (s.take 2))) := by
  have h1 : ¬ s.length < 2 := by omega
  have h2 : ¬ 1024 < val (s.take 2) := by omega
  have h3 : ¬ s.length - 2 < 8 * val (s.take 2) := by omega
  simp only [rList, h1, h2, h3, if_false, ne_eq, not_true_eq_false]
end MM
namespace M
/-- Block B holds the n numbers z. -/
def Blk (B n : Nat) (z : Nat → Nat) (w : World) : Prop := ∃ cs : Array Value, w.heap[B]? = some (.cells cs 26 (0, 0)) ∧ cs.size = n ∧ ∀ k, k < n → cs[k]? = some (.int .u64 ((z k : Nat) : Int))
section
variable {B n g : Nat} {z y : Nat → Nat} {w w' : World}
theorem Blk.lt (h : Blk B n z w) : B < w.heap.size := by obtain ⟨cs, h1, _⟩ := h; exact row_lt h1
theorem Blk.turn (h : Blk B n z w) (ht : Turn g w w') (hg : B ≠ g) : Blk B n z w' := by obtain ⟨cs, h1, h2⟩ := h; exact ⟨cs, (ht.block B (row_lt h1) hg).trans h1, h2⟩
theorem Blk.step (h : Blk B n z w) (hb : Below w.heap.size w w') : Blk B n z w' := by obtain ⟨cs, h1, h2⟩ := h; exact ⟨cs, (hb.block B (row_lt h1)).trans h1, h2⟩
theorem Blk.congr (h : Blk B n z w) (hz : ∀ k, k < n → z k = y k) : Blk B n y w := by obtain ⟨cs, h1, h2, h3⟩ := h; exact ⟨cs, h1, h2, fun k hk => by rw [h3 k hk, hz k hk]⟩
theorem Blk.cell (h : Blk B n z w) {k : Nat} (hk : k < n) : w.cell? ⟨B, k, none⟩ = some (.int .u64 ((z k : Nat) : Int)) := by
  obtain ⟨cs, h1, _, h3⟩ := h
  rw [cell_of_row w B k _ _ _ h1, h3 k hk]
theorem Blk.free (h : Blk B n z w) (k : Nat) : w.frozen? ⟨B, k, none⟩ = false := by
  obtain ⟨cs, h1, _⟩ := h
  simp [World.frozen?, h1]
theorem Blk.set (h : Blk B n z w) (k x : Nat) (hy : ∀ j, j < n → y j = if j = k then x else z j) : Blk B n y (w.setCell ⟨B, k, none⟩ (.int .u64 (x : Int))) := by
  obtain ⟨cs, h1, h2, h3⟩ := h
  refine ⟨_, heap_setCell_same w B k cs _ _ h1, by simpa using h2, fun j hj => ?_⟩
  rw [hy j hj, Array.getElem?_setIfInBounds]
  by_cases e : k = j
  · subst e; rw [if_pos rfl, if_pos (by omega), if_pos rfl]
  · rw [if_neg e, if_neg (fun h => e h.symm), h3 j hj]
theorem Blk.rd (h : Blk B n z w) : Rd w (some ⟨B, 0, none⟩) n z := fun _ => ⟨_, rfl, by obtain ⟨cs, h1, _, h3⟩ := h; exact Row.of_block h1 h3⟩
theorem Blk.made (w : World) (n : Nat) : Blk w.heap.size n (fun _ => 0) (w.alloc (.cells (madeCells #[.int .u64 0] n) 26)) :=
  ⟨_, heap_alloc_new _ _, by rw [size_madeCells], fun k hk => by simp [madeCells, hk, Nat.mod_one]⟩
end
theorem run_made64 (n : Nat) (hn : n ≤ 1000000000) (w : World) :
    (Instr.makeSlice 35 (.int .i64 (n : Int)) (.int .i64 (n : Int))).run Try.prog w = .ok (.slice (some ⟨w.heap.size, 0, none⟩) n n) (w.alloc (.cells (madeCells #[.int .u64 0] n) 26)) := by
  have h := run_made n hn w
  rw [Nat.mul_one] at h
  exact h
def midZ (t : List UInt8) (k j : Nat) : Nat := if j < k then MM.num8 t j else 0
theorem midZ_succ (t : List UInt8) (n k : Nat) : ∀ j, j < n → midZ t (k + 1) j = if j = k then MM.num8 t k else midZ t k j := fun j _ => by
  unfold midZ
  by_cases e : j = k
  · subst e; simp
  · rw [if_neg e]
    by_cases h : j < k
    · rw [if_pos h, if_pos (by omega)]
    · rw [if_neg h, if_neg (by omega)]
theorem cl_list_bad (c g : Nat) (k : Int) (w : World) (hc : w.cell? ⟨c, 0, none⟩ = some (.pointer (some ⟨g, 0, none⟩)))
    (H : Calls Try.prog 58 #[.pointer (some ⟨g, 0, none⟩), .int .i64 1024] w fun e' w' => e' = .panicked (ErrP k) ∧ (∃ s2, RAt WR g s2 0 w') ∧ Turn g w w') :
    Calls Try.prog 60 #[.pointer (some ⟨c, 0, none⟩)] w fun e w' => e = .panicked (ErrP k) ∧ (∃ s2, RAt WR g s2 0 w') ∧ Turn g w w' := by
  go_enter Try.func60, Try.ntmps60
  go_wp2_with (go_at_call 58; (with_reducible refine H.mono ?_); rintro e w' ⟨rfl, hr, ht⟩)
  exact ⟨rfl, rfl, hr, ht⟩
/-- What the loop of a list carries along. -/
structure InL (w0 : World) (g B n : Nat) (t : List UInt8) (k : Nat) (w : World) : Prop where
  rd : RAt WR g (t.drop (8 * k)) 0 w
  turn : Turn g w0 w
  blk : Blk B n (midZ t k) w
theorem InL.good {w0 : World} {g B n : Nat} {t : List UInt8} {k : Nat} {w : World} (h : InL w0 g B n t k w) (hk : 8 * (k + 1) ≤ t.length) :
    Calls Try.prog 47 #[.pointer (some ⟨g, 0, none⟩), .int .i64 8] w fun e' w' => e' = .returned (.int .u64 ((MM.num8 t k : Nat) : Int)) ∧ RAt WR g (t.drop (8 * (k + 1))) 0 w' ∧ Turn g w w' := by
  have h1 := number_good g (t.drop (8 * k)) 0 8 w h.rd (by simp; omega) (by omega)
  rw [List.drop_drop, show 8 * k + 8 = 8 * (k + 1) by omega] at h1
  exact h1
theorem InL.bad {w0 : World} {g B n : Nat} {t : List UInt8} {k : Nat} {w : World} (h : InL w0 g B n t k w) (hk : t.length < 8 * (k + 1)) :
    Calls Try.prog 47 #[.pointer (some ⟨g, 0, none⟩), .int .i64 8] w fun e' w' => e' = .panicked (ErrP 8) ∧ RAt WR g (t.drop (8 * k)) 0 w' ∧ Turn g w w' :=
  number_bad g (t.drop (8 * k)) 0 8 w h.rd (by simp; omega)
set_option maxHeartbeats 2000000 in
theorem cl_list_less (c g : Nat) (s : List UInt8) (w : World) (hc : w.cell? ⟨c, 0, none⟩ = some (.pointer (some ⟨g, 0, none⟩))) (h : RAt WR g s 0 w) (hs : 2 ≤ s.length) (hm : MM.val (s.take 2) ≤ 1024) (hl : s.length - 2 < 8 * MM.val (s.take 2)) :
    Calls Try.prog 60 #[.pointer (some ⟨c, 0, none⟩)] w fun e w' => e = .panicked (ErrP 8) ∧ (∃ s2, RAt WR g s2 0 w') ∧ Turn g w w' := by
  have hcg : c ≠ g := fun e => by subst e; rw [h.rest] at hc; cases hc
  have H : Calls Try.prog 58 #[.pointer (some ⟨g, 0, none⟩), .int .i64 1024] w fun e' w' => e' = .returned (.int .i64 ((MM.val (s.take 2) : Nat) : Int)) ∧ RAt WR g (s.drop 2) 0 w' ∧ Turn g w w' := length_good g s 0 1024 w h hs hm
  generalize MM.val (s.take 2) = n at *
  obtain ⟨t, ht⟩ : ∃ t, t = s.drop 2 := ⟨_, rfl⟩
  have htl : t.length < 8 * n := by subst ht; simpa using hl
  have hgl := h.lt
  rw [← ht] at H
  clear ht hl
  have HL := Lib.hid htl
  have HGL := Lib.hid hgl
  clear htl h hs hgl
  have hmk := fun w => run_made64 n (by omega) w
  go_enter Try.func60, Try.ntmps60
  go_wp2_with (go_at_call 58; (with_reducible refine H.mono ?_); rintro e w1 ⟨rfl, hr, ht⟩; have HR := Lib.hid hr; have HT := Lib.hid ht; clear hr ht)
  have hmade := Blk.made w1 n
  have hbb := below_box w1 (.cells (madeCells #[.int .u64 0] n) 26)
  have HI : Hid (InL w g w1.heap.size n t 0 (w1.alloc (.cells (madeCells #[.int .u64 0] n) 26))) := Lib.hid ⟨HR.out.step hbb, HT.out.trans (Turn.of hbb), hmade.congr fun k _ => by simp [midZ]⟩
  have hBg : w1.heap.size ≠ g := by have := HGL.out; have := HT.out.size; omega
  have HBG := Lib.hid hBg
  have HBW : Hid (w.heap.size ≤ w1.heap.size) := Lib.hid HT.out.size
  clear hmade hbb hmk hBg
  generalize w1.alloc (.cells (madeCells #[.int .u64 0] n) 26) = w2 at *
  generalize w1.heap.size = B at *
  go_loopw [9] (fun s9 wx => ∃ k : Nat, k ≤ n ∧ 8 * k ≤ t.length ∧ s9 = .int .i64 (k : Int) ∧ InL w g B n t k wx) (fun s9 _ => n - (RowKit.intOf s9).toNat)
  case atStart => exact ⟨0, Nat.zero_le _, Nat.zero_le _, rfl, HI.out⟩
  case round =>
    obtain ⟨k, hk, hkt, rfl, hM⟩ := hrel
    have HK := Lib.hid hM
    clear hM
    have hcx := HK.out.turn.cell hc hcg
    have hlt : k < n := by have := HL.out; omega
    by_cases hr8 : 8 * (k + 1) ≤ t.length
    · 
      have Hk := HK.out.good hr8
      go_wp2_with (go_at_call 47; (with_reducible refine Hk.mono ?_); rintro e w5 ⟨rfl, hr5, ht5⟩; have HR5 := Lib.hid hr5; have HT5 := Lib.hid ht5; have HB5 := Lib.hid (HK.out.blk.turn ht5 HBG.out); have hc5 := HB5.out.cell hlt; have hf5 := HB5.out.free k; clear hr5 ht5)
      go_roundw
      case rel => exact ⟨k + 1, by omega, by omega, by go_num, HR5.out.turn (g2 := B) ((Turn.refl B w5).set k _) (fun e => HBG.out e.symm), (HK.out.turn.trans HT5.out).setNew HBW.out k _, HB5.out.set k (MM.num8 t k) (midZ_succ t n k)⟩
      case measure => simp [RowKit.intOf]; omega
    · have Hk := HK.out.bad (Nat.lt_of_not_le hr8)
      go_wp2_with (go_at_call 47; (with_reducible refine Hk.mono ?_); rintro e w5 ⟨rfl, hr5, ht5⟩)
      exact ⟨rfl, rfl, ⟨_, hr5⟩, HK.out.turn.trans ht5⟩
set_option maxHeartbeats 2000000 in
theorem cl_list_good (c g : Nat) (s : List UInt8) (w : World) (hc : w.cell? ⟨c, 0, none⟩ = some (.pointer (some ⟨g, 0, none⟩))) (h : RAt WR g s 0 w) (hs : 2 ≤ s.length) (hm : MM.val (s.take 2) ≤ 1024) (hl : 8 * MM.val (s.take 2) ≤ s.length - 2) :
    Calls Try.prog 60 #[.pointer (some ⟨c, 0, none⟩)] w fun e w' => ∃ v, e = .returned v ∧ ((∃ B, v = .slice (some ⟨B, 0, none⟩) (MM.val (s.take 2)) (MM.val (s.take 2)) ∧ w.heap.size ≤ B ∧ Blk B (MM.val (s.take 2)) (MM.num8 (s.drop 2)) w') ∧ RAt WR g ((s.drop 2).drop (8 * MM.val (s.take 2))) 0 w' ∧ Turn g w w') := by
  have hcg : c ≠ g := fun e => by subst e; rw [h.rest] at hc; cases hc
  have H : Calls Try.prog 58 #[.pointer (some ⟨g, 0, none⟩), .int .i64 1024] w fun e' w' => e' = .returned (.int .i64 ((MM.val (s.take 2) : Nat) : Int)) ∧ RAt WR g (s.drop 2) 0 w' ∧ Turn g w w' := length_good g s 0 1024 w h hs hm
  generalize MM.val (s.take 2) = n at *
  obtain ⟨t, ht⟩ : ∃ t, t = s.drop 2 := ⟨_, rfl⟩
  have htl : 8 * n ≤ t.length := by subst ht; simpa using hl
  have hgl := h.lt
  rw [← ht] at H ⊢
  clear ht hl
  have HL := Lib.hid htl
  have HGL := Lib.hid hgl
  clear htl h hs hgl
  have hmk := fun w => run_made64 n (by omega) w
  go_enter Try.func60, Try.ntmps60
  go_wp2_with (go_at_call 58; (with_reducible refine H.mono ?_); rintro e w1 ⟨rfl, hr, ht⟩; have HR := Lib.hid hr; have HT := Lib.hid ht; clear hr ht)
  have hmade := Blk.made w1 n
  have hbb := below_box w1 (.cells (madeCells #[.int .u64 0] n) 26)
  have HI : Hid (InL w g w1.heap.size n t 0 (w1.alloc (.cells (madeCells #[.int .u64 0] n) 26))) := Lib.hid ⟨HR.out.step hbb, HT.out.trans (Turn.of hbb), hmade.congr fun k _ => by simp [midZ]⟩
  have hBg : w1.heap.size ≠ g := by have := HGL.out; have := HT.out.size; omega
  have HBG := Lib.hid hBg
  have HBW : Hid (w.heap.size ≤ w1.heap.size) := Lib.hid HT.out.size
  clear hmade hbb hmk hBg
  generalize w1.alloc (.cells (madeCells #[.int .u64 0] n) 26) = w2 at *
  generalize w1.heap.size = B at *
  go_loopw [9] (fun s9 wx => ∃ k : Nat, k ≤ n ∧ 8 * k ≤ t.length ∧ s9 = .int .i64 (k : Int) ∧ InL w g B n t k wx) (fun s9 _ => n - (RowKit.intOf s9).toNat)
  case atStart => exact ⟨0, Nat.zero_le _, Nat.zero_le _, rfl, HI.out⟩
  case round =>
    obtain ⟨k, hk, hkt, rfl, hM⟩ := hrel
    have HK := Lib.hid hM
    clear hM
    have hcx := HK.out.turn.cell hc hcg
    by_cases hlt : k < n
    · have hr8 : 8 * (k + 1) ≤ t.length := by have := HL.out; omega
      have Hk := HK.out.good hr8
      go_wp2_with (go_at_call 47; (with_reducible refine Hk.mono ?_); rintro e w5 ⟨rfl, hr5, ht5⟩; have HR5 := Lib.hid hr5; have HT5 := Lib.hid ht5; have HB5 := Lib.hid (HK.out.blk.turn ht5 HBG.out); have hc5 := HB5.out.cell hlt; have hf5 := HB5.out.free k; clear hr5 ht5)
      go_roundw
      case rel => exact ⟨k + 1, by omega, by omega, by go_num, HR5.out.turn (g2 := B) ((Turn.refl B w5).set k _) (fun e => HBG.out e.symm), (HK.out.turn.trans HT5.out).setNew HBW.out k _, HB5.out.set k (MM.num8 t k) (midZ_succ t n k)⟩
      case measure => simp [RowKit.intOf]; omega
    · obtain rfl : k = n := by omega
      go_wp2_with fail
      go_ret
      exact ⟨_, rfl, ⟨B, rfl, HBW.out, HK.out.blk.congr fun j hj => by simp [midZ, hj]⟩, HK.out.rd, HK.out.turn⟩
set_option maxHeartbeats 1000000 in
theorem list_nil (W : World) : Calls Try.prog 15 #[.pointer none] W fun e' w' => e' = .returned (.tuple #[.slice none 0 0, .int .i64 2]) ∧ Below W.heap.size W w' := by
  have hmf : ∀ (fn : Fn) (first cap : Array Value) (w : World), (Instr.makeFunc fn first cap).run Try.prog w = .ok (.func fn first cap) w := fun _ _ _ _ => rfl
  have H := fun fv w => item_nil_list fv w
  have HB := Lib.hid (below_box W (.cells #[.pointer none] 22))
  go_enter Try.func15, Try.ntmps15
  go_wp2_with (go_at_call 59; (with_reducible refine (H _ _).mono ?_); rintro e w' ⟨rfl, hb⟩)
  go_ret2
  exact ⟨rfl, HB.out.trans (hb.mono HB.out.size)⟩
/-- A list as it is handed out: numbers in a block of its own, or nil. -/
def ListV (W : World) (n : Nat) (z : Nat → Nat) (v : Value) (w' : World) : Prop := (v = .slice none 0 0 ∧ n = 0) ∨ ∃ B, v = .slice (some ⟨B, 0, none⟩) n n ∧ W.heap.size ≤ B ∧ Blk B n z w'
set_option maxHeartbeats 1000000 in
theorem list_bad (g : Nat) (s : List UInt8) (k : Int) (W : World) (h : RAt WR g s 0 W)
    (hcl : ∀ c w, w.cell? ⟨c, 0, none⟩ = some (.pointer (some ⟨g, 0, none⟩)) → RAt WR g s 0 w → Calls Try.prog 60 #[.pointer (some ⟨c, 0, none⟩)] w fun e w' => e = .panicked (ErrP k) ∧ (∃ s2, RAt WR g s2 0 w') ∧ Turn g w w') :
    Calls Try.prog 15 #[.pointer (some ⟨g, 0, none⟩)] W fun e' w' => e' = .returned (.tuple #[.slice none 0 0, .int .i64 k]) ∧ RAt WR g [] k w' ∧ Turn g W w' := by
  have hmf : ∀ (fn : Fn) (first cap : Array Value) (w : World), (Instr.makeFunc fn first cap).run Try.prog w = .ok (.func fn first cap) w := fun _ _ _ _ => rfl
  have HB := Lib.hid (below_box W (.cells #[.pointer (some ⟨g, 0, none⟩)] 22))
  have HX := h.step HB.out
  have hcx : (W.alloc (.cells #[.pointer (some ⟨g, 0, none⟩)] 22)).cell? ⟨W.heap.size, 0, none⟩ = some (.pointer (some ⟨g, 0, none⟩)) := by simp [go_sem]
  have HC := Lib.hid hcx
  clear hcx
  have H := item_bad_list 60 #[.pointer (some ⟨W.heap.size, 0, none⟩)] g s k _ HX (fun w => by kernel_rfl)
    (fun w hw => hcl W.heap.size w ((hw.cell (p := ⟨W.heap.size, 0, none⟩) (by simp)).trans HC.out) (HX.step hw))
  go_enter Try.func15, Try.ntmps15
  go_wp2_with (go_at_call 59; (with_reducible refine H.mono ?_); rintro e w' ⟨rfl, hr, ht⟩)
  go_ret2
  exact ⟨rfl, hr, (Turn.of HB.out).trans ht⟩
set_option maxHeartbeats 1000000 in
theorem list_ask (g : Nat) (s : List UInt8) (e : Int) (W : World) (h : RAt WR g s e W) :
    Calls Try.prog 15 #[.pointer (some ⟨g, 0, none⟩)] W fun e' w' => ∃ v, e' = .returned (.tuple #[v, .int .i64 (MM.rList s e).1]) ∧ ListV W (MM.rList s e).2.1 (MM.rList s e).2.2.1 v w' ∧ RAt WR g (MM.rList s e).2.2.2 (MM.rList s e).1 w' ∧ Turn g W w' := by
  have hmf : ∀ (fn : Fn) (first cap : Array Value) (w : World), (Instr.makeFunc fn first cap).run Try.prog w = .ok (.func fn first cap) w := fun _ _ _ _ => rfl
  by_cases he : e = 0
  · subst he
    by_cases hs : s.length < 2
    · rw [MM.rList_short hs]
      refine (list_bad g s 8 W h fun c w hc hr => cl_list_bad c g 8 w hc ((length_short g s 0 1024 w hr hs).mono fun _ _ ⟨a, b, c⟩ => ⟨a, ⟨_, b⟩, c⟩)).mono ?_
      rintro e w' ⟨rfl, hr, ht⟩
      exact ⟨_, rfl, .inl ⟨rfl, rfl⟩, hr, ht⟩
    have hs := Nat.le_of_not_lt hs
    by_cases hm : 1024 < MM.val (s.take 2)
    · rw [MM.rList_large hs hm]
      refine (list_bad g s 40 W h fun c w hc hr => cl_list_bad c g 40 w hc ((length_large g s 0 1024 w hr hs hm).mono fun _ _ ⟨a, b, c⟩ => ⟨a, ⟨_, b⟩, c⟩)).mono ?_
      rintro e w' ⟨rfl, hr, ht⟩
      exact ⟨_, rfl, .inl ⟨rfl, rfl⟩, hr, ht⟩
    have hm := Nat.le_of_not_lt hm
    by_cases hl : s.length - 2 < 8 * MM.val (s.take 2)
    · rw [MM.rList_less hs hm hl]
      refine (list_bad g s 8 W h fun c w hc hr => cl_list_less c g s w hc hr hs hm hl).mono ?_
      rintro e w' ⟨rfl, hr, ht⟩
      exact ⟨_, rfl, .inl ⟨rfl, rfl⟩, hr, ht⟩
    have hl := Nat.le_of_not_lt hl
    rw [MM.rList_good hs hm hl]
    have HB := Lib.hid (below_box W (.cells #[.pointer (some ⟨g, 0, none⟩)] 22))
    have HX := h.step HB.out
    have hcx : (W.alloc (.cells #[.pointer (some ⟨g, 0, none⟩)] 22)).cell? ⟨W.heap.size, 0, none⟩ = some (.pointer (some ⟨g, 0, none⟩)) := by simp [go_sem]
    have HC := Lib.hid hcx
    clear hcx
    have H := item_ok_list 60 #[.pointer (some ⟨W.heap.size, 0, none⟩)] g s _ HX (fun w v w' => (∃ B, v = .slice (some ⟨B, 0, none⟩) (MM.val (s.take 2)) (MM.val (s.take 2)) ∧ w.heap.size ≤ B ∧ Blk B (MM.val (s.take 2)) (MM.num8 (s.drop 2)) w') ∧ RAt WR g ((s.drop 2).drop (8 * MM.val (s.take 2))) 0 w' ∧ Turn g w w') (fun w => by kernel_rfl) (fun w v w' h => h.2.2)
      (fun w hw => cl_list_good W.heap.size g s w ((hw.cell (p := ⟨W.heap.size, 0, none⟩) (by simp)).trans HC.out) (HX.step hw) hs hm hl)
    generalize MM.val (s.take 2) = n at *
    go_enter Try.func15, Try.ntmps15
    go_wp2_with (go_at_call 59; (with_reducible refine H.mono ?_); rintro e w' ⟨v, w1, rfl, hb, ⟨B, rfl, hB, hblk⟩, hr, ht⟩)
    go_ret2
    have hsz := HB.out.size
    exact ⟨_, rfl, .inr ⟨B, rfl, by have := hb.size; omega, hblk⟩, hr, (Turn.of HB.out).trans ((Turn.of hb).trans ht)⟩
  · rw [MM.rList_old he]
    have HB := Lib.hid (below_box W (.cells #[.pointer (some ⟨g, 0, none⟩)] 22))
    have HX := h.step HB.out
    have H := fun fv => item_old_list fv g s e _ HX he
    go_enter Try.func15, Try.ntmps15
    go_wp2_with (go_at_call 59; (with_reducible refine (H _).mono ?_); rintro e w' ⟨rfl, hb⟩)
    go_ret2
    exact ⟨_, rfl, .inl ⟨rfl, rfl⟩, HX.step hb, (Turn.of HB.out).trans (Turn.of hb)⟩
end M
end Go.Proofs.Ytaijnejbffnfpaa

/- The texts WirAsk, QuietIn, RegK, WirTxt, one behind the other. -/
import Derived.Test.YtaijnejbffnfpaaWB3
import Derived.Test.YtaijnejbffnfpaaWB2
import Derived.RangeFuncCalls
import Derived.RangeFuncLeaves
import Derived.TacticsIn
import Derived.OrdersIn
import Derived.OrdersHeld
import Derived.Deep.RegionWith
/- The reader's methods for a byte, a number, a whole number: what each answers, and how the reader stands then. -/
namespace Go.Proofs.Ytaijnejbffnfpaa
open Go Go.RowKit Go.Lib
namespace MM
/-- n bytes off, as a number: the number, what was wrong, what is left. -/
def rOff (n : Nat) (s : List UInt8) (e : Int) : Nat × Int × List UInt8 := if e ≠ 0 then (0, e, s) else if s.length < n then (0, 8, []) else (val (s.take n), 0, s.drop n)
theorem rOff_old {n : Nat} {s : List UInt8} {e : Int} (he : e ≠ 0) : rOff n s e = (0, e, s) := by simp [rOff, he]
theorem rOff_short {n : Nat} {s : List UInt8} (h : s.length < n) : rOff n s 0 = (0, 8, []) := by simp [rOff, h]
theorem rOff_good {n : Nat} {s : List UInt8} (h : n ≤ s.length) : rOff n s 0 = (val (s.take n), 0, s.drop n) := by simp [rOff]; omega
/-- The whole number that 64 bits are. -/
def i64 (n : Nat) : Int := IntKind.i64.wrap (n : Int)
end MM
namespace M

theorem cl_byte_bad (c g : Nat) (s : List UInt8) (w : World) (hc : w.cell? ⟨c, 0, none⟩ = some (.pointer (some ⟨g, 0, none⟩))) (h : RAt WR g s 0 w) (hs : s.length < 1) :
    Calls Try.prog 46 #[.pointer (some ⟨c, 0, none⟩)] w fun e w' => e = .panicked (ErrP 8) ∧ (∃ s2, RAt WR g s2 0 w') ∧ Turn g w w' := by
  have H : Calls Try.prog 47 #[.pointer (some ⟨g, 0, none⟩), .int .i64 1] w fun e' w' => e' = .panicked (ErrP 8) ∧ RAt WR g s 0 w' ∧ Turn g w w' := number_bad g s 0 1 w h hs
  go_enter Try.func46, Try.ntmps46
  go_wp2_with (go_at_call 47; (with_reducible refine H.mono ?_); rintro e w' ⟨rfl, hr, ht⟩)
  exact ⟨rfl, rfl, ⟨s, hr⟩, ht⟩
theorem cl_byte_good (c g : Nat) (s : List UInt8) (w : World) (hc : w.cell? ⟨c, 0, none⟩ = some (.pointer (some ⟨g, 0, none⟩))) (h : RAt WR g s 0 w) (hs : 1 ≤ s.length) :
    Calls Try.prog 46 #[.pointer (some ⟨c, 0, none⟩)] w fun e w' => ∃ v, e = .returned v ∧ (v = .int .u8 (((MM.val (s.take 1)) : Nat) : Int) ∧ RAt WR g (s.drop 1) 0 w' ∧ Turn g w w') := by
  have H : Calls Try.prog 47 #[.pointer (some ⟨g, 0, none⟩), .int .i64 1] w fun e' w' => e' = .returned (.int .u64 ((MM.val (s.take 1) : Nat) : Int)) ∧ RAt WR g (s.drop 1) 0 w' ∧ Turn g w w' := number_good g s 0 1 w h hs (by omega)
  have hv := MM.val_lt 1 (s.take 1) (by simp; omega)
  generalize MM.val (s.take 1) = v at *
  have hw : IntKind.u8.wrap (v : Int) = (v : Int) := by simp [IntKind.wrap, IntKind.bits, IntKind.signed]; omega
  go_enter Try.func46, Try.ntmps46
  go_wp2_with (go_at_call 47; (with_reducible refine H.mono ?_); rintro e w' ⟨rfl, hr, ht⟩)
  go_ret
  exact ⟨_, rfl, rfl, hr, ht⟩
set_option maxHeartbeats 1000000 in
theorem byte_nil (W : World) : Calls Try.prog 10 #[.pointer none] W fun e' w' => e' = .returned (.tuple #[.int .u8 0, .int .i64 2]) ∧ Below W.heap.size W w' := by
  have hmf : ∀ (fn : Fn) (first cap : Array Value) (w : World), (Instr.makeFunc fn first cap).run Try.prog w = .ok (.func fn first cap) w := fun _ _ _ _ => rfl
  have H := fun fv w => item_nil_byte fv w
  have HB := Lib.hid (below_box W (.cells #[.pointer none] 22))
  go_enter Try.func10, Try.ntmps10
  go_wp2_with (go_at_call 45; (with_reducible refine (H _ _).mono ?_); rintro e w' ⟨rfl, hb⟩)
  go_ret2
  exact ⟨rfl, HB.out.trans (hb.mono HB.out.size)⟩
set_option maxHeartbeats 1000000 in
theorem byte_ask (g : Nat) (s : List UInt8) (e : Int) (W : World) (h : RAt WR g s e W) :
    Calls Try.prog 10 #[.pointer (some ⟨g, 0, none⟩)] W fun e' w' => e' = .returned (.tuple #[.int .u8 (((MM.rOff 1 s e).1 : Nat) : Int), .int .i64 (MM.rOff 1 s e).2.1]) ∧ RAt WR g (MM.rOff 1 s e).2.2 (MM.rOff 1 s e).2.1 w' ∧ Turn g W w' := by
  have hmf : ∀ (fn : Fn) (first cap : Array Value) (w : World), (Instr.makeFunc fn first cap).run Try.prog w = .ok (.func fn first cap) w := fun _ _ _ _ => rfl
  have HB := Lib.hid (below_box W (.cells #[.pointer (some ⟨g, 0, none⟩)] 22))
  have HX := h.step HB.out
  have hcx : (W.alloc (.cells #[.pointer (some ⟨g, 0, none⟩)] 22)).cell? ⟨W.heap.size, 0, none⟩ = some (.pointer (some ⟨g, 0, none⟩)) := by simp [go_sem]
  have HC := Lib.hid hcx
  clear hcx
  by_cases he : e = 0
  · subst he
    by_cases hs : s.length < 1
    · rw [MM.rOff_short hs]
      have H := item_bad_byte 46 #[.pointer (some ⟨W.heap.size, 0, none⟩)] g s 8 _ HX (fun w => by kernel_rfl)
        (fun w hw => cl_byte_bad W.heap.size g s w ((hw.cell (p := ⟨W.heap.size, 0, none⟩) (by simp)).trans HC.out) (HX.step hw) hs)
      go_enter Try.func10, Try.ntmps10
      go_wp2_with (go_at_call 45; (with_reducible refine H.mono ?_); rintro e w' ⟨rfl, hr, ht⟩)
      go_ret2
      exact ⟨rfl, hr, (Turn.of HB.out).trans ht⟩
    · have hs := Nat.le_of_not_lt hs
      rw [MM.rOff_good hs]
      have H := item_ok_byte 46 #[.pointer (some ⟨W.heap.size, 0, none⟩)] g s _ HX (fun w v w' => v = .int .u8 (((MM.val (s.take 1)) : Nat) : Int) ∧ RAt WR g (s.drop 1) 0 w' ∧ Turn g w w') (fun w => by kernel_rfl) (fun w v w' h => h.2.2)
        (fun w hw => cl_byte_good W.heap.size g s w ((hw.cell (p := ⟨W.heap.size, 0, none⟩) (by simp)).trans HC.out) (HX.step hw) hs)
      go_enter Try.func10, Try.ntmps10
      go_wp2_with (go_at_call 45; (with_reducible refine H.mono ?_); rintro e w' ⟨v, w1, rfl, hb, rfl, hr, ht⟩)
      go_ret2
      exact ⟨rfl, hr, (Turn.of HB.out).trans ((Turn.of hb).trans ht)⟩
  · rw [MM.rOff_old he]
    have H := fun fv => item_old_byte fv g s e _ HX he
    go_enter Try.func10, Try.ntmps10
    go_wp2_with (go_at_call 45; (with_reducible refine (H _).mono ?_); rintro e w' ⟨rfl, hb⟩)
    go_ret2
    exact ⟨rfl, HX.step hb, (Turn.of HB.out).trans (Turn.of hb)⟩

theorem cl_num_bad (c g : Nat) (s : List UInt8) (w : World) (hc : w.cell? ⟨c, 0, none⟩ = some (.pointer (some ⟨g, 0, none⟩))) (h : RAt WR g s 0 w) (hs : s.length < 8) :
    Calls Try.prog 49 #[.pointer (some ⟨c, 0, none⟩)] w fun e w' => e = .panicked (ErrP 8) ∧ (∃ s2, RAt WR g s2 0 w') ∧ Turn g w w' := by
  have H : Calls Try.prog 47 #[.pointer (some ⟨g, 0, none⟩), .int .i64 8] w fun e' w' => e' = .panicked (ErrP 8) ∧ RAt WR g s 0 w' ∧ Turn g w w' := number_bad g s 0 8 w h hs
  go_enter Try.func49, Try.ntmps49
  go_wp2_with (go_at_call 47; (with_reducible refine H.mono ?_); rintro e w' ⟨rfl, hr, ht⟩)
  exact ⟨rfl, rfl, ⟨s, hr⟩, ht⟩
theorem cl_num_good (c g : Nat) (s : List UInt8) (w : World) (hc : w.cell? ⟨c, 0, none⟩ = some (.pointer (some ⟨g, 0, none⟩))) (h : RAt WR g s 0 w) (hs : 8 ≤ s.length) :
    Calls Try.prog 49 #[.pointer (some ⟨c, 0, none⟩)] w fun e w' => ∃ v, e = .returned v ∧ (v = .int .u64 (((MM.val (s.take 8)) : Nat) : Int) ∧ RAt WR g (s.drop 8) 0 w' ∧ Turn g w w') := by
  have H : Calls Try.prog 47 #[.pointer (some ⟨g, 0, none⟩), .int .i64 8] w fun e' w' => e' = .returned (.int .u64 ((MM.val (s.take 8) : Nat) : Int)) ∧ RAt WR g (s.drop 8) 0 w' ∧ Turn g w w' := number_good g s 0 8 w h hs (by omega)
  have hv := MM.val_lt 8 (s.take 8) (by simp; omega)
  generalize MM.val (s.take 8) = v at *
  go_enter Try.func49, Try.ntmps49
  go_wp2_with (go_at_call 47; (with_reducible refine H.mono ?_); rintro e w' ⟨rfl, hr, ht⟩)
  go_ret
  exact ⟨_, rfl, rfl, hr, ht⟩
set_option maxHeartbeats 1000000 in
theorem num_nil (W : World) : Calls Try.prog 11 #[.pointer none] W fun e' w' => e' = .returned (.tuple #[.int .u64 0, .int .i64 2]) ∧ Below W.heap.size W w' := by
  have hmf : ∀ (fn : Fn) (first cap : Array Value) (w : World), (Instr.makeFunc fn first cap).run Try.prog w = .ok (.func fn first cap) w := fun _ _ _ _ => rfl
  have H := fun fv w => item_nil_num fv w
  have HB := Lib.hid (below_box W (.cells #[.pointer none] 22))
  go_enter Try.func11, Try.ntmps11
  go_wp2_with (go_at_call 48; (with_reducible refine (H _ _).mono ?_); rintro e w' ⟨rfl, hb⟩)
  go_ret2
  exact ⟨rfl, HB.out.trans (hb.mono HB.out.size)⟩
set_option maxHeartbeats 1000000 in
theorem num_ask (g : Nat) (s : List UInt8) (e : Int) (W : World) (h : RAt WR g s e W) :
    Calls Try.prog 11 #[.pointer (some ⟨g, 0, none⟩)] W fun e' w' => e' = .returned (.tuple #[.int .u64 (((MM.rOff 8 s e).1 : Nat) : Int), .int .i64 (MM.rOff 8 s e).2.1]) ∧ RAt WR g (MM.rOff 8 s e).2.2 (MM.rOff 8 s e).2.1 w' ∧ Turn g W w' := by
  have hmf : ∀ (fn : Fn) (first cap : Array Value) (w : World), (Instr.makeFunc fn first cap).run Try.prog w = .ok (.func fn first cap) w := fun _ _ _ _ => rfl
  have HB := Lib.hid (below_box W (.cells #[.pointer (some ⟨g, 0, none⟩)] 22))
  have HX := h.step HB.out
  have hcx : (W.alloc (.cells #[.pointer (some ⟨g, 0, none⟩)] 22)).cell? ⟨W.heap.size, 0, none⟩ = some (.pointer (some ⟨g, 0, none⟩)) := by simp [go_sem]
  have HC := Lib.hid hcx
  clear hcx
  by_cases he : e = 0
  · subst he
    by_cases hs : s.length < 8
    · rw [MM.rOff_short hs]
      have H := item_bad_num 49 #[.pointer (some ⟨W.heap.size, 0, none⟩)] g s 8 _ HX (fun w => by kernel_rfl)
        (fun w hw => cl_num_bad W.heap.size g s w ((hw.cell (p := ⟨W.heap.size, 0, none⟩) (by simp)).trans HC.out) (HX.step hw) hs)
      go_enter Try.func11, Try.ntmps11
      go_wp2_with (go_at_call 48; (with_reducible refine H.mono ?_); rintro e w' ⟨rfl, hr, ht⟩)
      go_ret2
      exact ⟨rfl, hr, (Turn.of HB.out).trans ht⟩
    · have hs := Nat.le_of_not_lt hs
      rw [MM.rOff_good hs]
      have H := item_ok_num 49 #[.pointer (some ⟨W.heap.size, 0, none⟩)] g s _ HX (fun w v w' => v = .int .u64 (((MM.val (s.take 8)) : Nat) : Int) ∧ RAt WR g (s.drop 8) 0 w' ∧ Turn g w w') (fun w => by kernel_rfl) (fun w v w' h => h.2.2)
        (fun w hw => cl_num_good W.heap.size g s w ((hw.cell (p := ⟨W.heap.size, 0, none⟩) (by simp)).trans HC.out) (HX.step hw) hs)
      go_enter Try.func11, Try.ntmps11
      go_wp2_with (go_at_call 48; (with_reducible refine H.mono ?_); rintro e w' ⟨v, w1, rfl, hb, rfl, hr, ht⟩)
      go_ret2
      exact ⟨rfl, hr, (Turn.of HB.out).trans ((Turn.of hb).trans ht)⟩
  · rw [MM.rOff_old he]
    have H := fun fv => item_old_num fv g s e _ HX he
    go_enter Try.func11, Try.ntmps11
    go_wp2_with (go_at_call 48; (with_reducible refine (H _).mono ?_); rintro e w' ⟨rfl, hb⟩)
    go_ret2
    exact ⟨rfl, HX.step hb, (Turn.of HB.out).trans (Turn.of hb)⟩

theorem cl_int_bad (c g : Nat) (s : List UInt8) (w : World) (hc : w.cell? ⟨c, 0, none⟩ = some (.pointer (some ⟨g, 0, none⟩))) (h : RAt WR g s 0 w) (hs : s.length < 8) :
    Calls Try.prog 51 #[.pointer (some ⟨c, 0, none⟩)] w fun e w' => e = .panicked (ErrP 8) ∧ (∃ s2, RAt WR g s2 0 w') ∧ Turn g w w' := by
  have H : Calls Try.prog 47 #[.pointer (some ⟨g, 0, none⟩), .int .i64 8] w fun e' w' => e' = .panicked (ErrP 8) ∧ RAt WR g s 0 w' ∧ Turn g w w' := number_bad g s 0 8 w h hs
  go_enter Try.func51, Try.ntmps51
  go_wp2_with (go_at_call 47; (with_reducible refine H.mono ?_); rintro e w' ⟨rfl, hr, ht⟩)
  exact ⟨rfl, rfl, ⟨s, hr⟩, ht⟩
theorem cl_int_good (c g : Nat) (s : List UInt8) (w : World) (hc : w.cell? ⟨c, 0, none⟩ = some (.pointer (some ⟨g, 0, none⟩))) (h : RAt WR g s 0 w) (hs : 8 ≤ s.length) :
    Calls Try.prog 51 #[.pointer (some ⟨c, 0, none⟩)] w fun e w' => ∃ v, e = .returned v ∧ (v = .int .i64 (MM.i64 (MM.val (s.take 8))) ∧ RAt WR g (s.drop 8) 0 w' ∧ Turn g w w') := by
  have H : Calls Try.prog 47 #[.pointer (some ⟨g, 0, none⟩), .int .i64 8] w fun e' w' => e' = .returned (.int .u64 ((MM.val (s.take 8) : Nat) : Int)) ∧ RAt WR g (s.drop 8) 0 w' ∧ Turn g w w' := number_good g s 0 8 w h hs (by omega)
  have hv := MM.val_lt 8 (s.take 8) (by simp; omega)
  generalize MM.val (s.take 8) = v at *
  have hw : IntKind.i64.wrap (v : Int) = MM.i64 v := rfl
  go_enter Try.func51, Try.ntmps51
  go_wp2_with (go_at_call 47; (with_reducible refine H.mono ?_); rintro e w' ⟨rfl, hr, ht⟩)
  go_ret
  exact ⟨_, rfl, rfl, hr, ht⟩
set_option maxHeartbeats 1000000 in
theorem int_nil (W : World) : Calls Try.prog 12 #[.pointer none] W fun e' w' => e' = .returned (.tuple #[.int .i64 0, .int .i64 2]) ∧ Below W.heap.size W w' := by
  have hmf : ∀ (fn : Fn) (first cap : Array Value) (w : World), (Instr.makeFunc fn first cap).run Try.prog w = .ok (.func fn first cap) w := fun _ _ _ _ => rfl
  have H := fun fv w => item_nil_int fv w
  have HB := Lib.hid (below_box W (.cells #[.pointer none] 22))
  go_enter Try.func12, Try.ntmps12
  go_wp2_with (go_at_call 50; (with_reducible refine (H _ _).mono ?_); rintro e w' ⟨rfl, hb⟩)
  go_ret2
  exact ⟨rfl, HB.out.trans (hb.mono HB.out.size)⟩
set_option maxHeartbeats 1000000 in
theorem int_ask (g : Nat) (s : List UInt8) (e : Int) (W : World) (h : RAt WR g s e W) :
    Calls Try.prog 12 #[.pointer (some ⟨g, 0, none⟩)] W fun e' w' => e' = .returned (.tuple #[.int .i64 (MM.i64 (MM.rOff 8 s e).1), .int .i64 (MM.rOff 8 s e).2.1]) ∧ RAt WR g (MM.rOff 8 s e).2.2 (MM.rOff 8 s e).2.1 w' ∧ Turn g W w' := by
  have hmf : ∀ (fn : Fn) (first cap : Array Value) (w : World), (Instr.makeFunc fn first cap).run Try.prog w = .ok (.func fn first cap) w := fun _ _ _ _ => rfl
  have HB := Lib.hid (below_box W (.cells #[.pointer (some ⟨g, 0, none⟩)] 22))
  have HX := h.step HB.out
  have hcx : (W.alloc (.cells #[.pointer (some ⟨g, 0, none⟩)] 22)).cell? ⟨W.heap.size, 0, none⟩ = some (.pointer (some ⟨g, 0, none⟩)) := by simp [go_sem]
  have HC := Lib.hid hcx
  clear hcx
  by_cases he : e = 0
  · subst he
    by_cases hs : s.length < 8
    · rw [MM.rOff_short hs]
      have H := item_bad_int 51 #[.pointer (some ⟨W.heap.size, 0, none⟩)] g s 8 _ HX (fun w => by kernel_rfl)
        (fun w hw => cl_int_bad W.heap.size g s w ((hw.cell (p := ⟨W.heap.size, 0, none⟩) (by simp)).trans HC.out) (HX.step hw) hs)
      go_enter Try.func12, Try.ntmps12
      go_wp2_with (go_at_call 50; (with_reducible refine H.mono ?_); rintro e w' ⟨rfl, hr, ht⟩)
      go_ret2
      exact ⟨rfl, hr, (Turn.of HB.out).trans ht⟩
    · have hs := Nat.le_of_not_lt hs
      rw [MM.rOff_good hs]
      have H := item_ok_int 51 #[.pointer (some ⟨W.heap.size, 0, none⟩)] g s _ HX (fun w v w' => v = .int .i64 (MM.i64 (MM.val (s.take 8))) ∧ RAt WR g (s.drop 8) 0 w' ∧ Turn g w w') (fun w => by kernel_rfl) (fun w v w' h => h.2.2)
        (fun w hw => cl_int_good W.heap.size g s w ((hw.cell (p := ⟨W.heap.size, 0, none⟩) (by simp)).trans HC.out) (HX.step hw) hs)
      go_enter Try.func12, Try.ntmps12
      go_wp2_with (go_at_call 50; (with_reducible refine H.mono ?_); rintro e w' ⟨v, w1, rfl, hb, rfl, hr, ht⟩)
      go_ret2
      exact ⟨rfl, hr, (Turn.of HB.out).trans ((Turn.of hb).trans ht)⟩
  · rw [MM.rOff_old he]
    have H := fun fv => item_old_int fv g s e _ HX he
    go_enter Try.func12, Try.ntmps12
    go_wp2_with (go_at_call 50; (with_reducible refine (H _).mono ?_); rintro e w' ⟨rfl, hb⟩)
    go_ret2
    exact ⟨rfl, HX.step hb, (Turn.of HB.out).trans (Turn.of hb)⟩

end M
end Go.Proofs.Ytaijnejbffnfpaa
/- The same region in a round of a range over a function: what holds of it outside holds of it there, as long as nothing of it defers. -/
namespace Go.Proofs.Ytaijnejbffnfpaa
open Go
namespace QT
section
variable {P : Program} {ops : Array Oper} {md : Region.Mode} {Q : Exit → Act → World → Prop}
theorem op_in {o : Oper} {a : Act} {w : World} {K : Act → World → Prop} (l n : Nat) (hd : ∀ c, o.op ≠ .defer c) (h : o.wp P a w K Q) : o.wpIn (Fence.wide.inRound l) n P a w K Q := by
  unfold Oper.wp at h
  refine ⟨fun _ _ => trivial, ?_⟩
  rw [show (Fence.wide.inRound l).round = some l from rfl, Oper.semAt_some l _ o hd]
  generalize (execOp a.eval o).run P w = r at *
  cases r with
  | ok v w' =>
    cases v with
    | value v => exact h
    | skip => exact h
    | defer d => exact h
    | enter f args => exact ⟨(fun e => by cases e), CallsIn.inRound l (callsIn_wide.2 h)⟩
    | row row args => exact ⟨(fun e => by cases e), fun c cs _ => let ⟨v, w', r, s⟩ := h c cs; ⟨v, w', r, stepsIn_wide.2 s⟩⟩
    | round l' f tmps assign body => exact h.elim
    | _ => exact h.elim
  | halt hl w' =>
    cases hl with
    | panic v => exact h
    | _ => exact h.elim
theorem opAt_in {a : Act} {w : World} {K K' : Act → World → Prop} (l n i : Nat) (hd : ∀ o ∈ ops.toList, ∀ c, o.op ≠ .defer c) (hno : ¬ LetsOut Q) (hK : ∀ a w, K a w → K' a w) (h : wpOp P ops Q i K a w) : wpOpIn (Fence.wide.inRound l) n P ops Q i K' a w := by
  unfold wpOp at h
  unfold wpOpIn
  cases ho : ops[i]? with
  | none => simp only [ho] at h; exact hK _ _ h
  | some o =>
    simp only [ho] at h
    have hm : o ∈ ops.toList := Array.mem_toList_iff.2 (Array.mem_of_getElem? ho)
    dsimp only
    by_cases hw : Region.wanted o (yielded ops a.tmps) = true
    · rw [if_pos hw] at h ⊢
      rcases h with h | h
      · exact op_in l n (hd o hm) (Oper.wp_mono hK h)
      · exact absurd h.2 hno
    · rw [if_neg hw] at h ⊢
      exact ⟨fun _ _ => trivial, hK _ _ h⟩
theorem any_in (l n : Nat) (hd : ∀ o ∈ ops.toList, ∀ c, o.op ≠ .defer c) (hno : ¬ LetsOut Q) : ∀ (g : Nat) (s : Array Bool) (a : Act) (w : World), wpAny P md ops Q g s a w → wpAnyIn (Fence.wide.inRound l) n P md ops Q g s a w
  | 0, _, _, _, h => h
  | g + 1, _, _, _, h => ⟨h.1, fun i hi => opAt_in l n i hd hno (fun a w => any_in l n hd hno g _ a w) (h.2 i hi)⟩
end
theorem region_in {P : Program} {id : Nat} {Q : Exit → Act → World → Prop} {a : Act} {w : World} {ops : List Oper} (l m n : Nat) (hm : P.follows .mixedOrders = true) (hd : ∀ o ∈ ops, ∀ c, o.op ≠ .defer c) (hno : ¬ LetsOut Q) (hB : Region.lexTailB .any ops.toArray n = true)
    (h : wpQuiet P ops.toArray (fun w' => ∃ m, w' = w.drewN m) (fun a' => ∀ m, wpList P ops.toArray Q (ops.drop n) a' (w.drewN m)) (ops.take n) a) : (Code.region id ops.toArray true).wpIn (Fence.wide.inRound l) m P Q a w :=
  wpIn_region_any hm (any_in l m (by simpa using hd) hno _ _ _ _ (any_of n hB h))
end QT
end Go.Proofs.Ytaijnejbffnfpaa
/- A region that draws its order, with loads beside calls that make memory, and a last store that may hit what it loads: the loads come first, whatever the order; outside, and in a round of a range over a function. -/
namespace Go.Proofs.Ytaijnejbffnfpaa
open Go
namespace RK
/-- A hypothesis that no tactic looks into till it is opened. -/
def Bar (p : Prop) : Prop := p
theorem Bar.out {p : Prop} (h : Bar p) : p := h
section
variable {P : Program} {md : Region.Mode} {ops : Array Oper} {Q : Exit → Act → World → Prop} {S : World → Prop} {st : Nat}
/-- Whatever order comes; behind each operation but number st S is shown. -/
def Any (P : Program) (md : Region.Mode) (ops : Array Oper) (Q : Exit → Act → World → Prop) (S : World → Prop) (st : Nat) : Nat → Array Bool → Act → World → Prop
  | 0, s, a, w => Region.ready md ops s = [] ∧ Q .normal a w
  | f + 1, s, a, w => (Region.ready md ops s = [] → Q .normal a w) ∧ ∀ i ∈ Region.ready md ops s, wpOp P ops Q i (fun a' w' => (i ≠ st → S w') ∧ Any P md ops Q S st f (s.setIfInBounds i true) a' w') a w
theorem Any.plain : ∀ (f : Nat) (s : Array Bool) (a : Act) (w : World), Any P md ops Q S st f s a w → wpAny P md ops Q f s a w
  | 0, _, _, _, h => h
  | f + 1, _, _, _, h => ⟨h.1, fun i hi => wpOp_mono (fun a' w' k => Any.plain f _ a' w' k.2) (h.2 i hi)⟩
theorem Any.first {i : Nat} {oi : Oper} {v : Value} (hi : ops[i]? = some oi) (hsel : ∀ (j : Nat) (o : Oper) cs b, ops[j]? = some o → o.op ≠ .select cs b)
    (hQ : ∀ c a w, Q (.panic c) (a.put oi.dst v) w → Q (.panic c) a w) (hst : ∀ oj, ops[st]? = some oj → ∃ e ∈ oj.after, Region.binds md e = true ∧ e.on = i) (f : Nat) :
    ∀ (s : Array Bool) (a : Act) (w : World), (∀ j oj, ops[j]? = some oj → j ≠ i → s.getD j true = false → (∀ e ∈ oj.after, Region.binds md e = true → e.on ≠ i) → oi.apart ops oj = true) →
      i ∈ Region.ready md ops s → YieldsIf P ops S oi v a → S w → Any P md ops Q S st f (s.setIfInBounds i true) (a.put oi.dst v) w → Any P md ops Q S st (f + 1) s a w := by
  induction f with
  | zero =>
    intro s a w _ hr hy hS H
    refine ⟨fun e => (by rw [e] at hr; cases hr), fun j hj => ?_⟩
    rcases Nat.decEq j i with hji | rfl
    · have h1 := ready_mono hj hji
      rw [H.1] at h1; cases h1
    · exact hy.wpOp hi hS ⟨fun _ => hS, H⟩
  | succ f ih =>
    intro s a w hfree hr hy hS H
    refine ⟨fun e => (by rw [e] at hr; cases hr), fun j hj => ?_⟩
    rcases Nat.decEq j i with hji | rfl
    · obtain ⟨hju, oj, hoj, hall⟩ := mem_ready.1 hj
      have hno : ∀ e ∈ oj.after, Region.binds md e = true → e.on ≠ i := fun e he hb e1 => by
        have h1 := hall e he hb
        rw [e1, getD_both (mem_ready.1 hr).1] at h1
        cases h1
      have hjst : j ≠ st := fun e => by
        subst e
        obtain ⟨e, he, hb, h1⟩ := hst oj hoj
        exact hno e he hb h1
      refine wpOp_mono (fun a' w' k => ⟨k.2.1, ih _ a' w' (fun k' ok hk hki hku => hfree k' ok hk hki ?_) (ready_mono hr (Ne.symm hji)) k.1 (k.2.1 hjst) ?_⟩)
        (wpOp_putIf hoj (hfree j oj hoj hji hju hno) (fun cs b => hsel i oi cs b hi) (fun cs b => hsel j oj cs b hoj) hQ hy (H.2 j (ready_mono hj hji)))
      · rcases Nat.decEq j k' with hjk | rfl
        · rwa [getD_set_ne true hjk] at hku
        · exact hju
      · rw [Array.setIfInBounds_comm _ _ hji]; exact k.2.2
    · exact hy.wpOp hi hS ⟨fun _ => hS, H⟩
/-- Number i comes first. -/
theorem Any.take {s : Array Bool} {a : Act} {w : World} {f : Nat} (i t : Nat) {oi : Oper} (v : Value) (hi : ops[i]? = some oi) (hd : oi.dst = some t) (hs : Region.noSelect ops = true) (hf : Region.free md ops s i = true) (hr : (Region.ready md ops s).contains i = true)
    (hst : (decide (ops.size ≤ st) || Region.waitsFor md ops st i) = true) (hQ : ∀ c a w, Q (.panic c) (a.put oi.dst v) w → Q (.panic c) a w)
    (hw : Region.wanted oi (yielded ops a.tmps) = true) (hy : ∀ w, S w → (execOp a.eval oi).run P w = .ok (.value v) w) (hS : S w) (h : Any P md ops Q S st f (s.setIfInBounds i true) { a with tmps := a.tmps.setIfInBounds t v } w) : Any P md ops Q S st (f + 1) s a w :=
  Any.first hi (Region.noSelect_spec hs) hQ (fun oj hoj => by
    rw [Bool.or_eq_true] at hst
    rcases hst with h1 | h1
    · have := (Array.getElem?_eq_some_iff.1 hoj).1
      have := of_decide_eq_true h1
      omega
    · obtain ⟨o', ho', e, he, hb, h2⟩ := Region.waitsFor_spec h1
      rw [hoj] at ho'; cases ho'
      exact ⟨e, he, hb, h2⟩) f s a w (Region.free_spec hi hf) (by simpa using hr) (.inl ⟨hw, hy⟩) hS (by rw [hd]; exact h)
/-- Number i alone may come, and calls. -/
theorem Any.call {s : Array Bool} {a : Act} {w : World} {f : Nat} (i t : Nat) {o : Oper} (g : FuncId) (args : Array Value) (hr : Region.ready md ops s = [i]) (hi : ops[i]? = some o) (hd : o.dst = some t) (hw : Region.wanted o (yielded ops a.tmps) = true)
    (he : (execOp a.eval o).run P w = .ok (.enter g args) w)
    (h : Calls P g args w fun e w' => ∃ v, e = .returned v ∧ (i ≠ st → S w') ∧ Any P md ops Q S st f (s.setIfInBounds i true) { a with tmps := a.tmps.setIfInBounds t v } w') : Any P md ops Q S st (f + 1) s a w :=
  ⟨fun e => (by rw [hr] at e; cases e), fun j hj => by
    rw [hr] at hj
    obtain rfl : j = i := by simpa using hj
    unfold wpOp
    simp only [hi, hw, if_true]
    refine .inl ?_
    unfold Oper.wp
    rw [he, Oper.upon_enter]
    refine h.mono ?_
    rintro e w' ⟨v, rfl, h1, h2⟩
    exact ⟨h1, by rw [hd]; exact h2⟩⟩
/-- Number i alone may come, and stores. -/
theorem Any.store {s : Array Bool} {a : Act} {w w1 : World} {f : Nat} (i : Nat) {o : Oper} (hr : Region.ready md ops s = [i]) (hi : ops[i]? = some o) (hd : o.dst = none) (hw : Region.wanted o (yielded ops a.tmps) = true)
    (he : (execOp a.eval o).run P w = .ok .skip w1) (hS : i ≠ st → S w1) (h : Any P md ops Q S st f (s.setIfInBounds i true) a w1) : Any P md ops Q S st (f + 1) s a w :=
  ⟨fun e => (by rw [hr] at e; cases e), fun j hj => by
    rw [hr] at hj
    obtain rfl : j = i := by simpa using hj
    unfold wpOp
    simp only [hi, hw, if_true]
    refine .inl ?_
    unfold Oper.wp
    rw [he, Oper.upon_skip, hd]
    exact ⟨hS, h⟩⟩
/-- Number i alone may come. What follows stands behind a variable. -/
theorem Any.step {s : Array Bool} {a : Act} {w : World} {f : Nat} (i : Nat) {o : Oper} (hr : Region.ready md ops s = [i]) (hi : ops[i]? = some o) (hw : Region.wanted o (yielded ops a.tmps) = true)
    (h : ∀ K : Act → World → Prop, Bar (∀ a w, (i ≠ st → S w) → Any P md ops Q S st f (s.setIfInBounds i true) a w → K a w) → o.wp P a w K Q) : Any P md ops Q S st (f + 1) s a w :=
  ⟨fun e => (by rw [hr] at e; cases e), fun j hj => by
    rw [hr] at hj
    obtain rfl : j = i := by simpa using hj
    unfold wpOp
    simp only [hi, hw, if_true]
    exact .inl (h _ (fun _ _ h1 h2 => ⟨h1, h2⟩))⟩
theorem Any.done {s : Array Bool} {a : Act} {w : World} {f : Nat} (hr : Region.ready md ops s = []) (h : Q .normal a w) : Any P md ops Q S st f s a w := by
  cases f with
  | zero => exact ⟨hr, h⟩
  | succ f => exact ⟨fun _ => h, by rw [hr]; simp⟩
end
theorem region {P : Program} {id : Nat} {Q : Exit → Act → World → Prop} {a : Act} {w : World} {ops : Array Oper} (S : World → Prop) (st : Nat) (hm : P.follows .mixedOrders = true)
    (h : Any P .any ops Q S st ops.size (Array.replicate ops.size false) a w.drew) : (Code.region id ops true).wp P Q a w := wp_region_any hm (Any.plain _ _ _ _ h)
theorem region_in {P : Program} {id : Nat} {Q : Exit → Act → World → Prop} {a : Act} {w : World} {ops : List Oper} (l m : Nat) (S : World → Prop) (st : Nat) (hm : P.follows .mixedOrders = true) (hd : ∀ o ∈ ops, ∀ c, o.op ≠ .defer c) (hno : ¬ LetsOut Q)
    (h : Any P .any ops.toArray Q S st ops.toArray.size (Array.replicate ops.toArray.size false) a w.drew) : (Code.region id ops.toArray true).wpIn (Fence.wide.inRound l) m P Q a w :=
  wpIn_region_any hm (QT.any_in l m (by simpa using hd) hno _ _ _ _ (Any.plain _ _ _ _ h))
end RK
end Go.Proofs.Ytaijnejbffnfpaa
/- The reader's methods for a count, for a text, and its end. -/
namespace Go.Proofs.Ytaijnejbffnfpaa
open Go Go.RowKit Go.Lib
namespace MM
/-- A number of at most most. -/
def rCount (most : Int) (s : List UInt8) (e : Int) : Nat × Int × List UInt8 :=
  if e ≠ 0 then (0, e, s) else if s.length < 8 then (0, 8, []) else if most < 0 ∨ most < (val (s.take 8) : Int) then (0, 4, []) else (val (s.take 8), 0, s.drop 8)
theorem rCount_old {most : Int} {s : List UInt8} {e : Int} (he : e ≠ 0) : rCount most s e = (0, e, s) := by simp [rCount, he]
theorem rCount_short {most : Int} {s : List UInt8} (h : s.length < 8) : rCount most s 0 = (0, 8, []) := by simp [rCount, h]
theorem rCount_form {most : Int} {s : List UInt8} (h : 8 ≤ s.length) (hm : most < 0 ∨ most < (val (s.take 8) : Int)) : rCount most s 0 = (0, 4, []) := by
  have : ¬ s.length < 8 := by omega
  simp [rCount, this, hm]
theorem rCount_good {most : Int} {s : List UInt8} (h : 8 ≤ s.length) (hm : ¬ (most < 0 ∨ most < (val (s.take 8) : Int))) : rCount most s 0 = (val (s.take 8), 0, s.drop 8) := by
  have : ¬ s.length < 8 := by omega
  simp [rCount, this, hm]
/-- A text. -/
def rText (s : List UInt8) (e : Int) : List UInt8 × Int × List UInt8 :=
  if e ≠ 0 then ([], e, s) else if s.length < 2 then ([], 8, []) else if 2048 < val (s.take 2) then ([], 40, []) else if s.length - 2 < val (s.take 2) then ([], 8, []) else ((s.drop 2).take (val (s.take 2)), 0, (s.drop 2).drop (val (s.take 2)))
theorem rText_old {s : List UInt8} {e : Int} (he : e ≠ 0) : rText s e = ([], e, s) := by simp [rText, he]
theorem rText_short {s : List UInt8} (h : s.length < 2) : rText s 0 = ([], 8, []) := by simp [rText, h]
theorem rText_large {s : List UInt8} (h : 2 ≤ s.length) (hm : 2048 < val (s.take 2)) : rText s 0 = ([], 40, []) := by
  have : ¬ s.length < 2 := by omega
  simp [rText, this, hm]
theorem rText_less {s : List UInt8} (h : 2 ≤ s.length) (hm : val (s.take 2) ≤ 2048) (hl : s.length - 2 < val (s.take 2)) : rText s 0 = ([], 8, []) := by
  have h1 : ¬ s.length < 2 := by omega
  have h2 : ¬ 2048 < val (s.take 2) := by omega
  simp [rText, h1, h2, hl]
theorem rText_good {s : List UInt8} (h : 2 ≤ s.length) (hm : val (s.take 2) ≤ 2048) (hl : val (s.take 2) ≤ s.length - 2) : rText s 0 = ((s.drop 2).take (val (s.take 2)), 0, (s.drop 2).drop (val (s.take 2))) := by
  have h1 : ¬ s.length < 2 := by omega
  have h2 : ¬ 2048 < val (s.take 2) := by omega
  have h3 : ¬ s.length - 2 < val (s.take 2) := by omega
  simp only [rText, h1, h2, h3, if_false, ne_eq, not_true_eq_false]
end MM
namespace RK
/-- Number i alone may come, and calls; the call panics. -/
theorem Any.panics {P : Program} {md : Region.Mode} {ops : Array Oper} {Q : Exit → Act → World → Prop} {S : World → Prop} {st : Nat} {s : Array Bool} {a : Act} {w : World} {f : Nat} (i : Nat) {o : Oper} (g : FuncId) (args : Array Value)
    (hr : Region.ready md ops s = [i]) (hi : ops[i]? = some o) (hw : Region.wanted o (yielded ops a.tmps) = true) (he : (execOp a.eval o).run P w = .ok (.enter g args) w)
    (h : Calls P g args w fun e w' => ∃ ch, e = .panicked ch ∧ Q (.panic ch) a w') : Any P md ops Q S st (f + 1) s a w :=
  ⟨fun e => (by rw [hr] at e; cases e), fun j hj => by
    rw [hr] at hj
    obtain rfl : j = i := by simpa using hj
    unfold wpOp
    simp only [hi, hw, if_true]
    refine .inl ?_
    unfold Oper.wp
    rw [he, Oper.upon_enter]
    refine h.mono ?_
    rintro e w' ⟨ch, rfl, h1⟩
    exact h1⟩
end RK
namespace M
set_option maxHeartbeats 1000000 in
theorem cl_text_good (c g : Nat) (s : List UInt8) (w : World) (hc : w.cell? ⟨c, 0, none⟩ = some (.pointer (some ⟨g, 0, none⟩))) (h : RAt WR g s 0 w) (hs : 2 ≤ s.length) (hm : MM.val (s.take 2) ≤ 2048) (hl : MM.val (s.take 2) ≤ s.length - 2) :
    Calls Try.prog 55 #[.pointer (some ⟨c, 0, none⟩)] w fun e w' => ∃ v, e = .returned v ∧ (v = .string ⟨((s.drop 2).take (MM.val (s.take 2))).toArray⟩ ∧ RAt WR g ((s.drop 2).drop (MM.val (s.take 2))) 0 w' ∧ Turn g w w') := by
  have hcg : c ≠ g := fun e => by subst e; rw [h.rest] at hc; cases hc
  have H : Calls Try.prog 58 #[.pointer (some ⟨g, 0, none⟩), .int .i64 2048] w.drew fun e' w' => e' = .returned (.int .i64 ((MM.val (s.take 2) : Nat) : Int)) ∧ RAt WR g (s.drop 2) 0 w' ∧ Turn g w.drew w' := length_good g s 0 2048 w.drew (h.drewN 1) hs hm
  have HD : Hid (Turn g w w.drew) := Lib.hid ((Turn.refl g w).drewN 1)
  generalize MM.val (s.take 2) = v at *
  obtain ⟨r, hr⟩ : ∃ r, r = s.drop 2 := ⟨_, rfl⟩
  have hrl : v ≤ r.length := by subst hr; simpa using hl
  rw [← hr] at H ⊢
  clear hr hl
  have HRL := Lib.hid hrl
  clear hrl h
  go_enter Try.func55, Try.ntmps55
  go_upto_region 1 with fail
  go_region_with (first
    | (go_at_call 58; (with_reducible refine H.mono ?_); rintro e w1 ⟨rfl, hr1, ht1⟩; have HR1 := Lib.hid hr1; have HT1 := Lib.hid (HD.out.trans ht1); have hc1 := HT1.out.cell hc hcg; clear hr1 ht1)
    | (go_at_call 57; (with_reducible refine (take_good g r 0 v _ HR1.out HRL.out).mono ?_); rintro e w2 ⟨rfl, hr2, ht2⟩; have HR2 := Lib.hid hr2; have HT2 := Lib.hid (HT1.out.trans ht2); clear hr2 ht2)
    | (go_at_call 56; (with_reducible refine ((clone_any (r.take v) (by simp; omega)).at _).mono ?_); rintro e w3 ⟨rfl, hb3⟩; have HR3 := Lib.hid (HR2.out.step hb3); have HT3 := Lib.hid (HT2.out.trans (Turn.of hb3)); clear hb3))
  all_goals go_wp2_with fail
  all_goals go_ret
  all_goals exact ⟨_, rfl, rfl, HR3.out, HT3.out⟩
theorem cl_text_bad (c g : Nat) (s : List UInt8) (k : Int) (w : World) (hc : w.cell? ⟨c, 0, none⟩ = some (.pointer (some ⟨g, 0, none⟩))) (h : RAt WR g s 0 w)
    (hL : ∀ w, RAt WR g s 0 w → Calls Try.prog 58 #[.pointer (some ⟨g, 0, none⟩), .int .i64 2048] w fun e' w' => e' = .panicked (ErrP k) ∧ (∃ s2, RAt WR g s2 0 w') ∧ Turn g w w') :
    Calls Try.prog 55 #[.pointer (some ⟨c, 0, none⟩)] w fun e w' => e = .panicked (ErrP k) ∧ (∃ s2, RAt WR g s2 0 w') ∧ Turn g w w' := by
  have H := hL w.drew (h.drewN 1)
  have HD : Hid (Turn g w w.drew) := Lib.hid ((Turn.refl g w).drewN 1)
  clear hL h
  go_enter Try.func55, Try.ntmps55
  go_upto_region 1 with fail
  refine RK.region (fun u => u.cell? ⟨c, 0, none⟩ = some (.pointer (some ⟨g, 0, none⟩))) 100 (by kernel_rfl) ?_
  have hS0 : w.drew.cell? ⟨c, 0, none⟩ = some (.pointer (some ⟨g, 0, none⟩)) := hc
  refine RK.Any.take 0 2 (.pointer (some ⟨g, 0, none⟩)) rfl rfl (by kernel_rfl) (by kernel_rfl) (by kernel_rfl) (by kernel_rfl) (fun _ _ _ h => h) (by rfl) (fun W' hb => ?_) hS0 ?_
  · go_simp
  simp only [List.setIfInBounds_toArray, List.set_cons_zero, List.set_cons_succ]
  refine RK.Any.take 1 3 (.pointer (some ⟨g, 0, none⟩)) rfl rfl (by kernel_rfl) (by kernel_rfl) (by kernel_rfl) (by kernel_rfl) (fun _ _ _ h => h) (by rfl) (fun W' hb => ?_) hS0 ?_
  · go_simp
  simp only [List.setIfInBounds_toArray, List.set_cons_zero, List.set_cons_succ]
  refine RK.Any.panics 2 58 #[.pointer (some ⟨g, 0, none⟩), .int .i64 2048] (by kernel_rfl) rfl (by rfl) (by go_simp) (Calls.mono H ?_)
  rintro e w1 ⟨rfl, hr1, ht1⟩
  exact ⟨_, rfl, rfl, rfl, hr1, HD.out.trans ht1⟩
set_option maxHeartbeats 1000000 in
theorem cl_text_less (c g : Nat) (s : List UInt8) (w : World) (hc : w.cell? ⟨c, 0, none⟩ = some (.pointer (some ⟨g, 0, none⟩))) (h : RAt WR g s 0 w) (hs : 2 ≤ s.length) (hm : MM.val (s.take 2) ≤ 2048) (hl : s.length - 2 < MM.val (s.take 2)) :
    Calls Try.prog 55 #[.pointer (some ⟨c, 0, none⟩)] w fun e w' => e = .panicked (ErrP 8) ∧ (∃ s2, RAt WR g s2 0 w') ∧ Turn g w w' := by
  have hcg : c ≠ g := fun e => by subst e; rw [h.rest] at hc; cases hc
  have H : Calls Try.prog 58 #[.pointer (some ⟨g, 0, none⟩), .int .i64 2048] w.drew fun e' w' => e' = .returned (.int .i64 ((MM.val (s.take 2) : Nat) : Int)) ∧ RAt WR g (s.drop 2) 0 w' ∧ Turn g w.drew w' := length_good g s 0 2048 w.drew (h.drewN 1) hs hm
  have HD : Hid (Turn g w w.drew) := Lib.hid ((Turn.refl g w).drewN 1)
  generalize MM.val (s.take 2) = v at *
  have hrl : (s.drop 2).length < v := by simpa using hl
  clear hl
  have HRL := Lib.hid hrl
  clear hrl h
  go_enter Try.func55, Try.ntmps55
  go_upto_region 1 with fail
  refine RK.region (fun u => u.cell? ⟨c, 0, none⟩ = some (.pointer (some ⟨g, 0, none⟩))) 100 (by kernel_rfl) ?_
  have hS0 : w.drew.cell? ⟨c, 0, none⟩ = some (.pointer (some ⟨g, 0, none⟩)) := hc
  refine RK.Any.take 0 2 (.pointer (some ⟨g, 0, none⟩)) rfl rfl (by kernel_rfl) (by kernel_rfl) (by kernel_rfl) (by kernel_rfl) (fun _ _ _ h => h) (by rfl) (fun W' hb => ?_) hS0 ?_
  · go_simp
  simp only [List.setIfInBounds_toArray, List.set_cons_zero, List.set_cons_succ]
  refine RK.Any.take 1 3 (.pointer (some ⟨g, 0, none⟩)) rfl rfl (by kernel_rfl) (by kernel_rfl) (by kernel_rfl) (by kernel_rfl) (fun _ _ _ h => h) (by rfl) (fun W' hb => ?_) hS0 ?_
  · go_simp
  simp only [List.setIfInBounds_toArray, List.set_cons_zero, List.set_cons_succ]
  refine RK.Any.call 2 4 58 #[.pointer (some ⟨g, 0, none⟩), .int .i64 2048] (by kernel_rfl) rfl rfl (by rfl) (by go_simp) (Calls.mono H ?_)
  rintro e w1 ⟨rfl, hr1, ht1⟩
  have hT1 := HD.out.trans ht1
  refine ⟨_, rfl, fun _ => hT1.cell hc hcg, ?_⟩
  simp only [List.setIfInBounds_toArray, List.set_cons_zero, List.set_cons_succ]
  refine RK.Any.panics 3 57 #[.pointer (some ⟨g, 0, none⟩), .int .i64 (v : Int)] (by kernel_rfl) rfl (by rfl) (by go_simp) (Calls.mono (take_bad g (s.drop 2) 0 v _ hr1 HRL.out) ?_)
  rintro e w2 ⟨rfl, hr2, ht2⟩
  exact ⟨_, rfl, rfl, rfl, ⟨_, hr2⟩, hT1.trans ht2⟩
end M
end Go.Proofs.Ytaijnejbffnfpaa

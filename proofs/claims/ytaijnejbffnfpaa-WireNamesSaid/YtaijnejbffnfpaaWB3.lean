/- The texts WirItem, one behind the other. -/
import Derived.Test.YtaijnejbffnfpaaWB2
/- One item, for each of the six types: what its deferred function does; what it answers where its conversion returns, and where that panics with an error. -/
namespace Go.Proofs.Ytaijnejbffnfpaa
open Go Go.RowKit Go.Lib
namespace M
theorem RKX {W : World} (o : Obj) (t : TypeId) (v : Value) : ((W.alloc o).alloc (.cells #[v] t)).cell? ⟨W.heap.size + 1, 0, none⟩ = some v ∧ ((W.alloc o).alloc (.cells #[v] t)).frozen? ⟨W.heap.size + 1, 0, none⟩ = false :=
  ⟨by simp [go_sem], by simp [go_sem]⟩

set_option maxHeartbeats 1000000 in
theorem idle_byte (a b : Addr) (w : World) :
    CallsD Try.prog 69 #[.pointer (some a), .pointer (some b)] .returning w fun e u' w' => e = .returned (.tuple #[]) ∧ u' = .returning ∧ w' = w := by
  have hta := ta_nil
  refine callsD_of_wpS Try.func69 rfl fun c₀ cs hu => ?_
  have hrec : recV (c₀ :: cs) = (.nilIface, c₀ :: cs) := by simp [recV, recoverD, hu]
  have hmode : c₀ = { c₀ with mode := .returning } := by cases c₀; simp_all
  simp only [Try.ntmps69]
  rw [show ((#[.pointer (some a), .pointer (some b)] : Array Value) ++ Array.replicate (14 - (#[.pointer (some a), .pointer (some b)] : Array Value).size) undef) = #[.pointer (some a), .pointer (some b), undef, undef, undef, undef, undef, undef, undef, undef, undef, undef, undef, undef] from rfl]
  refine wpS_seq (wpS_region_recover rfl rfl ?_)
  rw [hrec]
  have HM := Lib.hid hmode
  clear hmode hrec hu
  go_wp2_with fail
  simp only [Exit.thenS]
  refine wpS_of_wp ?_
  go_wp2_with fail
  exact ⟨rfl, .returning, congrArg (· :: cs) HM.out, _, results_none rfl _ _ _, rfl, rfl, rfl⟩
set_option maxHeartbeats 1000000 in
theorem catch_byte (c b g : Nat) (s : List UInt8) (e0 k : Int) (older : List PanicEntry) (w : World) (hc : w.cell? ⟨c, 0, none⟩ = some (.pointer (some ⟨g, 0, none⟩))) (hr : RAt WR g s e0 w)
    (hb : ∃ x, w.cell? ⟨b, 0, none⟩ = some (.int .i64 x)) (hbf : w.frozen? ⟨b, 0, none⟩ = false) (hbg : b ≠ g) :
    CallsD Try.prog 69 #[.pointer (some ⟨c, 0, none⟩), .pointer (some ⟨b, 0, none⟩)] (.panicking ({ v := .iface 23 (.int .i64 k), recovered := false } :: older)) w fun e u' w' =>
      e = .returned (.tuple #[]) ∧ u' = .panicking ({ v := .iface 23 (.int .i64 k), recovered := true } :: older) ∧ ∃ w1, w' = w1.setCell ⟨b, 0, none⟩ (.int .i64 k) ∧ RAt WR g [] k w1 ∧ Turn g w w1 := by
  have hta := ta_err k
  obtain ⟨x, hb⟩ := hb
  have H := fail_any g s e0 k w hr
  have hlb : b < w.heap.size := World.block_lt_of_cell? w ⟨b, 0, none⟩ hb
  refine callsD_of_wpS Try.func69 rfl fun c₀ cs hu => ?_
  have hrec : recV (c₀ :: cs) = (.iface 23 (.int .i64 k), { c₀ with mode := .panicking ({ v := .iface 23 (.int .i64 k), recovered := true } :: older) } :: cs) := by simp [recV, recoverD, hu]
  simp only [Try.ntmps69]
  rw [show ((#[.pointer (some ⟨c, 0, none⟩), .pointer (some ⟨b, 0, none⟩)] : Array Value) ++ Array.replicate (14 - (#[.pointer (some ⟨c, 0, none⟩), .pointer (some ⟨b, 0, none⟩)] : Array Value).size) undef) = #[.pointer (some ⟨c, 0, none⟩), .pointer (some ⟨b, 0, none⟩), undef, undef, undef, undef, undef, undef, undef, undef, undef, undef, undef, undef] from rfl]
  refine wpS_seq (wpS_region_recover rfl rfl ?_)
  rw [hrec]
  clear hrec hu
  go_wp2_with fail
  simp only [Exit.thenS]
  refine wpS_of_wp ?_
  go_wp2_with (go_at_call 61; (with_reducible refine H.mono ?_); rintro e w1 ⟨rfl, hr1, ht⟩; have hb1 := ht.cell hb hbg; have hf1 := (ht.frozen (p := ⟨b, 0, none⟩) hlb hbg).trans hbf; have HR1 := Lib.hid hr1; have HT := Lib.hid ht; clear hr1 ht)
  exact ⟨rfl, _, rfl, _, results_none rfl _ _ _, rfl, rfl, w1, rfl, HR1.out, HT.out⟩

set_option maxHeartbeats 2000000 in
theorem item_ok_byte (F : FuncId) (caps : Array Value) (g : Nat) (s : List UInt8) (W : World) (h : RAt WR g s 0 W) (P : World → Value → World → Prop)
    (hF : ∀ w : World, (callFunc F caps).run Try.prog w = .ok (.enter F caps) w) (hP : ∀ w v w', P w v w' → Turn g w w')
    (H : ∀ w, Below W.heap.size W w → Calls Try.prog F caps w fun e w' => ∃ v, e = .returned v ∧ P w v w') :
    Calls Try.prog 45 #[.pointer (some ⟨g, 0, none⟩), .func (.func F) #[] caps] W fun e w' => ∃ v w1, e = .returned (.tuple #[v, .int .i64 0]) ∧ Below W.heap.size W w1 ∧ P w1 v w' := by
  have hmf : ∀ (fn : Fn) (first cap : Array Value) (w : World), (Instr.makeFunc fn first cap).run Try.prog w = .ok (.func fn first cap) w := fun _ _ _ _ => rfl
  go_enter_defers Try.func45, Try.ntmps45
  have hg := h.lt
  have HX : Hid (Below W.heap.size W ((W.alloc (.cells #[.pointer (some ⟨g, 0, none⟩)] 22)).alloc (.cells #[.int .i64 0] 23))) := Lib.hid ((below_box _ _).alloc (by simp) _)
  have HRX := h.step HX.out
  have HWr := wrong_any g s 0 _ HRX
  have HH := H _ HX.out
  have hne : W.heap.size + 1 ≠ g := by omega
  have hce : ((W.alloc (.cells #[.pointer (some ⟨g, 0, none⟩)] 22)).alloc (.cells #[.int .i64 0] 23)).cell? ⟨W.heap.size + 1, 0, none⟩ = some (.int .i64 0) := by simp [go_sem]
  have hfe : ((W.alloc (.cells #[.pointer (some ⟨g, 0, none⟩)] 22)).alloc (.cells #[.int .i64 0] 23)).frozen? ⟨W.heap.size + 1, 0, none⟩ = false := by simp [go_sem]
  have HCE := Lib.hid hce
  have HFE := Lib.hid hfe
  clear hce hfe
  go_wp2_with (first
    | (go_at_call 18; (with_reducible refine HWr.mono ?_); rintro e w0 ⟨rfl, rfl⟩)
    | ((with_reducible refine HH.mono ?_); rintro e w2 ⟨v, rfl, hp⟩; have HPv := Lib.hid hp; clear hp; have HT := hP _ _ _ HPv.out; have hc2 := HT.cell HCE.out hne; have hf2 := (HT.frozen (p := ⟨W.heap.size + 1, 0, none⟩) (by simp) hne).trans HFE.out; have hs2 := setCell_same hc2))
  refine leaves_cons (f := 69) (args := #[.pointer (some ⟨W.heap.size, 0, none⟩), .pointer (some ⟨W.heap.size + 1, 0, none⟩)]) (by simp) (by simp [go_sem]) ?_
  refine (idle_byte _ _ _).mono ?_
  rintro e u' w'' ⟨rfl, rfl, rfl⟩
  exact ⟨.tuple #[v, .int .i64 0], by simp [results, Try.results45, go_sem, hc2], v, _, rfl, HX.out, HPv.out⟩
set_option maxHeartbeats 2000000 in
theorem item_bad_byte (F : FuncId) (caps : Array Value) (g : Nat) (s : List UInt8) (k : Int) (W : World) (h : RAt WR g s 0 W)
    (hF : ∀ w : World, (callFunc F caps).run Try.prog w = .ok (.enter F caps) w)
    (H : ∀ w, Below W.heap.size W w → Calls Try.prog F caps w fun e w' => e = .panicked (ErrP k) ∧ (∃ s2, RAt WR g s2 0 w') ∧ Turn g w w') :
    Calls Try.prog 45 #[.pointer (some ⟨g, 0, none⟩), .func (.func F) #[] caps] W fun e w' => e = .returned (.tuple #[.int .u8 0, .int .i64 k]) ∧ RAt WR g [] k w' ∧ Turn g W w' := by
  have hmf : ∀ (fn : Fn) (first cap : Array Value) (w : World), (Instr.makeFunc fn first cap).run Try.prog w = .ok (.func fn first cap) w := fun _ _ _ _ => rfl
  go_enter_defers Try.func45, Try.ntmps45
  have hg := h.lt
  have HX : Hid (Below W.heap.size W ((W.alloc (.cells #[.pointer (some ⟨g, 0, none⟩)] 22)).alloc (.cells #[.int .i64 0] 23))) := Lib.hid ((below_box _ _).alloc (by simp) _)
  have HRX := h.step HX.out
  have HWr := wrong_any g s 0 _ HRX
  have HH := H _ HX.out
  have hne : W.heap.size + 1 ≠ g := by omega
  have hne2 : W.heap.size ≠ g := by omega
  have hce : ((W.alloc (.cells #[.pointer (some ⟨g, 0, none⟩)] 22)).alloc (.cells #[.int .i64 0] 23)).cell? ⟨W.heap.size + 1, 0, none⟩ = some (.int .i64 0) := by simp [go_sem]
  have hcr : ((W.alloc (.cells #[.pointer (some ⟨g, 0, none⟩)] 22)).alloc (.cells #[.int .i64 0] 23)).cell? ⟨W.heap.size, 0, none⟩ = some (.pointer (some ⟨g, 0, none⟩)) := by simp [go_sem]
  have hfe : ((W.alloc (.cells #[.pointer (some ⟨g, 0, none⟩)] 22)).alloc (.cells #[.int .i64 0] 23)).frozen? ⟨W.heap.size + 1, 0, none⟩ = false := by simp [go_sem]
  have HCE := Lib.hid hce
  have HCR := Lib.hid hcr
  have HFE := Lib.hid hfe
  clear hce hfe hcr
  go_wp2_with (first
    | (go_at_call 18; (with_reducible refine HWr.mono ?_); rintro e w0 ⟨rfl, rfl⟩)
    | ((with_reducible refine HH.mono ?_); rintro e w2 ⟨rfl, ⟨s2, hr2⟩, ht2⟩; have HR2 := Lib.hid hr2; have HT := Lib.hid ht2; clear hr2 ht2))
  refine leaves_cons (f := 69) (args := #[.pointer (some ⟨W.heap.size, 0, none⟩), .pointer (some ⟨W.heap.size + 1, 0, none⟩)]) (by simp) (by simp [go_sem]) ?_
  refine (catch_byte W.heap.size (W.heap.size + 1) g s2 0 k [] _ (HT.out.cell HCR.out hne2) HR2.out ⟨0, HT.out.cell HCE.out hne⟩ ((HT.out.frozen (p := ⟨W.heap.size + 1, 0, none⟩) (by simp) hne).trans HFE.out) hne).mono ?_
  rintro e u' w'' ⟨rfl, rfl, w1, rfl, hr1, ht1⟩
  have hT := (Turn.of (g := g) HX.out).trans (HT.out.trans ht1)
  have hc1 := ht1.cell (HT.out.cell HCE.out hne) hne
  exact ⟨.tuple #[.int .u8 0, .int .i64 k], by simp [results, Try.results45, go_sem, hc1], rfl, hr1.turn (g2 := W.heap.size + 1) ((Turn.refl _ _).set 0 _) (by omega), hT.setNew (by omega) 0 _⟩
set_option maxHeartbeats 1000000 in
theorem item_old_byte (fv : Value) (g : Nat) (s : List UInt8) (e : Int) (W : World) (h : RAt WR g s e W) (he : e ≠ 0) :
    Calls Try.prog 45 #[.pointer (some ⟨g, 0, none⟩), fv] W fun e' w' => e' = .returned (.tuple #[.int .u8 0, .int .i64 e]) ∧ Below W.heap.size W w' := by
  have HX : Hid (Below W.heap.size W ((W.alloc (.cells #[.pointer (some ⟨g, 0, none⟩)] 22)).alloc (.cells #[.int .i64 0] 23))) := Lib.hid ((below_box _ _).alloc (by simp) _)
  have HWr := wrong_any g s e _ (h.step HX.out)
  have hB : Hid (∀ x : Int, Below W.heap.size W ((W.alloc (.cells #[.pointer (some ⟨g, 0, none⟩)] 22)).alloc (.cells #[.int .i64 x] 23))) := Lib.hid fun x => (below_box _ _).alloc (by simp) _
  go_enter_defers Try.func45, Try.ntmps45
  have HB := Lib.hid (hB.out e)
  clear HX hB
  go_wp2_with (go_at_call 18; (with_reducible refine HWr.mono ?_); rintro e w0 ⟨rfl, rfl⟩)
  have hc := RKX (W := W) (.cells #[.pointer (some ⟨g, 0, none⟩)] 22) 23 (.int .i64 e)
  generalize (W.alloc (.cells #[.pointer (some ⟨g, 0, none⟩)] 22)).alloc (.cells #[.int .i64 e] 23) = w2 at *
  obtain ⟨hc1, hc2⟩ := hc
  refine QT.region 3 (by kernel_rfl) (by kernel_rfl) ?_
  simp only [List.take_succ_cons, List.take_zero, List.drop_succ_cons, List.drop_zero]
  repeat (quiet_step (fail))
  refine wpQuiet_nil ?_
  intro nq
  go_wp2_with fail
  exact ⟨.tuple #[.int .u8 0, .int .i64 e], by simp [results, Try.results45, go_sem, hc1], rfl, (Below.drawn HB.out nq).setCell (p := ⟨W.heap.size + 1, 0, none⟩) (Nat.le_succ _) _⟩
set_option maxHeartbeats 1000000 in
theorem item_nil_byte (fv : Value) (W : World) :
    Calls Try.prog 45 #[.pointer none, fv] W fun e' w' => e' = .returned (.tuple #[.int .u8 0, .int .i64 2]) ∧ Below W.heap.size W w' := by
  have HWr := fun w => wrong_nil w
  have hB : Hid (∀ x : Int, Below W.heap.size W ((W.alloc (.cells #[.pointer none] 22)).alloc (.cells #[.int .i64 x] 23))) := Lib.hid fun x => (below_box _ _).alloc (by simp) _
  go_enter_defers Try.func45, Try.ntmps45
  have HB := Lib.hid (hB.out 2)
  clear hB
  go_wp2_with (go_at_call 18; (with_reducible refine (HWr _).mono ?_); rintro e w0 ⟨rfl, rfl⟩)
  clear HWr
  have hc := RKX (W := W) (.cells #[.pointer none] 22) 23 (.int .i64 2)
  generalize (W.alloc (.cells #[.pointer none] 22)).alloc (.cells #[.int .i64 2] 23) = w2 at *
  obtain ⟨hc1, hc2⟩ := hc
  refine QT.region 3 (by kernel_rfl) (by kernel_rfl) ?_
  simp only [List.take_succ_cons, List.take_zero, List.drop_succ_cons, List.drop_zero]
  repeat (quiet_step (fail))
  refine wpQuiet_nil ?_
  intro nq
  go_wp2_with fail
  exact ⟨.tuple #[.int .u8 0, .int .i64 2], by simp [results, Try.results45, go_sem, hc1], rfl, (Below.drawn HB.out nq).setCell (p := ⟨W.heap.size + 1, 0, none⟩) (Nat.le_succ _) _⟩

set_option maxHeartbeats 1000000 in
theorem idle_num (a b : Addr) (w : World) :
    CallsD Try.prog 70 #[.pointer (some a), .pointer (some b)] .returning w fun e u' w' => e = .returned (.tuple #[]) ∧ u' = .returning ∧ w' = w := by
  have hta := ta_nil
  refine callsD_of_wpS Try.func70 rfl fun c₀ cs hu => ?_
  have hrec : recV (c₀ :: cs) = (.nilIface, c₀ :: cs) := by simp [recV, recoverD, hu]
  have hmode : c₀ = { c₀ with mode := .returning } := by cases c₀; simp_all
  simp only [Try.ntmps70]
  rw [show ((#[.pointer (some a), .pointer (some b)] : Array Value) ++ Array.replicate (14 - (#[.pointer (some a), .pointer (some b)] : Array Value).size) undef) = #[.pointer (some a), .pointer (some b), undef, undef, undef, undef, undef, undef, undef, undef, undef, undef, undef, undef] from rfl]
  refine wpS_seq (wpS_region_recover rfl rfl ?_)
  rw [hrec]
  have HM := Lib.hid hmode
  clear hmode hrec hu
  go_wp2_with fail
  simp only [Exit.thenS]
  refine wpS_of_wp ?_
  go_wp2_with fail
  exact ⟨rfl, .returning, congrArg (· :: cs) HM.out, _, results_none rfl _ _ _, rfl, rfl, rfl⟩
set_option maxHeartbeats 1000000 in
theorem catch_num (c b g : Nat) (s : List UInt8) (e0 k : Int) (older : List PanicEntry) (w : World) (hc : w.cell? ⟨c, 0, none⟩ = some (.pointer (some ⟨g, 0, none⟩))) (hr : RAt WR g s e0 w)
    (hb : ∃ x, w.cell? ⟨b, 0, none⟩ = some (.int .i64 x)) (hbf : w.frozen? ⟨b, 0, none⟩ = false) (hbg : b ≠ g) :
    CallsD Try.prog 70 #[.pointer (some ⟨c, 0, none⟩), .pointer (some ⟨b, 0, none⟩)] (.panicking ({ v := .iface 23 (.int .i64 k), recovered := false } :: older)) w fun e u' w' =>
      e = .returned (.tuple #[]) ∧ u' = .panicking ({ v := .iface 23 (.int .i64 k), recovered := true } :: older) ∧ ∃ w1, w' = w1.setCell ⟨b, 0, none⟩ (.int .i64 k) ∧ RAt WR g [] k w1 ∧ Turn g w w1 := by
  have hta := ta_err k
  obtain ⟨x, hb⟩ := hb
  have H := fail_any g s e0 k w hr
  have hlb : b < w.heap.size := World.block_lt_of_cell? w ⟨b, 0, none⟩ hb
  refine callsD_of_wpS Try.func70 rfl fun c₀ cs hu => ?_
  have hrec : recV (c₀ :: cs) = (.iface 23 (.int .i64 k), { c₀ with mode := .panicking ({ v := .iface 23 (.int .i64 k), recovered := true } :: older) } :: cs) := by simp [recV, recoverD, hu]
  simp only [Try.ntmps70]
  rw [show ((#[.pointer (some ⟨c, 0, none⟩), .pointer (some ⟨b, 0, none⟩)] : Array Value) ++ Array.replicate (14 - (#[.pointer (some ⟨c, 0, none⟩), .pointer (some ⟨b, 0, none⟩)] : Array Value).size) undef) = #[.pointer (some ⟨c, 0, none⟩), .pointer (some ⟨b, 0, none⟩), undef, undef, undef, undef, undef, undef, undef, undef, undef, undef, undef, undef] from rfl]
  refine wpS_seq (wpS_region_recover rfl rfl ?_)
  rw [hrec]
  clear hrec hu
  go_wp2_with fail
  simp only [Exit.thenS]
  refine wpS_of_wp ?_
  go_wp2_with (go_at_call 61; (with_reducible refine H.mono ?_); rintro e w1 ⟨rfl, hr1, ht⟩; have hb1 := ht.cell hb hbg; have hf1 := (ht.frozen (p := ⟨b, 0, none⟩) hlb hbg).trans hbf; have HR1 := Lib.hid hr1; have HT := Lib.hid ht; clear hr1 ht)
  exact ⟨rfl, _, rfl, _, results_none rfl _ _ _, rfl, rfl, w1, rfl, HR1.out, HT.out⟩

set_option maxHeartbeats 2000000 in
theorem item_ok_num (F : FuncId) (caps : Array Value) (g : Nat) (s : List UInt8) (W : World) (h : RAt WR g s 0 W) (P : World → Value → World → Prop)
    (hF : ∀ w : World, (callFunc F caps).run Try.prog w = .ok (.enter F caps) w) (hP : ∀ w v w', P w v w' → Turn g w w')
    (H : ∀ w, Below W.heap.size W w → Calls Try.prog F caps w fun e w' => ∃ v, e = .returned v ∧ P w v w') :
    Calls Try.prog 48 #[.pointer (some ⟨g, 0, none⟩), .func (.func F) #[] caps] W fun e w' => ∃ v w1, e = .returned (.tuple #[v, .int .i64 0]) ∧ Below W.heap.size W w1 ∧ P w1 v w' := by
  have hmf : ∀ (fn : Fn) (first cap : Array Value) (w : World), (Instr.makeFunc fn first cap).run Try.prog w = .ok (.func fn first cap) w := fun _ _ _ _ => rfl
  go_enter_defers Try.func48, Try.ntmps48
  have hg := h.lt
  have HX : Hid (Below W.heap.size W ((W.alloc (.cells #[.pointer (some ⟨g, 0, none⟩)] 22)).alloc (.cells #[.int .i64 0] 23))) := Lib.hid ((below_box _ _).alloc (by simp) _)
  have HRX := h.step HX.out
  have HWr := wrong_any g s 0 _ HRX
  have HH := H _ HX.out
  have hne : W.heap.size + 1 ≠ g := by omega
  have hce : ((W.alloc (.cells #[.pointer (some ⟨g, 0, none⟩)] 22)).alloc (.cells #[.int .i64 0] 23)).cell? ⟨W.heap.size + 1, 0, none⟩ = some (.int .i64 0) := by simp [go_sem]
  have hfe : ((W.alloc (.cells #[.pointer (some ⟨g, 0, none⟩)] 22)).alloc (.cells #[.int .i64 0] 23)).frozen? ⟨W.heap.size + 1, 0, none⟩ = false := by simp [go_sem]
  have HCE := Lib.hid hce
  have HFE := Lib.hid hfe
  clear hce hfe
  go_wp2_with (first
    | (go_at_call 18; (with_reducible refine HWr.mono ?_); rintro e w0 ⟨rfl, rfl⟩)
    | ((with_reducible refine HH.mono ?_); rintro e w2 ⟨v, rfl, hp⟩; have HPv := Lib.hid hp; clear hp; have HT := hP _ _ _ HPv.out; have hc2 := HT.cell HCE.out hne; have hf2 := (HT.frozen (p := ⟨W.heap.size + 1, 0, none⟩) (by simp) hne).trans HFE.out; have hs2 := setCell_same hc2))
  refine leaves_cons (f := 70) (args := #[.pointer (some ⟨W.heap.size, 0, none⟩), .pointer (some ⟨W.heap.size + 1, 0, none⟩)]) (by simp) (by simp [go_sem]) ?_
  refine (idle_num _ _ _).mono ?_
  rintro e u' w'' ⟨rfl, rfl, rfl⟩
  exact ⟨.tuple #[v, .int .i64 0], by simp [results, Try.results48, go_sem, hc2], v, _, rfl, HX.out, HPv.out⟩
set_option maxHeartbeats 2000000 in
theorem item_bad_num (F : FuncId) (caps : Array Value) (g : Nat) (s : List UInt8) (k : Int) (W : World) (h : RAt WR g s 0 W)
    (hF : ∀ w : World, (callFunc F caps).run Try.prog w = .ok (.enter F caps) w)
    (H : ∀ w, Below W.heap.size W w → Calls Try.prog F caps w fun e w' => e = .panicked (ErrP k) ∧ (∃ s2, RAt WR g s2 0 w') ∧ Turn g w w') :
    Calls Try.prog 48 #[.pointer (some ⟨g, 0, none⟩), .func (.func F) #[] caps] W fun e w' => e = .returned (.tuple #[.int .u64 0, .int .i64 k]) ∧ RAt WR g [] k w' ∧ Turn g W w' := by
  have hmf : ∀ (fn : Fn) (first cap : Array Value) (w : World), (Instr.makeFunc fn first cap).run Try.prog w = .ok (.func fn first cap) w := fun _ _ _ _ => rfl
  go_enter_defers Try.func48, Try.ntmps48
  have hg := h.lt
  have HX : Hid (Below W.heap.size W ((W.alloc (.cells #[.pointer (some ⟨g, 0, none⟩)] 22)).alloc (.cells #[.int .i64 0] 23))) := Lib.hid ((below_box _ _).alloc (by simp) _)
  have HRX := h.step HX.out
  have HWr := wrong_any g s 0 _ HRX
  have HH := H _ HX.out
  have hne : W.heap.size + 1 ≠ g := by omega
  have hne2 : W.heap.size ≠ g := by omega
  have hce : ((W.alloc (.cells #[.pointer (some ⟨g, 0, none⟩)] 22)).alloc (.cells #[.int .i64 0] 23)).cell? ⟨W.heap.size + 1, 0, none⟩ = some (.int .i64 0) := by simp [go_sem]
  have hcr : ((W.alloc (.cells #[.pointer (some ⟨g, 0, none⟩)] 22)).alloc (.cells #[.int .i64 0] 23)).cell? ⟨W.heap.size, 0, none⟩ = some (.pointer (some ⟨g, 0, none⟩)) := by simp [go_sem]
  have hfe : ((W.alloc (.cells #[.pointer (some ⟨g, 0, none⟩)] 22)).alloc (.cells #[.int .i64 0] 23)).frozen? ⟨W.heap.size + 1, 0, none⟩ = false := by simp [go_sem]
  have HCE := Lib.hid hce
  have HCR := Lib.hid hcr
  have HFE := Lib.hid hfe
  clear hce hfe hcr
  go_wp2_with (first
    | (go_at_call 18; (with_reducible refine HWr.mono ?_); rintro e w0 ⟨rfl, rfl⟩)
    | ((with_reducible refine HH.mono ?_); rintro e w2 ⟨rfl, ⟨s2, hr2⟩, ht2⟩; have HR2 := Lib.hid hr2; have HT := Lib.hid ht2; clear hr2 ht2))
  refine leaves_cons (f := 70) (args := #[.pointer (some ⟨W.heap.size, 0, none⟩), .pointer (some ⟨W.heap.size + 1, 0, none⟩)]) (by simp) (by simp [go_sem]) ?_
  refine (catch_num W.heap.size (W.heap.size + 1) g s2 0 k [] _ (HT.out.cell HCR.out hne2) HR2.out ⟨0, HT.out.cell HCE.out hne⟩ ((HT.out.frozen (p := ⟨W.heap.size + 1, 0, none⟩) (by simp) hne).trans HFE.out) hne).mono ?_
  rintro e u' w'' ⟨rfl, rfl, w1, rfl, hr1, ht1⟩
  have hT := (Turn.of (g := g) HX.out).trans (HT.out.trans ht1)
  have hc1 := ht1.cell (HT.out.cell HCE.out hne) hne
  exact ⟨.tuple #[.int .u64 0, .int .i64 k], by simp [results, Try.results48, go_sem, hc1], rfl, hr1.turn (g2 := W.heap.size + 1) ((Turn.refl _ _).set 0 _) (by omega), hT.setNew (by omega) 0 _⟩
set_option maxHeartbeats 1000000 in
theorem item_old_num (fv : Value) (g : Nat) (s : List UInt8) (e : Int) (W : World) (h : RAt WR g s e W) (he : e ≠ 0) :
    Calls Try.prog 48 #[.pointer (some ⟨g, 0, none⟩), fv] W fun e' w' => e' = .returned (.tuple #[.int .u64 0, .int .i64 e]) ∧ Below W.heap.size W w' := by
  have HX : Hid (Below W.heap.size W ((W.alloc (.cells #[.pointer (some ⟨g, 0, none⟩)] 22)).alloc (.cells #[.int .i64 0] 23))) := Lib.hid ((below_box _ _).alloc (by simp) _)
  have HWr := wrong_any g s e _ (h.step HX.out)
  have hB : Hid (∀ x : Int, Below W.heap.size W ((W.alloc (.cells #[.pointer (some ⟨g, 0, none⟩)] 22)).alloc (.cells #[.int .i64 x] 23))) := Lib.hid fun x => (below_box _ _).alloc (by simp) _
  go_enter_defers Try.func48, Try.ntmps48
  have HB := Lib.hid (hB.out e)
  clear HX hB
  go_wp2_with (go_at_call 18; (with_reducible refine HWr.mono ?_); rintro e w0 ⟨rfl, rfl⟩)
  have hc := RKX (W := W) (.cells #[.pointer (some ⟨g, 0, none⟩)] 22) 23 (.int .i64 e)
  generalize (W.alloc (.cells #[.pointer (some ⟨g, 0, none⟩)] 22)).alloc (.cells #[.int .i64 e] 23) = w2 at *
  obtain ⟨hc1, hc2⟩ := hc
  refine QT.region 3 (by kernel_rfl) (by kernel_rfl) ?_
  simp only [List.take_succ_cons, List.take_zero, List.drop_succ_cons, List.drop_zero]
  repeat (quiet_step (fail))
  refine wpQuiet_nil ?_
  intro nq
  go_wp2_with fail
  exact ⟨.tuple #[.int .u64 0, .int .i64 e], by simp [results, Try.results48, go_sem, hc1], rfl, (Below.drawn HB.out nq).setCell (p := ⟨W.heap.size + 1, 0, none⟩) (Nat.le_succ _) _⟩
set_option maxHeartbeats 1000000 in
theorem item_nil_num (fv : Value) (W : World) :
    Calls Try.prog 48 #[.pointer none, fv] W fun e' w' => e' = .returned (.tuple #[.int .u64 0, .int .i64 2]) ∧ Below W.heap.size W w' := by
  have HWr := fun w => wrong_nil w
  have hB : Hid (∀ x : Int, Below W.heap.size W ((W.alloc (.cells #[.pointer none] 22)).alloc (.cells #[.int .i64 x] 23))) := Lib.hid fun x => (below_box _ _).alloc (by simp) _
  go_enter_defers Try.func48, Try.ntmps48
  have HB := Lib.hid (hB.out 2)
  clear hB
  go_wp2_with (go_at_call 18; (with_reducible refine (HWr _).mono ?_); rintro e w0 ⟨rfl, rfl⟩)
  clear HWr
  have hc := RKX (W := W) (.cells #[.pointer none] 22) 23 (.int .i64 2)
  generalize (W.alloc (.cells #[.pointer none] 22)).alloc (.cells #[.int .i64 2] 23) = w2 at *
  obtain ⟨hc1, hc2⟩ := hc
  refine QT.region 3 (by kernel_rfl) (by kernel_rfl) ?_
  simp only [List.take_succ_cons, List.take_zero, List.drop_succ_cons, List.drop_zero]
  repeat (quiet_step (fail))
  refine wpQuiet_nil ?_
  intro nq
  go_wp2_with fail
  exact ⟨.tuple #[.int .u64 0, .int .i64 2], by simp [results, Try.results48, go_sem, hc1], rfl, (Below.drawn HB.out nq).setCell (p := ⟨W.heap.size + 1, 0, none⟩) (Nat.le_succ _) _⟩

set_option maxHeartbeats 1000000 in
theorem idle_int (a b : Addr) (w : World) :
    CallsD Try.prog 71 #[.pointer (some a), .pointer (some b)] .returning w fun e u' w' => e = .returned (.tuple #[]) ∧ u' = .returning ∧ w' = w := by
  have hta := ta_nil
  refine callsD_of_wpS Try.func71 rfl fun c₀ cs hu => ?_
  have hrec : recV (c₀ :: cs) = (.nilIface, c₀ :: cs) := by simp [recV, recoverD, hu]
  have hmode : c₀ = { c₀ with mode := .returning } := by cases c₀; simp_all
  simp only [Try.ntmps71]
  rw [show ((#[.pointer (some a), .pointer (some b)] : Array Value) ++ Array.replicate (14 - (#[.pointer (some a), .pointer (some b)] : Array Value).size) undef) = #[.pointer (some a), .pointer (some b), undef, undef, undef, undef, undef, undef, undef, undef, undef, undef, undef, undef] from rfl]
  refine wpS_seq (wpS_region_recover rfl rfl ?_)
  rw [hrec]
  have HM := Lib.hid hmode
  clear hmode hrec hu
  go_wp2_with fail
  simp only [Exit.thenS]
  refine wpS_of_wp ?_
  go_wp2_with fail
  exact ⟨rfl, .returning, congrArg (· :: cs) HM.out, _, results_none rfl _ _ _, rfl, rfl, rfl⟩
set_option maxHeartbeats 1000000 in
theorem catch_int (c b g : Nat) (s : List UInt8) (e0 k : Int) (older : List PanicEntry) (w : World) (hc : w.cell? ⟨c, 0, none⟩ = some (.pointer (some ⟨g, 0, none⟩))) (hr : RAt WR g s e0 w)
    (hb : ∃ x, w.cell? ⟨b, 0, none⟩ = some (.int .i64 x)) (hbf : w.frozen? ⟨b, 0, none⟩ = false) (hbg : b ≠ g) :
    CallsD Try.prog 71 #[.pointer (some ⟨c, 0, none⟩), .pointer (some ⟨b, 0, none⟩)] (.panicking ({ v := .iface 23 (.int .i64 k), recovered := false } :: older)) w fun e u' w' =>
      e = .returned (.tuple #[]) ∧ u' = .panicking ({ v := .iface 23 (.int .i64 k), recovered := true } :: older) ∧ ∃ w1, w' = w1.setCell ⟨b, 0, none⟩ (.int .i64 k) ∧ RAt WR g [] k w1 ∧ Turn g w w1 := by
  have hta := ta_err k
  obtain ⟨x, hb⟩ := hb
  have H := fail_any g s e0 k w hr
  have hlb : b < w.heap.size := World.block_lt_of_cell? w ⟨b, 0, none⟩ hb
  refine callsD_of_wpS Try.func71 rfl fun c₀ cs hu => ?_
  have hrec : recV (c₀ :: cs) = (.iface 23 (.int .i64 k), { c₀ with mode := .panicking ({ v := .iface 23 (.int .i64 k), recovered := true } :: older) } :: cs) := by simp [recV, recoverD, hu]
  simp only [Try.ntmps71]
  rw [show ((#[.pointer (some ⟨c, 0, none⟩), .pointer (some ⟨b, 0, none⟩)] : Array Value) ++ Array.replicate (14 - (#[.pointer (some ⟨c, 0, none⟩), .pointer (some ⟨b, 0, none⟩)] : Array Value).size) undef) = #[.pointer (some ⟨c, 0, none⟩), .pointer (some ⟨b, 0, none⟩), undef, undef, undef, undef, undef, undef, undef, undef, undef, undef, undef, undef] from rfl]
  refine wpS_seq (wpS_region_recover rfl rfl ?_)
  rw [hrec]
  clear hrec hu
  go_wp2_with fail
  simp only [Exit.thenS]
  refine wpS_of_wp ?_
  go_wp2_with (go_at_call 61; (with_reducible refine H.mono ?_); rintro e w1 ⟨rfl, hr1, ht⟩; have hb1 := ht.cell hb hbg; have hf1 := (ht.frozen (p := ⟨b, 0, none⟩) hlb hbg).trans hbf; have HR1 := Lib.hid hr1; have HT := Lib.hid ht; clear hr1 ht)
  exact ⟨rfl, _, rfl, _, results_none rfl _ _ _, rfl, rfl, w1, rfl, HR1.out, HT.out⟩

set_option maxHeartbeats 2000000 in
theorem item_ok_int (F : FuncId) (caps : Array Value) (g : Nat) (s : List UInt8) (W : World) (h : RAt WR g s 0 W) (P : World → Value → World → Prop)
    (hF : ∀ w : World, (callFunc F caps).run Try.prog w = .ok (.enter F caps) w) (hP : ∀ w v w', P w v w' → Turn g w w')
    (H : ∀ w, Below W.heap.size W w → Calls Try.prog F caps w fun e w' => ∃ v, e = .returned v ∧ P w v w') :
    Calls Try.prog 50 #[.pointer (some ⟨g, 0, none⟩), .func (.func F) #[] caps] W fun e w' => ∃ v w1, e = .returned (.tuple #[v, .int .i64 0]) ∧ Below W.heap.size W w1 ∧ P w1 v w' := by
  have hmf : ∀ (fn : Fn) (first cap : Array Value) (w : World), (Instr.makeFunc fn first cap).run Try.prog w = .ok (.func fn first cap) w := fun _ _ _ _ => rfl
  go_enter_defers Try.func50, Try.ntmps50
  have hg := h.lt
  have HX : Hid (Below W.heap.size W ((W.alloc (.cells #[.pointer (some ⟨g, 0, none⟩)] 22)).alloc (.cells #[.int .i64 0] 23))) := Lib.hid ((below_box _ _).alloc (by simp) _)
  have HRX := h.step HX.out
  have HWr := wrong_any g s 0 _ HRX
  have HH := H _ HX.out
  have hne : W.heap.size + 1 ≠ g := by omega
  have hce : ((W.alloc (.cells #[.pointer (some ⟨g, 0, none⟩)] 22)).alloc (.cells #[.int .i64 0] 23)).cell? ⟨W.heap.size + 1, 0, none⟩ = some (.int .i64 0) := by simp [go_sem]
  have hfe : ((W.alloc (.cells #[.pointer (some ⟨g, 0, none⟩)] 22)).alloc (.cells #[.int .i64 0] 23)).frozen? ⟨W.heap.size + 1, 0, none⟩ = false := by simp [go_sem]
  have HCE := Lib.hid hce
  have HFE := Lib.hid hfe
  clear hce hfe
  go_wp2_with (first
    | (go_at_call 18; (with_reducible refine HWr.mono ?_); rintro e w0 ⟨rfl, rfl⟩)
    | ((with_reducible refine HH.mono ?_); rintro e w2 ⟨v, rfl, hp⟩; have HPv := Lib.hid hp; clear hp; have HT := hP _ _ _ HPv.out; have hc2 := HT.cell HCE.out hne; have hf2 := (HT.frozen (p := ⟨W.heap.size + 1, 0, none⟩) (by simp) hne).trans HFE.out; have hs2 := setCell_same hc2))
  refine leaves_cons (f := 71) (args := #[.pointer (some ⟨W.heap.size, 0, none⟩), .pointer (some ⟨W.heap.size + 1, 0, none⟩)]) (by simp) (by simp [go_sem]) ?_
  refine (idle_int _ _ _).mono ?_
  rintro e u' w'' ⟨rfl, rfl, rfl⟩
  exact ⟨.tuple #[v, .int .i64 0], by simp [results, Try.results50, go_sem, hc2], v, _, rfl, HX.out, HPv.out⟩
set_option maxHeartbeats 2000000 in
theorem item_bad_int (F : FuncId) (caps : Array Value) (g : Nat) (s : List UInt8) (k : Int) (W : World) (h : RAt WR g s 0 W)
    (hF : ∀ w : World, (callFunc F caps).run Try.prog w = .ok (.enter F caps) w)
    (H : ∀ w, Below W.heap.size W w → Calls Try.prog F caps w fun e w' => e = .panicked (ErrP k) ∧ (∃ s2, RAt WR g s2 0 w') ∧ Turn g w w') :
    Calls Try.prog 50 #[.pointer (some ⟨g, 0, none⟩), .func (.func F) #[] caps] W fun e w' => e = .returned (.tuple #[.int .i64 0, .int .i64 k]) ∧ RAt WR g [] k w' ∧ Turn g W w' := by
  have hmf : ∀ (fn : Fn) (first cap : Array Value) (w : World), (Instr.makeFunc fn first cap).run Try.prog w = .ok (.func fn first cap) w := fun _ _ _ _ => rfl
  go_enter_defers Try.func50, Try.ntmps50
  have hg := h.lt
  have HX : Hid (Below W.heap.size W ((W.alloc (.cells #[.pointer (some ⟨g, 0, none⟩)] 22)).alloc (.cells #[.int .i64 0] 23))) := Lib.hid ((below_box _ _).alloc (by simp) _)
  have HRX := h.step HX.out
  have HWr := wrong_any g s 0 _ HRX
  have HH := H _ HX.out
  have hne : W.heap.size + 1 ≠ g := by omega
  have hne2 : W.heap.size ≠ g := by omega
  have hce : ((W.alloc (.cells #[.pointer (some ⟨g, 0, none⟩)] 22)).alloc (.cells #[.int .i64 0] 23)).cell? ⟨W.heap.size + 1, 0, none⟩ = some (.int .i64 0) := by simp [go_sem]
  have hcr : ((W.alloc (.cells #[.pointer (some ⟨g, 0, none⟩)] 22)).alloc (.cells #[.int .i64 0] 23)).cell? ⟨W.heap.size, 0, none⟩ = some (.pointer (some ⟨g, 0, none⟩)) := by simp [go_sem]
  have hfe : ((W.alloc (.cells #[.pointer (some ⟨g, 0, none⟩)] 22)).alloc (.cells #[.int .i64 0] 23)).frozen? ⟨W.heap.size + 1, 0, none⟩ = false := by simp [go_sem]
  have HCE := Lib.hid hce
  have HCR := Lib.hid hcr
  have HFE := Lib.hid hfe
  clear hce hfe hcr
  go_wp2_with (first
    | (go_at_call 18; (with_reducible refine HWr.mono ?_); rintro e w0 ⟨rfl, rfl⟩)
    | ((with_reducible refine HH.mono ?_); rintro e w2 ⟨rfl, ⟨s2, hr2⟩, ht2⟩; have HR2 := Lib.hid hr2; have HT := Lib.hid ht2; clear hr2 ht2))
  refine leaves_cons (f := 71) (args := #[.pointer (some ⟨W.heap.size, 0, none⟩), .pointer (some ⟨W.heap.size + 1, 0, none⟩)]) (by simp) (by simp [go_sem]) ?_
  refine (catch_int W.heap.size (W.heap.size + 1) g s2 0 k [] _ (HT.out.cell HCR.out hne2) HR2.out ⟨0, HT.out.cell HCE.out hne⟩ ((HT.out.frozen (p := ⟨W.heap.size + 1, 0, none⟩) (by simp) hne).trans HFE.out) hne).mono ?_
  rintro e u' w'' ⟨rfl, rfl, w1, rfl, hr1, ht1⟩
  have hT := (Turn.of (g := g) HX.out).trans (HT.out.trans ht1)
  have hc1 := ht1.cell (HT.out.cell HCE.out hne) hne
  exact ⟨.tuple #[.int .i64 0, .int .i64 k], by simp [results, Try.results50, go_sem, hc1], rfl, hr1.turn (g2 := W.heap.size + 1) ((Turn.refl _ _).set 0 _) (by omega), hT.setNew (by omega) 0 _⟩
set_option maxHeartbeats 1000000 in
theorem item_old_int (fv : Value) (g : Nat) (s : List UInt8) (e : Int) (W : World) (h : RAt WR g s e W) (he : e ≠ 0) :
    Calls Try.prog 50 #[.pointer (some ⟨g, 0, none⟩), fv] W fun e' w' => e' = .returned (.tuple #[.int .i64 0, .int .i64 e]) ∧ Below W.heap.size W w' := by
  have HX : Hid (Below W.heap.size W ((W.alloc (.cells #[.pointer (some ⟨g, 0, none⟩)] 22)).alloc (.cells #[.int .i64 0] 23))) := Lib.hid ((below_box _ _).alloc (by simp) _)
  have HWr := wrong_any g s e _ (h.step HX.out)
  have hB : Hid (∀ x : Int, Below W.heap.size W ((W.alloc (.cells #[.pointer (some ⟨g, 0, none⟩)] 22)).alloc (.cells #[.int .i64 x] 23))) := Lib.hid fun x => (below_box _ _).alloc (by simp) _
  go_enter_defers Try.func50, Try.ntmps50
  have HB := Lib.hid (hB.out e)
  clear HX hB
  go_wp2_with (go_at_call 18; (with_reducible refine HWr.mono ?_); rintro e w0 ⟨rfl, rfl⟩)
  have hc := RKX (W := W) (.cells #[.pointer (some ⟨g, 0, none⟩)] 22) 23 (.int .i64 e)
  generalize (W.alloc (.cells #[.pointer (some ⟨g, 0, none⟩)] 22)).alloc (.cells #[.int .i64 e] 23) = w2 at *
  obtain ⟨hc1, hc2⟩ := hc
  refine QT.region 3 (by kernel_rfl) (by kernel_rfl) ?_
  simp only [List.take_succ_cons, List.take_zero, List.drop_succ_cons, List.drop_zero]
  repeat (quiet_step (fail))
  refine wpQuiet_nil ?_
  intro nq
  go_wp2_with fail
  exact ⟨.tuple #[.int .i64 0, .int .i64 e], by simp [results, Try.results50, go_sem, hc1], rfl, (Below.drawn HB.out nq).setCell (p := ⟨W.heap.size + 1, 0, none⟩) (Nat.le_succ _) _⟩
set_option maxHeartbeats 1000000 in
theorem item_nil_int (fv : Value) (W : World) :
    Calls Try.prog 50 #[.pointer none, fv] W fun e' w' => e' = .returned (.tuple #[.int .i64 0, .int .i64 2]) ∧ Below W.heap.size W w' := by
  have HWr := fun w => wrong_nil w
  have hB : Hid (∀ x : Int, Below W.heap.size W ((W.alloc (.cells #[.pointer none] 22)).alloc (.cells #[.int .i64 x] 23))) := Lib.hid fun x => (below_box _ _).alloc (by simp) _
  go_enter_defers Try.func50, Try.ntmps50
  have HB := Lib.hid (hB.out 2)
  clear hB
  go_wp2_with (go_at_call 18; (with_reducible refine (HWr _).mono ?_); rintro e w0 ⟨rfl, rfl⟩)
  clear HWr
  have hc := RKX (W := W) (.cells #[.pointer none] 22) 23 (.int .i64 2)
  generalize (W.alloc (.cells #[.pointer none] 22)).alloc (.cells #[.int .i64 2] 23) = w2 at *
  obtain ⟨hc1, hc2⟩ := hc
  refine QT.region 3 (by kernel_rfl) (by kernel_rfl) ?_
  simp only [List.take_succ_cons, List.take_zero, List.drop_succ_cons, List.drop_zero]
  repeat (quiet_step (fail))
  refine wpQuiet_nil ?_
  intro nq
  go_wp2_with fail
  exact ⟨.tuple #[.int .i64 0, .int .i64 2], by simp [results, Try.results50, go_sem, hc1], rfl, (Below.drawn HB.out nq).setCell (p := ⟨W.heap.size + 1, 0, none⟩) (Nat.le_succ _) _⟩

set_option maxHeartbeats 1000000 in
theorem idle_count (a b : Addr) (w : World) :
    CallsD Try.prog 72 #[.pointer (some a), .pointer (some b)] .returning w fun e u' w' => e = .returned (.tuple #[]) ∧ u' = .returning ∧ w' = w := by
  have hta := ta_nil
  refine callsD_of_wpS Try.func72 rfl fun c₀ cs hu => ?_
  have hrec : recV (c₀ :: cs) = (.nilIface, c₀ :: cs) := by simp [recV, recoverD, hu]
  have hmode : c₀ = { c₀ with mode := .returning } := by cases c₀; simp_all
  simp only [Try.ntmps72]
  rw [show ((#[.pointer (some a), .pointer (some b)] : Array Value) ++ Array.replicate (14 - (#[.pointer (some a), .pointer (some b)] : Array Value).size) undef) = #[.pointer (some a), .pointer (some b), undef, undef, undef, undef, undef, undef, undef, undef, undef, undef, undef, undef] from rfl]
  refine wpS_seq (wpS_region_recover rfl rfl ?_)
  rw [hrec]
  have HM := Lib.hid hmode
  clear hmode hrec hu
  go_wp2_with fail
  simp only [Exit.thenS]
  refine wpS_of_wp ?_
  go_wp2_with fail
  exact ⟨rfl, .returning, congrArg (· :: cs) HM.out, _, results_none rfl _ _ _, rfl, rfl, rfl⟩
set_option maxHeartbeats 1000000 in
theorem catch_count (c b g : Nat) (s : List UInt8) (e0 k : Int) (older : List PanicEntry) (w : World) (hc : w.cell? ⟨c, 0, none⟩ = some (.pointer (some ⟨g, 0, none⟩))) (hr : RAt WR g s e0 w)
    (hb : ∃ x, w.cell? ⟨b, 0, none⟩ = some (.int .i64 x)) (hbf : w.frozen? ⟨b, 0, none⟩ = false) (hbg : b ≠ g) :
    CallsD Try.prog 72 #[.pointer (some ⟨c, 0, none⟩), .pointer (some ⟨b, 0, none⟩)] (.panicking ({ v := .iface 23 (.int .i64 k), recovered := false } :: older)) w fun e u' w' =>
      e = .returned (.tuple #[]) ∧ u' = .panicking ({ v := .iface 23 (.int .i64 k), recovered := true } :: older) ∧ ∃ w1, w' = w1.setCell ⟨b, 0, none⟩ (.int .i64 k) ∧ RAt WR g [] k w1 ∧ Turn g w w1 := by
  have hta := ta_err k
  obtain ⟨x, hb⟩ := hb
  have H := fail_any g s e0 k w hr
  have hlb : b < w.heap.size := World.block_lt_of_cell? w ⟨b, 0, none⟩ hb
  refine callsD_of_wpS Try.func72 rfl fun c₀ cs hu => ?_
  have hrec : recV (c₀ :: cs) = (.iface 23 (.int .i64 k), { c₀ with mode := .panicking ({ v := .iface 23 (.int .i64 k), recovered := true } :: older) } :: cs) := by simp [recV, recoverD, hu]
  simp only [Try.ntmps72]
  rw [show ((#[.pointer (some ⟨c, 0, none⟩), .pointer (some ⟨b, 0, none⟩)] : Array Value) ++ Array.replicate (14 - (#[.pointer (some ⟨c, 0, none⟩), .pointer (some ⟨b, 0, none⟩)] : Array Value).size) undef) = #[.pointer (some ⟨c, 0, none⟩), .pointer (some ⟨b, 0, none⟩), undef, undef, undef, undef, undef, undef, undef, undef, undef, undef, undef, undef] from rfl]
  refine wpS_seq (wpS_region_recover rfl rfl ?_)
  rw [hrec]
  clear hrec hu
  go_wp2_with fail
  simp only [Exit.thenS]
  refine wpS_of_wp ?_
  go_wp2_with (go_at_call 61; (with_reducible refine H.mono ?_); rintro e w1 ⟨rfl, hr1, ht⟩; have hb1 := ht.cell hb hbg; have hf1 := (ht.frozen (p := ⟨b, 0, none⟩) hlb hbg).trans hbf; have HR1 := Lib.hid hr1; have HT := Lib.hid ht; clear hr1 ht)
  exact ⟨rfl, _, rfl, _, results_none rfl _ _ _, rfl, rfl, w1, rfl, HR1.out, HT.out⟩

set_option maxHeartbeats 2000000 in
theorem item_ok_count (F : FuncId) (caps : Array Value) (g : Nat) (s : List UInt8) (W : World) (h : RAt WR g s 0 W) (P : World → Value → World → Prop)
    (hF : ∀ w : World, (callFunc F caps).run Try.prog w = .ok (.enter F caps) w) (hP : ∀ w v w', P w v w' → Turn g w w')
    (H : ∀ w, Below W.heap.size W w → Calls Try.prog F caps w fun e w' => ∃ v, e = .returned v ∧ P w v w') :
    Calls Try.prog 52 #[.pointer (some ⟨g, 0, none⟩), .func (.func F) #[] caps] W fun e w' => ∃ v w1, e = .returned (.tuple #[v, .int .i64 0]) ∧ Below W.heap.size W w1 ∧ P w1 v w' := by
  have hmf : ∀ (fn : Fn) (first cap : Array Value) (w : World), (Instr.makeFunc fn first cap).run Try.prog w = .ok (.func fn first cap) w := fun _ _ _ _ => rfl
  go_enter_defers Try.func52, Try.ntmps52
  have hg := h.lt
  have HX : Hid (Below W.heap.size W ((W.alloc (.cells #[.pointer (some ⟨g, 0, none⟩)] 22)).alloc (.cells #[.int .i64 0] 23))) := Lib.hid ((below_box _ _).alloc (by simp) _)
  have HRX := h.step HX.out
  have HWr := wrong_any g s 0 _ HRX
  have HH := H _ HX.out
  have hne : W.heap.size + 1 ≠ g := by omega
  have hce : ((W.alloc (.cells #[.pointer (some ⟨g, 0, none⟩)] 22)).alloc (.cells #[.int .i64 0] 23)).cell? ⟨W.heap.size + 1, 0, none⟩ = some (.int .i64 0) := by simp [go_sem]
  have hfe : ((W.alloc (.cells #[.pointer (some ⟨g, 0, none⟩)] 22)).alloc (.cells #[.int .i64 0] 23)).frozen? ⟨W.heap.size + 1, 0, none⟩ = false := by simp [go_sem]
  have HCE := Lib.hid hce
  have HFE := Lib.hid hfe
  clear hce hfe
  go_wp2_with (first
    | (go_at_call 18; (with_reducible refine HWr.mono ?_); rintro e w0 ⟨rfl, rfl⟩)
    | ((with_reducible refine HH.mono ?_); rintro e w2 ⟨v, rfl, hp⟩; have HPv := Lib.hid hp; clear hp; have HT := hP _ _ _ HPv.out; have hc2 := HT.cell HCE.out hne; have hf2 := (HT.frozen (p := ⟨W.heap.size + 1, 0, none⟩) (by simp) hne).trans HFE.out; have hs2 := setCell_same hc2))
  refine leaves_cons (f := 72) (args := #[.pointer (some ⟨W.heap.size, 0, none⟩), .pointer (some ⟨W.heap.size + 1, 0, none⟩)]) (by simp) (by simp [go_sem]) ?_
  refine (idle_count _ _ _).mono ?_
  rintro e u' w'' ⟨rfl, rfl, rfl⟩
  exact ⟨.tuple #[v, .int .i64 0], by simp [results, Try.results52, go_sem, hc2], v, _, rfl, HX.out, HPv.out⟩
set_option maxHeartbeats 2000000 in
theorem item_bad_count (F : FuncId) (caps : Array Value) (g : Nat) (s : List UInt8) (k : Int) (W : World) (h : RAt WR g s 0 W)
    (hF : ∀ w : World, (callFunc F caps).run Try.prog w = .ok (.enter F caps) w)
    (H : ∀ w, Below W.heap.size W w → Calls Try.prog F caps w fun e w' => e = .panicked (ErrP k) ∧ (∃ s2, RAt WR g s2 0 w') ∧ Turn g w w') :
    Calls Try.prog 52 #[.pointer (some ⟨g, 0, none⟩), .func (.func F) #[] caps] W fun e w' => e = .returned (.tuple #[.int .i64 0, .int .i64 k]) ∧ RAt WR g [] k w' ∧ Turn g W w' := by
  have hmf : ∀ (fn : Fn) (first cap : Array Value) (w : World), (Instr.makeFunc fn first cap).run Try.prog w = .ok (.func fn first cap) w := fun _ _ _ _ => rfl
  go_enter_defers Try.func52, Try.ntmps52
  have hg := h.lt
  have HX : Hid (Below W.heap.size W ((W.alloc (.cells #[.pointer (some ⟨g, 0, none⟩)] 22)).alloc (.cells #[.int .i64 0] 23))) := Lib.hid ((below_box _ _).alloc (by simp) _)
  have HRX := h.step HX.out
  have HWr := wrong_any g s 0 _ HRX
  have HH := H _ HX.out
  have hne : W.heap.size + 1 ≠ g := by omega
  have hne2 : W.heap.size ≠ g := by omega
  have hce : ((W.alloc (.cells #[.pointer (some ⟨g, 0, none⟩)] 22)).alloc (.cells #[.int .i64 0] 23)).cell? ⟨W.heap.size + 1, 0, none⟩ = some (.int .i64 0) := by simp [go_sem]
  have hcr : ((W.alloc (.cells #[.pointer (some ⟨g, 0, none⟩)] 22)).alloc (.cells #[.int .i64 0] 23)).cell? ⟨W.heap.size, 0, none⟩ = some (.pointer (some ⟨g, 0, none⟩)) := by simp [go_sem]
  have hfe : ((W.alloc (.cells #[.pointer (some ⟨g, 0, none⟩)] 22)).alloc (.cells #[.int .i64 0] 23)).frozen? ⟨W.heap.size + 1, 0, none⟩ = false := by simp [go_sem]
  have HCE := Lib.hid hce
  have HCR := Lib.hid hcr
  have HFE := Lib.hid hfe
  clear hce hfe hcr
  go_wp2_with (first
    | (go_at_call 18; (with_reducible refine HWr.mono ?_); rintro e w0 ⟨rfl, rfl⟩)
    | ((with_reducible refine HH.mono ?_); rintro e w2 ⟨rfl, ⟨s2, hr2⟩, ht2⟩; have HR2 := Lib.hid hr2; have HT := Lib.hid ht2; clear hr2 ht2))
  refine leaves_cons (f := 72) (args := #[.pointer (some ⟨W.heap.size, 0, none⟩), .pointer (some ⟨W.heap.size + 1, 0, none⟩)]) (by simp) (by simp [go_sem]) ?_
  refine (catch_count W.heap.size (W.heap.size + 1) g s2 0 k [] _ (HT.out.cell HCR.out hne2) HR2.out ⟨0, HT.out.cell HCE.out hne⟩ ((HT.out.frozen (p := ⟨W.heap.size + 1, 0, none⟩) (by simp) hne).trans HFE.out) hne).mono ?_
  rintro e u' w'' ⟨rfl, rfl, w1, rfl, hr1, ht1⟩
  have hT := (Turn.of (g := g) HX.out).trans (HT.out.trans ht1)
  have hc1 := ht1.cell (HT.out.cell HCE.out hne) hne
  exact ⟨.tuple #[.int .i64 0, .int .i64 k], by simp [results, Try.results52, go_sem, hc1], rfl, hr1.turn (g2 := W.heap.size + 1) ((Turn.refl _ _).set 0 _) (by omega), hT.setNew (by omega) 0 _⟩
set_option maxHeartbeats 1000000 in
theorem item_old_count (fv : Value) (g : Nat) (s : List UInt8) (e : Int) (W : World) (h : RAt WR g s e W) (he : e ≠ 0) :
    Calls Try.prog 52 #[.pointer (some ⟨g, 0, none⟩), fv] W fun e' w' => e' = .returned (.tuple #[.int .i64 0, .int .i64 e]) ∧ Below W.heap.size W w' := by
  have HX : Hid (Below W.heap.size W ((W.alloc (.cells #[.pointer (some ⟨g, 0, none⟩)] 22)).alloc (.cells #[.int .i64 0] 23))) := Lib.hid ((below_box _ _).alloc (by simp) _)
  have HWr := wrong_any g s e _ (h.step HX.out)
  have hB : Hid (∀ x : Int, Below W.heap.size W ((W.alloc (.cells #[.pointer (some ⟨g, 0, none⟩)] 22)).alloc (.cells #[.int .i64 x] 23))) := Lib.hid fun x => (below_box _ _).alloc (by simp) _
  go_enter_defers Try.func52, Try.ntmps52
  have HB := Lib.hid (hB.out e)
  clear HX hB
  go_wp2_with (go_at_call 18; (with_reducible refine HWr.mono ?_); rintro e w0 ⟨rfl, rfl⟩)
  have hc := RKX (W := W) (.cells #[.pointer (some ⟨g, 0, none⟩)] 22) 23 (.int .i64 e)
  generalize (W.alloc (.cells #[.pointer (some ⟨g, 0, none⟩)] 22)).alloc (.cells #[.int .i64 e] 23) = w2 at *
  obtain ⟨hc1, hc2⟩ := hc
  refine QT.region 3 (by kernel_rfl) (by kernel_rfl) ?_
  simp only [List.take_succ_cons, List.take_zero, List.drop_succ_cons, List.drop_zero]
  repeat (quiet_step (fail))
  refine wpQuiet_nil ?_
  intro nq
  go_wp2_with fail
  exact ⟨.tuple #[.int .i64 0, .int .i64 e], by simp [results, Try.results52, go_sem, hc1], rfl, (Below.drawn HB.out nq).setCell (p := ⟨W.heap.size + 1, 0, none⟩) (Nat.le_succ _) _⟩
set_option maxHeartbeats 1000000 in
theorem item_nil_count (fv : Value) (W : World) :
    Calls Try.prog 52 #[.pointer none, fv] W fun e' w' => e' = .returned (.tuple #[.int .i64 0, .int .i64 2]) ∧ Below W.heap.size W w' := by
  have HWr := fun w => wrong_nil w
  have hB : Hid (∀ x : Int, Below W.heap.size W ((W.alloc (.cells #[.pointer none] 22)).alloc (.cells #[.int .i64 x] 23))) := Lib.hid fun x => (below_box _ _).alloc (by simp) _
  go_enter_defers Try.func52, Try.ntmps52
  have HB := Lib.hid (hB.out 2)
  clear hB
  go_wp2_with (go_at_call 18; (with_reducible refine (HWr _).mono ?_); rintro e w0 ⟨rfl, rfl⟩)
  clear HWr
  have hc := RKX (W := W) (.cells #[.pointer none] 22) 23 (.int .i64 2)
  generalize (W.alloc (.cells #[.pointer none] 22)).alloc (.cells #[.int .i64 2] 23) = w2 at *
  obtain ⟨hc1, hc2⟩ := hc
  refine QT.region 3 (by kernel_rfl) (by kernel_rfl) ?_
  simp only [List.take_succ_cons, List.take_zero, List.drop_succ_cons, List.drop_zero]
  repeat (quiet_step (fail))
  refine wpQuiet_nil ?_
  intro nq
  go_wp2_with fail
  exact ⟨.tuple #[.int .i64 0, .int .i64 2], by simp [results, Try.results52, go_sem, hc1], rfl, (Below.drawn HB.out nq).setCell (p := ⟨W.heap.size + 1, 0, none⟩) (Nat.le_succ _) _⟩

set_option maxHeartbeats 1000000 in
theorem idle_text (a b : Addr) (w : World) :
    CallsD Try.prog 73 #[.pointer (some a), .pointer (some b)] .returning w fun e u' w' => e = .returned (.tuple #[]) ∧ u' = .returning ∧ w' = w := by
  have hta := ta_nil
  refine callsD_of_wpS Try.func73 rfl fun c₀ cs hu => ?_
  have hrec : recV (c₀ :: cs) = (.nilIface, c₀ :: cs) := by simp [recV, recoverD, hu]
  have hmode : c₀ = { c₀ with mode := .returning } := by cases c₀; simp_all
  simp only [Try.ntmps73]
  rw [show ((#[.pointer (some a), .pointer (some b)] : Array Value) ++ Array.replicate (14 - (#[.pointer (some a), .pointer (some b)] : Array Value).size) undef) = #[.pointer (some a), .pointer (some b), undef, undef, undef, undef, undef, undef, undef, undef, undef, undef, undef, undef] from rfl]
  refine wpS_seq (wpS_region_recover rfl rfl ?_)
  rw [hrec]
  have HM := Lib.hid hmode
  clear hmode hrec hu
  go_wp2_with fail
  simp only [Exit.thenS]
  refine wpS_of_wp ?_
  go_wp2_with fail
  exact ⟨rfl, .returning, congrArg (· :: cs) HM.out, _, results_none rfl _ _ _, rfl, rfl, rfl⟩
set_option maxHeartbeats 1000000 in
theorem catch_text (c b g : Nat) (s : List UInt8) (e0 k : Int) (older : List PanicEntry) (w : World) (hc : w.cell? ⟨c, 0, none⟩ = some (.pointer (some ⟨g, 0, none⟩))) (hr : RAt WR g s e0 w)
    (hb : ∃ x, w.cell? ⟨b, 0, none⟩ = some (.int .i64 x)) (hbf : w.frozen? ⟨b, 0, none⟩ = false) (hbg : b ≠ g) :
    CallsD Try.prog 73 #[.pointer (some ⟨c, 0, none⟩), .pointer (some ⟨b, 0, none⟩)] (.panicking ({ v := .iface 23 (.int .i64 k), recovered := false } :: older)) w fun e u' w' =>
      e = .returned (.tuple #[]) ∧ u' = .panicking ({ v := .iface 23 (.int .i64 k), recovered := true } :: older) ∧ ∃ w1, w' = w1.setCell ⟨b, 0, none⟩ (.int .i64 k) ∧ RAt WR g [] k w1 ∧ Turn g w w1 := by
  have hta := ta_err k
  obtain ⟨x, hb⟩ := hb
  have H := fail_any g s e0 k w hr
  have hlb : b < w.heap.size := World.block_lt_of_cell? w ⟨b, 0, none⟩ hb
  refine callsD_of_wpS Try.func73 rfl fun c₀ cs hu => ?_
  have hrec : recV (c₀ :: cs) = (.iface 23 (.int .i64 k), { c₀ with mode := .panicking ({ v := .iface 23 (.int .i64 k), recovered := true } :: older) } :: cs) := by simp [recV, recoverD, hu]
  simp only [Try.ntmps73]
  rw [show ((#[.pointer (some ⟨c, 0, none⟩), .pointer (some ⟨b, 0, none⟩)] : Array Value) ++ Array.replicate (14 - (#[.pointer (some ⟨c, 0, none⟩), .pointer (some ⟨b, 0, none⟩)] : Array Value).size) undef) = #[.pointer (some ⟨c, 0, none⟩), .pointer (some ⟨b, 0, none⟩), undef, undef, undef, undef, undef, undef, undef, undef, undef, undef, undef, undef] from rfl]
  refine wpS_seq (wpS_region_recover rfl rfl ?_)
  rw [hrec]
  clear hrec hu
  go_wp2_with fail
  simp only [Exit.thenS]
  refine wpS_of_wp ?_
  go_wp2_with (go_at_call 61; (with_reducible refine H.mono ?_); rintro e w1 ⟨rfl, hr1, ht⟩; have hb1 := ht.cell hb hbg; have hf1 := (ht.frozen (p := ⟨b, 0, none⟩) hlb hbg).trans hbf; have HR1 := Lib.hid hr1; have HT := Lib.hid ht; clear hr1 ht)
  exact ⟨rfl, _, rfl, _, results_none rfl _ _ _, rfl, rfl, w1, rfl, HR1.out, HT.out⟩

set_option maxHeartbeats 2000000 in
theorem item_ok_text (F : FuncId) (caps : Array Value) (g : Nat) (s : List UInt8) (W : World) (h : RAt WR g s 0 W) (P : World → Value → World → Prop)
    (hF : ∀ w : World, (callFunc F caps).run Try.prog w = .ok (.enter F caps) w) (hP : ∀ w v w', P w v w' → Turn g w w')
    (H : ∀ w, Below W.heap.size W w → Calls Try.prog F caps w fun e w' => ∃ v, e = .returned v ∧ P w v w') :
    Calls Try.prog 54 #[.pointer (some ⟨g, 0, none⟩), .func (.func F) #[] caps] W fun e w' => ∃ v w1, e = .returned (.tuple #[v, .int .i64 0]) ∧ Below W.heap.size W w1 ∧ P w1 v w' := by
  have hmf : ∀ (fn : Fn) (first cap : Array Value) (w : World), (Instr.makeFunc fn first cap).run Try.prog w = .ok (.func fn first cap) w := fun _ _ _ _ => rfl
  go_enter_defers Try.func54, Try.ntmps54
  have hg := h.lt
  have HX : Hid (Below W.heap.size W ((W.alloc (.cells #[.pointer (some ⟨g, 0, none⟩)] 22)).alloc (.cells #[.int .i64 0] 23))) := Lib.hid ((below_box _ _).alloc (by simp) _)
  have HRX := h.step HX.out
  have HWr := wrong_any g s 0 _ HRX
  have HH := H _ HX.out
  have hne : W.heap.size + 1 ≠ g := by omega
  have hce : ((W.alloc (.cells #[.pointer (some ⟨g, 0, none⟩)] 22)).alloc (.cells #[.int .i64 0] 23)).cell? ⟨W.heap.size + 1, 0, none⟩ = some (.int .i64 0) := by simp [go_sem]
  have hfe : ((W.alloc (.cells #[.pointer (some ⟨g, 0, none⟩)] 22)).alloc (.cells #[.int .i64 0] 23)).frozen? ⟨W.heap.size + 1, 0, none⟩ = false := by simp [go_sem]
  have HCE := Lib.hid hce
  have HFE := Lib.hid hfe
  clear hce hfe
  go_wp2_with (first
    | (go_at_call 18; (with_reducible refine HWr.mono ?_); rintro e w0 ⟨rfl, rfl⟩)
    | ((with_reducible refine HH.mono ?_); rintro e w2 ⟨v, rfl, hp⟩; have HPv := Lib.hid hp; clear hp; have HT := hP _ _ _ HPv.out; have hc2 := HT.cell HCE.out hne; have hf2 := (HT.frozen (p := ⟨W.heap.size + 1, 0, none⟩) (by simp) hne).trans HFE.out; have hs2 := setCell_same hc2))
  refine leaves_cons (f := 73) (args := #[.pointer (some ⟨W.heap.size, 0, none⟩), .pointer (some ⟨W.heap.size + 1, 0, none⟩)]) (by simp) (by simp [go_sem]) ?_
  refine (idle_text _ _ _).mono ?_
  rintro e u' w'' ⟨rfl, rfl, rfl⟩
  exact ⟨.tuple #[v, .int .i64 0], by simp [results, Try.results54, go_sem, hc2], v, _, rfl, HX.out, HPv.out⟩
set_option maxHeartbeats 2000000 in
theorem item_bad_text (F : FuncId) (caps : Array Value) (g : Nat) (s : List UInt8) (k : Int) (W : World) (h : RAt WR g s 0 W)
    (hF : ∀ w : World, (callFunc F caps).run Try.prog w = .ok (.enter F caps) w)
    (H : ∀ w, Below W.heap.size W w → Calls Try.prog F caps w fun e w' => e = .panicked (ErrP k) ∧ (∃ s2, RAt WR g s2 0 w') ∧ Turn g w w') :
    Calls Try.prog 54 #[.pointer (some ⟨g, 0, none⟩), .func (.func F) #[] caps] W fun e w' => e = .returned (.tuple #[.string ⟨#[]⟩, .int .i64 k]) ∧ RAt WR g [] k w' ∧ Turn g W w' := by
  have hmf : ∀ (fn : Fn) (first cap : Array Value) (w : World), (Instr.makeFunc fn first cap).run Try.prog w = .ok (.func fn first cap) w := fun _ _ _ _ => rfl
  go_enter_defers Try.func54, Try.ntmps54
  have hg := h.lt
  have HX : Hid (Below W.heap.size W ((W.alloc (.cells #[.pointer (some ⟨g, 0, none⟩)] 22)).alloc (.cells #[.int .i64 0] 23))) := Lib.hid ((below_box _ _).alloc (by simp) _)
  have HRX := h.step HX.out
  have HWr := wrong_any g s 0 _ HRX
  have HH := H _ HX.out
  have hne : W.heap.size + 1 ≠ g := by omega
  have hne2 : W.heap.size ≠ g := by omega
  have hce : ((W.alloc (.cells #[.pointer (some ⟨g, 0, none⟩)] 22)).alloc (.cells #[.int .i64 0] 23)).cell? ⟨W.heap.size + 1, 0, none⟩ = some (.int .i64 0) := by simp [go_sem]
  have hcr : ((W.alloc (.cells #[.pointer (some ⟨g, 0, none⟩)] 22)).alloc (.cells #[.int .i64 0] 23)).cell? ⟨W.heap.size, 0, none⟩ = some (.pointer (some ⟨g, 0, none⟩)) := by simp [go_sem]
  have hfe : ((W.alloc (.cells #[.pointer (some ⟨g, 0, none⟩)] 22)).alloc (.cells #[.int .i64 0] 23)).frozen? ⟨W.heap.size + 1, 0, none⟩ = false := by simp [go_sem]
  have HCE := Lib.hid hce
  have HCR := Lib.hid hcr
  have HFE := Lib.hid hfe
  clear hce hfe hcr
  go_wp2_with (first
    | (go_at_call 18; (with_reducible refine HWr.mono ?_); rintro e w0 ⟨rfl, rfl⟩)
    | ((with_reducible refine HH.mono ?_); rintro e w2 ⟨rfl, ⟨s2, hr2⟩, ht2⟩; have HR2 := Lib.hid hr2; have HT := Lib.hid ht2; clear hr2 ht2))
  refine leaves_cons (f := 73) (args := #[.pointer (some ⟨W.heap.size, 0, none⟩), .pointer (some ⟨W.heap.size + 1, 0, none⟩)]) (by simp) (by simp [go_sem]) ?_
  refine (catch_text W.heap.size (W.heap.size + 1) g s2 0 k [] _ (HT.out.cell HCR.out hne2) HR2.out ⟨0, HT.out.cell HCE.out hne⟩ ((HT.out.frozen (p := ⟨W.heap.size + 1, 0, none⟩) (by simp) hne).trans HFE.out) hne).mono ?_
  rintro e u' w'' ⟨rfl, rfl, w1, rfl, hr1, ht1⟩
  have hT := (Turn.of (g := g) HX.out).trans (HT.out.trans ht1)
  have hc1 := ht1.cell (HT.out.cell HCE.out hne) hne
  exact ⟨.tuple #[.string ⟨#[]⟩, .int .i64 k], by simp [results, Try.results54, go_sem, hc1], rfl, hr1.turn (g2 := W.heap.size + 1) ((Turn.refl _ _).set 0 _) (by omega), hT.setNew (by omega) 0 _⟩
set_option maxHeartbeats 1000000 in
theorem item_old_text (fv : Value) (g : Nat) (s : List UInt8) (e : Int) (W : World) (h : RAt WR g s e W) (he : e ≠ 0) :
    Calls Try.prog 54 #[.pointer (some ⟨g, 0, none⟩), fv] W fun e' w' => e' = .returned (.tuple #[.string ⟨#[]⟩, .int .i64 e]) ∧ Below W.heap.size W w' := by
  have HX : Hid (Below W.heap.size W ((W.alloc (.cells #[.pointer (some ⟨g, 0, none⟩)] 22)).alloc (.cells #[.int .i64 0] 23))) := Lib.hid ((below_box _ _).alloc (by simp) _)
  have HWr := wrong_any g s e _ (h.step HX.out)
  have hB : Hid (∀ x : Int, Below W.heap.size W ((W.alloc (.cells #[.pointer (some ⟨g, 0, none⟩)] 22)).alloc (.cells #[.int .i64 x] 23))) := Lib.hid fun x => (below_box _ _).alloc (by simp) _
  go_enter_defers Try.func54, Try.ntmps54
  have HB := Lib.hid (hB.out e)
  clear HX hB
  go_wp2_with (go_at_call 18; (with_reducible refine HWr.mono ?_); rintro e w0 ⟨rfl, rfl⟩)
  have hc := RKX (W := W) (.cells #[.pointer (some ⟨g, 0, none⟩)] 22) 23 (.int .i64 e)
  generalize (W.alloc (.cells #[.pointer (some ⟨g, 0, none⟩)] 22)).alloc (.cells #[.int .i64 e] 23) = w2 at *
  obtain ⟨hc1, hc2⟩ := hc
  refine QT.region 3 (by kernel_rfl) (by kernel_rfl) ?_
  simp only [List.take_succ_cons, List.take_zero, List.drop_succ_cons, List.drop_zero]
  repeat (quiet_step (fail))
  refine wpQuiet_nil ?_
  intro nq
  go_wp2_with fail
  exact ⟨.tuple #[.string ⟨#[]⟩, .int .i64 e], by simp [results, Try.results54, go_sem, hc1], rfl, (Below.drawn HB.out nq).setCell (p := ⟨W.heap.size + 1, 0, none⟩) (Nat.le_succ _) _⟩
set_option maxHeartbeats 1000000 in
theorem item_nil_text (fv : Value) (W : World) :
    Calls Try.prog 54 #[.pointer none, fv] W fun e' w' => e' = .returned (.tuple #[.string ⟨#[]⟩, .int .i64 2]) ∧ Below W.heap.size W w' := by
  have HWr := fun w => wrong_nil w
  have hB : Hid (∀ x : Int, Below W.heap.size W ((W.alloc (.cells #[.pointer none] 22)).alloc (.cells #[.int .i64 x] 23))) := Lib.hid fun x => (below_box _ _).alloc (by simp) _
  go_enter_defers Try.func54, Try.ntmps54
  have HB := Lib.hid (hB.out 2)
  clear hB
  go_wp2_with (go_at_call 18; (with_reducible refine (HWr _).mono ?_); rintro e w0 ⟨rfl, rfl⟩)
  clear HWr
  have hc := RKX (W := W) (.cells #[.pointer none] 22) 23 (.int .i64 2)
  generalize (W.alloc (.cells #[.pointer none] 22)).alloc (.cells #[.int .i64 2] 23) = w2 at *
  obtain ⟨hc1, hc2⟩ := hc
  refine QT.region 3 (by kernel_rfl) (by kernel_rfl) ?_
  simp only [List.take_succ_cons, List.take_zero, List.drop_succ_cons, List.drop_zero]
  repeat (quiet_step (fail))
  refine wpQuiet_nil ?_
  intro nq
  go_wp2_with fail
  exact ⟨.tuple #[.string ⟨#[]⟩, .int .i64 2], by simp [results, Try.results54, go_sem, hc1], rfl, (Below.drawn HB.out nq).setCell (p := ⟨W.heap.size + 1, 0, none⟩) (Nat.le_succ _) _⟩

set_option maxHeartbeats 1000000 in
theorem idle_list (a b : Addr) (w : World) :
    CallsD Try.prog 75 #[.pointer (some a), .pointer (some b)] .returning w fun e u' w' => e = .returned (.tuple #[]) ∧ u' = .returning ∧ w' = w := by
  have hta := ta_nil
  refine callsD_of_wpS Try.func75 rfl fun c₀ cs hu => ?_
  have hrec : recV (c₀ :: cs) = (.nilIface, c₀ :: cs) := by simp [recV, recoverD, hu]
  have hmode : c₀ = { c₀ with mode := .returning } := by cases c₀; simp_all
  simp only [Try.ntmps75]
  rw [show ((#[.pointer (some a), .pointer (some b)] : Array Value) ++ Array.replicate (14 - (#[.pointer (some a), .pointer (some b)] : Array Value).size) undef) = #[.pointer (some a), .pointer (some b), undef, undef, undef, undef, undef, undef, undef, undef, undef, undef, undef, undef] from rfl]
  refine wpS_seq (wpS_region_recover rfl rfl ?_)
  rw [hrec]
  have HM := Lib.hid hmode
  clear hmode hrec hu
  go_wp2_with fail
  simp only [Exit.thenS]
  refine wpS_of_wp ?_
  go_wp2_with fail
  exact ⟨rfl, .returning, congrArg (· :: cs) HM.out, _, results_none rfl _ _ _, rfl, rfl, rfl⟩
set_option maxHeartbeats 1000000 in
theorem catch_list (c b g : Nat) (s : List UInt8) (e0 k : Int) (older : List PanicEntry) (w : World) (hc : w.cell? ⟨c, 0, none⟩ = some (.pointer (some ⟨g, 0, none⟩))) (hr : RAt WR g s e0 w)
    (hb : ∃ x, w.cell? ⟨b, 0, none⟩ = some (.int .i64 x)) (hbf : w.frozen? ⟨b, 0, none⟩ = false) (hbg : b ≠ g) :
    CallsD Try.prog 75 #[.pointer (some ⟨c, 0, none⟩), .pointer (some ⟨b, 0, none⟩)] (.panicking ({ v := .iface 23 (.int .i64 k), recovered := false } :: older)) w fun e u' w' =>
      e = .returned (.tuple #[]) ∧ u' = .panicking ({ v := .iface 23 (.int .i64 k), recovered := true } :: older) ∧ ∃ w1, w' = w1.setCell ⟨b, 0, none⟩ (.int .i64 k) ∧ RAt WR g [] k w1 ∧ Turn g w w1 := by
  have hta := ta_err k
  obtain ⟨x, hb⟩ := hb
  have H := fail_any g s e0 k w hr
  have hlb : b < w.heap.size := World.block_lt_of_cell? w ⟨b, 0, none⟩ hb
  refine callsD_of_wpS Try.func75 rfl fun c₀ cs hu => ?_
  have hrec : recV (c₀ :: cs) = (.iface 23 (.int .i64 k), { c₀ with mode := .panicking ({ v := .iface 23 (.int .i64 k), recovered := true } :: older) } :: cs) := by simp [recV, recoverD, hu]
  simp only [Try.ntmps75]
  rw [show ((#[.pointer (some ⟨c, 0, none⟩), .pointer (some ⟨b, 0, none⟩)] : Array Value) ++ Array.replicate (14 - (#[.pointer (some ⟨c, 0, none⟩), .pointer (some ⟨b, 0, none⟩)] : Array Value).size) undef) = #[.pointer (some ⟨c, 0, none⟩), .pointer (some ⟨b, 0, none⟩), undef, undef, undef, undef, undef, undef, undef, undef, undef, undef, undef, undef] from rfl]
  refine wpS_seq (wpS_region_recover rfl rfl ?_)
  rw [hrec]
  clear hrec hu
  go_wp2_with fail
  simp only [Exit.thenS]
  refine wpS_of_wp ?_
  go_wp2_with (go_at_call 61; (with_reducible refine H.mono ?_); rintro e w1 ⟨rfl, hr1, ht⟩; have hb1 := ht.cell hb hbg; have hf1 := (ht.frozen (p := ⟨b, 0, none⟩) hlb hbg).trans hbf; have HR1 := Lib.hid hr1; have HT := Lib.hid ht; clear hr1 ht)
  exact ⟨rfl, _, rfl, _, results_none rfl _ _ _, rfl, rfl, w1, rfl, HR1.out, HT.out⟩

set_option maxHeartbeats 2000000 in
theorem item_ok_list (F : FuncId) (caps : Array Value) (g : Nat) (s : List UInt8) (W : World) (h : RAt WR g s 0 W) (P : World → Value → World → Prop)
    (hF : ∀ w : World, (callFunc F caps).run Try.prog w = .ok (.enter F caps) w) (hP : ∀ w v w', P w v w' → Turn g w w')
    (H : ∀ w, Below W.heap.size W w → Calls Try.prog F caps w fun e w' => ∃ v, e = .returned v ∧ P w v w') :
    Calls Try.prog 59 #[.pointer (some ⟨g, 0, none⟩), .func (.func F) #[] caps] W fun e w' => ∃ v w1, e = .returned (.tuple #[v, .int .i64 0]) ∧ Below W.heap.size W w1 ∧ P w1 v w' := by
  have hmf : ∀ (fn : Fn) (first cap : Array Value) (w : World), (Instr.makeFunc fn first cap).run Try.prog w = .ok (.func fn first cap) w := fun _ _ _ _ => rfl
  go_enter_defers Try.func59, Try.ntmps59
  have hg := h.lt
  have HX : Hid (Below W.heap.size W ((W.alloc (.cells #[.pointer (some ⟨g, 0, none⟩)] 22)).alloc (.cells #[.int .i64 0] 23))) := Lib.hid ((below_box _ _).alloc (by simp) _)
  have HRX := h.step HX.out
  have HWr := wrong_any g s 0 _ HRX
  have HH := H _ HX.out
  have hne : W.heap.size + 1 ≠ g := by omega
  have hce : ((W.alloc (.cells #[.pointer (some ⟨g, 0, none⟩)] 22)).alloc (.cells #[.int .i64 0] 23)).cell? ⟨W.heap.size + 1, 0, none⟩ = some (.int .i64 0) := by simp [go_sem]
  have hfe : ((W.alloc (.cells #[.pointer (some ⟨g, 0, none⟩)] 22)).alloc (.cells #[.int .i64 0] 23)).frozen? ⟨W.heap.size + 1, 0, none⟩ = false := by simp [go_sem]
  have HCE := Lib.hid hce
  have HFE := Lib.hid hfe
  clear hce hfe
  go_wp2_with (first
    | (go_at_call 18; (with_reducible refine HWr.mono ?_); rintro e w0 ⟨rfl, rfl⟩)
    | ((with_reducible refine HH.mono ?_); rintro e w2 ⟨v, rfl, hp⟩; have HPv := Lib.hid hp; clear hp; have HT := hP _ _ _ HPv.out; have hc2 := HT.cell HCE.out hne; have hf2 := (HT.frozen (p := ⟨W.heap.size + 1, 0, none⟩) (by simp) hne).trans HFE.out; have hs2 := setCell_same hc2))
  refine leaves_cons (f := 75) (args := #[.pointer (some ⟨W.heap.size, 0, none⟩), .pointer (some ⟨W.heap.size + 1, 0, none⟩)]) (by simp) (by simp [go_sem]) ?_
  refine (idle_list _ _ _).mono ?_
  rintro e u' w'' ⟨rfl, rfl, rfl⟩
  exact ⟨.tuple #[v, .int .i64 0], by simp [results, Try.results59, go_sem, hc2], v, _, rfl, HX.out, HPv.out⟩
set_option maxHeartbeats 2000000 in
theorem item_bad_list (F : FuncId) (caps : Array Value) (g : Nat) (s : List UInt8) (k : Int) (W : World) (h : RAt WR g s 0 W)
    (hF : ∀ w : World, (callFunc F caps).run Try.prog w = .ok (.enter F caps) w)
    (H : ∀ w, Below W.heap.size W w → Calls Try.prog F caps w fun e w' => e = .panicked (ErrP k) ∧ (∃ s2, RAt WR g s2 0 w') ∧ Turn g w w') :
    Calls Try.prog 59 #[.pointer (some ⟨g, 0, none⟩), .func (.func F) #[] caps] W fun e w' => e = .returned (.tuple #[.slice none 0 0, .int .i64 k]) ∧ RAt WR g [] k w' ∧ Turn g W w' := by
  have hmf : ∀ (fn : Fn) (first cap : Array Value) (w : World), (Instr.makeFunc fn first cap).run Try.prog w = .ok (.func fn first cap) w := fun _ _ _ _ => rfl
  go_enter_defers Try.func59, Try.ntmps59
  have hg := h.lt
  have HX : Hid (Below W.heap.size W ((W.alloc (.cells #[.pointer (some ⟨g, 0, none⟩)] 22)).alloc (.cells #[.int .i64 0] 23))) := Lib.hid ((below_box _ _).alloc (by simp) _)
  have HRX := h.step HX.out
  have HWr := wrong_any g s 0 _ HRX
  have HH := H _ HX.out
  have hne : W.heap.size + 1 ≠ g := by omega
  have hne2 : W.heap.size ≠ g := by omega
  have hce : ((W.alloc (.cells #[.pointer (some ⟨g, 0, none⟩)] 22)).alloc (.cells #[.int .i64 0] 23)).cell? ⟨W.heap.size + 1, 0, none⟩ = some (.int .i64 0) := by simp [go_sem]
  have hcr : ((W.alloc (.cells #[.pointer (some ⟨g, 0, none⟩)] 22)).alloc (.cells #[.int .i64 0] 23)).cell? ⟨W.heap.size, 0, none⟩ = some (.pointer (some ⟨g, 0, none⟩)) := by simp [go_sem]
  have hfe : ((W.alloc (.cells #[.pointer (some ⟨g, 0, none⟩)] 22)).alloc (.cells #[.int .i64 0] 23)).frozen? ⟨W.heap.size + 1, 0, none⟩ = false := by simp [go_sem]
  have HCE := Lib.hid hce
  have HCR := Lib.hid hcr
  have HFE := Lib.hid hfe
  clear hce hfe hcr
  go_wp2_with (first
    | (go_at_call 18; (with_reducible refine HWr.mono ?_); rintro e w0 ⟨rfl, rfl⟩)
    | ((with_reducible refine HH.mono ?_); rintro e w2 ⟨rfl, ⟨s2, hr2⟩, ht2⟩; have HR2 := Lib.hid hr2; have HT := Lib.hid ht2; clear hr2 ht2))
  refine leaves_cons (f := 75) (args := #[.pointer (some ⟨W.heap.size, 0, none⟩), .pointer (some ⟨W.heap.size + 1, 0, none⟩)]) (by simp) (by simp [go_sem]) ?_
  refine (catch_list W.heap.size (W.heap.size + 1) g s2 0 k [] _ (HT.out.cell HCR.out hne2) HR2.out ⟨0, HT.out.cell HCE.out hne⟩ ((HT.out.frozen (p := ⟨W.heap.size + 1, 0, none⟩) (by simp) hne).trans HFE.out) hne).mono ?_
  rintro e u' w'' ⟨rfl, rfl, w1, rfl, hr1, ht1⟩
  have hT := (Turn.of (g := g) HX.out).trans (HT.out.trans ht1)
  have hc1 := ht1.cell (HT.out.cell HCE.out hne) hne
  exact ⟨.tuple #[.slice none 0 0, .int .i64 k], by simp [results, Try.results59, go_sem, hc1], rfl, hr1.turn (g2 := W.heap.size + 1) ((Turn.refl _ _).set 0 _) (by omega), hT.setNew (by omega) 0 _⟩
set_option maxHeartbeats 1000000 in
theorem item_old_list (fv : Value) (g : Nat) (s : List UInt8) (e : Int) (W : World) (h : RAt WR g s e W) (he : e ≠ 0) :
    Calls Try.prog 59 #[.pointer (some ⟨g, 0, none⟩), fv] W fun e' w' => e' = .returned (.tuple #[.slice none 0 0, .int .i64 e]) ∧ Below W.heap.size W w' := by
  have HX : Hid (Below W.heap.size W ((W.alloc (.cells #[.pointer (some ⟨g, 0, none⟩)] 22)).alloc (.cells #[.int .i64 0] 23))) := Lib.hid ((below_box _ _).alloc (by simp) _)
  have HWr := wrong_any g s e _ (h.step HX.out)
  have hB : Hid (∀ x : Int, Below W.heap.size W ((W.alloc (.cells #[.pointer (some ⟨g, 0, none⟩)] 22)).alloc (.cells #[.int .i64 x] 23))) := Lib.hid fun x => (below_box _ _).alloc (by simp) _
  go_enter_defers Try.func59, Try.ntmps59
  have HB := Lib.hid (hB.out e)
  clear HX hB
  go_wp2_with (go_at_call 18; (with_reducible refine HWr.mono ?_); rintro e w0 ⟨rfl, rfl⟩)
  have hc := RKX (W := W) (.cells #[.pointer (some ⟨g, 0, none⟩)] 22) 23 (.int .i64 e)
  generalize (W.alloc (.cells #[.pointer (some ⟨g, 0, none⟩)] 22)).alloc (.cells #[.int .i64 e] 23) = w2 at *
  obtain ⟨hc1, hc2⟩ := hc
  refine QT.region 3 (by kernel_rfl) (by kernel_rfl) ?_
  simp only [List.take_succ_cons, List.take_zero, List.drop_succ_cons, List.drop_zero]
  repeat (quiet_step (fail))
  refine wpQuiet_nil ?_
  intro nq
  go_wp2_with fail
  exact ⟨.tuple #[.slice none 0 0, .int .i64 e], by simp [results, Try.results59, go_sem, hc1], rfl, (Below.drawn HB.out nq).setCell (p := ⟨W.heap.size + 1, 0, none⟩) (Nat.le_succ _) _⟩
set_option maxHeartbeats 1000000 in
theorem item_nil_list (fv : Value) (W : World) :
    Calls Try.prog 59 #[.pointer none, fv] W fun e' w' => e' = .returned (.tuple #[.slice none 0 0, .int .i64 2]) ∧ Below W.heap.size W w' := by
  have HWr := fun w => wrong_nil w
  have hB : Hid (∀ x : Int, Below W.heap.size W ((W.alloc (.cells #[.pointer none] 22)).alloc (.cells #[.int .i64 x] 23))) := Lib.hid fun x => (below_box _ _).alloc (by simp) _
  go_enter_defers Try.func59, Try.ntmps59
  have HB := Lib.hid (hB.out 2)
  clear hB
  go_wp2_with (go_at_call 18; (with_reducible refine (HWr _).mono ?_); rintro e w0 ⟨rfl, rfl⟩)
  clear HWr
  have hc := RKX (W := W) (.cells #[.pointer none] 22) 23 (.int .i64 2)
  generalize (W.alloc (.cells #[.pointer none] 22)).alloc (.cells #[.int .i64 2] 23) = w2 at *
  obtain ⟨hc1, hc2⟩ := hc
  refine QT.region 3 (by kernel_rfl) (by kernel_rfl) ?_
  simp only [List.take_succ_cons, List.take_zero, List.drop_succ_cons, List.drop_zero]
  repeat (quiet_step (fail))
  refine wpQuiet_nil ?_
  intro nq
  go_wp2_with fail
  exact ⟨.tuple #[.slice none 0 0, .int .i64 2], by simp [results, Try.results59, go_sem, hc1], rfl, (Below.drawn HB.out nq).setCell (p := ⟨W.heap.size + 1, 0, none⟩) (Nat.le_succ _) _⟩

end M
end Go.Proofs.Ytaijnejbffnfpaa

/- The texts WirLen, WirLenA, WirLenB, one behind the other. -/
import Derived.Test.YtaijnejbffnfpaaWB12
import Derived.Test.YtaijnejbffnfpaaWB6
import Derived.Test.YtaijnejbffnfpaaWB10
/- Two things, side by side. -/
namespace Go.Proofs.Ytaijnejbffnfpaa
open Go Go.RowKit Go.Lib
namespace MM
theorem wrap8 (n : Nat) : IntKind.u8.wrap (n : Int) = ((n % 256 : Nat) : Int) := by simp [IntKind.wrap, IntKind.bits, IntKind.signed]
theorem dig1_same (n m : Nat) : ((dig (n % 256) 1 == dig (m % 256) 1) == ((n : Int) % 256 == (m : Int) % 256)) = true := by
  by_cases h : n % 256 = m % 256
  · have h2 : (n : Int) % 256 = (m : Int) % 256 := by omega
    rw [h, h2]; simp
  · have h1 : dig (n % 256) 1 ≠ dig (m % 256) 1 := fun e => h (by
      have := congrArg val e
      rw [val_dig, val_dig] at this
      omega)
    have h2 : ¬ (n : Int) % 256 = (m : Int) % 256 := by omega
    rw [beq_eq_false_iff_ne.2 h1, beq_eq_false_iff_ne.2 h2]; rfl
theorem dig8_same (n m : Nat) (hn : n < 18446744073709551616) (hm : m < 18446744073709551616) : ((dig n 8 == dig m 8) == ((n : Int) == (m : Int))) = true := by
  by_cases h : n = m
  · rw [h]; simp
  · have h1 : dig n 8 ≠ dig m 8 := fun e => h (by
      have := congrArg val e
      rw [val_dig, val_dig] at this
      omega)
    have h2 : ¬ (n : Int) = (m : Int) := by omega
    rw [beq_eq_false_iff_ne.2 h1, beq_eq_false_iff_ne.2 h2]; rfl
theorem textB_same (s t : List UInt8) (h : s.length = t.length) : ((textB s == textB t) == (s == t)) = true := by
  by_cases e : s = t
  · subst e; simp
  · have h1 : textB s ≠ textB t := fun e2 => e (by
      unfold textB at e2
      rw [h] at e2
      exact List.append_cancel_left e2)
    rw [beq_eq_false_iff_ne.2 h1, beq_eq_false_iff_ne.2 e]; rfl
end MM
namespace M
theorem long_two (t o : Th) (hst : t.s.length ≤ 140737488355328 ∧ t.len ≤ 140737488355328) (hso : o.s.length ≤ 140737488355328 ∧ o.len ≤ 140737488355328) (w : World) :
    Calls Try.prog 41 #[.slice (some ⟨w.heap.size, 0, none⟩) 2 2] (w.alloc (.cells #[.int .u8 (t.k : Int), .int .u64 (t.n : Int), .string ⟨t.s.toArray⟩, .slice t.ao t.len t.cap, .int .i64 t.m, .int .u8 (o.k : Int), .int .u64 (o.n : Int), .string ⟨o.s.toArray⟩, .slice o.ao o.len o.cap, .int .i64 o.m] 45)) fun e w' => ∃ r : Bool, e = .returned (.bool r) ∧ (r = false → t.s.length + 4 * t.len < 9000 ∧ o.s.length + 4 * o.len < 9000) ∧ Below w.heap.size w w' := by
  have hn := heap_alloc_new w (.cells #[.int .u8 (t.k : Int), .int .u64 (t.n : Int), .string ⟨t.s.toArray⟩, .slice t.ao t.len t.cap, .int .i64 t.m, .int .u8 (o.k : Int), .int .u64 (o.n : Int), .string ⟨o.s.toArray⟩, .slice o.ao o.len o.cap, .int .i64 o.m] 45)
  have hb := below_box w (.cells #[.int .u8 (t.k : Int), .int .u64 (t.n : Int), .string ⟨t.s.toArray⟩, .slice t.ao t.len t.cap, .int .i64 t.m, .int .u8 (o.k : Int), .int .u64 (o.n : Int), .string ⟨o.s.toArray⟩, .slice o.ao o.len o.cap, .int .i64 o.m] 45)
  refine (long_any (some ⟨w.heap.size, 0, none⟩) 2 2 (fun i => if i = 0 then t else o) (by omega) _ (fun i hi => ?_)).mono ?_
  · refine ⟨?_, ?_, _, rfl, ?_⟩
    · split
      · exact hst.1
      · exact hso.1
    · split
      · exact hst.2
      · exact hso.2
    · intro j u hu
      rw [Addr.add_mid, Nat.zero_add, cell_of_row _ _ _ _ _ _ hn]
      match i, hi with
      | 0, _ =>
        match j with
        | 0 | 1 | 2 | 3 | 4 => simpa using hu
        | j + 5 => simp at hu
      | 1, _ =>
        match j with
        | 0 | 1 | 2 | 3 | 4 => simpa using hu
        | j + 5 => simp at hu
  · rintro e w' ⟨r, rfl, h1, h2⟩
    refine ⟨r, rfl, fun hr => ?_, hb.trans (h2.mono hb.size)⟩
    have h3 := h1 hr
    simp [MM.sm] at h3
    omega
theorem LB.step' {W w w' : World} {b : Nat} {t o : Th} (h : LB W b t o w) (hb : Below w.heap.size w w') : LB W b t o w' :=
  ⟨(hb.block _ (row_lt h.a)).trans h.a, (hb.block _ (row_lt h.c)).trans h.c, h.below.trans (hb.mono h.below.size)⟩
theorem LB.kind {W w : World} {b : Nat} {t o : Th} (h : LB W b t o w) (hb : W.heap.size ≤ b + 1) {k : Nat} : LB W b t { o with k := k } (w.setCell ⟨b + 1, 0, none⟩ (.int .u8 (k : Int))) :=
  ⟨(Below.heap_setCell w ⟨b + 1, 0, none⟩ _ b (by simp)).trans h.a, heap_setCell_same w (b + 1) 0 _ _ _ h.c, h.below.setCell (p := ⟨b + 1, 0, none⟩) hb _⟩
theorem LB.text {W w : World} {b : Nat} {t o : Th} (h : LB W b t o w) (hb : W.heap.size ≤ b + 1) {q : List UInt8} : LB W b t { o with s := q } (w.setCell ⟨b + 1, 2, none⟩ (.string ⟨q.toArray⟩)) :=
  ⟨(Below.heap_setCell w ⟨b + 1, 2, none⟩ _ b (by simp)).trans h.a, heap_setCell_same w (b + 1) 2 _ _ _ h.c, h.below.setCell (p := ⟨b + 1, 2, none⟩) hb _⟩
theorem LB.list {W w : World} {b : Nat} {t o : Th} (h : LB W b t o w) (hb : W.heap.size ≤ b + 1) {ao : Option Addr} {n c : Nat} {z : Nat → Nat} : LB W b t { o with ao := ao, len := n, cap := c, z := z } (w.setCell ⟨b + 1, 3, none⟩ (.slice ao n c)) :=
  ⟨(Below.heap_setCell w ⟨b + 1, 3, none⟩ _ b (by simp)).trans h.a, heap_setCell_same w (b + 1) 3 _ _ _ h.c, h.below.setCell (p := ⟨b + 1, 3, none⟩) hb _⟩
end M
end Go.Proofs.Ytaijnejbffnfpaa
/- Two things of one kind that is no text and no list. -/
namespace Go.Proofs.Ytaijnejbffnfpaa
open Go.ChangeShapes Go.WideShapes Go.ChangeAt Go.RowKit Go.Lib
namespace M
set_option maxHeartbeats 8000000 in
set_option maxRecDepth 100000 in
theorem walk_other (t o : Th) (ht : t.Ok) (ho : o.Ok) (k3 : t.k ≠ 3) (k4 : t.k ≠ 4) (W : World) (hrt : Rd W t.ao t.len t.z) (hst : t.s.length ≤ 140737488355328 ∧ t.len ≤ 140737488355328) (hro : Rd W o.ao o.len o.z) (hso : o.s.length ≤ 140737488355328 ∧ o.len ≤ 140737488355328) :
    Calls Try.prog 7 #[.agg t.cells, .agg o.cells] W fun e w' => e = .returned (.bool true) ∧ Below W.heap.size W w' := by
  have HI : Hid (LB W W.heap.size t o ((W.alloc (.cells t.cells 45)).alloc (.cells o.cells 45))) := Lib.hid ⟨heap_alloc2_old _ _ _, heap_alloc2_new _ _ _, (below_box _ _).alloc (by simp) _⟩
  have g3 : ¬ (t.k : Int) = 3 := by omega
  have g4 : ¬ (t.k : Int) = 4 := by omega
  go_enter Try.func7, Try.ntmps7
  go_upto_region 1 with fail
  have HLG := Lib.hid (long_two t o hst hso ((W.alloc (.cells t.cells 45)).alloc (.cells o.cells 45)))
  generalize (W.alloc (.cells t.cells 45)).alloc (.cells o.cells 45) = w2 at *
  generalize hbs : W.heap.size = b at *
  have HBS : Hid (W.heap.size = b) := Lib.hid hbs
  clear hbs
  go_upto_region 3 with (first
    | (refine wpList_load_row rfl 45 _ rfl b rfl 45 t.cells (0, 0) _ HI.out.a Try.underlying45 rfl info_th ?_)
    | (refine wpList_load_row rfl 45 _ rfl (b + 1) rfl 45 o.cells (0, 0) _ HI.out.c Try.underlying45 rfl info_th ?_)
    | (go_at_call 16; (with_reducible refine (awake_any _).mono ?_); rintro e w4 ⟨rfl, hb4⟩; have HB4 := Lib.hid hb4; clear hb4)
    | (go_at_call 41; (with_reducible refine HLG.out.mono ?_); rintro e w3 ⟨r, rfl, hsm, hb3⟩; have HSM := Lib.hid hsm; have HB3 := Lib.hid hb3; clear hsm hb3; cases r))
  · have HS := Lib.hid (HSM.out trivial)
    have HL4 := Lib.hid ((HI.out.step' HB3.out).step' HB4.out)
    clear HSM HB3 HB4 HI HLG
    have ha := HL4.out.a
    have hc := HL4.out.c
    have hc0 : w4.cell? ⟨b, 0, none⟩ = some (.int .u8 (t.k : Int)) := (cell_of_row w4 b 0 _ _ _ ha).trans rfl
    have hd0 : w4.cell? ⟨b + 1, 0, none⟩ = some (.int .u8 (o.k : Int)) := (cell_of_row w4 (b + 1) 0 _ _ _ hc).trans rfl
    have hf0 := frozen_of_row w4 (b + 1) 0 _ _ hc
    clear ha hc
    go_upto_region 4 with fail
    have HL5 := Lib.hid (HL4.out.kind (k := t.k) (by rw [HBS.out]; exact Nat.le_succ b))
    clear hc0 hd0 hf0 HL4
    generalize w4.setCell ⟨b + 1, 0, none⟩ (.int .u8 (t.k : Int)) = w5 at *
    have hp : ({ o with k := t.k } : Th).Ok := ⟨ht.k, ho.n, ho.z, ho.m, ho.s, ho.len⟩
    have hpk : ({ o with k := t.k } : Th).k = t.k := rfl
    have hrp : Rd W ({ o with k := t.k } : Th).ao ({ o with k := t.k } : Th).len ({ o with k := t.k } : Th).z := hro
    generalize ({ o with k := t.k } : Th) = p at *
    have HX := HL5.out.a
    have hc0 : w5.cell? ⟨b, 0, none⟩ = some (.int .u8 (t.k : Int)) := (cell_of_row w5 b 0 _ _ _ HX).trans rfl
    clear HX
    go_upto_region 8 with fail
    have HPK := Lib.hid hpk
    clear hpk
    have HRT := Lib.hid hrt
    have HRP := Lib.hid hrp
    have hP := fun (y : Th) (hy : y.Ok) (w : World) (hr : Rd w y.ao y.len y.z) => put_any y hy [] (by simp) w hr
    simp only [List.nil_append] at hP
    clear hc0 hrt hrp
    refine RK.region (LB W b t p) 100 (by kernel_rfl) ?_
    have hS0 : LB W b t p w5.drew := HL5.out.step' (Below.drawn (Below.refl _ _) 1)
    refine RK.Any.take 0 53 (.agg t.cells) rfl rfl (by kernel_rfl) (by kernel_rfl) (by kernel_rfl) (by kernel_rfl) (fun _ _ _ h => h) (by rfl) (fun W' hb => ?_) hS0 ?_
    · exact load_th hb.a rfl rfl rfl
    simp only [List.setIfInBounds_toArray, List.set_cons_zero, List.set_cons_succ]
    refine RK.Any.take 2 55 (.agg p.cells) rfl rfl (by kernel_rfl) (by kernel_rfl) (by kernel_rfl) (by kernel_rfl) (fun _ _ _ h => h) (by rfl) (fun W' hb => ?_) hS0 ?_
    · exact load_th hb.c rfl rfl rfl
    simp only [List.setIfInBounds_toArray, List.set_cons_zero, List.set_cons_succ]
    refine RK.Any.call 1 54 43 #[.agg t.cells, .string ⟨#[]⟩] (by kernel_rfl) rfl rfl (by rfl) (by go_simp) (Calls.mono (hP t ht _ (HRT.out.below (by exact hS0.below))) ?_)
    rintro e w6 ⟨rfl, hb6⟩
    have hS6 := hS0.step' hb6
    refine ⟨_, rfl, fun _ => hS6, ?_⟩
    simp only [List.setIfInBounds_toArray, List.set_cons_zero, List.set_cons_succ]
    refine RK.Any.call 3 56 43 #[.agg p.cells, .string ⟨#[]⟩] (by kernel_rfl) rfl rfl (by rfl) (by go_simp) (Calls.mono (hP p hp _ (HRP.out.below (by exact hS6.below))) ?_)
    rintro e w7 ⟨rfl, hb7⟩
    have hS7 := hS6.step' hb7
    refine ⟨_, rfl, fun _ => hS7, ?_⟩
    simp only [List.setIfInBounds_toArray, List.set_cons_zero, List.set_cons_succ]
    refine RK.Any.exec 4 5 (.string ⟨t.bytes.toArray⟩) (w1 := w7) (by kernel_rfl) rfl rfl (by rfl) (by go_simp) hS7 ?_
    simp only [List.setIfInBounds_toArray, List.set_cons_zero, List.set_cons_succ]
    refine RK.Any.exec 5 6 (.string ⟨p.bytes.toArray⟩) (w1 := w7) (by kernel_rfl) rfl rfl (by rfl) (by go_simp) hS7 ?_
    simp only [List.setIfInBounds_toArray, List.set_cons_zero, List.set_cons_succ]
    refine RK.Any.done (by kernel_rfl) ?_
    have HS7 := Lib.hid hS7
    clear hS0 hS6 hS7 hb6 hb7 HL5
    go_upto_region 9 with fail
    go_upto_region 11 with (first
      | (refine wpList_load_row rfl 45 _ rfl b rfl 45 t.cells (0, 0) _ HS7.out.a Try.underlying45 rfl info_th ?_)
      | (refine wpList_load_row rfl 45 _ rfl (b + 1) rfl 45 p.cells (0, 0) _ HS8.out.c Try.underlying45 rfl info_th ?_)
      | (refine wpList_load_row rfl 45 _ rfl b rfl 45 t.cells (0, 0) _ HS8.out.a Try.underlying45 rfl info_th ?_)
      | (go_at_call 42; (with_reducible refine (may_any t w7).mono ?_); rintro e w8 ⟨rfl, hb8⟩; have HS8 := Lib.hid (HS7.out.step' hb8); clear hb8; have hx8 := HS8.out.a; have hy8 := HS8.out.c; have hc8 : w8.cell? ⟨b, 0, none⟩ = some (.int .u8 (t.k : Int)) := (cell_of_row w8 b 0 _ _ _ hx8).trans rfl; have he0 : w8.cell? ⟨b + 1, 0, none⟩ = some (.int .u8 (p.k : Int)) := (cell_of_row w8 (b + 1) 0 _ _ _ hy8).trans rfl; have he1 : w8.cell? ⟨b + 1, 1, none⟩ = some (.int .u64 (p.n : Int)) := (cell_of_row w8 (b + 1) 1 _ _ _ hy8).trans rfl; have he2 : w8.cell? ⟨b + 1, 2, none⟩ = some (.string ⟨p.s.toArray⟩) := (cell_of_row w8 (b + 1) 2 _ _ _ hy8).trans rfl; have he3 : w8.cell? ⟨b + 1, 3, none⟩ = some (.slice p.ao p.len p.cap) := (cell_of_row w8 (b + 1) 3 _ _ _ hy8).trans rfl; have he4 : w8.cell? ⟨b + 1, 4, none⟩ = some (.int .i64 p.m) := (cell_of_row w8 (b + 1) 4 _ _ _ hy8).trans rfl; clear hx8 hy8; rcases hmt : t.may with _ | _)
      | (go_at_call 42; (with_reducible refine (may_any p w8).mono ?_); rintro e w9 ⟨rfl, hb9⟩; have HS9 := Lib.hid (HS8.out.step' hb9); clear hb9; clear hc8 he0 he1 he2 he3 he4; have hx9 := HS9.out.a; have hy9 := HS9.out.c; have hc9 : w9.cell? ⟨b, 0, none⟩ = some (.int .u8 (t.k : Int)) := (cell_of_row w9 b 0 _ _ _ hx9).trans rfl; have hn9 : w9.cell? ⟨b, 1, none⟩ = some (.int .u64 (t.n : Int)) := (cell_of_row w9 b 1 _ _ _ hx9).trans rfl; have hm9 : w9.cell? ⟨b + 1, 1, none⟩ = some (.int .u64 (p.n : Int)) := (cell_of_row w9 (b + 1) 1 _ _ _ hy9).trans rfl; clear hx9 hy9; rcases hmp : p.may with _ | _))
    · go_ret
      exact ⟨rfl, HS8.out.below⟩
    · go_ret
      exact ⟨rfl, HS9.out.below⟩
    by_cases k0 : t.k = 0
    · have q0 : ((t.k : Int) == 0) = true := by simp [k0]
      have hbt : t.bytes = MM.dig (t.n % 256) 1 := by unfold Th.bytes; rw [if_pos k0]
      have hbp : p.bytes = MM.dig (p.n % 256) 1 := by unfold Th.bytes; rw [HPK.out, if_pos k0]
      have hw1 := MM.wrap8 t.n
      have hw2 := MM.wrap8 p.n
      have HD := Lib.hid (MM.dig1_same t.n p.n)
      rw [hbt, hbp]
      clear hbt hbp
      go_wp2_with fail
      go_ret
      exact ⟨by rw [HD.out]; rfl, HS9.out.below⟩
    · have g0 : ¬ (t.k : Int) = 0 := by omega
      have hbt : t.bytes = MM.dig t.n 8 := by unfold Th.bytes; rw [if_neg k0, if_neg k3, if_neg k4]
      have hbp : p.bytes = MM.dig p.n 8 := by unfold Th.bytes; rw [HPK.out, if_neg k0, if_neg k3, if_neg k4]
      have HD := Lib.hid (MM.dig8_same t.n p.n ht.n hp.n)
      rw [hbt, hbp]
      clear hbt hbp
      go_wp2_with fail
      go_ret
      exact ⟨by rw [HD.out]; rfl, HS9.out.below⟩
  · go_ret
    exact ⟨rfl, ((HI.out.step' HB3.out).step' HB4.out).below⟩
end M
end Go.Proofs.Ytaijnejbffnfpaa
/- Two texts. -/
namespace Go.Proofs.Ytaijnejbffnfpaa
open Go.ChangeShapes Go.WideShapes Go.ChangeAt Go.RowKit Go.Lib
namespace M
set_option maxHeartbeats 8000000 in
set_option maxRecDepth 100000 in
theorem walk_text (t o : Th) (ht : t.Ok) (ho : o.Ok) (k3 : t.k = 3) (W : World) (hrt : Rd W t.ao t.len t.z) (hst : t.s.length ≤ 140737488355328 ∧ t.len ≤ 140737488355328) (hro : Rd W o.ao o.len o.z) (hso : o.s.length ≤ 140737488355328 ∧ o.len ≤ 140737488355328) :
    Calls Try.prog 7 #[.agg t.cells, .agg o.cells] W fun e w' => e = .returned (.bool true) ∧ Below W.heap.size W w' := by
  have HI : Hid (LB W W.heap.size t o ((W.alloc (.cells t.cells 45)).alloc (.cells o.cells 45))) := Lib.hid ⟨heap_alloc2_old _ _ _, heap_alloc2_new _ _ _, (below_box _ _).alloc (by simp) _⟩
  have q3 : ((t.k : Int) == 3) = true := by simp [k3]
  have q3' : ((t.k : Int) != 3) = false := by simp [k3]
  have g0 : ¬ (t.k : Int) = 0 := by omega
  have HK3 := Lib.hid k3
  have g4 : ¬ (t.k : Int) = 4 := by omega
  clear k3
  go_enter Try.func7, Try.ntmps7
  go_upto_region 1 with fail
  have HLG := Lib.hid (long_two t o hst hso ((W.alloc (.cells t.cells 45)).alloc (.cells o.cells 45)))
  generalize (W.alloc (.cells t.cells 45)).alloc (.cells o.cells 45) = w2 at *
  generalize hbs : W.heap.size = b at *
  have HBS : Hid (W.heap.size = b) := Lib.hid hbs
  clear hbs
  go_upto_region 3 with (first
    | (refine wpList_load_row rfl 45 _ rfl b rfl 45 t.cells (0, 0) _ HI.out.a Try.underlying45 rfl info_th ?_)
    | (refine wpList_load_row rfl 45 _ rfl (b + 1) rfl 45 o.cells (0, 0) _ HI.out.c Try.underlying45 rfl info_th ?_)
    | (go_at_call 16; (with_reducible refine (awake_any _).mono ?_); rintro e w4 ⟨rfl, hb4⟩; have HB4 := Lib.hid hb4; clear hb4)
    | (go_at_call 41; (with_reducible refine HLG.out.mono ?_); rintro e w3 ⟨r, rfl, hsm, hb3⟩; have HSM := Lib.hid hsm; have HB3 := Lib.hid hb3; clear hsm hb3; cases r))
  · have HS := Lib.hid (HSM.out trivial)
    have HL4 := Lib.hid ((HI.out.step' HB3.out).step' HB4.out)
    clear HSM HB3 HB4 HI HLG
    have ha := HL4.out.a
    have hc := HL4.out.c
    have hc0 : w4.cell? ⟨b, 0, none⟩ = some (.int .u8 (t.k : Int)) := (cell_of_row w4 b 0 _ _ _ ha).trans rfl
    have hd0 : w4.cell? ⟨b + 1, 0, none⟩ = some (.int .u8 (o.k : Int)) := (cell_of_row w4 (b + 1) 0 _ _ _ hc).trans rfl
    have hf0 := frozen_of_row w4 (b + 1) 0 _ _ hc
    clear ha hc
    go_upto_region 4 with fail
    have HL5 := Lib.hid (HL4.out.kind (k := t.k) (by rw [HBS.out]; exact Nat.le_succ b))
    clear hc0 hd0 hf0 HL4
    generalize w4.setCell ⟨b + 1, 0, none⟩ (.int .u8 (t.k : Int)) = w5 at *
    have hp : ({ o with k := t.k } : Th).Ok := ⟨ht.k, ho.n, ho.z, ho.m, ho.s, ho.len⟩
    have hpk : ({ o with k := t.k } : Th).k = t.k := rfl
    have hrp : Rd W ({ o with k := t.k } : Th).ao ({ o with k := t.k } : Th).len ({ o with k := t.k } : Th).z := hro
    have HPS : Hid (({ o with k := t.k } : Th).s.length = o.s.length) := Lib.hid rfl
    generalize ({ o with k := t.k } : Th) = p at *
    have HPK := Lib.hid hpk
    clear hpk
    have hc0 : w5.cell? ⟨b, 0, none⟩ = some (.int .u8 (t.k : Int)) := (cell_of_row w5 b 0 _ _ _ HL5.out.a).trans rfl
    go_upto_region 5 with fail
    clear hc0
    have hsl : t.s.length < 9000 := by have := HS.out.1; omega
    have hpl : p.s.length < 9000 := by have := HS.out.2; have := HPS.out; omega
    have hS5 : LB W b t p w5.drew := HL5.out.step' (Below.drawn (Below.refl _ _) 1)
    refine RK.region (LB W b t p) 13 (by kernel_rfl) ?_
    have hmk := run_made8 t.s.length (by omega) w5.drew
    have hMB := MineB.made w5.drew t.s.length
    have htx := hMB.text (List.replicate t.s.length 0) t.s.length (by simp) (fun k hk => by simp [List.getD_eq_getElem?_getD, hk])
    have hS6 := hS5.step' hMB.below
    have hzl : (List.replicate t.s.length (0 : UInt8)).length = t.s.length := by simp
    generalize List.replicate t.s.length (0 : UInt8) = zs at *
    have had := add_str p.s zs (by omega) (by omega) (w5.drew.alloc (.cells (madeCells #[.int .u8 0] t.s.length) 5))
    have hll : t.s.length ≤ (p.s ++ zs).length := by simp; omega
    have hql : ((p.s ++ zs).take t.s.length).length = t.s.length := by rw [List.length_take]; omega
    generalize w5.drew = wd at *
    generalize wd.alloc (.cells (madeCells #[.int .u8 0] t.s.length) 5) = w6 at *
    clear hMB
    generalize p.s ++ zs = l at *
    have hx1 : (⟨l.toArray⟩ : ByteArray).extract 0 t.s.length = ⟨(l.take t.s.length).toArray⟩ := by rw [ByteArray.extract_mk]; simp
    generalize l.take t.s.length = q at *
    have hlli : (t.s.length : Int) ≤ (l.length : Int) := by omega
    refine RK.Any.take 0 24 (.pointer (some ⟨b + 1, 2, none⟩)) rfl rfl (by kernel_rfl) (by kernel_rfl) (by kernel_rfl) (by kernel_rfl) (fun _ _ _ h => h) (by rfl) (fun W' hb => ?_) hS5 ?_
    · go_simp
    simp only [List.setIfInBounds_toArray, List.set_cons_zero, List.set_cons_succ]
    refine RK.Any.take 1 25 (.string ⟨p.s.toArray⟩) rfl rfl (by kernel_rfl) (by kernel_rfl) (by kernel_rfl) (by kernel_rfl) (fun _ _ _ h => h) (by rfl) (fun W' hb => ?_) hS5 ?_
    · (have hc : W'.cell? ⟨b + 1, 2, none⟩ = some (.string ⟨p.s.toArray⟩) := (cell_of_row W' (b + 1) 2 _ _ _ hb.c).trans rfl; go_simp)
    simp only [List.setIfInBounds_toArray, List.set_cons_zero, List.set_cons_succ]
    refine RK.Any.take 2 26 (.pointer (some ⟨b, 2, none⟩)) rfl rfl (by kernel_rfl) (by kernel_rfl) (by kernel_rfl) (by kernel_rfl) (fun _ _ _ h => h) (by rfl) (fun W' hb => ?_) hS5 ?_
    · go_simp
    simp only [List.setIfInBounds_toArray, List.set_cons_zero, List.set_cons_succ]
    refine RK.Any.take 3 27 (.string ⟨t.s.toArray⟩) rfl rfl (by kernel_rfl) (by kernel_rfl) (by kernel_rfl) (by kernel_rfl) (fun _ _ _ h => h) (by rfl) (fun W' hb => ?_) hS5 ?_
    · (have hc : W'.cell? ⟨b, 2, none⟩ = some (.string ⟨t.s.toArray⟩) := (cell_of_row W' b 2 _ _ _ hb.a).trans rfl; go_simp)
    simp only [List.setIfInBounds_toArray, List.set_cons_zero, List.set_cons_succ]
    refine RK.Any.take 4 28 (.int .i64 (t.s.length : Int)) rfl rfl (by kernel_rfl) (by kernel_rfl) (by kernel_rfl) (by kernel_rfl) (fun _ _ _ h => h) (by rfl) (fun W' hb => ?_) hS5 ?_
    · go_simp
    simp only [List.setIfInBounds_toArray, List.set_cons_zero, List.set_cons_succ]
    refine RK.Any.take 8 32 (.pointer (some ⟨b, 2, none⟩)) rfl rfl (by kernel_rfl) (by kernel_rfl) (by kernel_rfl) (by kernel_rfl) (fun _ _ _ h => h) (by rfl) (fun W' hb => ?_) hS5 ?_
    · go_simp
    simp only [List.setIfInBounds_toArray, List.set_cons_zero, List.set_cons_succ]
    refine RK.Any.take 9 33 (.string ⟨t.s.toArray⟩) rfl rfl (by kernel_rfl) (by kernel_rfl) (by kernel_rfl) (by kernel_rfl) (fun _ _ _ h => h) (by rfl) (fun W' hb => ?_) hS5 ?_
    · (have hc : W'.cell? ⟨b, 2, none⟩ = some (.string ⟨t.s.toArray⟩) := (cell_of_row W' b 2 _ _ _ hb.a).trans rfl; go_simp)
    simp only [List.setIfInBounds_toArray, List.set_cons_zero, List.set_cons_succ]
    refine RK.Any.take 10 34 (.int .i64 (t.s.length : Int)) rfl rfl (by kernel_rfl) (by kernel_rfl) (by kernel_rfl) (by kernel_rfl) (fun _ _ _ h => h) (by rfl) (fun W' hb => ?_) hS5 ?_
    · go_simp
    simp only [List.setIfInBounds_toArray, List.set_cons_zero, List.set_cons_succ]
    refine RK.Any.exec 5 29 (.slice (some ⟨wd.heap.size, 0, none⟩) t.s.length t.s.length) (w1 := w6) (by kernel_rfl) rfl rfl (by rfl) (by go_simp) hS6 ?_
    simp only [List.setIfInBounds_toArray, List.set_cons_zero, List.set_cons_succ]
    refine RK.Any.exec 6 30 (.string ⟨zs.toArray⟩) (w1 := w6) (by kernel_rfl) rfl rfl (by rfl) (by go_simp) hS6 ?_
    simp only [List.setIfInBounds_toArray, List.set_cons_zero, List.set_cons_succ]
    refine RK.Any.exec 7 31 (.string ⟨l.toArray⟩) (w1 := w6) (by kernel_rfl) rfl rfl (by rfl) (by go_simp) hS6 ?_
    simp only [List.setIfInBounds_toArray, List.set_cons_zero, List.set_cons_succ]
    refine RK.Any.exec 11 35 (.string ⟨q.toArray⟩) (w1 := w6) (by kernel_rfl) rfl rfl (by rfl) (by go_simp) hS6 ?_
    simp only [List.setIfInBounds_toArray, List.set_cons_zero, List.set_cons_succ]
    refine RK.Any.exec 12 36 (.pointer (some ⟨b + 1, 2, none⟩)) (w1 := w6) (by kernel_rfl) rfl rfl (by rfl) (by go_simp) hS6 ?_
    simp only [List.setIfInBounds_toArray, List.set_cons_zero, List.set_cons_succ]
    have hst6 : w6.cell? ⟨b + 1, 2, none⟩ = some (.string ⟨p.s.toArray⟩) := (cell_of_row w6 (b + 1) 2 _ _ _ hS6.c).trans rfl
    have hfr6 := frozen_of_row w6 (b + 1) 2 _ _ hS6.c
    refine RK.Any.store 13 (w1 := w6.setCell ⟨b + 1, 2, none⟩ (.string ⟨q.toArray⟩)) (by kernel_rfl) rfl rfl (by rfl) (by go_simp) (fun h => absurd rfl h) ?_
    refine RK.Any.done (by kernel_rfl) ?_
    have HL7 := Lib.hid (hS6.text (by rw [HBS.out]; exact Nat.le_succ b) (q := q))
    clear hst6 hfr6 hS5 hS6 hmk htx had HL5
    generalize w6.setCell ⟨b + 1, 2, none⟩ (.string ⟨q.toArray⟩) = w7 at *
    have hp2 : ({ p with s := q } : Th).Ok := ⟨hp.k, hp.n, hp.z, hp.m, by show q.length ≤ _; omega, hp.len⟩
    have HPK2 : Hid (({ p with s := q } : Th).k = t.k) := Lib.hid HPK.out
    have HPL2 : Hid (({ p with s := q } : Th).s.length = t.s.length) := Lib.hid hql
    have hrp2 : Rd W ({ p with s := q } : Th).ao ({ p with s := q } : Th).len ({ p with s := q } : Th).z := hrp
    generalize ({ p with s := q } : Th) = r at *
    have hc0 : w7.cell? ⟨b, 0, none⟩ = some (.int .u8 (t.k : Int)) := (cell_of_row w7 b 0 _ _ _ HL7.out.a).trans rfl
    have HRT := Lib.hid hrt
    have HRP := Lib.hid hrp2
    have hP := fun (y : Th) (hy : y.Ok) (w : World) (hr : Rd w y.ao y.len y.z) => put_any y hy [] (by simp) w hr
    simp only [List.nil_append] at hP
    go_upto_region 8 with fail
    clear hc0 hrt hrp hrp2 hlli hx1 hql hll hzl
    by_cases h2 : t.s.length ≤ 2048
    · have HH2 := Lib.hid h2
      refine RK.region (LB W b t r) 100 (by kernel_rfl) ?_
      have hS0 : LB W b t r w7.drew := HL7.out.step' (Below.drawn (Below.refl _ _) 1)
      refine RK.Any.take 0 53 (.agg t.cells) rfl rfl (by kernel_rfl) (by kernel_rfl) (by kernel_rfl) (by kernel_rfl) (fun _ _ _ h => h) (by rfl) (fun W' hb => ?_) hS0 ?_
      · exact load_th hb.a rfl rfl rfl
      simp only [List.setIfInBounds_toArray, List.set_cons_zero, List.set_cons_succ]
      refine RK.Any.take 2 55 (.agg r.cells) rfl rfl (by kernel_rfl) (by kernel_rfl) (by kernel_rfl) (by kernel_rfl) (fun _ _ _ h => h) (by rfl) (fun W' hb => ?_) hS0 ?_
      · exact load_th hb.c rfl rfl rfl
      simp only [List.setIfInBounds_toArray, List.set_cons_zero, List.set_cons_succ]
      refine RK.Any.call 1 54 43 #[.agg t.cells, .string ⟨#[]⟩] (by kernel_rfl) rfl rfl (by rfl) (by go_simp) (Calls.mono (hP t ht _ (HRT.out.below (by exact hS0.below))) ?_)
      rintro e v6 ⟨rfl, hb6⟩
      have hS6 := hS0.step' hb6
      refine ⟨_, rfl, fun _ => hS6, ?_⟩
      simp only [List.setIfInBounds_toArray, List.set_cons_zero, List.set_cons_succ]
      refine RK.Any.call 3 56 43 #[.agg r.cells, .string ⟨#[]⟩] (by kernel_rfl) rfl rfl (by rfl) (by go_simp) (Calls.mono (hP r hp2 _ (HRP.out.below (by exact hS6.below))) ?_)
      rintro e v7 ⟨rfl, hb7⟩
      have hS7 := hS6.step' hb7
      refine ⟨_, rfl, fun _ => hS7, ?_⟩
      simp only [List.setIfInBounds_toArray, List.set_cons_zero, List.set_cons_succ]
      refine RK.Any.exec 4 5 (.string ⟨t.bytes.toArray⟩) (w1 := v7) (by kernel_rfl) rfl rfl (by rfl) (by go_simp) hS7 ?_
      simp only [List.setIfInBounds_toArray, List.set_cons_zero, List.set_cons_succ]
      refine RK.Any.exec 5 6 (.string ⟨r.bytes.toArray⟩) (w1 := v7) (by kernel_rfl) rfl rfl (by rfl) (by go_simp) hS7 ?_
      simp only [List.setIfInBounds_toArray, List.set_cons_zero, List.set_cons_succ]
      refine RK.Any.done (by kernel_rfl) ?_
      have HS7 := Lib.hid hS7
      clear hS0 hS6 hS7 hb6 hb7 HL7
      go_upto_region 9 with fail
      go_upto_region 11 with (first
        | (refine wpList_load_row rfl 45 _ rfl b rfl 45 t.cells (0, 0) _ HS7.out.a Try.underlying45 rfl info_th ?_)
        | (refine wpList_load_row rfl 45 _ rfl (b + 1) rfl 45 r.cells (0, 0) _ HS8.out.c Try.underlying45 rfl info_th ?_)
        | (refine wpList_load_row rfl 45 _ rfl b rfl 45 t.cells (0, 0) _ HS8.out.a Try.underlying45 rfl info_th ?_)
        | (go_at_call 42; (with_reducible refine (may_any t v7).mono ?_); rintro e w8 ⟨rfl, hb8⟩; have HS8 := Lib.hid (HS7.out.step' hb8); clear hb8; have hx8 := HS8.out.a; have hy8 := HS8.out.c; have hc8 : w8.cell? ⟨b, 0, none⟩ = some (.int .u8 (t.k : Int)) := (cell_of_row w8 b 0 _ _ _ hx8).trans rfl; have he0 : w8.cell? ⟨b + 1, 0, none⟩ = some (.int .u8 (r.k : Int)) := (cell_of_row w8 (b + 1) 0 _ _ _ hy8).trans rfl; have he1 : w8.cell? ⟨b + 1, 1, none⟩ = some (.int .u64 (r.n : Int)) := (cell_of_row w8 (b + 1) 1 _ _ _ hy8).trans rfl; have he2 : w8.cell? ⟨b + 1, 2, none⟩ = some (.string ⟨r.s.toArray⟩) := (cell_of_row w8 (b + 1) 2 _ _ _ hy8).trans rfl; have he3 : w8.cell? ⟨b + 1, 3, none⟩ = some (.slice r.ao r.len r.cap) := (cell_of_row w8 (b + 1) 3 _ _ _ hy8).trans rfl; have he4 : w8.cell? ⟨b + 1, 4, none⟩ = some (.int .i64 r.m) := (cell_of_row w8 (b + 1) 4 _ _ _ hy8).trans rfl; clear hx8 hy8; rcases hmt : t.may with _ | _)
        | (go_at_call 42; (with_reducible refine (may_any r w8).mono ?_); rintro e w9 ⟨rfl, hb9⟩; have HS9 := Lib.hid (HS8.out.step' hb9); clear hb9; clear hc8 he0 he1 he2 he3 he4; have hx9 := HS9.out.a; have hy9 := HS9.out.c; have hc9 : w9.cell? ⟨b, 0, none⟩ = some (.int .u8 (t.k : Int)) := (cell_of_row w9 b 0 _ _ _ hx9).trans rfl; have hn9 : w9.cell? ⟨b, 1, none⟩ = some (.int .u64 (t.n : Int)) := (cell_of_row w9 b 1 _ _ _ hx9).trans rfl; have hm9 : w9.cell? ⟨b + 1, 1, none⟩ = some (.int .u64 (r.n : Int)) := (cell_of_row w9 (b + 1) 1 _ _ _ hy9).trans rfl; have hs9 : w9.cell? ⟨b, 2, none⟩ = some (.string ⟨t.s.toArray⟩) := (cell_of_row w9 b 2 _ _ _ hx9).trans rfl; have hr9 : w9.cell? ⟨b + 1, 2, none⟩ = some (.string ⟨r.s.toArray⟩) := (cell_of_row w9 (b + 1) 2 _ _ _ hy9).trans rfl; clear hx9 hy9; rcases hmp : r.may with _ | _))
      · exfalso
        have hmf : t.may = true := by simp [Th.may, HK3.out, h2]
        rw [hmf] at hmt; cases hmt
      · exfalso
        have hmf : r.may = true := by simp [Th.may, HPK2.out, HK3.out, HPL2.out, h2]
        rw [hmf] at hmp; cases hmp
      · have hbt : t.bytes = MM.textB t.s := by unfold Th.bytes; rw [if_neg (by have := HK3.out; omega), if_pos HK3.out, if_pos h2]
        have hbp : r.bytes = MM.textB r.s := by unfold Th.bytes; rw [HPK2.out, if_neg (by have := HK3.out; omega), if_pos HK3.out, HPL2.out, if_pos h2]
        have HD := Lib.hid (MM.textB_same t.s r.s HPL2.out.symm)
        have hlb : (MM.textB r.s).length = (MM.textB t.s).length := by unfold MM.textB; simp [HPL2.out]
        rw [hbt, hbp]
        clear hbt hbp
        generalize MM.textB t.s = bt at *
        generalize MM.textB r.s = br at *
        go_wp2_with fail
        go_ret
        exact ⟨by rw [HD.out]; rfl, HS9.out.below⟩
    · have HH2 := Lib.hid h2
      refine RK.region (LB W b t r) 100 (by kernel_rfl) ?_
      have hS0 : LB W b t r w7.drew := HL7.out.step' (Below.drawn (Below.refl _ _) 1)
      refine RK.Any.take 0 53 (.agg t.cells) rfl rfl (by kernel_rfl) (by kernel_rfl) (by kernel_rfl) (by kernel_rfl) (fun _ _ _ h => h) (by rfl) (fun W' hb => ?_) hS0 ?_
      · exact load_th hb.a rfl rfl rfl
      simp only [List.setIfInBounds_toArray, List.set_cons_zero, List.set_cons_succ]
      refine RK.Any.take 2 55 (.agg r.cells) rfl rfl (by kernel_rfl) (by kernel_rfl) (by kernel_rfl) (by kernel_rfl) (fun _ _ _ h => h) (by rfl) (fun W' hb => ?_) hS0 ?_
      · exact load_th hb.c rfl rfl rfl
      simp only [List.setIfInBounds_toArray, List.set_cons_zero, List.set_cons_succ]
      refine RK.Any.call 1 54 43 #[.agg t.cells, .string ⟨#[]⟩] (by kernel_rfl) rfl rfl (by rfl) (by go_simp) (Calls.mono (hP t ht _ (HRT.out.below (by exact hS0.below))) ?_)
      rintro e v6 ⟨rfl, hb6⟩
      have hS6 := hS0.step' hb6
      refine ⟨_, rfl, fun _ => hS6, ?_⟩
      simp only [List.setIfInBounds_toArray, List.set_cons_zero, List.set_cons_succ]
      refine RK.Any.call 3 56 43 #[.agg r.cells, .string ⟨#[]⟩] (by kernel_rfl) rfl rfl (by rfl) (by go_simp) (Calls.mono (hP r hp2 _ (HRP.out.below (by exact hS6.below))) ?_)
      rintro e v7 ⟨rfl, hb7⟩
      have hS7 := hS6.step' hb7
      refine ⟨_, rfl, fun _ => hS7, ?_⟩
      simp only [List.setIfInBounds_toArray, List.set_cons_zero, List.set_cons_succ]
      refine RK.Any.exec 4 5 (.string ⟨t.bytes.toArray⟩) (w1 := v7) (by kernel_rfl) rfl rfl (by rfl) (by go_simp) hS7 ?_
      simp only [List.setIfInBounds_toArray, List.set_cons_zero, List.set_cons_succ]
      refine RK.Any.exec 5 6 (.string ⟨r.bytes.toArray⟩) (w1 := v7) (by kernel_rfl) rfl rfl (by rfl) (by go_simp) hS7 ?_
      simp only [List.setIfInBounds_toArray, List.set_cons_zero, List.set_cons_succ]
      refine RK.Any.done (by kernel_rfl) ?_
      have HS7 := Lib.hid hS7
      clear hS0 hS6 hS7 hb6 hb7 HL7
      have hbt : t.bytes = [] := by unfold Th.bytes; rw [if_neg (by have := HK3.out; omega), if_pos HK3.out, if_neg h2]
      rw [hbt]
      clear hbt
      go_upto_region 9 with fail
      go_upto_region 11 with (first
        | (refine wpList_load_row rfl 45 _ rfl b rfl 45 t.cells (0, 0) _ HS7.out.a Try.underlying45 rfl info_th ?_)
        | (refine wpList_load_row rfl 45 _ rfl (b + 1) rfl 45 r.cells (0, 0) _ HS8.out.c Try.underlying45 rfl info_th ?_)
        | (refine wpList_load_row rfl 45 _ rfl b rfl 45 t.cells (0, 0) _ HS8.out.a Try.underlying45 rfl info_th ?_)
        | (go_at_call 42; (with_reducible refine (may_any t v7).mono ?_); rintro e w8 ⟨rfl, hb8⟩; have HS8 := Lib.hid (HS7.out.step' hb8); clear hb8; have hx8 := HS8.out.a; have hy8 := HS8.out.c; have hc8 : w8.cell? ⟨b, 0, none⟩ = some (.int .u8 (t.k : Int)) := (cell_of_row w8 b 0 _ _ _ hx8).trans rfl; have he0 : w8.cell? ⟨b + 1, 0, none⟩ = some (.int .u8 (r.k : Int)) := (cell_of_row w8 (b + 1) 0 _ _ _ hy8).trans rfl; have he1 : w8.cell? ⟨b + 1, 1, none⟩ = some (.int .u64 (r.n : Int)) := (cell_of_row w8 (b + 1) 1 _ _ _ hy8).trans rfl; have he2 : w8.cell? ⟨b + 1, 2, none⟩ = some (.string ⟨r.s.toArray⟩) := (cell_of_row w8 (b + 1) 2 _ _ _ hy8).trans rfl; have he3 : w8.cell? ⟨b + 1, 3, none⟩ = some (.slice r.ao r.len r.cap) := (cell_of_row w8 (b + 1) 3 _ _ _ hy8).trans rfl; have he4 : w8.cell? ⟨b + 1, 4, none⟩ = some (.int .i64 r.m) := (cell_of_row w8 (b + 1) 4 _ _ _ hy8).trans rfl; clear hx8 hy8; rcases hmt : t.may with _ | _)
        | (go_at_call 42; (with_reducible refine (may_any r w8).mono ?_); rintro e w9 ⟨rfl, hb9⟩; have HS9 := Lib.hid (HS8.out.step' hb9); clear hb9; clear hc8 he0 he1 he2 he3 he4; have hx9 := HS9.out.a; have hy9 := HS9.out.c; have hc9 : w9.cell? ⟨b, 0, none⟩ = some (.int .u8 (t.k : Int)) := (cell_of_row w9 b 0 _ _ _ hx9).trans rfl; have hn9 : w9.cell? ⟨b, 1, none⟩ = some (.int .u64 (t.n : Int)) := (cell_of_row w9 b 1 _ _ _ hx9).trans rfl; have hm9 : w9.cell? ⟨b + 1, 1, none⟩ = some (.int .u64 (r.n : Int)) := (cell_of_row w9 (b + 1) 1 _ _ _ hy9).trans rfl; have hs9 : w9.cell? ⟨b, 2, none⟩ = some (.string ⟨t.s.toArray⟩) := (cell_of_row w9 b 2 _ _ _ hx9).trans rfl; have hr9 : w9.cell? ⟨b + 1, 2, none⟩ = some (.string ⟨r.s.toArray⟩) := (cell_of_row w9 (b + 1) 2 _ _ _ hy9).trans rfl; clear hx9 hy9; rcases hmp : r.may with _ | _))
      · go_ret
        exact ⟨rfl, HS8.out.below⟩
      all_goals (exfalso; have hmf : t.may = false := by simp [Th.may, HK3.out, h2]
                 rw [hmf] at hmt; cases hmt)
  · go_ret
    exact ⟨rfl, ((HI.out.step' HB3.out).step' HB4.out).below⟩
end M
end Go.Proofs.Ytaijnejbffnfpaa

/- The texts WirGot, one behind the other. -/
import Derived.Test.YtaijnejbffnfpaaWB8
import Derived.Laws.Tables
import Derived.Deep.WholeRow
/- What reads a thing where one of its kind stands. -/
namespace Go.Proofs.Ytaijnejbffnfpaa
open Go Go.RowKit Go.Lib
namespace M
/-- The three boxes of a call: the thing that came in, the result, the thing that is made. -/
structure GB (b : Nat) (k : Value) (tc : Array Value) (w : World) : Prop where
  a : w.heap[b]? = some (.cells tc 45 (0, 0))
  z : w.heap[b + 1]? = some (.cells #[.int .u8 0, .int .u64 0, .string ⟨#[]⟩, .slice none 0 0, .int .i64 0] 45 (0, 0))
  x : w.heap[b + 1 + 1]? = some (.cells #[k, .int .u64 0, .string ⟨#[]⟩, .slice none 0 0, .int .i64 0] 45 (0, 0))
theorem GB.turn {b g : Nat} {k : Value} {tc : Array Value} {w w' : World} (h : GB b k tc w) (ht : Turn g w w') (hg : g < b) : GB b k tc w' :=
  ⟨(ht.block _ (row_lt h.a) (by omega)).trans h.a, (ht.block _ (row_lt h.z) (by omega)).trans h.z, (ht.block _ (row_lt h.x) (by omega)).trans h.x⟩
theorem GB.made (W : World) (k : Value) (tc : Array Value) : GB W.heap.size k tc (((W.alloc (.cells tc 45)).alloc (.cells #[.int .u8 0, .int .u64 0, .string ⟨#[]⟩, .slice none 0 0, .int .i64 0] 45)).alloc (.cells #[k, .int .u64 0, .string ⟨#[]⟩, .slice none 0 0, .int .i64 0] 45)) := by
  refine ⟨?_, ?_, ?_⟩
  · rw [Lib.alloc_old _ _ _ (by simp; omega), heap_alloc2_old]
  · have := heap_alloc_new (W.alloc (.cells tc 45)) (.cells #[.int .u8 0, .int .u64 0, .string ⟨#[]⟩, .slice none 0 0, .int .i64 0] 45)
    rw [Lib.alloc_old _ _ _ (by simp)]
    simpa using this
  · have := heap_alloc_new ((W.alloc (.cells tc 45)).alloc (.cells #[.int .u8 0, .int .u64 0, .string ⟨#[]⟩, .slice none 0 0, .int .i64 0] 45)) (.cells #[k, .int .u64 0, .string ⟨#[]⟩, .slice none 0 0, .int .i64 0] 45)
    simpa using this
theorem below_box3 (W : World) (A B C : Obj) : Below W.heap.size W (((W.alloc A).alloc B).alloc C) := (((below_box W A).alloc (by simp) B).alloc (by simp; omega) C)
theorem setRow_turn {g b : Nat} {a w : World} (h : Turn g a w) (hb : a.heap.size ≤ b) (cs : Array Value) : Turn g a (w.setRow b cs) :=
  ⟨h.os, h.tape, h.output, by simpa [World.setRow] using h.size, fun k hk hg => (show (w.setRow b cs).heap[k]? = w.heap[k]? by
    simp only [World.setRow, Array.getElem?_modify]
    rw [if_neg (by omega)]).trans (h.block k hk hg)⟩
theorem setRow_other (w : World) (b k : Nat) (cs : Array Value) (h : k ≠ b) : (w.setRow b cs).heap[k]? = w.heap[k]? := by
  simp only [World.setRow, Array.getElem?_modify]
  rw [if_neg (fun e => h e.symm)]
theorem info_th : (Try.prog.info? 45).map (·.size) = some 5 := by kernel_rfl
theorem rOff_lt64 (n : Nat) (s : List UInt8) (hn : n ≤ 8 := by omega) : (MM.rOff n s 0).1 < 18446744073709551616 := by
  refine Nat.lt_of_lt_of_le (rOff_lt n s 0) ?_
  exact Nat.le_trans (Nat.pow_le_pow_right (by omega) hn) (by decide)
theorem rCount_lt (m : Int) (s : List UInt8) : (MM.rCount m s 0).1 < 18446744073709551616 := by
  unfold MM.rCount
  split
  · simp
  · split
    · simp
    · split
      · simp
      · refine Nat.lt_of_lt_of_le (MM.val_lt 8 _ (by simp; omega)) (by decide)
set_option maxHeartbeats 4000000 in
set_option maxRecDepth 100000 in
theorem got_1 (n : Nat) (s : List UInt8) (ao : Option Addr) (len cap : Nat) (m : Int) (g : Nat) (x : List UInt8) (W : World) (h : RAt WR g x 0 W) :
    Calls Try.prog 21 #[.agg #[.int .u8 1, .int .u64 (n : Int), .string ⟨s.toArray⟩, .slice ao len cap, .int .i64 m], .pointer (some ⟨g, 0, none⟩)] W fun e w' => e = .returned (.tuple #[.agg #[.int .u8 1, .int .u64 (((MM.rOff 8 x 0).1 : Nat) : Int), .string ⟨#[]⟩, .slice none 0 0, .int .i64 0], .int .i64 (MM.rOff 8 x 0).2.1]) ∧ RAt WR g (MM.rOff 8 x 0).2.2 (MM.rOff 8 x 0).2.1 w' ∧ Turn g W w' := by
  have HW : Hid (Below W.heap.size W (((W.alloc (.cells #[.int .u8 1, .int .u64 (n : Int), .string ⟨s.toArray⟩, .slice ao len cap, .int .i64 m] 45)).alloc (.cells #[.int .u8 0, .int .u64 0, .string ⟨#[]⟩, .slice none 0 0, .int .i64 0] 45)).alloc (.cells #[.int .u8 1, .int .u64 0, .string ⟨#[]⟩, .slice none 0 0, .int .i64 0] 45))) := Lib.hid (below_box3 _ _ _ _)
  have HG : Hid (GB W.heap.size (.int .u8 1) #[.int .u8 1, .int .u64 (n : Int), .string ⟨s.toArray⟩, .slice ao len cap, .int .i64 m] (((W.alloc (.cells #[.int .u8 1, .int .u64 (n : Int), .string ⟨s.toArray⟩, .slice ao len cap, .int .i64 m] 45)).alloc (.cells #[.int .u8 0, .int .u64 0, .string ⟨#[]⟩, .slice none 0 0, .int .i64 0] 45)).alloc (.cells #[.int .u8 1, .int .u64 0, .string ⟨#[]⟩, .slice none 0 0, .int .i64 0] 45))) := Lib.hid (GB.made _ _ _)
  have HGL := Lib.hid h.lt
  have HR := Lib.hid h
  clear h
  have HA := fun w (h : RAt WR g x 0 w) => num_ask g x 0 w h
  have HLT := Lib.hid ((show (MM.rOff 8 x 0).1 < 18446744073709551616 from rOff_lt64 _ _))
  generalize MM.rOff 8 x 0 = r at *
  obtain ⟨rv, re, rs⟩ := r
  simp only at HA HLT ⊢
  go_enter Try.func21, Try.ntmps21
  go_upto_region 2 with fail
  generalize (((W.alloc (.cells #[.int .u8 1, .int .u64 (n : Int), .string ⟨s.toArray⟩, .slice ao len cap, .int .i64 m] 45)).alloc (.cells #[.int .u8 0, .int .u64 0, .string ⟨#[]⟩, .slice none 0 0, .int .i64 0] 45)).alloc (.cells #[.int .u8 1, .int .u64 0, .string ⟨#[]⟩, .slice none 0 0, .int .i64 0] 45)) = w3 at *
  generalize hbs : W.heap.size = b at *
  have HBW : Hid (W.heap.size = b) := Lib.hid hbs
  clear hbs
  have HR3 : Hid (RAt WR g x 0 w3) := Lib.hid (HR.out.step (by rw [HBW.out]; exact HW.out))
  have HT3 : Hid (Turn g W w3) := Lib.hid (Turn.of (by rw [HBW.out]; exact HW.out))
  have hk3 : w3.cell? ⟨b, 0, none⟩ = some (.int .u8 1) := (cell_of_row w3 b 0 _ _ _ HG.out.a).trans rfl
  go_upto_region 21 with (go_at_call 11; ((with_reducible refine (HA _ HR3.out).mono ?_); rintro e9 w4 ⟨rfl, hr4, ht4⟩; have HR4 := Lib.hid hr4; have HG4 := Lib.hid (HG.out.turn ht4 HGL.out); have HT4 := Lib.hid (HT3.out.trans ht4); clear hr4 ht4; have hxc := HG4.out.x; have hc4 : w4.cell? ⟨b + 1 + 1, 1, none⟩ = some (.int .u64 0) := (cell_of_row w4 (b + 1 + 1) 1 _ _ _ hxc).trans rfl; have hf4 := frozen_of_row w4 (b + 1 + 1) 1 _ _ hxc; clear hxc))
  have hx5 : (w4.setCell ⟨b + 1 + 1, 1, none⟩ (.int .u64 (rv : Int))).heap[b + 1 + 1]? = some (.cells #[.int .u8 1, .int .u64 (rv : Int), .string ⟨#[]⟩, .slice none 0 0, .int .i64 0] 45 (0, 0)) := heap_setCell_same w4 (b + 1 + 1) 1 _ _ _ HG4.out.x
  have hz5 : (w4.setCell ⟨b + 1 + 1, 1, none⟩ (.int .u64 (rv : Int))).heap[b + 1]? = some (.cells #[.int .u8 0, .int .u64 0, .string ⟨#[]⟩, .slice none 0 0, .int .i64 0] 45 (0, 0)) := (Below.heap_setCell w4 ⟨b + 1 + 1, 1, none⟩ _ (b + 1) (by simp)).trans HG4.out.z
  have hr5 : RAt WR g rs re (w4.setCell ⟨b + 1 + 1, 1, none⟩ (.int .u64 (rv : Int))) := (Below.heap_setCell w4 ⟨b + 1 + 1, 1, none⟩ _ g (by have := HGL.out; simp; omega)).trans HR4.out
  have ht5 : Turn g W (w4.setCell ⟨b + 1 + 1, 1, none⟩ (.int .u64 (rv : Int))) := HT4.out.setNew (by have := HBW.out; omega) 1 _
  have HX5 := Lib.hid hx5
  have HZ5 := Lib.hid hz5
  have HR5 := Lib.hid hr5
  have HT5 := Lib.hid ht5
  clear hx5 hz5 hr5 ht5
  have h1c : (#[.int .u8 1, .int .u64 (rv : Int), .string ⟨#[]⟩, .slice none 0 0, .int .i64 0] : Array Value).all (·.oneCell') = true := by simp [Value.oneCell']
  have H1C := Lib.hid h1c
  clear h1c
  go_wp2_with (first
    | (refine wpList_load_row rfl 45 _ rfl (b + 1 + 1) rfl 45 #[.int .u8 1, .int .u64 (rv : Int), .string ⟨#[]⟩, .slice none 0 0, .int .i64 0] (0, 0) _ HX5.out Try.underlying45 rfl info_th ?_)
    | (refine wpList_store_row rfl 45 _ _ rfl (b + 1) #[.int .u8 1, .int .u64 (rv : Int), .string ⟨#[]⟩, .slice none 0 0, .int .i64 0] rfl rfl 45 _ HZ5.out info_th rfl H1C.out ?_))
  have hz6 : ((w4.setCell ⟨b + 1 + 1, 1, none⟩ (.int .u64 (rv : Int))).setRow (b + 1) #[.int .u8 1, .int .u64 (rv : Int), .string ⟨#[]⟩, .slice none 0 0, .int .i64 0]).heap[b + 1]? = some (.cells #[.int .u8 1, .int .u64 (rv : Int), .string ⟨#[]⟩, .slice none 0 0, .int .i64 0] 45 (0, 0)) := setRow_heap _ _ _ _ _ _ HZ5.out
  have hl6 := run_loadVar_row (P := Try.prog) _ _ _ 45 _ _ _ hz6 Try.underlying45 rfl info_th
  refine bodyPost_ret (v := .tuple #[.agg #[.int .u8 1, .int .u64 (rv : Int), .string ⟨#[]⟩, .slice none 0 0, .int .i64 0], .int .i64 re]) ?_ ?_ ?_
  · simp [results, Try.results21, asAddr, hl6]
  · rfl
  exact ⟨rfl, (setRow_other _ _ _ _ (by have := HGL.out; omega)).trans HR5.out, setRow_turn HT5.out (by have := HBW.out; omega) _⟩
set_option maxHeartbeats 4000000 in
set_option maxRecDepth 100000 in
theorem got_0 (n : Nat) (s : List UInt8) (ao : Option Addr) (len cap : Nat) (m : Int) (g : Nat) (x : List UInt8) (W : World) (h : RAt WR g x 0 W) :
    Calls Try.prog 21 #[.agg #[.int .u8 0, .int .u64 (n : Int), .string ⟨s.toArray⟩, .slice ao len cap, .int .i64 m], .pointer (some ⟨g, 0, none⟩)] W fun e w' => e = .returned (.tuple #[.agg #[.int .u8 0, .int .u64 (((MM.rOff 1 x 0).1 : Nat) : Int), .string ⟨#[]⟩, .slice none 0 0, .int .i64 0], .int .i64 (MM.rOff 1 x 0).2.1]) ∧ RAt WR g (MM.rOff 1 x 0).2.2 (MM.rOff 1 x 0).2.1 w' ∧ Turn g W w' := by
  have HW : Hid (Below W.heap.size W (((W.alloc (.cells #[.int .u8 0, .int .u64 (n : Int), .string ⟨s.toArray⟩, .slice ao len cap, .int .i64 m] 45)).alloc (.cells #[.int .u8 0, .int .u64 0, .string ⟨#[]⟩, .slice none 0 0, .int .i64 0] 45)).alloc (.cells #[.int .u8 0, .int .u64 0, .string ⟨#[]⟩, .slice none 0 0, .int .i64 0] 45))) := Lib.hid (below_box3 _ _ _ _)
  have HG : Hid (GB W.heap.size (.int .u8 0) #[.int .u8 0, .int .u64 (n : Int), .string ⟨s.toArray⟩, .slice ao len cap, .int .i64 m] (((W.alloc (.cells #[.int .u8 0, .int .u64 (n : Int), .string ⟨s.toArray⟩, .slice ao len cap, .int .i64 m] 45)).alloc (.cells #[.int .u8 0, .int .u64 0, .string ⟨#[]⟩, .slice none 0 0, .int .i64 0] 45)).alloc (.cells #[.int .u8 0, .int .u64 0, .string ⟨#[]⟩, .slice none 0 0, .int .i64 0] 45))) := Lib.hid (GB.made _ _ _)
  have HGL := Lib.hid h.lt
  have HR := Lib.hid h
  clear h
  have HA := fun w (h : RAt WR g x 0 w) => byte_ask g x 0 w h
  have HLT := Lib.hid ((show (MM.rOff 1 x 0).1 < 18446744073709551616 from rOff_lt64 _ _))
  generalize MM.rOff 1 x 0 = r at *
  obtain ⟨rv, re, rs⟩ := r
  simp only at HA HLT ⊢
  have hcv : IntKind.u64.wrap (rv : Int) = (rv : Int) := by have := HLT.out; simp [IntKind.wrap, IntKind.bits, IntKind.signed]; omega
  go_enter Try.func21, Try.ntmps21
  go_upto_region 2 with fail
  generalize (((W.alloc (.cells #[.int .u8 0, .int .u64 (n : Int), .string ⟨s.toArray⟩, .slice ao len cap, .int .i64 m] 45)).alloc (.cells #[.int .u8 0, .int .u64 0, .string ⟨#[]⟩, .slice none 0 0, .int .i64 0] 45)).alloc (.cells #[.int .u8 0, .int .u64 0, .string ⟨#[]⟩, .slice none 0 0, .int .i64 0] 45)) = w3 at *
  generalize hbs : W.heap.size = b at *
  have HBW : Hid (W.heap.size = b) := Lib.hid hbs
  clear hbs
  have HR3 : Hid (RAt WR g x 0 w3) := Lib.hid (HR.out.step (by rw [HBW.out]; exact HW.out))
  have HT3 : Hid (Turn g W w3) := Lib.hid (Turn.of (by rw [HBW.out]; exact HW.out))
  have hk3 : w3.cell? ⟨b, 0, none⟩ = some (.int .u8 0) := (cell_of_row w3 b 0 _ _ _ HG.out.a).trans rfl
  go_upto_region 21 with (go_at_call 10; ((with_reducible refine (HA _ HR3.out).mono ?_); rintro e9 w4 ⟨rfl, hr4, ht4⟩; have HR4 := Lib.hid hr4; have HG4 := Lib.hid (HG.out.turn ht4 HGL.out); have HT4 := Lib.hid (HT3.out.trans ht4); clear hr4 ht4; have hxc := HG4.out.x; have hc4 : w4.cell? ⟨b + 1 + 1, 1, none⟩ = some (.int .u64 0) := (cell_of_row w4 (b + 1 + 1) 1 _ _ _ hxc).trans rfl; have hf4 := frozen_of_row w4 (b + 1 + 1) 1 _ _ hxc; clear hxc))
  have hx5 : (w4.setCell ⟨b + 1 + 1, 1, none⟩ (.int .u64 (rv : Int))).heap[b + 1 + 1]? = some (.cells #[.int .u8 0, .int .u64 (rv : Int), .string ⟨#[]⟩, .slice none 0 0, .int .i64 0] 45 (0, 0)) := heap_setCell_same w4 (b + 1 + 1) 1 _ _ _ HG4.out.x
  have hz5 : (w4.setCell ⟨b + 1 + 1, 1, none⟩ (.int .u64 (rv : Int))).heap[b + 1]? = some (.cells #[.int .u8 0, .int .u64 0, .string ⟨#[]⟩, .slice none 0 0, .int .i64 0] 45 (0, 0)) := (Below.heap_setCell w4 ⟨b + 1 + 1, 1, none⟩ _ (b + 1) (by simp)).trans HG4.out.z
  have hr5 : RAt WR g rs re (w4.setCell ⟨b + 1 + 1, 1, none⟩ (.int .u64 (rv : Int))) := (Below.heap_setCell w4 ⟨b + 1 + 1, 1, none⟩ _ g (by have := HGL.out; simp; omega)).trans HR4.out
  have ht5 : Turn g W (w4.setCell ⟨b + 1 + 1, 1, none⟩ (.int .u64 (rv : Int))) := HT4.out.setNew (by have := HBW.out; omega) 1 _
  have HX5 := Lib.hid hx5
  have HZ5 := Lib.hid hz5
  have HR5 := Lib.hid hr5
  have HT5 := Lib.hid ht5
  clear hx5 hz5 hr5 ht5
  have h1c : (#[.int .u8 0, .int .u64 (rv : Int), .string ⟨#[]⟩, .slice none 0 0, .int .i64 0] : Array Value).all (·.oneCell') = true := by simp [Value.oneCell']
  have H1C := Lib.hid h1c
  clear h1c
  go_wp2_with (first
    | (refine wpList_load_row rfl 45 _ rfl (b + 1 + 1) rfl 45 #[.int .u8 0, .int .u64 (rv : Int), .string ⟨#[]⟩, .slice none 0 0, .int .i64 0] (0, 0) _ HX5.out Try.underlying45 rfl info_th ?_)
    | (refine wpList_store_row rfl 45 _ _ rfl (b + 1) #[.int .u8 0, .int .u64 (rv : Int), .string ⟨#[]⟩, .slice none 0 0, .int .i64 0] rfl rfl 45 _ HZ5.out info_th rfl H1C.out ?_))
  have hz6 : ((w4.setCell ⟨b + 1 + 1, 1, none⟩ (.int .u64 (rv : Int))).setRow (b + 1) #[.int .u8 0, .int .u64 (rv : Int), .string ⟨#[]⟩, .slice none 0 0, .int .i64 0]).heap[b + 1]? = some (.cells #[.int .u8 0, .int .u64 (rv : Int), .string ⟨#[]⟩, .slice none 0 0, .int .i64 0] 45 (0, 0)) := setRow_heap _ _ _ _ _ _ HZ5.out
  have hl6 := run_loadVar_row (P := Try.prog) _ _ _ 45 _ _ _ hz6 Try.underlying45 rfl info_th
  refine bodyPost_ret (v := .tuple #[.agg #[.int .u8 0, .int .u64 (rv : Int), .string ⟨#[]⟩, .slice none 0 0, .int .i64 0], .int .i64 re]) ?_ ?_ ?_
  · simp [results, Try.results21, asAddr, hl6]
  · rfl
  exact ⟨rfl, (setRow_other _ _ _ _ (by have := HGL.out; omega)).trans HR5.out, setRow_turn HT5.out (by have := HBW.out; omega) _⟩
set_option maxHeartbeats 4000000 in
set_option maxRecDepth 100000 in
theorem got_2 (n : Nat) (s : List UInt8) (ao : Option Addr) (len cap : Nat) (m : Int) (g : Nat) (x : List UInt8) (W : World) (h : RAt WR g x 0 W) :
    Calls Try.prog 21 #[.agg #[.int .u8 2, .int .u64 (n : Int), .string ⟨s.toArray⟩, .slice ao len cap, .int .i64 m], .pointer (some ⟨g, 0, none⟩)] W fun e w' => e = .returned (.tuple #[.agg #[.int .u8 2, .int .u64 (((MM.rOff 8 x 0).1 : Nat) : Int), .string ⟨#[]⟩, .slice none 0 0, .int .i64 0], .int .i64 (MM.rOff 8 x 0).2.1]) ∧ RAt WR g (MM.rOff 8 x 0).2.2 (MM.rOff 8 x 0).2.1 w' ∧ Turn g W w' := by
  have HW : Hid (Below W.heap.size W (((W.alloc (.cells #[.int .u8 2, .int .u64 (n : Int), .string ⟨s.toArray⟩, .slice ao len cap, .int .i64 m] 45)).alloc (.cells #[.int .u8 0, .int .u64 0, .string ⟨#[]⟩, .slice none 0 0, .int .i64 0] 45)).alloc (.cells #[.int .u8 2, .int .u64 0, .string ⟨#[]⟩, .slice none 0 0, .int .i64 0] 45))) := Lib.hid (below_box3 _ _ _ _)
  have HG : Hid (GB W.heap.size (.int .u8 2) #[.int .u8 2, .int .u64 (n : Int), .string ⟨s.toArray⟩, .slice ao len cap, .int .i64 m] (((W.alloc (.cells #[.int .u8 2, .int .u64 (n : Int), .string ⟨s.toArray⟩, .slice ao len cap, .int .i64 m] 45)).alloc (.cells #[.int .u8 0, .int .u64 0, .string ⟨#[]⟩, .slice none 0 0, .int .i64 0] 45)).alloc (.cells #[.int .u8 2, .int .u64 0, .string ⟨#[]⟩, .slice none 0 0, .int .i64 0] 45))) := Lib.hid (GB.made _ _ _)
  have HGL := Lib.hid h.lt
  have HR := Lib.hid h
  clear h
  have HA := fun w (h : RAt WR g x 0 w) => int_ask g x 0 w h
  have HLT := Lib.hid ((show (MM.rOff 8 x 0).1 < 18446744073709551616 from rOff_lt64 _ _))
  generalize MM.rOff 8 x 0 = r at *
  obtain ⟨rv, re, rs⟩ := r
  simp only at HA HLT ⊢
  have hcv : IntKind.u64.wrap (MM.i64 rv) = (rv : Int) := by rw [MM.wrap_u64, u64_i64 rv HLT.out]
  go_enter Try.func21, Try.ntmps21
  go_upto_region 2 with fail
  generalize (((W.alloc (.cells #[.int .u8 2, .int .u64 (n : Int), .string ⟨s.toArray⟩, .slice ao len cap, .int .i64 m] 45)).alloc (.cells #[.int .u8 0, .int .u64 0, .string ⟨#[]⟩, .slice none 0 0, .int .i64 0] 45)).alloc (.cells #[.int .u8 2, .int .u64 0, .string ⟨#[]⟩, .slice none 0 0, .int .i64 0] 45)) = w3 at *
  generalize hbs : W.heap.size = b at *
  have HBW : Hid (W.heap.size = b) := Lib.hid hbs
  clear hbs
  have HR3 : Hid (RAt WR g x 0 w3) := Lib.hid (HR.out.step (by rw [HBW.out]; exact HW.out))
  have HT3 : Hid (Turn g W w3) := Lib.hid (Turn.of (by rw [HBW.out]; exact HW.out))
  have hk3 : w3.cell? ⟨b, 0, none⟩ = some (.int .u8 2) := (cell_of_row w3 b 0 _ _ _ HG.out.a).trans rfl
  go_upto_region 21 with (go_at_call 12; ((with_reducible refine (HA _ HR3.out).mono ?_); rintro e9 w4 ⟨rfl, hr4, ht4⟩; have HR4 := Lib.hid hr4; have HG4 := Lib.hid (HG.out.turn ht4 HGL.out); have HT4 := Lib.hid (HT3.out.trans ht4); clear hr4 ht4; have hxc := HG4.out.x; have hc4 : w4.cell? ⟨b + 1 + 1, 1, none⟩ = some (.int .u64 0) := (cell_of_row w4 (b + 1 + 1) 1 _ _ _ hxc).trans rfl; have hf4 := frozen_of_row w4 (b + 1 + 1) 1 _ _ hxc; clear hxc))
  have hx5 : (w4.setCell ⟨b + 1 + 1, 1, none⟩ (.int .u64 (rv : Int))).heap[b + 1 + 1]? = some (.cells #[.int .u8 2, .int .u64 (rv : Int), .string ⟨#[]⟩, .slice none 0 0, .int .i64 0] 45 (0, 0)) := heap_setCell_same w4 (b + 1 + 1) 1 _ _ _ HG4.out.x
  have hz5 : (w4.setCell ⟨b + 1 + 1, 1, none⟩ (.int .u64 (rv : Int))).heap[b + 1]? = some (.cells #[.int .u8 0, .int .u64 0, .string ⟨#[]⟩, .slice none 0 0, .int .i64 0] 45 (0, 0)) := (Below.heap_setCell w4 ⟨b + 1 + 1, 1, none⟩ _ (b + 1) (by simp)).trans HG4.out.z
  have hr5 : RAt WR g rs re (w4.setCell ⟨b + 1 + 1, 1, none⟩ (.int .u64 (rv : Int))) := (Below.heap_setCell w4 ⟨b + 1 + 1, 1, none⟩ _ g (by have := HGL.out; simp; omega)).trans HR4.out
  have ht5 : Turn g W (w4.setCell ⟨b + 1 + 1, 1, none⟩ (.int .u64 (rv : Int))) := HT4.out.setNew (by have := HBW.out; omega) 1 _
  have HX5 := Lib.hid hx5
  have HZ5 := Lib.hid hz5
  have HR5 := Lib.hid hr5
  have HT5 := Lib.hid ht5
  clear hx5 hz5 hr5 ht5
  have h1c : (#[.int .u8 2, .int .u64 (rv : Int), .string ⟨#[]⟩, .slice none 0 0, .int .i64 0] : Array Value).all (·.oneCell') = true := by simp [Value.oneCell']
  have H1C := Lib.hid h1c
  clear h1c
  go_wp2_with (first
    | (refine wpList_load_row rfl 45 _ rfl (b + 1 + 1) rfl 45 #[.int .u8 2, .int .u64 (rv : Int), .string ⟨#[]⟩, .slice none 0 0, .int .i64 0] (0, 0) _ HX5.out Try.underlying45 rfl info_th ?_)
    | (refine wpList_store_row rfl 45 _ _ rfl (b + 1) #[.int .u8 2, .int .u64 (rv : Int), .string ⟨#[]⟩, .slice none 0 0, .int .i64 0] rfl rfl 45 _ HZ5.out info_th rfl H1C.out ?_))
  have hz6 : ((w4.setCell ⟨b + 1 + 1, 1, none⟩ (.int .u64 (rv : Int))).setRow (b + 1) #[.int .u8 2, .int .u64 (rv : Int), .string ⟨#[]⟩, .slice none 0 0, .int .i64 0]).heap[b + 1]? = some (.cells #[.int .u8 2, .int .u64 (rv : Int), .string ⟨#[]⟩, .slice none 0 0, .int .i64 0] 45 (0, 0)) := setRow_heap _ _ _ _ _ _ HZ5.out
  have hl6 := run_loadVar_row (P := Try.prog) _ _ _ 45 _ _ _ hz6 Try.underlying45 rfl info_th
  refine bodyPost_ret (v := .tuple #[.agg #[.int .u8 2, .int .u64 (rv : Int), .string ⟨#[]⟩, .slice none 0 0, .int .i64 0], .int .i64 re]) ?_ ?_ ?_
  · simp [results, Try.results21, asAddr, hl6]
  · rfl
  exact ⟨rfl, (setRow_other _ _ _ _ (by have := HGL.out; omega)).trans HR5.out, setRow_turn HT5.out (by have := HBW.out; omega) _⟩
set_option maxHeartbeats 4000000 in
set_option maxRecDepth 100000 in
theorem got_5 (k n : Nat) (s : List UInt8) (ao : Option Addr) (len cap : Nat) (m : Int) (g : Nat) (x : List UInt8) (hk : 5 ≤ k) (W : World) (h : RAt WR g x 0 W) :
    Calls Try.prog 21 #[.agg #[.int .u8 (k : Int), .int .u64 (n : Int), .string ⟨s.toArray⟩, .slice ao len cap, .int .i64 m], .pointer (some ⟨g, 0, none⟩)] W fun e w' => e = .returned (.tuple #[.agg #[.int .u8 (k : Int), .int .u64 (((MM.rCount 4611686018427387904 x 0).1 : Nat) : Int), .string ⟨#[]⟩, .slice none 0 0, .int .i64 0], .int .i64 (MM.rCount 4611686018427387904 x 0).2.1]) ∧ RAt WR g (MM.rCount 4611686018427387904 x 0).2.2 (MM.rCount 4611686018427387904 x 0).2.1 w' ∧ Turn g W w' := by
  have HW : Hid (Below W.heap.size W (((W.alloc (.cells #[.int .u8 (k : Int), .int .u64 (n : Int), .string ⟨s.toArray⟩, .slice ao len cap, .int .i64 m] 45)).alloc (.cells #[.int .u8 0, .int .u64 0, .string ⟨#[]⟩, .slice none 0 0, .int .i64 0] 45)).alloc (.cells #[.int .u8 (k : Int), .int .u64 0, .string ⟨#[]⟩, .slice none 0 0, .int .i64 0] 45))) := Lib.hid (below_box3 _ _ _ _)
  have HG : Hid (GB W.heap.size (.int .u8 (k : Int)) #[.int .u8 (k : Int), .int .u64 (n : Int), .string ⟨s.toArray⟩, .slice ao len cap, .int .i64 m] (((W.alloc (.cells #[.int .u8 (k : Int), .int .u64 (n : Int), .string ⟨s.toArray⟩, .slice ao len cap, .int .i64 m] 45)).alloc (.cells #[.int .u8 0, .int .u64 0, .string ⟨#[]⟩, .slice none 0 0, .int .i64 0] 45)).alloc (.cells #[.int .u8 (k : Int), .int .u64 0, .string ⟨#[]⟩, .slice none 0 0, .int .i64 0] 45))) := Lib.hid (GB.made _ _ _)
  have HGL := Lib.hid h.lt
  have HR := Lib.hid h
  clear h
  have HA := fun w (h : RAt WR g x 0 w) => count_ask g x 0 4611686018427387904 (by omega) w h
  have HLT := Lib.hid ((show (MM.rCount 4611686018427387904 x 0).1 < 18446744073709551616 from rCount_lt _ _))
  generalize MM.rCount 4611686018427387904 x 0 = r at *
  obtain ⟨rv, re, rs⟩ := r
  simp only at HA HLT ⊢
  have hcv : IntKind.u64.wrap (rv : Int) = (rv : Int) := by have := HLT.out; simp [IntKind.wrap, IntKind.bits, IntKind.signed]; omega
  have g0 : ¬ (k : Int) = 0 := by omega
  have f0 : ¬ k = 0 := by omega
  have g1 : ¬ (k : Int) = 1 := by omega
  have f1 : ¬ k = 1 := by omega
  have g2 : ¬ (k : Int) = 2 := by omega
  have f2 : ¬ k = 2 := by omega
  have g3 : ¬ (k : Int) = 3 := by omega
  have f3 : ¬ k = 3 := by omega
  have g4 : ¬ (k : Int) = 4 := by omega
  have f4 : ¬ k = 4 := by omega
  go_enter Try.func21, Try.ntmps21
  go_upto_region 2 with fail
  generalize (((W.alloc (.cells #[.int .u8 (k : Int), .int .u64 (n : Int), .string ⟨s.toArray⟩, .slice ao len cap, .int .i64 m] 45)).alloc (.cells #[.int .u8 0, .int .u64 0, .string ⟨#[]⟩, .slice none 0 0, .int .i64 0] 45)).alloc (.cells #[.int .u8 (k : Int), .int .u64 0, .string ⟨#[]⟩, .slice none 0 0, .int .i64 0] 45)) = w3 at *
  generalize hbs : W.heap.size = b at *
  have HBW : Hid (W.heap.size = b) := Lib.hid hbs
  clear hbs
  have HR3 : Hid (RAt WR g x 0 w3) := Lib.hid (HR.out.step (by rw [HBW.out]; exact HW.out))
  have HT3 : Hid (Turn g W w3) := Lib.hid (Turn.of (by rw [HBW.out]; exact HW.out))
  have hk3 : w3.cell? ⟨b, 0, none⟩ = some (.int .u8 (k : Int)) := (cell_of_row w3 b 0 _ _ _ HG.out.a).trans rfl
  go_upto_region 21 with (go_at_call 13; ((with_reducible refine (HA _ HR3.out).mono ?_); rintro e9 w4 ⟨rfl, hr4, ht4⟩; have HR4 := Lib.hid hr4; have HG4 := Lib.hid (HG.out.turn ht4 HGL.out); have HT4 := Lib.hid (HT3.out.trans ht4); clear hr4 ht4; have hxc := HG4.out.x; have hc4 : w4.cell? ⟨b + 1 + 1, 1, none⟩ = some (.int .u64 0) := (cell_of_row w4 (b + 1 + 1) 1 _ _ _ hxc).trans rfl; have hf4 := frozen_of_row w4 (b + 1 + 1) 1 _ _ hxc; clear hxc))
  have hx5 : (w4.setCell ⟨b + 1 + 1, 1, none⟩ (.int .u64 (rv : Int))).heap[b + 1 + 1]? = some (.cells #[.int .u8 (k : Int), .int .u64 (rv : Int), .string ⟨#[]⟩, .slice none 0 0, .int .i64 0] 45 (0, 0)) := heap_setCell_same w4 (b + 1 + 1) 1 _ _ _ HG4.out.x
  have hz5 : (w4.setCell ⟨b + 1 + 1, 1, none⟩ (.int .u64 (rv : Int))).heap[b + 1]? = some (.cells #[.int .u8 0, .int .u64 0, .string ⟨#[]⟩, .slice none 0 0, .int .i64 0] 45 (0, 0)) := (Below.heap_setCell w4 ⟨b + 1 + 1, 1, none⟩ _ (b + 1) (by simp)).trans HG4.out.z
  have hr5 : RAt WR g rs re (w4.setCell ⟨b + 1 + 1, 1, none⟩ (.int .u64 (rv : Int))) := (Below.heap_setCell w4 ⟨b + 1 + 1, 1, none⟩ _ g (by have := HGL.out; simp; omega)).trans HR4.out
  have ht5 : Turn g W (w4.setCell ⟨b + 1 + 1, 1, none⟩ (.int .u64 (rv : Int))) := HT4.out.setNew (by have := HBW.out; omega) 1 _
  have HX5 := Lib.hid hx5
  have HZ5 := Lib.hid hz5
  have HR5 := Lib.hid hr5
  have HT5 := Lib.hid ht5
  clear hx5 hz5 hr5 ht5
  have h1c : (#[.int .u8 (k : Int), .int .u64 (rv : Int), .string ⟨#[]⟩, .slice none 0 0, .int .i64 0] : Array Value).all (·.oneCell') = true := by simp [Value.oneCell']
  have H1C := Lib.hid h1c
  clear h1c
  go_wp2_with (first
    | (refine wpList_load_row rfl 45 _ rfl (b + 1 + 1) rfl 45 #[.int .u8 (k : Int), .int .u64 (rv : Int), .string ⟨#[]⟩, .slice none 0 0, .int .i64 0] (0, 0) _ HX5.out Try.underlying45 rfl info_th ?_)
    | (refine wpList_store_row rfl 45 _ _ rfl (b + 1) #[.int .u8 (k : Int), .int .u64 (rv : Int), .string ⟨#[]⟩, .slice none 0 0, .int .i64 0] rfl rfl 45 _ HZ5.out info_th rfl H1C.out ?_))
  have hz6 : ((w4.setCell ⟨b + 1 + 1, 1, none⟩ (.int .u64 (rv : Int))).setRow (b + 1) #[.int .u8 (k : Int), .int .u64 (rv : Int), .string ⟨#[]⟩, .slice none 0 0, .int .i64 0]).heap[b + 1]? = some (.cells #[.int .u8 (k : Int), .int .u64 (rv : Int), .string ⟨#[]⟩, .slice none 0 0, .int .i64 0] 45 (0, 0)) := setRow_heap _ _ _ _ _ _ HZ5.out
  have hl6 := run_loadVar_row (P := Try.prog) _ _ _ 45 _ _ _ hz6 Try.underlying45 rfl info_th
  refine bodyPost_ret (v := .tuple #[.agg #[.int .u8 (k : Int), .int .u64 (rv : Int), .string ⟨#[]⟩, .slice none 0 0, .int .i64 0], .int .i64 re]) ?_ ?_ ?_
  · simp [results, Try.results21, asAddr, hl6]
  · rfl
  exact ⟨rfl, (setRow_other _ _ _ _ (by have := HGL.out; omega)).trans HR5.out, setRow_turn HT5.out (by have := HBW.out; omega) _⟩
set_option maxHeartbeats 4000000 in
set_option maxRecDepth 100000 in
theorem got_3 (n : Nat) (s : List UInt8) (ao : Option Addr) (len cap : Nat) (m : Int) (g : Nat) (x : List UInt8) (W : World) (h : RAt WR g x 0 W) :
    Calls Try.prog 21 #[.agg #[.int .u8 3, .int .u64 (n : Int), .string ⟨s.toArray⟩, .slice ao len cap, .int .i64 m], .pointer (some ⟨g, 0, none⟩)] W fun e w' => e = .returned (.tuple #[.agg #[.int .u8 3, .int .u64 0, .string ⟨(MM.rText x 0).1.toArray⟩, .slice none 0 0, .int .i64 0], .int .i64 (MM.rText x 0).2.1]) ∧ RAt WR g (MM.rText x 0).2.2 (MM.rText x 0).2.1 w' ∧ Turn g W w' := by
  have HW : Hid (Below W.heap.size W (((W.alloc (.cells #[.int .u8 3, .int .u64 (n : Int), .string ⟨s.toArray⟩, .slice ao len cap, .int .i64 m] 45)).alloc (.cells #[.int .u8 0, .int .u64 0, .string ⟨#[]⟩, .slice none 0 0, .int .i64 0] 45)).alloc (.cells #[.int .u8 3, .int .u64 0, .string ⟨#[]⟩, .slice none 0 0, .int .i64 0] 45))) := Lib.hid (below_box3 _ _ _ _)
  have HG : Hid (GB W.heap.size (.int .u8 3) #[.int .u8 3, .int .u64 (n : Int), .string ⟨s.toArray⟩, .slice ao len cap, .int .i64 m] (((W.alloc (.cells #[.int .u8 3, .int .u64 (n : Int), .string ⟨s.toArray⟩, .slice ao len cap, .int .i64 m] 45)).alloc (.cells #[.int .u8 0, .int .u64 0, .string ⟨#[]⟩, .slice none 0 0, .int .i64 0] 45)).alloc (.cells #[.int .u8 3, .int .u64 0, .string ⟨#[]⟩, .slice none 0 0, .int .i64 0] 45))) := Lib.hid (GB.made _ _ _)
  have HGL := Lib.hid h.lt
  have HR := Lib.hid h
  clear h
  have HA := fun w (h : RAt WR g x 0 w) => text_ask g x 0 w h
  generalize MM.rText x 0 = r at *
  obtain ⟨rv, re, rs⟩ := r
  simp only at HA ⊢
  go_enter Try.func21, Try.ntmps21
  go_upto_region 2 with fail
  generalize (((W.alloc (.cells #[.int .u8 3, .int .u64 (n : Int), .string ⟨s.toArray⟩, .slice ao len cap, .int .i64 m] 45)).alloc (.cells #[.int .u8 0, .int .u64 0, .string ⟨#[]⟩, .slice none 0 0, .int .i64 0] 45)).alloc (.cells #[.int .u8 3, .int .u64 0, .string ⟨#[]⟩, .slice none 0 0, .int .i64 0] 45)) = w3 at *
  generalize hbs : W.heap.size = b at *
  have HBW : Hid (W.heap.size = b) := Lib.hid hbs
  clear hbs
  have HR3 : Hid (RAt WR g x 0 w3) := Lib.hid (HR.out.step (by rw [HBW.out]; exact HW.out))
  have HT3 : Hid (Turn g W w3) := Lib.hid (Turn.of (by rw [HBW.out]; exact HW.out))
  have hk3 : w3.cell? ⟨b, 0, none⟩ = some (.int .u8 3) := (cell_of_row w3 b 0 _ _ _ HG.out.a).trans rfl
  go_upto_region 21 with (go_at_call 14; ((with_reducible refine (HA _ HR3.out).mono ?_); rintro e9 w4 ⟨rfl, hr4, ht4⟩; have HR4 := Lib.hid hr4; have HG4 := Lib.hid (HG.out.turn ht4 HGL.out); have HT4 := Lib.hid (HT3.out.trans ht4); clear hr4 ht4; have hxc := HG4.out.x; have hc4 : w4.cell? ⟨b + 1 + 1, 2, none⟩ = some (.string ⟨#[]⟩) := (cell_of_row w4 (b + 1 + 1) 2 _ _ _ hxc).trans rfl; have hf4 := frozen_of_row w4 (b + 1 + 1) 2 _ _ hxc; clear hxc))
  have hx5 : (w4.setCell ⟨b + 1 + 1, 2, none⟩ (.string ⟨rv.toArray⟩)).heap[b + 1 + 1]? = some (.cells #[.int .u8 3, .int .u64 0, .string ⟨rv.toArray⟩, .slice none 0 0, .int .i64 0] 45 (0, 0)) := heap_setCell_same w4 (b + 1 + 1) 2 _ _ _ HG4.out.x
  have hz5 : (w4.setCell ⟨b + 1 + 1, 2, none⟩ (.string ⟨rv.toArray⟩)).heap[b + 1]? = some (.cells #[.int .u8 0, .int .u64 0, .string ⟨#[]⟩, .slice none 0 0, .int .i64 0] 45 (0, 0)) := (Below.heap_setCell w4 ⟨b + 1 + 1, 2, none⟩ _ (b + 1) (by simp)).trans HG4.out.z
  have hr5 : RAt WR g rs re (w4.setCell ⟨b + 1 + 1, 2, none⟩ (.string ⟨rv.toArray⟩)) := (Below.heap_setCell w4 ⟨b + 1 + 1, 2, none⟩ _ g (by have := HGL.out; simp; omega)).trans HR4.out
  have ht5 : Turn g W (w4.setCell ⟨b + 1 + 1, 2, none⟩ (.string ⟨rv.toArray⟩)) := HT4.out.setNew (by have := HBW.out; omega) 2 _
  have HX5 := Lib.hid hx5
  have HZ5 := Lib.hid hz5
  have HR5 := Lib.hid hr5
  have HT5 := Lib.hid ht5
  clear hx5 hz5 hr5 ht5
  have h1c : (#[.int .u8 3, .int .u64 0, .string ⟨rv.toArray⟩, .slice none 0 0, .int .i64 0] : Array Value).all (·.oneCell') = true := by simp [Value.oneCell']
  have H1C := Lib.hid h1c
  clear h1c
  go_wp2_with (first
    | (refine wpList_load_row rfl 45 _ rfl (b + 1 + 1) rfl 45 #[.int .u8 3, .int .u64 0, .string ⟨rv.toArray⟩, .slice none 0 0, .int .i64 0] (0, 0) _ HX5.out Try.underlying45 rfl info_th ?_)
    | (refine wpList_store_row rfl 45 _ _ rfl (b + 1) #[.int .u8 3, .int .u64 0, .string ⟨rv.toArray⟩, .slice none 0 0, .int .i64 0] rfl rfl 45 _ HZ5.out info_th rfl H1C.out ?_))
  have hz6 : ((w4.setCell ⟨b + 1 + 1, 2, none⟩ (.string ⟨rv.toArray⟩)).setRow (b + 1) #[.int .u8 3, .int .u64 0, .string ⟨rv.toArray⟩, .slice none 0 0, .int .i64 0]).heap[b + 1]? = some (.cells #[.int .u8 3, .int .u64 0, .string ⟨rv.toArray⟩, .slice none 0 0, .int .i64 0] 45 (0, 0)) := setRow_heap _ _ _ _ _ _ HZ5.out
  have hl6 := run_loadVar_row (P := Try.prog) _ _ _ 45 _ _ _ hz6 Try.underlying45 rfl info_th
  refine bodyPost_ret (v := .tuple #[.agg #[.int .u8 3, .int .u64 0, .string ⟨rv.toArray⟩, .slice none 0 0, .int .i64 0], .int .i64 re]) ?_ ?_ ?_
  · simp [results, Try.results21, asAddr, hl6]
  · rfl
  exact ⟨rfl, (setRow_other _ _ _ _ (by have := HGL.out; omega)).trans HR5.out, setRow_turn HT5.out (by have := HBW.out; omega) _⟩
set_option maxHeartbeats 4000000 in
set_option maxRecDepth 100000 in
theorem got_4 (n : Nat) (s : List UInt8) (ao : Option Addr) (len cap : Nat) (m : Int) (g : Nat) (x : List UInt8) (W : World) (h : RAt WR g x 0 W) :
    Calls Try.prog 21 #[.agg #[.int .u8 4, .int .u64 (n : Int), .string ⟨s.toArray⟩, .slice ao len cap, .int .i64 m], .pointer (some ⟨g, 0, none⟩)] W fun e w' => ∃ bo cp, e = .returned (.tuple #[.agg #[.int .u8 4, .int .u64 0, .string ⟨#[]⟩, .slice bo (MM.rList x 0).2.1 cp, .int .i64 0], .int .i64 (MM.rList x 0).1]) ∧ RAt WR g (MM.rList x 0).2.2.2 (MM.rList x 0).1 w' ∧ Turn g W w' ∧ Rd w' bo (MM.rList x 0).2.1 (MM.rList x 0).2.2.1 := by
  have HW : Hid (Below W.heap.size W (((W.alloc (.cells #[.int .u8 4, .int .u64 (n : Int), .string ⟨s.toArray⟩, .slice ao len cap, .int .i64 m] 45)).alloc (.cells #[.int .u8 0, .int .u64 0, .string ⟨#[]⟩, .slice none 0 0, .int .i64 0] 45)).alloc (.cells #[.int .u8 4, .int .u64 0, .string ⟨#[]⟩, .slice none 0 0, .int .i64 0] 45))) := Lib.hid (below_box3 _ _ _ _)
  have HG : Hid (GB W.heap.size (.int .u8 4) #[.int .u8 4, .int .u64 (n : Int), .string ⟨s.toArray⟩, .slice ao len cap, .int .i64 m] (((W.alloc (.cells #[.int .u8 4, .int .u64 (n : Int), .string ⟨s.toArray⟩, .slice ao len cap, .int .i64 m] 45)).alloc (.cells #[.int .u8 0, .int .u64 0, .string ⟨#[]⟩, .slice none 0 0, .int .i64 0] 45)).alloc (.cells #[.int .u8 4, .int .u64 0, .string ⟨#[]⟩, .slice none 0 0, .int .i64 0] 45))) := Lib.hid (GB.made _ _ _)
  have HGL := Lib.hid h.lt
  have HR := Lib.hid h
  clear h
  have HA := fun w (h : RAt WR g x 0 w) => list_ask g x 0 w h
  generalize MM.rList x 0 = r at *
  obtain ⟨re, rn, rz, rs⟩ := r
  simp only at HA ⊢
  go_enter Try.func21, Try.ntmps21
  go_upto_region 2 with fail
  generalize (((W.alloc (.cells #[.int .u8 4, .int .u64 (n : Int), .string ⟨s.toArray⟩, .slice ao len cap, .int .i64 m] 45)).alloc (.cells #[.int .u8 0, .int .u64 0, .string ⟨#[]⟩, .slice none 0 0, .int .i64 0] 45)).alloc (.cells #[.int .u8 4, .int .u64 0, .string ⟨#[]⟩, .slice none 0 0, .int .i64 0] 45)) = w3 at *
  generalize hbs : W.heap.size = b at *
  have HBW : Hid (W.heap.size = b) := Lib.hid hbs
  clear hbs
  have HR3 : Hid (RAt WR g x 0 w3) := Lib.hid (HR.out.step (by rw [HBW.out]; exact HW.out))
  have HT3 : Hid (Turn g W w3) := Lib.hid (Turn.of (by rw [HBW.out]; exact HW.out))
  have hk3 : w3.cell? ⟨b, 0, none⟩ = some (.int .u8 4) := (cell_of_row w3 b 0 _ _ _ HG.out.a).trans rfl
  go_upto_region 21 with (go_at_call 15; ((with_reducible refine (HA _ HR3.out).mono ?_); rintro e9 w4 ⟨v4, rfl, hv4, hr4, ht4⟩; obtain ⟨bo, cp, rfl, hvf⟩ := hv4.form; have HV := Lib.hid hvf; clear hv4 hvf; have HR4 := Lib.hid hr4; have HG4 := Lib.hid (HG.out.turn ht4 HGL.out); have HT4 := Lib.hid (HT3.out.trans ht4); clear hr4 ht4; have hxc := HG4.out.x; have hc4 : w4.cell? ⟨b + 1 + 1, 3, none⟩ = some (.slice none 0 0) := (cell_of_row w4 (b + 1 + 1) 3 _ _ _ hxc).trans rfl; have hf4 := frozen_of_row w4 (b + 1 + 1) 3 _ _ hxc; clear hxc))
  have hx5 : (w4.setCell ⟨b + 1 + 1, 3, none⟩ (.slice bo rn cp)).heap[b + 1 + 1]? = some (.cells #[.int .u8 4, .int .u64 0, .string ⟨#[]⟩, .slice bo rn cp, .int .i64 0] 45 (0, 0)) := heap_setCell_same w4 (b + 1 + 1) 3 _ _ _ HG4.out.x
  have hz5 : (w4.setCell ⟨b + 1 + 1, 3, none⟩ (.slice bo rn cp)).heap[b + 1]? = some (.cells #[.int .u8 0, .int .u64 0, .string ⟨#[]⟩, .slice none 0 0, .int .i64 0] 45 (0, 0)) := (Below.heap_setCell w4 ⟨b + 1 + 1, 3, none⟩ _ (b + 1) (by simp)).trans HG4.out.z
  have hr5 : RAt WR g rs re (w4.setCell ⟨b + 1 + 1, 3, none⟩ (.slice bo rn cp)) := (Below.heap_setCell w4 ⟨b + 1 + 1, 3, none⟩ _ g (by have := HGL.out; simp; omega)).trans HR4.out
  have ht5 : Turn g W (w4.setCell ⟨b + 1 + 1, 3, none⟩ (.slice bo rn cp)) := HT4.out.setNew (by have := HBW.out; omega) 3 _
  have HX5 := Lib.hid hx5
  have HZ5 := Lib.hid hz5
  have HR5 := Lib.hid hr5
  have HT5 := Lib.hid ht5
  clear hx5 hz5 hr5 ht5
  have h1c : (#[.int .u8 4, .int .u64 0, .string ⟨#[]⟩, .slice bo rn cp, .int .i64 0] : Array Value).all (·.oneCell') = true := by simp [Value.oneCell']
  have H1C := Lib.hid h1c
  clear h1c
  go_wp2_with (first
    | (refine wpList_load_row rfl 45 _ rfl (b + 1 + 1) rfl 45 #[.int .u8 4, .int .u64 0, .string ⟨#[]⟩, .slice bo rn cp, .int .i64 0] (0, 0) _ HX5.out Try.underlying45 rfl info_th ?_)
    | (refine wpList_store_row rfl 45 _ _ rfl (b + 1) #[.int .u8 4, .int .u64 0, .string ⟨#[]⟩, .slice bo rn cp, .int .i64 0] rfl rfl 45 _ HZ5.out info_th rfl H1C.out ?_))
  have hz6 : ((w4.setCell ⟨b + 1 + 1, 3, none⟩ (.slice bo rn cp)).setRow (b + 1) #[.int .u8 4, .int .u64 0, .string ⟨#[]⟩, .slice bo rn cp, .int .i64 0]).heap[b + 1]? = some (.cells #[.int .u8 4, .int .u64 0, .string ⟨#[]⟩, .slice bo rn cp, .int .i64 0] 45 (0, 0)) := setRow_heap _ _ _ _ _ _ HZ5.out
  have hl6 := run_loadVar_row (P := Try.prog) _ _ _ 45 _ _ _ hz6 Try.underlying45 rfl info_th
  refine bodyPost_ret (v := .tuple #[.agg #[.int .u8 4, .int .u64 0, .string ⟨#[]⟩, .slice bo rn cp, .int .i64 0], .int .i64 re]) ?_ ?_ ?_
  · simp [results, Try.results21, asAddr, hl6]
  · rfl
  exact ⟨bo, cp, rfl, (setRow_other _ _ _ _ (by have := HGL.out; omega)).trans HR5.out, setRow_turn HT5.out (by have := HBW.out; omega) _, fun h0 => by
    obtain ⟨B, rfl, hB, hblk⟩ := HV.out h0
    have hB2 : b + 1 + 1 < B := by have := row_lt HG.out.x; omega
    obtain ⟨cs, q1, q2⟩ := hblk
    exact Blk.rd (B := B) (n := rn) ⟨cs, (setRow_other _ _ _ _ (by omega)).trans ((Below.heap_setCell w4 ⟨b + 1 + 1, 3, none⟩ _ B (by simp; omega)).trans q1), q2⟩ h0⟩
end M
end Go.Proofs.Ytaijnejbffnfpaa

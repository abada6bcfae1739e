/- The texts WirRd, WirBld, WirTake, WirRec, WirItem, WirAsk, WirTxt, one behind the other. -/
import Derived.Test.YtoacmingocmaaaaGreatDoorWB8
import Derived.Test.YtoacmingocmaaaaGreatDoorWB10
import Derived.Lib.Walk
import Derived.Lib.Builder
import Derived.Lib.AppendStr
import Derived.Lib.UnsafeStr
import Derived.Laws.Externs
import Derived.Laws.Bits64b
import Derived.WalkLawsBesides
import Derived.Defers
import Derived.Recover
import Derived.Tactics
import Derived.Tactics2
import Derived.Laws.Pointers
import Derived.Test.YtoacmingocmaaaaGreatDoorWB3
/- A reader as it lies; what a call may turn: the reader's own block, and new memory. -/
namespace Go.Proofs.YtoacmingocmaaaaGreatDoor
open Go Go.RowKit Go.Lib
namespace M
/-- Block g is a struct of type T of a text and a whole number. -/
def RAt (T : TypeId) (g : Nat) (s : List UInt8) (e : Int) (w : World) : Prop := w.heap[g]? = some (.cells #[.string ⟨s.toArray⟩, .int .i64 e] T (0, 0))
/-- Nothing that was there has changed, but block g. -/
structure Turn (g : Nat) (w w' : World) : Prop where
  os : w'.os = w.os
  tape : w'.tape = w.tape
  output : w'.output = w.output
  size : w.heap.size ≤ w'.heap.size
  block : ∀ k, k < w.heap.size → k ≠ g → w'.heap[k]? = w.heap[k]?
theorem Turn.refl (g : Nat) (w : World) : Turn g w w := ⟨rfl, rfl, rfl, Nat.le_refl _, fun _ _ _ => rfl⟩
theorem Turn.trans {g : Nat} {a b c : World} (h : Turn g a b) (k : Turn g b c) : Turn g a c :=
  ⟨k.os.trans h.os, k.tape.trans h.tape, k.output.trans h.output, Nat.le_trans h.size k.size, fun i hi hg => (k.block i (Nat.lt_of_lt_of_le hi h.size) hg).trans (h.block i hi hg)⟩
theorem Turn.of {g : Nat} {w w' : World} (h : Below w.heap.size w w') : Turn g w w' := ⟨h.os, h.tape, h.output, h.size, fun k hk _ => h.block k hk⟩
theorem Turn.below {g B : Nat} {w w' : World} (h : Turn g w w') (hB : B ≤ g) (hw : B ≤ w.heap.size) : Below B w w' := ⟨h.os, h.tape, h.output, h.size, fun k hk => h.block k (by omega) (by omega)⟩
theorem Turn.set {g : Nat} {a w : World} (h : Turn g a w) (i : Nat) (v : Value) : Turn g a (w.setCell ⟨g, i, none⟩ v) :=
  h.trans ⟨rfl, rfl, rfl, by simp [World.setCell], fun k _ hk => Below.heap_setCell w ⟨g, i, none⟩ v k hk⟩
theorem Turn.cell {g : Nat} {w w' : World} (h : Turn g w w') {p : Addr} {v : Value} (hc : w.cell? p = some v) (hp : p.block ≠ g) : w'.cell? p = some v := by
  rw [World.cell?_of_block (w := w) (h.block p.block (World.block_lt_of_cell? w _ hc) hp)]; exact hc
theorem Turn.frozen {g : Nat} {w w' : World} (h : Turn g w w') {p : Addr} (hl : p.block < w.heap.size) (hp : p.block ≠ g) : w'.frozen? p = w.frozen? p :=
  World.frozen?_of_block (w := w) (h.block p.block hl hp)
theorem Turn.drewN {g : Nat} {a w : World} (h : Turn g a w) (n : Nat) : Turn g a (w.drewN n) := h.trans ⟨rfl, rfl, rfl, Nat.le_refl _, fun _ _ _ => rfl⟩
theorem Turn.setNew {g : Nat} {a w : World} (h : Turn g a w) {b : Nat} (hb : a.heap.size ≤ b) (i : Nat) (v : Value) : Turn g a (w.setCell ⟨b, i, none⟩ v) :=
  ⟨h.os, h.tape, h.output, by simpa [World.setCell] using h.size, fun k hk hg => (Below.heap_setCell w ⟨b, i, none⟩ v k (by have : (⟨b, i, none⟩ : Addr).block = b := rfl; omega)).trans (h.block k hk hg)⟩
theorem setCell_same {w : World} {b i : Nat} {v : Value} (h : w.cell? ⟨b, i, none⟩ = some v) : w.setCell ⟨b, i, none⟩ v = w := by
  unfold World.cell? at h
  have e : (w.setCell ⟨b, i, none⟩ v).heap = w.heap := by
    apply Array.ext_getElem?
    intro k
    simp only [World.setCell]
    rw [Array.getElem?_modify]
    by_cases hk : b = k
    · subst hk
      rw [if_pos rfl]
      cases hb : w.heap[b]? with
      | none => rfl
      | some o =>
        rw [hb] at h
        cases o with
        | cells c t fr =>
          simp at h
          have : c.setIfInBounds i v = c := by
            apply Array.ext_getElem?
            intro j
            rw [Array.getElem?_setIfInBounds]
            by_cases hj : i = j
            · subst hj
              rw [if_pos rfl, h]
              by_cases hl : i < c.size
              · rw [if_pos hl]
              · rw [Array.getElem?_eq_none (by omega)] at h; cases h
            · rw [if_neg hj]
          simp [this]
        | _ => rfl
    · rw [if_neg hk]
  have e2 : w.setCell ⟨b, i, none⟩ v = { w with heap := (w.setCell ⟨b, i, none⟩ v).heap } := rfl
  rw [e2, e]
section
variable {T : TypeId} {g : Nat} {s : List UInt8} {e : Int} {w w' : World}
theorem RAt.lt (h : RAt T g s e w) : g < w.heap.size := row_lt h
theorem RAt.rest (h : RAt T g s e w) : w.cell? ⟨g, 0, none⟩ = some (.string ⟨s.toArray⟩) := by rw [cell_of_row w g 0 _ _ _ h]; rfl
theorem RAt.wrong (h : RAt T g s e w) : w.cell? ⟨g, 1, none⟩ = some (.int .i64 e) := by rw [cell_of_row w g 1 _ _ _ h]; rfl
theorem RAt.free (h : RAt T g s e w) (j : Nat) : w.frozen? ⟨g, j, none⟩ = false := by
  unfold RAt at h
  simp [World.frozen?, h]
theorem RAt.put0 (h : RAt T g s e w) (t : List UInt8) : RAt T g t e (w.setCell ⟨g, 0, none⟩ (.string ⟨t.toArray⟩)) := heap_setCell_same w g 0 _ _ _ h
theorem RAt.put1 (h : RAt T g s e w) (f : Int) : RAt T g s f (w.setCell ⟨g, 1, none⟩ (.int .i64 f)) := heap_setCell_same w g 1 _ _ _ h
theorem RAt.step (h : RAt T g s e w) (hb : Below w.heap.size w w') : RAt T g s e w' := (hb.block g h.lt).trans h
theorem RAt.turn {g2 : Nat} (h : RAt T g s e w) (hb : Turn g2 w w') (hg : g ≠ g2) : RAt T g s e w' := (hb.block g h.lt hg).trans h
theorem RAt.drewN (h : RAt T g s e w) (n : Nat) : RAt T g s e (w.drewN n) := h
end
theorem RAt.new (T : TypeId) (w : World) (s : List UInt8) : RAt T w.heap.size s 0 (w.alloc (.cells #[.string ⟨s.toArray⟩, .int .i64 0] T)) := heap_alloc_new w _
end M
end Go.Proofs.YtoacmingocmaaaaGreatDoor
/- The walks of strings.Builder's copyCheck and WriteString at this translation; strings.Clone. -/
namespace Go.Proofs.YtoacmingocmaaaaGreatDoor
open Go Go.RowKit Go.Lib
namespace M
/-- A builder in a block of its own. -/
abbrev Bld (B b : Nat) (l : List UInt8) (w : World) : Prop := Lib.IsBuilder 66 5 B b (Lib.byteCells l) w
theorem sizeBuilder : (Tryz.prog.info? 66).map (·.size) = some 2 := by kernel_rfl
theorem liesBuilder : liesAt Tryz.prog Tryz.prog.depth 66 (2 / Tryz.prog.cellsOf 66) 0 66 1 = true := by kernel_rfl
theorem infoByte : (Tryz.prog.info? 5).map (fun i => (i.zero, i.size, i.bytes)) = some (some (.int .u8 0), 1, 1) := by kernel_rfl
set_option maxHeartbeats 1000000 in
set_option maxRecDepth 100000 in
theorem check_used (b : Nat) (w : World) (h0 : w.cell? ⟨b, 0, none⟩ = some (.pointer (some ⟨b, 0, none⟩))) :
    Calls Tryz.prog 56 #[.pointer (some ⟨b, 0, none⟩)] w fun e w' => e = .returned (.tuple #[]) ∧ w' = w := by
  obtain ⟨j, hj, _⟩ := Option.map_eq_some_iff.1 sizeBuilder
  have hn := Lib.run_neq_ptr_same (P := Tryz.prog) w (⟨b, 0, none⟩ : Addr) Tryz.underlying63 hj
  go_enter Tryz.func56, Tryz.ntmps56
  go_wp2
  go_end0
  exact ⟨rfl, rfl⟩
set_option maxHeartbeats 1000000 in
set_option maxRecDepth 100000 in
theorem check_fresh (b : Nat) (w : World) (h0 : w.cell? ⟨b, 0, none⟩ = some (.pointer none)) (hsh : w.shape? b = some (66, 2)) (hfz : w.frozen? ⟨b, 0, none⟩ = false) :
    Calls Tryz.prog 56 #[.pointer (some ⟨b, 0, none⟩)] w fun e w' => e = .returned (.tuple #[]) ∧ w' = w.setCell ⟨b, 0, none⟩ (.pointer (some ⟨b, 0, none⟩)) := by
  obtain ⟨j, hj, hjs⟩ := Option.map_eq_some_iff.1 sizeBuilder
  have h1 := Lib.run_to_unsafe (P := Tryz.prog) w ⟨b, 0, none⟩ Tryz.underlying63 Tryz.underlying112 hj (by rw [hjs]; decide) hsh (Nat.zero_lt_succ 1)
  have h2 : (callFunc 78 #[.pointer (some ⟨b, 0, none⟩)]).run Tryz.prog w = .ok (.value (.pointer (some ⟨b, 0, none⟩))) w := by
    rw [run_callFunc_extern Tryz.func78 (by kernel_rfl) (by kernel_rfl) (by kernel_rfl) (e := Extern.AbiNoEscape.same) (by kernel_rfl)]
    rw [Lib.run_noEscape]
    rfl
  have h3 := Lib.run_from_unsafe (P := Tryz.prog) w ⟨b, 0, none⟩ Tryz.underlying112 Tryz.underlying63 hj hsh liesBuilder
  go_enter Tryz.func56, Tryz.ntmps56
  go_wp2
  go_end0
  exact ⟨rfl, rfl⟩
theorem check_any (B b : Nat) (bs : List Value) (w : World) (h : Lib.IsBuilder 66 5 B b bs w) :
    Calls Tryz.prog 56 #[.pointer (some ⟨b, 0, none⟩)] w fun e w' => e = .returned (.tuple #[]) ∧ (Lib.BuilderAt 66 5 B b (.pointer (some ⟨b, 0, none⟩)) bs w' ∧ Below B w w') := by
  rcases h with h | h
  · refine (check_fresh b w h.cell0 h.shape h.frozen0).mono ?_
    rintro e w' ⟨rfl, rfl⟩
    exact ⟨rfl, h.used _, (Below.refl B w).setCell (p := ⟨b, 0, none⟩) h.1 _⟩
  · refine (check_used b w h.cell0).mono ?_
    rintro e w' ⟨rfl, rfl⟩
    exact ⟨rfl, h, Below.refl B _⟩
set_option maxHeartbeats 2000000 in
set_option maxRecDepth 100000 in
theorem bwrite_any (B b : Nat) (l : List UInt8) (s : List UInt8) (w : World) (h : Bld B b l w) (hlen : l.length + s.length ≤ 140737488355328) (hBw : B ≤ w.heap.size) :
    Calls Tryz.prog 35 #[.pointer (some ⟨b, 0, none⟩), .string ⟨s.toArray⟩] w fun e w' => (∃ v, e = .returned v) ∧ Bld B b (l ++ s) w' ∧ Below B w w' := by
  obtain ⟨i0, hi, hz0, hz1, hz2⟩ := info_parts infoByte
  go_enter Tryz.func35, Tryz.ntmps35
  go_wp2_with (go_at_call 56; refine (check_any B b _ _ h).mono ?_)
  rintro e w1 ⟨rfl, h1, hb1⟩
  obtain ⟨hB, v, hbk, hown, hne⟩ := h1
  have c0 : w1.cell? ⟨b, 0, none⟩ = some (.pointer (some ⟨b, 0, none⟩)) := by rw [Lib.cell_of_heap hbk]; rfl
  have c1 : w1.cell? ⟨b, 1, none⟩ = some v := by rw [Lib.cell_of_heap hbk]; rfl
  go_wp2_with (at_builtin; refine Lib.wpList_append_own_string _ rfl _ _ 64 9 rfl B 5 i0 Tryz.underlying64 Tryz.underlying9 hi hz0 hz1 hz2 _ _ _ rfl hown ⟨s.toArray⟩ rfl ?c3 ?c4 ?c5 ?_)
  case c3 => unfold maxLen; simp [ByteArray.size_mk', Lib.byteCells_length]; omega
  case c4 => simp [ByteArray.size_mk', Lib.byteCells_length]; omega
  case c5 => have := hb1.size; omega
  intro v' w2 hown' hgrow _
  have hlt : b < w1.heap.size := row_lt hbk
  have hb2 : w2.heap[b]? = some (.cells #[.pointer (some ⟨b, 0, none⟩), v] 66 (0, 0)) := by
    rw [hgrow.block b hlt (fun e => hne e.symm)]
    exact hbk
  have d0 : w2.cell? ⟨b, 0, none⟩ = some (.pointer (some ⟨b, 0, none⟩)) := by rw [Lib.cell_of_heap hb2]; rfl
  have d1 : w2.cell? ⟨b, 1, none⟩ = some v := by rw [Lib.cell_of_heap hb2]; rfl
  have f1 : w2.frozen? ⟨b, 1, none⟩ = false := Lib.frozen_of_heap hb2 1
  obtain ⟨ao, n', cap, rfl⟩ : ∃ ao n' cap, v' = .slice ao n' cap := by
    rcases hown'.2 with ⟨hv, _⟩ | ⟨g, cap, cur, hv, _⟩
    · exact ⟨_, _, _, hv⟩
    · exact ⟨_, _, _, hv⟩
  go_wp2
  go_ret2
  refine ⟨⟨_, rfl⟩, .inr ?_, ?_⟩
  · rw [Lib.byteCells_append]
    exact Lib.BuilderAt.put (T := 66) (e := 5) hB hb2 (bs' := Lib.byteCells l ++ Lib.byteCells s) (by simpa [Lib.byteCells_length, Lib.strCells_eq, ByteArray.size_mk'] using hown') (by decide)
  · exact (hb1.grown hgrow (by have := hb1.size; omega) (fun k hk => (hown.lt k hk).1)).setCell (p := ⟨b, 1, none⟩) hB _
theorem bld_new (w : World) : Bld w.heap.size w.heap.size [] (w.alloc (.cells #[.pointer none, .slice none 0 0] 66)) := Lib.fresh_isBuilder _ _ w
theorem wclone_any (s : List UInt8) (hs : s.length ≤ 281474976710656) : RetB 58 #[.string ⟨s.toArray⟩] (.string ⟨s.toArray⟩) := by
  intro W
  have H := fun w => Tryz.stringslite_Clone ⟨s.toArray⟩ w (by simpa [ByteArray.size_mk'] using hs)
  go_enter Tryz.func58, Tryz.ntmps58
  go_wp2_with (go_at_call 80; refine (H _).mono ?_; rintro e w' ⟨rfl, hb⟩)
  go_ret
  exact ⟨rfl, hb⟩
end M
end Go.Proofs.YtoacmingocmaaaaGreatDoor
/- The walks of the reader's inner methods: fail, Wrong, Left, take, number, length, Open; what panics there. -/
namespace Go.Proofs.YtoacmingocmaaaaGreatDoor
open Go Go.RowKit Go.Lib
namespace M
/-- An error that panics. -/
abbrev ErrP (k : Int) : List PanicEntry := [{ v := .iface 45 (.int .i64 k), recovered := false }]
abbrev WR : TypeId := 132
set_option maxHeartbeats 1000000 in
theorem fail_any (g : Nat) (s : List UInt8) (e k : Int) (W : World) (h : RAt WR g s e W) :
    Calls Tryz.prog 111 #[.pointer (some ⟨g, 0, none⟩), .int .i64 k] W fun e w' => e = .returned (.tuple #[]) ∧ RAt WR g [] k w' ∧ Turn g W w' := by
  have h0 := h.rest
  have h1 := h.wrong
  have hf0 := h.free 0
  have hf1 := h.free 1
  go_enter Tryz.func111, Tryz.ntmps111
  go_wp2_with fail
  go_end0
  exact ⟨rfl, (h.put0 []).put1 k, ((Turn.refl g W).set 0 _).set 1 _⟩
theorem wrong_any (g : Nat) (s : List UInt8) (e : Int) (W : World) (h : RAt WR g s e W) :
    Calls Tryz.prog 77 #[.pointer (some ⟨g, 0, none⟩)] W fun e' w' => e' = .returned (.int .i64 e) ∧ w' = W := by
  have h1 := h.wrong
  go_enter Tryz.func77, Tryz.ntmps77
  go_wp2_with fail
  go_ret
  exact ⟨rfl, rfl⟩
theorem wrong_nil (W : World) :
    Calls Tryz.prog 77 #[.pointer none] W fun e' w' => e' = .returned (.int .i64 2) ∧ w' = W := by
  go_enter Tryz.func77, Tryz.ntmps77
  go_wp2_with fail
  go_ret
  exact ⟨rfl, rfl⟩
set_option maxHeartbeats 1000000 in
theorem open_any (s : List UInt8) (hs : s.length ≤ 281474976710656) (W : World) :
    Calls Tryz.prog 75 #[.string ⟨s.toArray⟩] W fun e' w' => ∃ g, e' = .returned (.pointer (some ⟨g, 0, none⟩)) ∧ W.heap.size ≤ g ∧ RAt WR g s 0 w' ∧ Below W.heap.size W w' := by
  have H := wclone_any s hs
  go_enter Tryz.func75, Tryz.ntmps75
  go_wp2_with (go_at_call 58; (with_reducible refine (H.at _).mono ?_); rintro e w' ⟨rfl, hb⟩)
  go_ret
  exact ⟨_, rfl, hb.size, RAt.new _ _ _, hb.trans ((below_box _ _).mono hb.size)⟩
set_option maxHeartbeats 1000000 in
theorem take_bad (g : Nat) (s : List UInt8) (e : Int) (n : Nat) (W : World) (h : RAt WR g s e W) (hn : s.length < n) :
    Calls Tryz.prog 112 #[.pointer (some ⟨g, 0, none⟩), .int .i64 (n : Int)] W fun e' w' => e' = .panicked (ErrP 8) ∧ RAt WR g s e w' ∧ Turn g W w' := by
  have h1 := h.rest
  have hl : (s.length : Int) < (n : Int) := by omega
  have HR := Lib.hid h
  clear h
  go_enter Tryz.func112, Tryz.ntmps112
  go_wp2_with fail
  exact ⟨rfl, rfl, HR.out, Turn.refl _ _⟩
set_option maxHeartbeats 1000000 in
theorem take_good (g : Nat) (s : List UInt8) (e : Int) (n : Nat) (W : World) (h : RAt WR g s e W) (hn : n ≤ s.length) :
    Calls Tryz.prog 112 #[.pointer (some ⟨g, 0, none⟩), .int .i64 (n : Int)] W fun e' w' => e' = .returned (.string ⟨(s.take n).toArray⟩) ∧ RAt WR g (s.drop n) e w' ∧ Turn g W w' := by
  have h1 := h.rest
  have hf := h.free 0
  have hl : ¬ (s.length : Int) < (n : Int) := by omega
  have hx1 : (⟨s.toArray⟩ : ByteArray).extract 0 n = ⟨(s.take n).toArray⟩ := by rw [ByteArray.extract_mk]; simp
  have hx2 : (⟨s.toArray⟩ : ByteArray).extract n s.length = ⟨(s.drop n).toArray⟩ := by rw [ByteArray.extract_mk, List.take_of_length_le (by simp)]
  have HR := Lib.hid h
  clear h
  go_enter Tryz.func112, Tryz.ntmps112
  go_wp2_with fail
  go_ret
  exact ⟨rfl, HR.out.put0 _, (Turn.refl g W).set 0 _⟩
set_option maxHeartbeats 1000000 in
theorem number_bad (g : Nat) (s : List UInt8) (e : Int) (n : Nat) (W : World) (h : RAt WR g s e W) (hn : s.length < n) :
    Calls Tryz.prog 94 #[.pointer (some ⟨g, 0, none⟩), .int .i64 (n : Int)] W fun e' w' => e' = .panicked (ErrP 8) ∧ RAt WR g s e w' ∧ Turn g W w' := by
  have H := take_bad g s e n W h hn
  go_enter Tryz.func94, Tryz.ntmps94
  go_wp2_with (go_at_call 112; (with_reducible refine H.mono ?_); rintro e w' ⟨rfl, hr, ht⟩)
  exact ⟨rfl, rfl, hr, ht⟩
theorem or_val (l : List UInt8) (k x : Nat) (hk : k < l.length) (hx : x = MM.val (l.take k)) (hx2 : x < 72057594037927936) {h : k < (ByteArray.mk l.toArray).size} :
    bits .or .u64 ((x : Int) * 256) (IntKind.u64.wrap (((ByteArray.mk l.toArray)[k]'h).toNat : Int)) = ((MM.val (l.take (k + 1)) : Nat) : Int) := by
  have hb := ((ByteArray.mk l.toArray)[k]'h).toNat_lt
  have hw : IntKind.u64.wrap (((ByteArray.mk l.toArray)[k]'h).toNat : Int) = (((ByteArray.mk l.toArray)[k]'h).toNat : Int) := by simp [IntKind.wrap, IntKind.bits, IntKind.signed]; omega
  have hm : (x : Int) * 256 = ((x * 256 : Nat) : Int) := by omega
  rw [hw, hm, bits_or_u64_nat _ _ (by omega) (by omega), MM.val_take l k hk, ← hx]
  have hg : (l.getD k 0).toNat = ((ByteArray.mk l.toArray)[k]'h).toNat := by
    rw [List.getD_eq_getElem?_getD, List.getElem?_eq_getElem hk]; rfl
  rw [hg]
  have := MM.shl_or x ((ByteArray.mk l.toArray)[k]'h).toNat hx2 (by omega)
  rw [Nat.mod_eq_of_lt (by omega)] at this
  rw [this]
set_option maxHeartbeats 1000000 in
theorem number_good (g : Nat) (s : List UInt8) (e : Int) (n : Nat) (W : World) (h : RAt WR g s e W) (hn : n ≤ s.length) (hn8 : n ≤ 8) :
    Calls Tryz.prog 94 #[.pointer (some ⟨g, 0, none⟩), .int .i64 (n : Int)] W fun e' w' => e' = .returned (.int .u64 ((MM.val (s.take n) : Nat) : Int)) ∧ RAt WR g (s.drop n) e w' ∧ Turn g W w' := by
  have H := take_good g s e n W h hn
  obtain ⟨l, hl⟩ : ∃ l, l = s.take n := ⟨_, rfl⟩
  have hln : l.length = n := by subst hl; simp; omega
  rw [← hl] at H ⊢
  have HN := Lib.hid hln
  clear hl hln
  go_enter Tryz.func94, Tryz.ntmps94
  go_wp2_with (go_at_call 112; (with_reducible refine H.mono ?_); rintro e w' ⟨rfl, hr, ht⟩; have HR := Lib.hid hr; have HT := Lib.hid ht; clear hr ht)
  go_loopw [6, 12] (fun s6 s12 wx => ∃ k x : Nat, k ≤ n ∧ s12 = .int .i64 (k : Int) ∧ s6 = .int .u64 (x : Int) ∧ Hid (x = MM.val (l.take k)) ∧ ∃ m, wx = w'.drewN m) (fun _ s12 _ => n - (RowKit.intOf s12).toNat)
  case atStart => exact ⟨0, 0, Nat.zero_le _, rfl, rfl, Lib.hid rfl, 0, rfl⟩
  case round =>
    obtain ⟨k, x, hk, rfl, rfl, hx, m, rfl⟩ := hrel
    by_cases hlt : k < n
    · have hx56 : x < 72057594037927936 := by
        rw [hx.out]
        refine Nat.lt_of_lt_of_le (MM.val_lt k _ (by rw [List.length_take, HN.out]; omega)) ?_
        exact Nat.le_trans (Nat.pow_le_pow_right (by omega) (by omega : k ≤ 7)) (by decide)
      have hkl : k < l.length := by rw [HN.out]; exact hlt
      go_wp2_with fail
      go_roundw
      case rel => exact ⟨k + 1, MM.val (l.take (k + 1)), by omega, by go_num, by rw [or_val l k x hkl hx.out hx56], Lib.hid rfl, m, rfl⟩
      case measure => simp [RowKit.intOf]; omega
    · obtain rfl : k = n := by omega
      have hx2 : x = MM.val l := by rw [hx.out, List.take_of_length_le (by rw [HN.out]; omega)]
      subst hx2
      go_wp2_with fail
      go_ret
      exact ⟨rfl, HR.out.drewN m, HT.out.drewN m⟩
end M
end Go.Proofs.YtoacmingocmaaaaGreatDoor
/- A deferred function's first statement that recovers: behind recover the statement goes on as any. -/
namespace Go.Proofs.YtoacmingocmaaaaGreatDoor
open Go Go.RowKit Go.Lib
namespace M
/-- What recover hands back, and how the frames below stand behind it. -/
def recV (cs : List Frame) : Value × List Frame := match recoverD cs with | some r => r | none => (.nilIface, cs)
theorem wpS_region_recover {P : Program} {id : Nat} {o : Oper} {l : List Oper} {Q : Exit → Act → List Frame → World → Prop} {a : Act} {cs : List Frame} {w : World}
    (hg : o.guard = none) (hr : (execOp a.eval o).run P w = .ok .recover w)
    (h : wpList P (o :: l).toArray (fun e a' w' => Q e a' (recV cs).2 w') l (a.put o.dst (recV cs).1) w) : (Code.region id (o :: l).toArray false).wpS P Q a cs w := by
  intro b k hb hro
  have hwp : wpOps P (o :: l).toArray (fun e a' w' => Q e a' (recV cs).2 w') (List.range' 1 l.length) (a.put o.dst (recV cs).1) w := by
    rw [wpOps_eq_wpList l 1 (fun j => by rw [Nat.add_comm]; simp)]
    exact h
  obtain ⟨e, a', w', hq, harr⟩ := wp_ops _ _ _ hwp b k (recV cs).2
  refine ⟨e, a', _, w', hq, .of_steps (.head step_region (.one ?_)) harr⟩
  have hrange : List.range (o :: l).toArray.size = 0 :: List.range' 1 l.length := by
    rw [List.range_eq_range']; simp [List.range'_succ]
  rw [hrange]
  have ho : (o :: l).toArray[0]? = some o := by simp
  have hw : Region.wanted o (yielded (o :: l).toArray a.tmps) = true := by simp [Region.wanted, hg]
  have hs := stepG_op (P := P) (b := b) (k := k) (cs := cs) (w := w) (rest := List.range' 1 l.length) ho hw
  have hfin : ∀ v, (b.at a (.inRegion (o :: l).toArray (0 :: List.range' 1 l.length) :: k)).finish v = b.at (a.put o.dst v) (.inRegion (o :: l).toArray (List.range' 1 l.length) :: k) := by
    intro v; rw [Frame.finish_at, ho]; rfl
  have hk : (b.at a (.inRegion (o :: l).toArray (0 :: List.range' 1 l.length) :: k)).kind = .deferred := hb
  have htr := tryRecover_deferred hk cs
  unfold recV
  cases hrec : recoverD cs with
  | none =>
    refine step_lone_go ?_
    rw [hs, ← hfin]
    simp only [Frame.at] at htr ⊢
    simp [stepG.apply, hr, htr, hrec]
  | some p =>
    obtain ⟨v, cs'⟩ := p
    refine step_lone_go ?_
    rw [hs, ← hfin]
    simp only [Frame.at] at htr ⊢
    simp [stepG.apply, hr, htr, hrec]
theorem ta_nil (w : World) : (Instr.typeAssert .nilIface 20 45 true).run Tryz.prog w = .ok (.tuple #[.int .i64 0, .bool false]) w := by
  simp [Instr.typeAssert, run_underlying Tryz.underlying45, Tryz.zeroValue45, go_sem]
theorem ta_err (k : Int) (w : World) : (Instr.typeAssert (.iface 45 (.int .i64 k)) 20 45 true).run Tryz.prog w = .ok (.tuple #[.int .i64 k, .bool true]) w := by
  simp [Instr.typeAssert, run_underlying Tryz.underlying45, go_sem]
end M
end Go.Proofs.YtoacmingocmaaaaGreatDoor
/- One item, for each of the six types: what its deferred function does; what it answers where its conversion returns, and where that panics with an error. -/
namespace Go.Proofs.YtoacmingocmaaaaGreatDoor
open Go Go.RowKit Go.Lib
namespace M
theorem RKX {W : World} (o : Obj) (t : TypeId) (v : Value) : ((W.alloc o).alloc (.cells #[v] t)).cell? ⟨W.heap.size + 1, 0, none⟩ = some v ∧ ((W.alloc o).alloc (.cells #[v] t)).frozen? ⟨W.heap.size + 1, 0, none⟩ = false :=
  ⟨by simp [go_sem], by simp [go_sem]⟩

set_option maxHeartbeats 1000000 in
theorem idle_count (a b : Addr) (w : World) :
    CallsD Tryz.prog 110 #[.pointer (some a), .pointer (some b)] .returning w fun e u' w' => e = .returned (.tuple #[]) ∧ u' = .returning ∧ w' = w := by
  have hta := ta_nil
  refine callsD_of_wpS Tryz.func110 rfl fun c₀ cs hu => ?_
  have hrec : recV (c₀ :: cs) = (.nilIface, c₀ :: cs) := by simp [recV, recoverD, hu]
  have hmode : c₀ = { c₀ with mode := .returning } := by cases c₀; simp_all
  simp only [Tryz.ntmps110]
  rw [show ((#[.pointer (some a), .pointer (some b)] : Array Value) ++ Array.replicate (14 - (#[.pointer (some a), .pointer (some b)] : Array Value).size) undef) = #[.pointer (some a), .pointer (some b), undef, undef, undef, undef, undef, undef, undef, undef, undef, undef, undef, undef] from rfl]
  refine wpS_seq (wpS_region_recover rfl rfl ?_)
  rw [hrec]
  have HM := Lib.hid hmode
  clear hmode hrec hu
  go_wp2_with fail
  simp only [Exit.thenS]
  refine wpS_of_wp ?_
  go_wp2_with fail
  exact ⟨rfl, .returning, congrArg (· :: cs) HM.out, _, results_none rfl _ _ _, rfl, rfl, rfl⟩
set_option maxHeartbeats 1000000 in
theorem catch_count (c b g : Nat) (s : List UInt8) (e0 k : Int) (older : List PanicEntry) (w : World) (hc : w.cell? ⟨c, 0, none⟩ = some (.pointer (some ⟨g, 0, none⟩))) (hr : RAt WR g s e0 w)
    (hb : ∃ x, w.cell? ⟨b, 0, none⟩ = some (.int .i64 x)) (hbf : w.frozen? ⟨b, 0, none⟩ = false) (hbg : b ≠ g) :
    CallsD Tryz.prog 110 #[.pointer (some ⟨c, 0, none⟩), .pointer (some ⟨b, 0, none⟩)] (.panicking ({ v := .iface 45 (.int .i64 k), recovered := false } :: older)) w fun e u' w' =>
      e = .returned (.tuple #[]) ∧ u' = .panicking ({ v := .iface 45 (.int .i64 k), recovered := true } :: older) ∧ ∃ w1, w' = w1.setCell ⟨b, 0, none⟩ (.int .i64 k) ∧ RAt WR g [] k w1 ∧ Turn g w w1 := by
  have hta := ta_err k
  obtain ⟨x, hb⟩ := hb
  have H := fail_any g s e0 k w hr
  have hlb : b < w.heap.size := World.block_lt_of_cell? w ⟨b, 0, none⟩ hb
  refine callsD_of_wpS Tryz.func110 rfl fun c₀ cs hu => ?_
  have hrec : recV (c₀ :: cs) = (.iface 45 (.int .i64 k), { c₀ with mode := .panicking ({ v := .iface 45 (.int .i64 k), recovered := true } :: older) } :: cs) := by simp [recV, recoverD, hu]
  simp only [Tryz.ntmps110]
  rw [show ((#[.pointer (some ⟨c, 0, none⟩), .pointer (some ⟨b, 0, none⟩)] : Array Value) ++ Array.replicate (14 - (#[.pointer (some ⟨c, 0, none⟩), .pointer (some ⟨b, 0, none⟩)] : Array Value).size) undef) = #[.pointer (some ⟨c, 0, none⟩), .pointer (some ⟨b, 0, none⟩), undef, undef, undef, undef, undef, undef, undef, undef, undef, undef, undef, undef] from rfl]
  refine wpS_seq (wpS_region_recover rfl rfl ?_)
  rw [hrec]
  clear hrec hu
  go_wp2_with fail
  simp only [Exit.thenS]
  refine wpS_of_wp ?_
  go_wp2_with (go_at_call 111; (with_reducible refine H.mono ?_); rintro e w1 ⟨rfl, hr1, ht⟩; have hb1 := ht.cell hb hbg; have hf1 := (ht.frozen (p := ⟨b, 0, none⟩) hlb hbg).trans hbf; have HR1 := Lib.hid hr1; have HT := Lib.hid ht; clear hr1 ht)
  exact ⟨rfl, _, rfl, _, results_none rfl _ _ _, rfl, rfl, w1, rfl, HR1.out, HT.out⟩

set_option maxHeartbeats 2000000 in
theorem item_ok_count (F : FuncId) (caps : Array Value) (g : Nat) (s : List UInt8) (W : World) (h : RAt WR g s 0 W) (P : World → Value → World → Prop)
    (hF : ∀ w : World, (callFunc F caps).run Tryz.prog w = .ok (.enter F caps) w) (hP : ∀ w v w', P w v w' → Turn g w w')
    (H : ∀ w, Below W.heap.size W w → Calls Tryz.prog F caps w fun e w' => ∃ v, e = .returned v ∧ P w v w') :
    Calls Tryz.prog 92 #[.pointer (some ⟨g, 0, none⟩), .func (.func F) #[] caps] W fun e w' => ∃ v w1, e = .returned (.tuple #[v, .int .i64 0]) ∧ Below W.heap.size W w1 ∧ P w1 v w' := by
  have hmf : ∀ (fn : Fn) (first cap : Array Value) (w : World), (Instr.makeFunc fn first cap).run Tryz.prog w = .ok (.func fn first cap) w := fun _ _ _ _ => rfl
  go_enter_defers Tryz.func92, Tryz.ntmps92
  have hg := h.lt
  have HX : Hid (Below W.heap.size W ((W.alloc (.cells #[.pointer (some ⟨g, 0, none⟩)] 108)).alloc (.cells #[.int .i64 0] 45))) := Lib.hid ((below_box _ _).alloc (by simp) _)
  have HRX := h.step HX.out
  have HWr := wrong_any g s 0 _ HRX
  have HH := H _ HX.out
  have hne : W.heap.size + 1 ≠ g := by omega
  have hce : ((W.alloc (.cells #[.pointer (some ⟨g, 0, none⟩)] 108)).alloc (.cells #[.int .i64 0] 45)).cell? ⟨W.heap.size + 1, 0, none⟩ = some (.int .i64 0) := by simp [go_sem]
  have hfe : ((W.alloc (.cells #[.pointer (some ⟨g, 0, none⟩)] 108)).alloc (.cells #[.int .i64 0] 45)).frozen? ⟨W.heap.size + 1, 0, none⟩ = false := by simp [go_sem]
  have HCE := Lib.hid hce
  have HFE := Lib.hid hfe
  clear hce hfe
  go_wp2_with (first
    | (go_at_call 77; (with_reducible refine HWr.mono ?_); rintro e w0 ⟨rfl, rfl⟩)
    | ((with_reducible refine HH.mono ?_); rintro e w2 ⟨v, rfl, hp⟩; have HPv := Lib.hid hp; clear hp; have HT := hP _ _ _ HPv.out; have hc2 := HT.cell HCE.out hne; have hf2 := (HT.frozen (p := ⟨W.heap.size + 1, 0, none⟩) (by simp) hne).trans HFE.out; have hs2 := setCell_same hc2))
  refine leaves_cons (f := 110) (args := #[.pointer (some ⟨W.heap.size, 0, none⟩), .pointer (some ⟨W.heap.size + 1, 0, none⟩)]) (by simp) (by simp [go_sem]) ?_
  refine (idle_count _ _ _).mono ?_
  rintro e u' w'' ⟨rfl, rfl, rfl⟩
  exact ⟨.tuple #[v, .int .i64 0], by simp [results, Tryz.results92, go_sem, hc2], v, _, rfl, HX.out, HPv.out⟩
set_option maxHeartbeats 2000000 in
theorem item_bad_count (F : FuncId) (caps : Array Value) (g : Nat) (s : List UInt8) (k : Int) (W : World) (h : RAt WR g s 0 W)
    (hF : ∀ w : World, (callFunc F caps).run Tryz.prog w = .ok (.enter F caps) w)
    (H : ∀ w, Below W.heap.size W w → Calls Tryz.prog F caps w fun e w' => e = .panicked (ErrP k) ∧ (∃ s2, RAt WR g s2 0 w') ∧ Turn g w w') :
    Calls Tryz.prog 92 #[.pointer (some ⟨g, 0, none⟩), .func (.func F) #[] caps] W fun e w' => e = .returned (.tuple #[.int .i64 0, .int .i64 k]) ∧ RAt WR g [] k w' ∧ Turn g W w' := by
  have hmf : ∀ (fn : Fn) (first cap : Array Value) (w : World), (Instr.makeFunc fn first cap).run Tryz.prog w = .ok (.func fn first cap) w := fun _ _ _ _ => rfl
  go_enter_defers Tryz.func92, Tryz.ntmps92
  have hg := h.lt
  have HX : Hid (Below W.heap.size W ((W.alloc (.cells #[.pointer (some ⟨g, 0, none⟩)] 108)).alloc (.cells #[.int .i64 0] 45))) := Lib.hid ((below_box _ _).alloc (by simp) _)
  have HRX := h.step HX.out
  have HWr := wrong_any g s 0 _ HRX
  have HH := H _ HX.out
  have hne : W.heap.size + 1 ≠ g := by omega
  have hne2 : W.heap.size ≠ g := by omega
  have hce : ((W.alloc (.cells #[.pointer (some ⟨g, 0, none⟩)] 108)).alloc (.cells #[.int .i64 0] 45)).cell? ⟨W.heap.size + 1, 0, none⟩ = some (.int .i64 0) := by simp [go_sem]
  have hcr : ((W.alloc (.cells #[.pointer (some ⟨g, 0, none⟩)] 108)).alloc (.cells #[.int .i64 0] 45)).cell? ⟨W.heap.size, 0, none⟩ = some (.pointer (some ⟨g, 0, none⟩)) := by simp [go_sem]
  have hfe : ((W.alloc (.cells #[.pointer (some ⟨g, 0, none⟩)] 108)).alloc (.cells #[.int .i64 0] 45)).frozen? ⟨W.heap.size + 1, 0, none⟩ = false := by simp [go_sem]
  have HCE := Lib.hid hce
  have HCR := Lib.hid hcr
  have HFE := Lib.hid hfe
  clear hce hfe hcr
  go_wp2_with (first
    | (go_at_call 77; (with_reducible refine HWr.mono ?_); rintro e w0 ⟨rfl, rfl⟩)
    | ((with_reducible refine HH.mono ?_); rintro e w2 ⟨rfl, ⟨s2, hr2⟩, ht2⟩; have HR2 := Lib.hid hr2; have HT := Lib.hid ht2; clear hr2 ht2))
  refine leaves_cons (f := 110) (args := #[.pointer (some ⟨W.heap.size, 0, none⟩), .pointer (some ⟨W.heap.size + 1, 0, none⟩)]) (by simp) (by simp [go_sem]) ?_
  refine (catch_count W.heap.size (W.heap.size + 1) g s2 0 k [] _ (HT.out.cell HCR.out hne2) HR2.out ⟨0, HT.out.cell HCE.out hne⟩ ((HT.out.frozen (p := ⟨W.heap.size + 1, 0, none⟩) (by simp) hne).trans HFE.out) hne).mono ?_
  rintro e u' w'' ⟨rfl, rfl, w1, rfl, hr1, ht1⟩
  have hT := (Turn.of (g := g) HX.out).trans (HT.out.trans ht1)
  have hc1 := ht1.cell (HT.out.cell HCE.out hne) hne
  exact ⟨.tuple #[.int .i64 0, .int .i64 k], by simp [results, Tryz.results92, go_sem, hc1], rfl, hr1.turn (g2 := W.heap.size + 1) ((Turn.refl _ _).set 0 _) (by omega), hT.setNew (by omega) 0 _⟩
set_option maxHeartbeats 1000000 in
theorem item_old_count (fv : Value) (g : Nat) (s : List UInt8) (e : Int) (W : World) (h : RAt WR g s e W) (he : e ≠ 0) :
    Calls Tryz.prog 92 #[.pointer (some ⟨g, 0, none⟩), fv] W fun e' w' => e' = .returned (.tuple #[.int .i64 0, .int .i64 e]) ∧ Below W.heap.size W w' := by
  have HX : Hid (Below W.heap.size W ((W.alloc (.cells #[.pointer (some ⟨g, 0, none⟩)] 108)).alloc (.cells #[.int .i64 0] 45))) := Lib.hid ((below_box _ _).alloc (by simp) _)
  have HWr := wrong_any g s e _ (h.step HX.out)
  have hB : Hid (∀ x : Int, Below W.heap.size W ((W.alloc (.cells #[.pointer (some ⟨g, 0, none⟩)] 108)).alloc (.cells #[.int .i64 x] 45))) := Lib.hid fun x => (below_box _ _).alloc (by simp) _
  go_enter_defers Tryz.func92, Tryz.ntmps92
  have HB := Lib.hid (hB.out e)
  clear HX hB
  go_wp2_with (go_at_call 77; (with_reducible refine HWr.mono ?_); rintro e w0 ⟨rfl, rfl⟩)
  have hc := RKX (W := W) (.cells #[.pointer (some ⟨g, 0, none⟩)] 108) 45 (.int .i64 e)
  generalize (W.alloc (.cells #[.pointer (some ⟨g, 0, none⟩)] 108)).alloc (.cells #[.int .i64 e] 45) = w2 at *
  obtain ⟨hc1, hc2⟩ := hc
  refine QT.region 3 (by kernel_rfl) (by kernel_rfl) ?_
  simp only [List.take_succ_cons, List.take_zero, List.drop_succ_cons, List.drop_zero]
  repeat (quiet_step (fail))
  refine wpQuiet_nil ?_
  intro nq
  go_wp2_with fail
  exact ⟨.tuple #[.int .i64 0, .int .i64 e], by simp [results, Tryz.results92, go_sem, hc1], rfl, (Below.drawn HB.out nq).setCell (p := ⟨W.heap.size + 1, 0, none⟩) (Nat.le_succ _) _⟩
set_option maxHeartbeats 1000000 in
theorem item_nil_count (fv : Value) (W : World) :
    Calls Tryz.prog 92 #[.pointer none, fv] W fun e' w' => e' = .returned (.tuple #[.int .i64 0, .int .i64 2]) ∧ Below W.heap.size W w' := by
  have HWr := fun w => wrong_nil w
  have hB : Hid (∀ x : Int, Below W.heap.size W ((W.alloc (.cells #[.pointer none] 108)).alloc (.cells #[.int .i64 x] 45))) := Lib.hid fun x => (below_box _ _).alloc (by simp) _
  go_enter_defers Tryz.func92, Tryz.ntmps92
  have HB := Lib.hid (hB.out 2)
  clear hB
  go_wp2_with (go_at_call 77; (with_reducible refine (HWr _).mono ?_); rintro e w0 ⟨rfl, rfl⟩)
  clear HWr
  have hc := RKX (W := W) (.cells #[.pointer none] 108) 45 (.int .i64 2)
  generalize (W.alloc (.cells #[.pointer none] 108)).alloc (.cells #[.int .i64 2] 45) = w2 at *
  obtain ⟨hc1, hc2⟩ := hc
  refine QT.region 3 (by kernel_rfl) (by kernel_rfl) ?_
  simp only [List.take_succ_cons, List.take_zero, List.drop_succ_cons, List.drop_zero]
  repeat (quiet_step (fail))
  refine wpQuiet_nil ?_
  intro nq
  go_wp2_with fail
  exact ⟨.tuple #[.int .i64 0, .int .i64 2], by simp [results, Tryz.results92, go_sem, hc1], rfl, (Below.drawn HB.out nq).setCell (p := ⟨W.heap.size + 1, 0, none⟩) (Nat.le_succ _) _⟩

end M
end Go.Proofs.YtoacmingocmaaaaGreatDoor
/- The reader's methods for a byte, a number, a whole number: what each answers, and how the reader stands then. -/
namespace Go.Proofs.YtoacmingocmaaaaGreatDoor
open Go Go.RowKit Go.Lib
namespace MM
/-- n bytes off, as a number: the number, what was wrong, what is left. -/
def rOff (n : Nat) (s : List UInt8) (e : Int) : Nat × Int × List UInt8 := if e ≠ 0 then (0, e, s) else if s.length < n then (0, 8, []) else (val (s.take n), 0, s.drop n)
theorem rOff_old {n : Nat} {s : List UInt8} {e : Int} (he : e ≠ 0) : rOff n s e = (0, e, s) := by simp [rOff, he]
theorem rOff_short {n : Nat} {s : List UInt8} (h : s.length < n) : rOff n s 0 = (0, 8, []) := by simp [rOff, h]
theorem rOff_good {n : Nat} {s : List UInt8} (h : n ≤ s.length) : rOff n s 0 = (val (s.take n), 0, s.drop n) := by simp [rOff]; omega
/-- The whole number that 64 bits are. -/
def i64 (n : Nat) : Int := IntKind.i64.wrap (n : Int)
end MM
namespace M

end M
end Go.Proofs.YtoacmingocmaaaaGreatDoor
/- The reader's methods for a count, for a text, and its end. -/
namespace Go.Proofs.YtoacmingocmaaaaGreatDoor
open Go Go.RowKit Go.Lib
namespace MM
/-- A number of at most most. -/
def rCount (most : Int) (s : List UInt8) (e : Int) : Nat × Int × List UInt8 :=
  if e ≠ 0 then (0, e, s) else if s.length < 8 then (0, 8, []) else if most < 0 ∨ most < (val (s.take 8) : Int) then (0, 4, []) else (val (s.take 8), 0, s.drop 8)
theorem rCount_old {most : Int} {s : List UInt8} {e : Int} (he : e ≠ 0) : rCount most s e = (0, e, s) := by simp [rCount, he]
theorem rCount_short {most : Int} {s : List UInt8} (h : s.length < 8) : rCount most s 0 = (0, 8, []) := by simp [rCount, h]
theorem rCount_form {most : Int} {s : List UInt8} (h : 8 ≤ s.length) (hm : most < 0 ∨ most < (val (s.take 8) : Int)) : rCount most s 0 = (0, 4, []) := by
  have : ¬ s.length < 8 := by omega
  simp [rCount, this, hm]
theorem rCount_good {most : Int} {s : List UInt8} (h : 8 ≤ s.length) (hm : ¬ (most < 0 ∨ most < (val (s.take 8) : Int))) : rCount most s 0 = (val (s.take 8), 0, s.drop 8) := by
  have : ¬ s.length < 8 := by omega
  simp [rCount, this, hm]
/-- A text. -/
def rText (s : List UInt8) (e : Int) : List UInt8 × Int × List UInt8 :=
  if e ≠ 0 then ([], e, s) else if s.length < 2 then ([], 8, []) else if 2048 < val (s.take 2) then ([], 40, []) else if s.length - 2 < val (s.take 2) then ([], 8, []) else ((s.drop 2).take (val (s.take 2)), 0, (s.drop 2).drop (val (s.take 2)))
theorem rText_old {s : List UInt8} {e : Int} (he : e ≠ 0) : rText s e = ([], e, s) := by simp [rText, he]
theorem rText_short {s : List UInt8} (h : s.length < 2) : rText s 0 = ([], 8, []) := by simp [rText, h]
theorem rText_large {s : List UInt8} (h : 2 ≤ s.length) (hm : 2048 < val (s.take 2)) : rText s 0 = ([], 40, []) := by
  have : ¬ s.length < 2 := by omega
  simp [rText, this, hm]
theorem rText_less {s : List UInt8} (h : 2 ≤ s.length) (hm : val (s.take 2) ≤ 2048) (hl : s.length - 2 < val (s.take 2)) : rText s 0 = ([], 8, []) := by
  have h1 : ¬ s.length < 2 := by omega
  have h2 : ¬ 2048 < val (s.take 2) := by omega
  simp [rText, h1, h2, hl]
theorem rText_good {s : List UInt8} (h : 2 ≤ s.length) (hm : val (s.take 2) ≤ 2048) (hl : val (s.take 2) ≤ s.length - 2) : rText s 0 = ((s.drop 2).take (val (s.take 2)), 0, (s.drop 2).drop (val (s.take 2))) := by
  have h1 : ¬ s.length < 2 := by omega
  have h2 : ¬ 2048 < val (s.take 2) := by omega
  have h3 : ¬ s.length - 2 < val (s.take 2) := by omega
  simp only [rText, h1, h2, h3, if_false, ne_eq, not_true_eq_false]
end MM
namespace RK
/-- Number i alone may come, and calls; the call panics. -/
theorem Any.panics {P : Program} {md : Region.Mode} {ops : Array Oper} {Q : Exit → Act → World → Prop} {S : World → Prop} {st : Nat} {s : Array Bool} {a : Act} {w : World} {f : Nat} (i : Nat) {o : Oper} (g : FuncId) (args : Array Value)
    (hr : Region.ready md ops s = [i]) (hi : ops[i]? = some o) (hw : Region.wanted o (yielded ops a.tmps) = true) (he : (execOp a.eval o).run P w = .ok (.enter g args) w)
    (h : Calls P g args w fun e w' => ∃ ch, e = .panicked ch ∧ Q (.panic ch) a w') : Any P md ops Q S st (f + 1) s a w :=
  ⟨fun e => (by rw [hr] at e; cases e), fun j hj => by
    rw [hr] at hj
    obtain rfl : j = i := by simpa using hj
    unfold wpOp
    simp only [hi, hw, if_true]
    refine .inl ?_
    unfold Oper.wp
    rw [he, Oper.upon_enter]
    refine h.mono ?_
    rintro e w' ⟨ch, rfl, h1⟩
    exact h1⟩
end RK
namespace M
end M
end Go.Proofs.YtoacmingocmaaaaGreatDoor

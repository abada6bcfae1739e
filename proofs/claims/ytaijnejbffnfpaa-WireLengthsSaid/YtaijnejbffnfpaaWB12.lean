/- The texts WirInts, one behind the other. -/
import Derived.Test.YtaijnejbffnfpaaWB11
/- A row of whole numbers that a call makes by appends; bytes of things, cut. -/
namespace Go.Proofs.Ytaijnejbffnfpaa
open Go Go.RowKit Go.Lib
namespace MM
theorem cat_drop_len (f : Nat → Th) (n k : Nat) (hk : k ≤ (cat f n).length) : ((cat f n).take k).drop (cat f n).length = [] := List.drop_eq_nil_of_le (by rw [List.length_take]; omega)
theorem cat_split (f : Nat → Th) (n i : Nat) (h : i < n) : ∃ more, cat f n = cat f i ++ ((f i).bytes ++ more) ∧ cat f n = cat f (i + 1) ++ more := by
  obtain ⟨m, hm⟩ := cat_pre f n (i + 1) h
  exact ⟨m, by rw [hm, cat_succ, List.append_assoc], hm⟩
theorem cat_cut (f : Nat → Th) (n i k : Nat) (h : i < n) (h1 : (cat f i).length ≤ k) (h2 : k < (cat f (i + 1)).length) :
    ((cat f n).take k).drop (cat f i).length = (f i).bytes.take (k - (cat f i).length) ∧ k - (cat f i).length < (f i).bytes.length := by
  obtain ⟨m, hm, _⟩ := cat_split f n i h
  have hl : (cat f (i + 1)).length = (cat f i).length + (f i).bytes.length := by rw [cat_succ, List.length_append]
  refine ⟨?_, by omega⟩
  rw [hm, List.drop_take, List.drop_left' rfl, List.take_append_of_le_length (by omega)]
theorem cat_keep (f : Nat → Th) (n i k : Nat) (h : i < n) (h2 : (cat f (i + 1)).length ≤ k) :
    ((cat f n).take k).drop (cat f i).length = (f i).bytes ++ ((cat f n).take k).drop (cat f (i + 1)).length := by
  obtain ⟨m, hm, hm2⟩ := cat_split f n i h
  have hl : (cat f (i + 1)).length = (cat f i).length + (f i).bytes.length := by rw [cat_succ, List.length_append]
  have e1 : ((cat f n).take k).drop (cat f (i + 1)).length = m.take (k - (cat f (i + 1)).length) := by rw [hm2, List.drop_take, List.drop_left' rfl]
  rw [e1, hm, List.drop_take, List.drop_left' rfl, List.take_append, List.take_of_length_le (by omega : (f i).bytes.length ≤ k - (cat f i).length), hl]
  congr 2
  omega
end MM
namespace M
theorem info_i64 : (Try.prog.info? 3).map (fun i => (i.zero, i.size, i.bytes)) = some (some (.int .i64 0), 1, 8) := by kernel_rfl
def ilist (n : Nat) (z : Nat → Nat) : List Value := (List.range n).map fun k => .int .i64 ((z k : Nat) : Int)
theorem ilist_len (n : Nat) (z : Nat → Nat) : (ilist n z).length = n * 1 := by simp [ilist]
theorem ilist_get {n : Nat} {z : Nat → Nat} {k : Nat} (h : k < n) : (ilist n z)[k]? = some (.int .i64 ((z k : Nat) : Int)) := by simp [ilist, h]
theorem ilist_succ (n : Nat) (z : Nat → Nat) : ilist n z ++ [.int .i64 ((z n : Nat) : Int)] = ilist (n + 1) z := by simp [ilist, List.range_succ]
/-- The row so far, of the call's own memory; nothing old has changed. -/
structure OwnZ (w0 : World) (k : Nat) (z : Nat → Nat) (v : Value) (w : World) : Prop where
  own : w.ownsRow w0.heap.size 3 1 v k (ilist k z)
  below : Below w0.heap.size w0 w
section
variable {w0 w w' : World} {k : Nat} {v : Value} {z : Nat → Nat}
theorem OwnZ.start (z : Nat → Nat) (h : Below w0.heap.size w0 w) : OwnZ w0 0 z (.slice none 0 0) w := ⟨⟨by simp [ilist], .inl ⟨rfl, rfl⟩⟩, h⟩
theorem OwnZ.step (h : OwnZ w0 k z v w) (hb : Below w.heap.size w w') : OwnZ w0 k z v w' :=
  ⟨h.own.kept (row := none) ⟨hb.os, hb.tape, hb.output, hb.size, fun k hk _ => hb.block k hk⟩ (by cases v.ownBlock <;> simp), h.below.trans (hb.mono h.below.size)⟩
theorem OwnZ.push {ao : Option Addr} {c x : Nat} (h : OwnZ w0 k z (.slice ao k c) w) (hx : z k = x) (hk : k ≤ 100000) :
    ∃ (ao' : Option Addr) (c' : Nat) (w' : World), (Builtin.append_ #[66, 66] 66 #[.slice ao k c, .slice (some ⟨w.heap.size, 0, none⟩) 1 1]).run Try.prog (w.alloc (.cells #[.int .i64 (x : Int)] 3)) = .ok (.slice ao' (k + 1) c') w' ∧ OwnZ w0 (k + 1) z (.slice ao' (k + 1) c') w' := by
  obtain ⟨i0, hi, hz0, hz1, hz2⟩ := info_parts info_i64
  have ha := h.step (below_box w (.cells #[.int .i64 (x : Int)] 3))
  obtain ⟨v', w', hr, ho, hg, _⟩ := run_append_own (P := Try.prog) (w.alloc (.cells #[.int .i64 (x : Int)] 3)) w0.heap.size 66 66 3 i0 (.int .i64 0) 1 8 Try.underlying66 hi hz0 hz1 hz2 rfl (by decide) (.slice ao k c) k (ilist k z) ha.own ⟨w.heap.size, 0, none⟩ 1 1 [.int .i64 (x : Int)] rfl (fun j u hj => by
    have hl := (List.getElem?_eq_some_iff.1 hj).1
    obtain rfl : j = 0 := by simpa using hl
    have hn := heap_alloc_new w (.cells #[.int .i64 (x : Int)] 3)
    have hc := cell_of_row _ w.heap.size 0 _ _ _ hn
    rw [Addr.add_mid, Nat.zero_add, hc, ← hj]
    rfl) (by simp [Value.oneCell']) (by unfold maxLen; omega) (by omega) ha.below.size
  have hx2 : ilist k z ++ [.int .i64 (x : Int)] = ilist (k + 1) z := by rw [← hx]; exact ilist_succ k z
  rw [hx2] at ho
  have hO : OwnZ w0 (k + 1) z v' w' := ⟨ho, ha.below.trans ⟨hg.os, hg.tape, hg.output, hg.size, fun j hj => hg.block j (Nat.lt_of_lt_of_le hj ha.below.size) (fun e => by have := (ha.own.lt j e.symm).1; omega)⟩⟩
  have hv : ∃ ao' c', v' = .slice ao' (k + 1) c' := by
    obtain ⟨_, ⟨h1, h2⟩ | ⟨g, cap, cur, h1, _⟩⟩ := ho
    · omega
    · exact ⟨_, _, h1⟩
  obtain ⟨ao', c', rfl⟩ := hv
  exact ⟨ao', c', w', hr, hO⟩
/-- What the row reads as. -/
theorem OwnZ.row {ao : Option Addr} {c : Nat} (h : OwnZ w0 k z (.slice ao k c) w) : ∃ g, (0 < k → ao = some ⟨g, 0, none⟩) ∧ w0.heap.size ≤ g ∧ (0 < k → g < w.heap.size) ∧ ∀ j, j < k → w.cell? ⟨g, j, none⟩ = some (.int .i64 ((z j : Nat) : Int)) := by
  obtain ⟨_, ⟨h1, h2⟩ | ⟨g, cap, cur, h1, h2, h3, h4, h5, _, h7⟩⟩ := h.own
  · subst h2
    exact ⟨w0.heap.size, fun h => absurd h (by omega), Nat.le_refl _, fun h => absurd h (by omega), fun j hj => absurd hj (by omega)⟩
  · injection h1 with e1
    refine ⟨g, fun _ => e1, h2, fun _ => row_lt h3, fun j hj => ?_⟩
    have e2 : (cur.toList.take (k * 1))[j]? = (ilist k z)[j]? := by rw [h7]
    rw [ilist_get hj, List.getElem?_take_of_lt (by omega)] at e2
    rw [cell_of_row w g j _ _ _ h3]
    simpa using e2
end
/-- Where a text is cut. -/
theorem cut_at (cut : Int) (S : List UInt8) (hS : S.length ≤ 9223372036854775806) : ∃ k : Nat, wrap64 ((IntKind.u64.wrap cut).tmod ((S.length : Int) + 1)) = (k : Int) ∧ k ≤ S.length := by
  have h0 : 0 ≤ IntKind.u64.wrap cut := by simp [IntKind.wrap, IntKind.bits, IntKind.signed]; omega
  rw [Int.tmod_eq_emod_of_nonneg h0]
  have h1 := Int.emod_nonneg (IntKind.u64.wrap cut) (b := (S.length : Int) + 1) (by omega)
  have h2 := Int.emod_lt_of_pos (IntKind.u64.wrap cut) (b := (S.length : Int) + 1) (by omega)
  generalize IntKind.u64.wrap cut % ((S.length : Int) + 1) = x at *
  refine ⟨x.toNat, ?_, by omega⟩
  unfold wrap64
  omega
/-- What the loop over the cut bytes stands on. -/
structure CK (W : World) (g ge n : Nat) (z : Nat → Nat) (s : List UInt8) (w : World) : Prop where
  rg : InG W g s 0 w
  en : ∀ j, j < n → w.cell? ⟨ge, j, none⟩ = some (.int .i64 ((z j : Nat) : Int))
theorem boxed_cell {w : World} {p : Addr} {v : Value} (h : w.cell? p = some v) (cs : Array Value) : ((w.alloc (.cells zTh 45)).setRow w.heap.size cs).cell? p = some v :=
  ((boxed_below w cs).cell (World.block_lt_of_cell? w _ h)).trans h
/-- As BK, and the row of ends. -/
structure BC (W : World) (g : Nat) (s : List UInt8) (b : Nat) (y : Th) (B O : Nat) (t : Th) (ge n : Nat) (z : Nat → Nat) (w : World) : Prop where
  bk : BK W g s b y B O t w
  en : ∀ j, j < n → w.cell? ⟨ge, j, none⟩ = some (.int .i64 ((z j : Nat) : Int))
theorem BC.step {W w w' : World} {g : Nat} {s : List UInt8} {b : Nat} {y : Th} {B O : Nat} {t : Th} {ge n : Nat} {z : Nat → Nat} (h : BC W g s b y B O t ge n z w) (hb : Below w.heap.size w w') : BC W g s b y B O t ge n z w' :=
  ⟨h.bk.step hb, fun j hj => (hb.cell (World.block_lt_of_cell? w _ (h.en j hj))).trans (h.en j hj)⟩
end M
end Go.Proofs.Ytaijnejbffnfpaa

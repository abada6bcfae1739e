/- The independent rows as they lie: a map from their first index to a row of the call's own; and rows of rows that a slice reads. -/
import Derived.Test.YtflkmjihgfjofaaDoorMine
import Derived.Test.YtflkmjihgfjofaaDoorRankMath
import Derived.Maps.OwnSet
import Derived.Maps.OwnOps
import Derived.Maps.Views
import Derived.WalkSpells
namespace Go.Proofs.YtflkmjihgfjofaaDoor
open Go Go.RowKit Go.Lib
open Go.Maps (Keyed)
namespace M
theorem keyInt : Keyed Tryd.prog 3 := Go.Maps.int_keyed Tryd.underlying3
theorem zeroRow (w : World) : (zeroValue 25).run Tryd.prog w = .ok (.slice none 0 0) w := by kernel_rfl
/-- An element of the map reads as itself. -/
def asIs (v : Value) : Option (DataW Value × List MemPlace) := some (.held v, [])
def key (j : Nat) : Lit := .int .i64 (j : Int)
theorem key_wf {j : Nat} (h : j ≤ 1000000000) : (Lit.int .i64 (j : Int)).wf = true := by
  simp [Lit.wf, IntKind.min, IntKind.max, IntKind.signed, IntKind.bits]; omega
theorem key_of {j : Nat} (h : j ≤ 1000000000) : keyOf Tryd.prog 3 (.int .i64 (j : Int)) = some (key j) := Go.Maps.keyOf_int_mk Tryd.underlying3 (key_wf h)
theorem key_ne {j k : Nat} (h : j ≠ k) : key j ≠ key k := fun e => h (by unfold key at e; injection e with _ e; omega)
/-- The cells of a row. -/
def Cells (w : World) (B n : Nat) (z : Nat → Nat) : Prop := ∃ cs : Array Value, w.heap[B]? = some (.cells cs 24 (0, 0)) ∧ cs.size = n ∧ ∀ k, k < n → cs[k]? = some (.int .u64 ((z k : Nat) : Int))
theorem Cells.of {w w' : World} {B n : Nat} {z : Nat → Nat} (h : Cells w B n z) (e : w'.heap[B]? = w.heap[B]?) : Cells w' B n z := by
  obtain ⟨cs, h1, h2⟩ := h
  exact ⟨cs, e.trans h1, h2⟩
theorem Cells.row {w : World} {B n : Nat} {z : Nat → Nat} (h : Cells w B n z) : Row w ⟨B, 0, none⟩ n z := by
  obtain ⟨cs, h1, _, h3⟩ := h
  exact Row.of_block h1 h3
theorem Cells.cell {w : World} {B n : Nat} {z : Nat → Nat} (h : Cells w B n z) {k : Nat} (hk : k < n) : w.cell? ⟨B, k, none⟩ = some (.int .u64 ((z k : Nat) : Int)) := row_cell h.row hk
theorem Cells.congr {w : World} {B n : Nat} {z y : Nat → Nat} (h : Cells w B n z) (e : ∀ k, k < n → z k = y k) : Cells w B n y := by
  obtain ⟨cs, h1, h2, h3⟩ := h
  exact ⟨cs, h1, h2, fun k hk => by rw [h3 k hk, e k hk]⟩
theorem Mine.cells {w0 w : World} {B n : Nat} {z : Nat → Nat} (h : Mine w0 B n z w) : Cells w B n z := h.block
/-- What stands in the map at an index. -/
def Stands (w : World) (m hi wd : Nat) (b : MM.Bs) (j : Nat) (v : Value) : Prop :=
  (b j = none → v = .slice none 0 0) ∧ ∀ z, b j = some z → ∃ g, v = .slice (some ⟨g, 0, none⟩) wd wd ∧ g < hi ∧ g ≠ m ∧ Cells w g wd z
/-- Block m is the map of n independent rows, each as wide as wd; they lie below block hi. -/
structure Bas (w : World) (m hi n wd : Nat) (b : MM.Bs) : Prop where
  map : ∃ D : DataW Value, w.ownsMap Tryd.prog 3 asIs m n D ∧ Go.Maps.size D = n ∧ (∀ j, Go.Maps.has D (key j) = (b j).isSome) ∧ ∀ j, ∃ v, D.atKey (key j) (.held (.slice none 0 0)) = .held v ∧ Stands w m hi wd b j v
  lt : m < hi
  top : hi ≤ w.heap.size
  lts : ∀ j z, b j = some z → ∀ i, z i < 18446744073709551616
section
variable {w w' : World} {m hi n wd : Nat} {b : MM.Bs}
theorem Stands.of {j : Nat} {v : Value} (h : Stands w m hi wd b j v) (e : ∀ k, k < hi → k ≠ m → w'.heap[k]? = w.heap[k]?) : Stands w' m hi wd b j v := by
  refine ⟨h.1, fun z hz => ?_⟩
  obtain ⟨g, h1, h2, h3, h4⟩ := h.2 z hz
  exact ⟨g, h1, h2, h3, h4.of (e g h2 h3)⟩
theorem ownsMap_of {P : Program} {k : TypeId} {R : Value → Option (DataW Value × List MemPlace)} {D : DataW Value} (h : w.ownsMap P k R m n D) (e : w'.heap[m]? = w.heap[m]?) : w'.ownsMap P k R m n D := by
  obtain ⟨es, clock, hb, F, hs, hD⟩ := h
  exact ⟨es, clock, e.trans hb, F, hs, hD⟩
theorem Bas.of (h : Bas w m hi n wd b) (e : ∀ k, k < hi → w'.heap[k]? = w.heap[k]?) (hs : w.heap.size ≤ w'.heap.size) : Bas w' m hi n wd b := by
  obtain ⟨D, h1, h2, h3, h4⟩ := h.map
  refine ⟨⟨D, ownsMap_of h1 (e m h.lt), h2, h3, fun j => ?_⟩, h.lt, Nat.le_trans h.top hs, h.lts⟩
  obtain ⟨v, h5, h6⟩ := h4 j
  exact ⟨v, h5, h6.of fun k hk _ => e k hk⟩
theorem Bas.step (h : Bas w m hi n wd b) (hb : Below w.heap.size w w') : Bas w' m hi n wd b := h.of (fun k hk => hb.block k (by have := h.top; omega)) hb.size
theorem Bas.drewN (h : Bas w m hi n wd b) (i : Nat) : Bas (w.drewN i) m hi n wd b := h.step (below_drewN' w i _)
theorem Bas.alloc (h : Bas w m hi n wd b) (o : Obj) : Bas (w.alloc o) m hi n wd b := h.step (below_box _ _)
theorem Bas.kept (h : Bas w m hi n wd b) {B : Nat} (hk : Kept B w w') (hB : hi ≤ B) (hs : w.heap.size ≤ w'.heap.size) : Bas w' m hi n wd b := h.of (fun k hkk => hk k (by have := h.top; omega) (by omega)) hs
theorem Bas.setCell (h : Bas w m hi n wd b) {B : Nat} (hB : hi ≤ B) (i : Nat) (v : Value) : Bas (w.setCell ⟨B, i, none⟩ v) m hi n wd b := h.of (fun k hk => Below.heap_setCell w ⟨B, i, none⟩ v k (by show k ≠ B; omega)) (by simp [World.setCell])
theorem Bas.empty {w : World} {m : Nat} (h : w.heap[m]? = some (.map #[] 0)) (wd : Nat) : Bas w m w.heap.size 0 wd (fun _ => none) := by
  refine ⟨⟨.map [], ⟨#[], 0, h, ⟨by simp, MapKept.stamped_empty 0, by simp⟩, Nat.le_refl _, rfl⟩, rfl, fun j => rfl, fun j => ⟨_, rfl, fun _ => rfl, fun z hz => by cases hz⟩⟩, row_lt h, Nat.le_refl _, fun j z hz => by cases hz⟩
/-- A look at an index. -/
theorem Bas.look (h : Bas w m hi n wd b) {j : Nat} (hj : j ≤ 1000000000) : ∃ v, (Instr.lookup 45 (.map (some m)) (.int .i64 (j : Int)) false).run Tryd.prog w = .ok v w ∧ Stands w m hi wd b j v := by
  obtain ⟨D, h1, _, _, h4⟩ := h.map
  obtain ⟨v, h5, h6⟩ := h4 j
  obtain ⟨u, ps, hr, hu⟩ := h1.lookup keyInt Tryd.underlying45 (zeroRow w) (zd := .held (.slice none 0 0)) (zp := []) rfl (key_of hj)
  rw [h5] at hu
  have e : u = v ∧ ps = [] := by unfold asIs at hu; simpa using hu
  obtain ⟨e, _⟩ := e
  subst e
  exact ⟨u, hr, h6⟩
/-- A new row is put there. -/
theorem Bas.put (h : Bas w m hi n wd b) {f g : Nat} {z : Nat → Nat} (hf : f ≤ 1000000000) (hn : n ≤ 1000000000) (hb : b f = none) (hg : Cells w g wd z) (hgh : hi ≤ g) (hz : ∀ i, z i < 18446744073709551616) :
    ∃ w', (Instr.mapUpdate 45 (.map (some m)) (.int .i64 (f : Int)) (.slice (some ⟨g, 0, none⟩) wd wd)).run Tryd.prog w = .ok () w' ∧ Bas w' m w.heap.size (n + 1) wd (fun j => if j = f then some z else b j) ∧ w.grownBy w' (some m) := by
  obtain ⟨D, h1, h2, h3, h4⟩ := h.map
  obtain ⟨w', hr, ho, hgr⟩ := h1.update keyInt Tryd.underlying45 (by unfold maxLen; omega) (key_of hf) (val := .slice (some ⟨g, 0, none⟩) wd wd) (d := .held (.slice (some ⟨g, 0, none⟩) wd wd)) (ps := []) rfl
  have hgl : g < w.heap.size := by obtain ⟨cs, h5, _⟩ := hg; exact row_lt h5
  have hml := h.lt
  have hgm : g ≠ m := by omega
  have hk : ∀ k, k < w.heap.size → k ≠ m → w'.heap[k]? = w.heap[k]? := fun k h1 h2 => hgr.block k h1 (fun e => h2 (by injection e))
  have htop := h.top
  have hD := h1.isMap
  have hkl : WideAt.IsKeyLit (key f) := by unfold key; first | trivial | exact ⟨_, _, rfl⟩ | simp [WideAt.IsKeyLit]
  refine ⟨w', hr, ⟨⟨_, ho, ?_, fun j => ?_, fun j => ?_⟩, by omega, hgr.size, fun j y hy => ?_⟩, hgr⟩
  · rw [Go.Maps.size_put (h1.tidy keyInt), h3, hb, h2]; rfl
  · by_cases e : j = f
    · subst e; rw [Go.Maps.has_put_same hD hkl]; simp
    · rw [Go.Maps.has_put_other (key_ne e), h3]; simp [e]
  · by_cases e : j = f
    · subst e
      refine ⟨_, Go.Maps.atKey_put_same hD hkl _ _, ?_⟩
      refine ⟨fun e => ?_, fun y hy => ?_⟩
      · simp at e
      · obtain rfl : z = y := by simpa using hy
        exact ⟨g, rfl, hgl, hgm, hg.of (hk g hgl hgm)⟩
    · obtain ⟨v, h5, h6⟩ := h4 j
      refine ⟨v, by rw [Go.Maps.atKey_put_other (key_ne e)]; exact h5, ?_⟩
      have h7 := h6.of (w' := w') fun k a c => hk k (by omega) c
      refine ⟨fun e1 => h7.1 (by simpa [e] using e1), fun y hy => ?_⟩
      replace hy : b j = some y := by simpa [e] using hy
      obtain ⟨g', a1, a2, a3, a4⟩ := h7.2 y hy
      exact ⟨g', a1, by omega, a3, a4⟩
  · by_cases e : j = f
    · obtain rfl : z = y := by simpa [e] using hy
      exact hz
    · exact h.lts j y (by simpa [e] using hy)
/-- How many rows there are. -/
theorem Bas.len (h : Bas w m hi n wd b) (ty : TypeId) : (Builtin.len_ #[45] ty #[.map (some m)]).run Tryd.prog w = .ok (.int .i64 (n : Int)) w := by
  obtain ⟨D, h1, h2, _, _⟩ := h.map
  have := h1.len Tryd.underlying45 ty
  rw [h2] at this
  exact this
end
/-- Rows of numbers that a slice of slices reads. -/
def NRows (W : World) (ao : Option Addr) (rows : List (List Nat)) : Prop := ∀ i, i < rows.length → ∃ ad bo c, ao = some ad ∧ W.cell? (ad.add i) = some (.slice bo (rows.getD i []).length c) ∧ Rd W bo (rows.getD i []).length (MM.ofL (rows.getD i []))
theorem NRows.below {W W' : World} {ao : Option Addr} {rows : List (List Nat)} (h : NRows W ao rows) (hb : Below W.heap.size W W') : NRows W' ao rows := fun i hi => by
  obtain ⟨ad, bo, c, h1, h2, h3⟩ := h i hi
  exact ⟨ad, bo, c, h1, by rw [hb.cell (World.block_lt_of_cell? W _ h2)]; exact h2, h3.below hb⟩
/-- The struct of the independent rows, as it lies in a box. -/
abbrev bCells (m wd q : Nat) : Array Value := #[.map (some m), .int .i64 (wd : Int), .int .u64 (q : Int)]
end M
end Go.Proofs.YtflkmjihgfjofaaDoor

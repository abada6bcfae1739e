/- Whole numbers that a slice reads; rows of them; models as they lie. -/
import Derived.Test.YtdblijpoelcghaaFixMath
import Derived.Test.YtdblijpoelcghaaMine
namespace Go.Proofs.Ytdblijpoelcghaa
open Go Go.RowKit Go.Lib
namespace M
/-- Whole numbers that a slice reads, where one without an address is the nil slice. -/
def IRow (W : World) (ao : Option Addr) (n c : Nat) (z : Nat → Int) : Prop := (∀ k, k < n → ∃ ad, ao = some ad ∧ W.cell? (ad.add k) = some (.int .i64 (z k))) ∧ (ao = none → n = 0 ∧ c = 0) ∧ n ≤ c
theorem IRow.below {W W' : World} {ao : Option Addr} {n c : Nat} {z : Nat → Int} (h : IRow W ao n c z) (hb : Below W.heap.size W W') : IRow W' ao n c z := ⟨fun k hk => by
  obtain ⟨ad, e, hc⟩ := h.1 k hk
  exact ⟨ad, e, (hb.cell (World.block_lt_of_cell? W _ hc)).trans hc⟩, h.2⟩
theorem IRow.at_ {W : World} {ao : Option Addr} {n c : Nat} {z : Nat → Int} (h : IRow W ao n c z) {k : Nat} (hk : k < n) : ∃ ad, ao = some ad ∧ W.cell? (ad.add k) = some (.int .i64 (z k)) := h.1 k hk
theorem IRow.nil (W : World) (z : Nat → Int) : IRow W none 0 0 z := ⟨fun _ h => absurd h (by omega), fun _ => ⟨rfl, rfl⟩, Nat.le_refl _⟩
/-- Rows of whole numbers that a slice reads. -/
def IMat (W : World) (ao : Option Addr) (m : Nat) (L : Nat → Nat) (F : Nat → Nat → Int) : Prop := ∀ i, i < m → ∃ ad bo c, ao = some ad ∧ W.cell? (ad.add i) = some (.slice bo (L i) c) ∧ IRow W bo (L i) c (F i)
theorem IMat.below {W W' : World} {ao : Option Addr} {m : Nat} {L : Nat → Nat} {F : Nat → Nat → Int} (h : IMat W ao m L F) (hb : Below W.heap.size W W') : IMat W' ao m L F := fun i hi => by
  obtain ⟨ad, bo, c, e, hc, hr⟩ := h i hi
  exact ⟨ad, bo, c, e, (hb.cell (World.block_lt_of_cell? W _ hc)).trans hc, hr.below hb⟩
/-- Where a model lies. -/
structure MoV where
  wo : Option Addr
  wc : Nat
  bo : Option Addr
  bc : Nat
/-- A model's two cells. -/
abbrev MoV.cells (v : MoV) (o : MM.Mo) : Array Value := #[.slice v.wo o.m v.wc, .slice v.bo o.n v.bc]
/-- The model reads so. -/
structure MoAt (W : World) (v : MoV) (o : MM.Mo) : Prop where
  mat : IMat W v.wo o.m o.L o.F
  bias : IRow W v.bo o.n v.bc o.b
theorem MoAt.below {W W' : World} {v : MoV} {o : MM.Mo} (h : MoAt W v o) (hb : Below W.heap.size W W') : MoAt W' v o := ⟨h.mat.below hb, h.bias.below hb⟩
/-- The sizes are such as there can be. -/
structure MoOk (o : MM.Mo) : Prop where
  m : o.m ≤ 9223372036854775807
  n : o.n ≤ 9223372036854775807
  L : ∀ i, o.L i ≤ 9223372036854775807
  F : ∀ i j, -9223372036854775808 ≤ o.F i j ∧ o.F i j ≤ 9223372036854775807
  b : ∀ i, -9223372036854775808 ≤ o.b i ∧ o.b i ≤ 9223372036854775807
/-- The model lies in the block g. -/
def BoxM (w : World) (g : Nat) (v : MoV) (o : MM.Mo) : Prop := w.heap[g]? = some (.cells (v.cells o) 36 (0, 0))
theorem BoxM.lt {w : World} {g : Nat} {v : MoV} {o : MM.Mo} (h : BoxM w g v o) : g < w.heap.size := row_lt h
theorem BoxM.below {w w' : World} {g : Nat} {v : MoV} {o : MM.Mo} (h : BoxM w g v o) (hb : Below w.heap.size w w') : BoxM w' g v o := (hb.block _ h.lt).trans h
theorem BoxM.new (w : World) (v : MoV) (o : MM.Mo) : BoxM (w.alloc (.cells (v.cells o) 36)) w.heap.size v o := heap_alloc_new w _
theorem BoxM.cell {w : World} {g : Nat} {v : MoV} {o : MM.Mo} (h : BoxM w g v o) (j : Nat) : w.cell? ⟨g, j, none⟩ = (v.cells o)[j]? := cell_of_row w g j _ _ _ h
theorem info_pm : (Try.prog.info? 31).map (·.size) = some 12 := by kernel_rfl
theorem info_mo : (Try.prog.info? 36).map (·.size) = some 2 := by kernel_rfl
/-- Parameters, a model, loaded out of their blocks. -/
theorem load_pm {ops : Array Oper} {rest : List Oper} {o : Oper} {a : Act} {w : World} {Q : Exit → Act → World → Prop} (hgd : Region.wanted o (yielded ops a.tmps) = true) (x : Operand) (ho : o.op = .load 31 x)
    (g : Nat) (hx : a.eval x = .pointer (some ⟨g, 0, none⟩)) (p : Pm) (hg : Box w g p) (h : wpList Try.prog ops Q rest (a.put o.dst (.agg p.cells)) w) : wpList Try.prog ops Q (o :: rest) a w :=
  wpList_row_if hgd _ x ho g hx _ p.cells (0, 0) _ hg Try.underlying31 rfl info_pm h
theorem load_mo {ops : Array Oper} {rest : List Oper} {o : Oper} {a : Act} {w : World} {Q : Exit → Act → World → Prop} (hgd : Region.wanted o (yielded ops a.tmps) = true) (x : Operand) (ho : o.op = .load 36 x)
    (g : Nat) (hx : a.eval x = .pointer (some ⟨g, 0, none⟩)) (v : MoV) (m : MM.Mo) (hg : BoxM w g v m) (h : wpList Try.prog ops Q rest (a.put o.dst (.agg (v.cells m))) w) : wpList Try.prog ops Q (o :: rest) a w :=
  wpList_row_if hgd _ x ho g hx _ (v.cells m) (0, 0) _ hg Try.underlying36 rfl info_mo h
end M
end Go.Proofs.Ytdblijpoelcghaa

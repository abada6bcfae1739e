/- Mixtures of queries whose factors come to 1; rows of whole numbers that a call makes by appends; three queries, two models. -/
import Derived.Test.YtdblijpoelcghaaFixMath3
import Derived.Test.YtdblijpoelcghaaFixPush
import Derived.Test.YtdblijpoelcghaaFixW3
namespace Go.Proofs.Ytdblijpoelcghaa
open Go Go.RowKit Go.Lib
namespace MM
def pick3 {α : Type} (a b c : α) : Nat → α
  | 0 => a
  | 1 => b
  | _ => c
def mixZ (a b : Int) (x y z : Nat → Int) (i : Nat) : Int := a * x i + b * y i + (1 - a - b) * z i
theorem lin_mix (o : Mo) (a b : Int) (x y z : Nat → Int) (k : Nat) : ∀ i, linP o (mixZ a b x y z) k i = a * linP o x k i + b * linP o y k i + (1 - a - b) * linP o z k i
  | 0 => by simp [linP]
  | i + 1 => by
    rw [linP, linP, linP, linP, lin_mix o a b x y z k i, mixZ]
    grind
theorem sco_mix {p : Pm} {o1 o2 : Mo} {a b : Int} {x y z : Nat → Int} {k : Nat} (hx : scoZ p o1 x k = scoZ p o2 x k) (hy : scoZ p o1 y k = scoZ p o2 y k) (hz : scoZ p o1 z k = scoZ p o2 z k) : scoZ p o1 (mixZ a b x y z) k = scoZ p o2 (mixZ a b x y z) k := by
  unfold scoZ at *
  rw [scoP_lin, scoP_lin] at *
  rw [lin_mix, lin_mix]
  grind
theorem mix_lt {a b u v w : Int} (ha : -1000 < a ∧ a < 1000) (hb : -1000 < b ∧ b < 1000) (hu : -1048576 ≤ u ∧ u ≤ 1048576) (hv : -1048576 ≤ v ∧ v ≤ 1048576) (hw : -1048576 ≤ w ∧ w ≤ 1048576) :
    (-1048576000 ≤ a * u ∧ a * u ≤ 1048576000) ∧ (-1048576000 ≤ b * v ∧ b * v ≤ 1048576000) ∧ (-2097152000 ≤ (1 - a - b) * w ∧ (1 - a - b) * w ≤ 2097152000) := by
  have h1 := abs_mul_le (m := 1000) (x := 1048576) (a := a) (b := u) (by omega) (by omega)
  have h2 := abs_mul_le (m := 1000) (x := 1048576) (a := b) (b := v) (by omega) (by omega)
  have h3 := abs_mul_le (m := 2000) (x := 1048576) (a := 1 - a - b) (b := w) (by omega) (by omega)
  omega
end MM
namespace M
def ilist (n : Nat) (z : Nat → Int) : List Value := (List.range n).map fun k => .int .i64 (z k)
theorem ilist_len (n : Nat) (z : Nat → Int) : (ilist n z).length = n * 1 := by simp [ilist]
theorem ilist_get {n : Nat} {z : Nat → Int} {k : Nat} (h : k < n) : (ilist n z)[k]? = some (.int .i64 (z k)) := by simp [ilist, h]
theorem ilist_succ (n : Nat) (z : Nat → Int) : ilist n z ++ [.int .i64 (z n)] = ilist (n + 1) z := by simp [ilist, List.range_succ]
/-- A row of whole numbers by appends. -/
structure OwnW (w0 : World) (B : Nat) (v : Value) (k : Nat) (z : Nat → Int) (w : World) : Prop where
  own : w.ownsRow B 2 1 v k (ilist k z)
  size : B ≤ w.heap.size
  low : w0.heap.size ≤ B
  below : Below w0.heap.size w0 w
section
variable {w0 w w' : World} {B k : Nat} {v : Value} {z : Nat → Int}
theorem OwnW.start (w0 : World) (z : Nat → Int) : OwnW w0 w0.heap.size (.slice none 0 0) 0 z w0 := ⟨⟨by simp [ilist], .inl ⟨rfl, rfl⟩⟩, Nat.le_refl _, Nat.le_refl _, Below.refl _ _⟩
theorem OwnW.step (h : OwnW w0 B v k z w) (hb : Below w.heap.size w w') : OwnW w0 B v k z w' :=
  ⟨h.own.kept (row := none) ⟨hb.os, hb.tape, hb.output, hb.size, fun k hk _ => hb.block k hk⟩ (by cases v.ownBlock <;> simp), Nat.le_trans h.size hb.size, h.low, h.below.trans (hb.mono h.below.size)⟩
theorem OwnW.drewN (h : OwnW w0 B v k z w) (n : Nat) : OwnW w0 B v k z (w.drewN n) := h.step (below_drewN' w n _)
theorem OwnW.grow (h : OwnW w0 B v k z w) {v' : Value} {k' : Nat} {xs : List Value} (ho : w'.ownsRow B 2 1 v' k' xs) (hx : xs = ilist k' z) (hg : w.grownBy w' v.ownBlock) : OwnW w0 B v' k' z w' :=
  ⟨hx ▸ ho, Nat.le_trans h.size hg.size, h.low,
   h.below.trans ⟨hg.os, hg.tape, hg.output, hg.size, fun j hj => hg.block j (Nat.lt_of_lt_of_le hj h.below.size) (fun e => by have := (h.own.lt j e.symm).1; have := h.low; omega)⟩⟩
theorem OwnW.push (h : OwnW w0 B v k z w) (c : Nat) (hk : k ≤ 900000) :
    ∃ v' w', (Builtin.append_ #[34, 34] 34 #[v, .slice (some ⟨w.heap.size, 0, none⟩) 1 c]).run Try.prog (w.alloc (.cells #[.int .i64 (z k)] 2)) = .ok v' w' ∧ OwnW w0 B v' (k + 1) z w' := by
  obtain ⟨i0, hi, hz0, hz1, hz2⟩ := info_parts info_i64
  have ha := h.step (below_box w (.cells #[.int .i64 (z k)] 2))
  obtain ⟨v', w', hr, ho, hg, _⟩ := run_append_own (P := Try.prog) _ B 34 34 2 i0 (.int .i64 0) 1 8 Try.underlying34 hi hz0 hz1 hz2 rfl (by decide) v k (ilist k z) ha.own ⟨w.heap.size, 0, none⟩ 1 c [.int .i64 (z k)] rfl (fun j u hj => by
    have hl := (List.getElem?_eq_some_iff.1 hj).1
    obtain rfl : j = 0 := by simpa using hl
    cases hj
    rw [show (⟨w.heap.size, 0, none⟩ : Addr).add 0 = ⟨w.heap.size, 0, none⟩ from rfl, cell_of_row _ _ _ _ _ _ (heap_alloc_new w _)]; rfl) (by simp [Value.oneCell']) (by unfold maxLen; omega) (by omega) ha.size
  exact ⟨v', w', hr, ha.grow ho (ilist_succ k z) hg⟩
theorem OwnW.irow (h : OwnW w0 B v k z w) : ∃ ao c, v = .slice ao k c ∧ IRow w ao k c z := by
  obtain ⟨_, ⟨h1, h2⟩ | ⟨g, cap, cur, h1, h2, h3, h4, h5, _, h7⟩⟩ := h.own
  · subst h2; exact ⟨none, 0, h1, IRow.nil w z⟩
  · refine ⟨_, cap, h1, fun j hj => ⟨_, rfl, ?_⟩, (fun h => by cases h), h4⟩
    have e1 : (cur.toList.take (k * 1))[j]? = (ilist k z)[j]? := by rw [h7]
    rw [ilist_get hj, List.getElem?_take_of_lt (by omega)] at e1
    rw [row_add, cell_of_row w g j _ _ _ h3]
    simpa using e1
end
/-- Parameters and two models in their boxes. -/
structure In3 (w0 : World) (g h k : Nat) (p : Pm) (v : MoV) (o : MM.Mo) (u : MoV) (q : MM.Mo) (w : World) : Prop where
  box : Box w g p
  mod : BoxM w h v o
  mat : MoAt w v o
  mod2 : BoxM w k u q
  mat2 : MoAt w u q
  below : Below w0.heap.size w0 w
theorem In3.step {w0 w w' : World} {g h k : Nat} {p : Pm} {v u : MoV} {o q : MM.Mo} (i : In3 w0 g h k p v o u q w) (hb : Below w.heap.size w w') : In3 w0 g h k p v o u q w' :=
  ⟨i.box.below hb, i.mod.below hb, i.mat.below hb, i.mod2.below hb, i.mat2.below hb, i.below.trans (hb.mono i.below.size)⟩
theorem In3.new (w : World) (p : Pm) (v u : MoV) (o q : MM.Mo) (h1 : MoAt w v o) (h2 : MoAt w u q) : In3 w w.heap.size (w.heap.size + 1) (w.heap.size + 1 + 1) p v o u q (((w.alloc (.cells p.cells 31)).alloc (.cells (v.cells o) 36)).alloc (.cells (u.cells q) 36)) := by
  have i := InM.new w p v o h1
  generalize hw : (w.alloc (.cells p.cells 31)).alloc (.cells (v.cells o) 36) = W at *
  have hs : W.heap.size = w.heap.size + 1 + 1 := by rw [← hw, World.size_alloc, World.size_alloc]
  have hb := below_box W (.cells (u.cells q) 36)
  have hn := BoxM.new W u q
  rw [hs] at hn
  exact ⟨i.box.below hb, i.mod.below hb, i.mat.below hb, hn, (h2.below i.below).below hb, i.below.trans (hb.mono i.below.size)⟩
/-- Three rows as a list of rows. -/
theorem three_mat (u : World) {ao bo co : Option Addr} {n m l ca cb cc : Nat} {x y z : Nat → Int} (hx : IRow u ao n ca x) (hy : IRow u bo m cb y) (hz : IRow u co l cc z) :
    IMat (u.alloc (.cells #[.slice ao n ca, .slice bo m cb, .slice co l cc] 34)) (some ⟨u.heap.size, 0, none⟩) 3 (MM.pick3 n m l) (MM.pick3 x y z) := fun i hi => by
  have hb := below_box u (.cells #[.slice ao n ca, .slice bo m cb, .slice co l cc] 34)
  have hc := fun j => cell_of_row _ u.heap.size j _ _ _ (heap_alloc_new u (.cells #[.slice ao n ca, .slice bo m cb, .slice co l cc] 34))
  match i, hi with
  | 0, _ => exact ⟨_, ao, ca, rfl, by rw [row_add, hc]; rfl, hx.below hb⟩
  | 1, _ => exact ⟨_, bo, cb, rfl, by rw [row_add, hc]; rfl, hy.below hb⟩
  | 2, _ => exact ⟨_, co, cc, rfl, by rw [row_add, hc]; rfl, hz.below hb⟩
end M
end Go.Proofs.Ytdblijpoelcghaa

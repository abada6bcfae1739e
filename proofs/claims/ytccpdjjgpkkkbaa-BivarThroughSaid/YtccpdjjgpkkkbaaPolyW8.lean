/- The walk of the program's weights of points. -/
import Derived.Test.YtccpdjjgpkkkbaaPolyW7
import Derived.Sort.CutIn
namespace Go.Proofs.Ytccpdjjgpkkkbaa
open Go Go.RowKit Go.Lib Go.Shelf
namespace MM
/-- The product of the factors at x, but for the one of the point i. -/
def prodL (x q : Nat) (z : Nat → Nat) (i : Nat) (l : List Nat) : Nat := l.foldl (fun v j => if j = i then v else mulU v (addU x (subU 0 (z j) q) q) q) 1
theorem prodL_same (x q : Nat) (z : Nat → Nat) (i : Nat) (l : List Nat) : prodL x q z i (l ++ [i]) = prodL x q z i l := by simp [prodL]
theorem prodL_other {x q : Nat} {z : Nat → Nat} {i j : Nat} (h : j ≠ i) (l : List Nat) : prodL x q z i (l ++ [j]) = mulU (prodL x q z i l) (addU x (subU 0 (z j) q) q) q := by simp [prodL, h]
theorem prodL_lt (x q : Nat) (z : Nat → Nat) (i : Nat) (l : List Nat) : prodL x q z i l < 18446744073709551616 := by
  suffices H : ∀ (l : List Nat) (v : Nat), v < 18446744073709551616 → l.foldl (fun v j => if j = i then v else mulU v (addU x (subU 0 (z j) q) q) q) v < 18446744073709551616 from H l 1 (by omega)
  intro l
  induction l with
  | nil => intro v h; exact h
  | cons j l ih =>
    intro v h
    refine ih _ ?_
    show (if j = i then v else _) < _
    by_cases e : j = i
    · rw [if_pos e]; exact h
    · rw [if_neg e]; exact mulU_lt _ _ _
def undU (q : Nat) (z : Nat → Nat) (n i : Nat) : Nat := prodL (z i) q z i (List.range n)
noncomputable def wgtU (p q : Nat) (z : Nat → Nat) (n i : Nat) : Nat := mulU (prodL p q z i (List.range n)) (invU (undU q z n i) q) q
end MM
namespace M
attribute [local go_sem] Oper.semAt_some
/-- What the program's weights are, or that some difference has no inverse. -/
def Weighed (w : World) (n p q : Nat) (z : Nat → Nat) (e : Ending) (w' : World) : Prop :=
  (∃ B : Nat, e = .returned (.tuple #[.slice (some ⟨B, 0, none⟩) n n, .int .i64 0]) ∧ Mine w B n (MM.wgtU p q z n) w' ∧ ∀ j, j < n → MM.invC (MM.undU q z n j) q = 0) ∨
  (e = .returned (.tuple #[.slice none 0 0, .int .i64 5]) ∧ Below w.heap.size w w' ∧ ∃ j, j < n ∧ MM.invC (MM.undU q z n j) q ≠ 0)
theorem Mine.leave {w w1 w2 : World} {B n : Nat} {z : Nat → Nat} (h : Mine w B n z w1) (hb : Below w.heap.size w1 w2) (hc : CellsAs w1 w2) : Mine w B n z w2 :=
  ⟨by obtain ⟨cs, h1, h2⟩ := h.block; exact ⟨cs, hc _ _ _ _ h1, h2⟩, h.low, h.below.trans hb⟩
/-- The state between two rounds of the outer loop. -/
structure WInv (w : World) (g0 B n p q k : Nat) (z : Nat → Nat) (Ds : List Nat) (wx : World) : Prop where
  mine : Mine w B n (fun j => if j < k then MM.wgtU p q z n j else 0) wx
  b1 : Box wx g0 22 (.int .u64 (p : Int))
  b2 : Box wx (g0 + 1) 22 (.int .u64 (q : Int))
  marks : Marks Ds wx
  low : ∀ D, D ∈ Ds → w.heap.size ≤ D
  good : ∀ j, j < k → MM.invC (MM.undU q z n j) q = 0
theorem Rd.lt {w : World} {ad : Addr} {n : Nat} {z : Nat → Nat} (h : Rd w (some ad) n z) (hn : 0 < n) : ad.block < w.heap.size ∧ Row w ad n z := by
  obtain ⟨ad', e, hr⟩ := h hn
  cases e
  have h1 := World.block_lt_of_cell? w _ (hr 0 hn)
  have hb : (ad.add 0).block = ad.block := by unfold Addr.add; split <;> rfl
  exact ⟨by rw [← hb]; exact h1, hr⟩
theorem boxes2 (w : World) (t1 t2 : TypeId) (v1 v2 : Value) : ∃ W, (w.alloc (.cells #[v1] t1)).alloc (.cells #[v2] t2) = W ∧ Below w.heap.size w W ∧ W.heap.size = w.heap.size + 1 + 1 ∧ Box W w.heap.size t1 v1 ∧ Box W (w.heap.size + 1) t2 v2 := by
  obtain ⟨W1, h1⟩ : ∃ W1, w.alloc (.cells #[v1] t1) = W1 := ⟨_, rfl⟩
  obtain ⟨W2, h2⟩ : ∃ W2, W1.alloc (.cells #[v2] t2) = W2 := ⟨_, rfl⟩
  have b1 : Below w.heap.size w W1 := h1 ▸ below_box _ _
  have b2 : Below W1.heap.size W1 W2 := h2 ▸ below_box _ _
  have s1 : W1.heap.size = w.heap.size + 1 := by rw [← h1, World.size_alloc]
  have s2 : W2.heap.size = w.heap.size + 1 + 1 := by rw [← h2, World.size_alloc, s1]
  exact ⟨W2, by rw [h1, h2], b1.trans (b2.mono b1.size), s2, Box.below (W := W1) (by rw [← h1]; exact Box.new _ _ _) b2, by rw [← h2, ← s1]; exact Box.new _ _ _⟩
theorem boxes4 (w : World) (t1 t2 t3 t4 : TypeId) (v1 v2 v3 v4 : Value) : ∃ W, (((w.alloc (.cells #[v1] t1)).alloc (.cells #[v2] t2)).alloc (.cells #[v3] t3)).alloc (.cells #[v4] t4) = W ∧ Below w.heap.size w W ∧ W.heap.size = w.heap.size + 1 + 1 + 1 + 1 ∧
    Box W w.heap.size t1 v1 ∧ Box W (w.heap.size + 1) t2 v2 ∧ Box W (w.heap.size + 1 + 1) t3 v3 ∧ Box W (w.heap.size + 1 + 1 + 1) t4 v4 := by
  obtain ⟨W2, h2, b2, s2, x1, x2⟩ := boxes2 w t1 t2 v1 v2
  obtain ⟨W4, h4, b4, s4, x3, x4⟩ := boxes2 W2 t3 t4 v3 v4
  rw [s2] at s4 x3 x4
  exact ⟨W4, by rw [h2, h4], b2.trans (b4.mono b2.size), s4, x1.below b4, x2.below b4, x3, x4⟩

end M
end Go.Proofs.Ytccpdjjgpkkkbaa

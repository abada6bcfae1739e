/- Lists that are given number by number: what reads so, words on them; models of such lists. -/
import Derived.Test.YtdblijpoelcghaaFixR1
import Derived.Test.YtdblijpoelcghaaFixW6
import Derived.Test.YtdblijpoelcghaaFixW8
import Derived.Test.YtdblijpoelcghaaTame
namespace Go.Proofs.Ytdblijpoelcghaa
open Go Go.RowKit Go.Lib
namespace MM
def nl (l : List Nat) (k : Nat) : Nat := l.getD k 0
def il (l : List Int) (k : Nat) : Int := l.getD k 0
/-- A model of given rows and biases. -/
def moL (W : List (List Int)) (B : List Int) : Mo := ⟨W.length, fun i => (W.getD i []).length, fun i j => (W.getD i []).getD j 0, B.length, fun j => B.getD j 0⟩
end MM
namespace M
/-- A value that reads as these numbers, as these whole numbers. -/
def IsU (l : List Nat) (v : Value) (w : World) : Prop := ∃ ao c, v = .slice ao l.length c ∧ l.length ≤ c ∧ Rd w ao l.length (MM.nl l)
def IsI (l : List Int) (v : Value) (w : World) : Prop := ∃ ao c, v = .slice ao l.length c ∧ IRow w ao l.length c (MM.il l)
theorem IsU.below {l : List Nat} {v : Value} {w w' : World} (h : IsU l v w) (hb : Below w.heap.size w w') : IsU l v w' := let ⟨ao, c, e, h1, h2⟩ := h; ⟨ao, c, e, h1, h2.below hb⟩
theorem IsI.below {l : List Int} {v : Value} {w w' : World} (h : IsI l v w) (hb : Below w.heap.size w w') : IsI l v w' := let ⟨ao, c, e, h1⟩ := h; ⟨ao, c, e, h1.below hb⟩
def wU (l : List Nat) : RK.Word := ⟨IsU l, fun _ _ _ h hb => h.below hb⟩
def wI (l : List Int) : RK.Word := ⟨IsI l, fun _ _ _ h hb => h.below hb⟩
theorem isU_of {l : List Nat} {lo n : Nat} {w : World} {v : Value} {z : Nat → Nat} (h : NewU lo w v n z) (hn : n = l.length) (hz : ∀ k, k < l.length → z k = MM.nl l k) : IsU l v w := by
  subst hn
  obtain ⟨ao, c, e, h1, h2⟩ := NewU.rd h
  refine ⟨ao, c, e, h1, fun hn => ?_⟩
  obtain ⟨ad, e2, hr⟩ := h2 hn
  exact ⟨ad, e2, fun t ht => by rw [hr t ht, hz t ht]⟩
theorem isI_of {l : List Int} {lo n : Nat} {w : World} {v : Value} {z : Nat → Int} (h : NewI lo w v n z) (hn : n = l.length) (hz : ∀ k, k < l.length → z k = MM.il l k) : IsI l v w := by
  subst hn
  obtain ⟨ao, c, e, h1, h2⟩ := NewI.irow h
  exact ⟨ao, c, e, fun k hk => by rw [← hz k hk]; exact h1 k hk, h2⟩
/-- A slice that was just built. -/
theorem isU_new (w : World) (l : List Nat) {cs : Array Value} {n : Nat} (hn : l.length = n) (hc : cs = (l.map fun x : Nat => Value.int .u64 ((x : Nat) : Int)).toArray) : IsU l (.slice (some ⟨w.heap.size, 0, none⟩) n n) (w.alloc (.cells cs 23)) := by
  subst hn hc
  refine ⟨_, _, rfl, Nat.le_refl _, fun _ => ⟨_, rfl, fun k hk => ?_⟩⟩
  rw [row_add, cell_of_row _ _ _ _ _ _ (heap_alloc_new w _)]
  simp [MM.nl, hk]
theorem isI_new (w : World) (l : List Int) {cs : Array Value} {n : Nat} (hn : l.length = n) (hc : cs = (l.map fun x : Int => Value.int .i64 x).toArray) : IsI l (.slice (some ⟨w.heap.size, 0, none⟩) n n) (w.alloc (.cells cs 2)) := by
  subst hn hc
  refine ⟨_, _, rfl, fun k hk => ⟨_, rfl, ?_⟩, (fun h => by cases h), Nat.le_refl _⟩
  rw [row_add, cell_of_row _ _ _ _ _ _ (heap_alloc_new w _)]
  simp [MM.il, hk]
theorem il_ok {l : List Int} (h : (l.all fun x => decide (-9223372036854775808 ≤ x ∧ x ≤ 9223372036854775807)) = true) (j : Nat) : -9223372036854775808 ≤ MM.il l j ∧ MM.il l j ≤ 9223372036854775807 := by
  unfold MM.il
  rcases Nat.lt_or_ge j l.length with hj | hj
  · rw [List.getD_eq_getElem?_getD, List.getElem?_eq_getElem hj]
    exact of_decide_eq_true (List.all_eq_true.1 h _ (List.getElem_mem hj))
  · rw [List.getD_eq_getElem?_getD, List.getElem?_eq_none hj]; simp
theorem nl_ok {l : List Nat} (h : (l.all fun x => decide (x < 18446744073709551616)) = true) (j : Nat) : MM.nl l j < 18446744073709551616 := by
  unfold MM.nl
  rcases Nat.lt_or_ge j l.length with hj | hj
  · rw [List.getD_eq_getElem?_getD, List.getElem?_eq_getElem hj]
    exact of_decide_eq_true (List.all_eq_true.1 h _ (List.getElem_mem hj))
  · rw [List.getD_eq_getElem?_getD, List.getElem?_eq_none hj]; simp
/-- A list of slices that was just built. -/
theorem mat_new {w : World} {T : TypeId} (rows : List (List Int)) (vs : List Value) {n : Nat} (hv : ∀ i, i < n → ∃ u, vs[i]? = some u ∧ IsI (rows.getD i []) u w) :
    IMat (w.alloc (.cells vs.toArray T)) (some ⟨w.heap.size, 0, none⟩) n (fun i => (rows.getD i []).length) (fun i => MM.il (rows.getD i [])) := fun i hi => by
  obtain ⟨u, h1, ao, c, rfl, h2⟩ := hv i hi
  refine ⟨_, ao, c, rfl, ?_, h2.below (below_box w _)⟩
  rw [row_add, cell_of_row _ _ _ _ _ _ (heap_alloc_new w _)]
  simpa using h1
end M
end Go.Proofs.Ytdblijpoelcghaa

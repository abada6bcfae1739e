/- The texts DskLaw6, one behind the other. -/
import Derived.Test.YtdgaokmmjnedhaaDoorWB11
import Derived.Laws.MakeOwn
import Derived.Laws.OwnMore
/- Two rows of steps, one behind the other, in memory of the call's own. -/
namespace Go.Proofs.YtdgaokmmjnedhaaDoor
open Go.ChangeShapes Go.WideShapes Go.ChangeAt Go.RowKit Go.Lib Go.Deep
namespace M
open MM
/-- The cells of steps, one behind the other. -/
def stepsW (f : Nat → Sp) : Nat → List Value
  | 0 => []
  | i + 1 => stepsW f i ++ (f i).cells.toList
theorem stepsW_len (f : Nat → Sp) : ∀ n, (stepsW f n).length = n * 5
  | 0 => rfl
  | n + 1 => by rw [stepsW, List.length_append, stepsW_len f n]; show n * 5 + 5 = _; omega
theorem stepsW_get (f : Nat → Sp) : ∀ (n i j : Nat) , i < n → j < 5 → (stepsW f n)[i * 5 + j]? = (f i).cells[j]?
  | 0, _, _, h, _ => absurd h (by omega)
  | n + 1, i, j, h, hj => by
    rw [stepsW]
    by_cases e : i = n
    · subst e
      rw [List.getElem?_append_right (by rw [stepsW_len]; omega), stepsW_len, show i * 5 + j - i * 5 = j by omega, Array.getElem?_toList]
    · rw [List.getElem?_append_left (by rw [stepsW_len]; omega)]
      exact stepsW_get f n i j (by omega) hj
theorem stepsW_one (f : Nat → Sp) : ∀ n, ∀ u ∈ stepsW f n, u.oneCell' = true
  | 0, u, h => by cases h
  | n + 1, u, h => by
    rw [stepsW] at h
    rcases List.mem_append.1 h with h | h
    · exact stepsW_one f n u h
    · simp only [List.mem_cons, List.mem_nil_iff, or_false] at h
      rcases h with rfl | rfl | rfl | rfl | rfl <;> rfl
theorem stepsW_cell {w : World} {a : Addr} {n : Nat} {f : Nat → Sp} (h : StepsAt w (some a) n f) (j : Nat) (u : Value) (hj : (stepsW f n)[j]? = some u) : w.cell? (a.add j) = some u := by
  have hl := (List.getElem?_eq_some_iff.1 hj).1
  rw [stepsW_len] at hl
  have e : j = j / 5 * 5 + j % 5 := by omega
  rw [e, stepsW_get f n (j / 5) (j % 5) (by omega) (by omega)] at hj
  obtain ⟨_, _, a2, ha, hc⟩ := h (j / 5) (by omega)
  cases ha
  rw [e]
  exact hc _ u hj
theorem info_step3 : (Tryd.prog.info? 41).map (fun i => (i.zero, i.size, i.bytes)) = some (some (.agg #[.int .u8 0, .int .i64 0, .string ⟨#[]⟩, .int .i64 0, .slice none 0 0]), 5, 64) := by kernel_rfl
theorem own_form {w : World} {b : Nat} {e : TypeId} {s n : Nat} {v : Value} {xs : List Value} (h : w.ownsRow b e s v n xs) : ∃ ao c, v = .slice ao n c := by
  obtain ⟨_, ⟨rfl, rfl⟩ | ⟨g, cap, cur, rfl, _⟩⟩ := h
  · exact ⟨_, _, rfl⟩
  · exact ⟨_, _, rfl⟩
theorem grown_below {w w' : World} {B : Nat} {row : Option Nat} (hg : w.grownBy w' row) (hB : B ≤ w.heap.size) (h : ∀ k, row = some k → B ≤ k) : Below B w w' :=
  ⟨hg.os, hg.tape, hg.output, hg.size, fun j hj => hg.block j (by omega) (fun e => by have := h j e.symm; omega)⟩
/-- Steps behind a row of the call's own. -/
theorem steps_push {w0 w : World} {v : Value} {k : Nat} {xs : List Value} (ho : w.ownsRow w0.heap.size 41 5 v k xs) (hb : Below w0.heap.size w0 w) {ao : Option Addr} {n c : Nat} {f : Nat → Sp} (hf : StepsAt w ao n f) (na : ao = none → n = 0 ∧ c = 0) (hk : k ≤ 1000) (hn : n ≤ 1000) (ty : TypeId) :
    ∃ eo ec w', (Builtin.append_ #[36, 36] ty #[v, .slice ao n c]).run Tryd.prog w = .ok (.slice eo (k + n) ec) w' ∧ w'.ownsRow w0.heap.size 41 5 (.slice eo (k + n) ec) (k + n) (xs ++ stepsW f n) ∧ Below w0.heap.size w0 w' := by
  obtain ⟨i0, hi, hz0, hz1, hz2⟩ := info_parts info_step3
  cases ao with
  | none =>
    obtain ⟨rfl, rfl⟩ := na rfl
    obtain ⟨eo, ec, rfl⟩ := own_form ho
    exact ⟨eo, ec, w, run_append_owned_none (P := Tryd.prog) _ w0.heap.size 36 ty 41 i0 5 Tryd.underlying36 hi _ k xs ho, by simpa [stepsW] using ho, hb⟩
  | some a =>
    obtain ⟨v', w', hr, ho', hg, _⟩ := run_append_own (P := Tryd.prog) w w0.heap.size 36 ty 41 i0 _ 5 64 Tryd.underlying36 hi hz0 hz1 hz2 rfl (by decide) v k xs ho a n c (stepsW f n) (stepsW_len f n) (stepsW_cell hf) (stepsW_one f n) (by unfold maxLen; omega) (by omega) hb.size
    obtain ⟨eo, ec, rfl⟩ := own_form ho'
    exact ⟨eo, ec, w', hr, ho', hb.trans (grown_below hg hb.size fun k hk => (ho.lt k hk).1)⟩
def joinF (f : Nat → Sp) (n : Nat) (g : Nat → Sp) (i : Nat) : Sp := if i < n then f i else g (i - n)
theorem steps_at {w0 w : World} {eo : Option Addr} {n m ec : Nat} {f g : Nat → Sp} {ao bo : Option Addr} (ho : w.ownsRow w0.heap.size 41 5 (.slice eo (n + m) ec) (n + m) (stepsW f n ++ stepsW g m)) (hf : StepsAt w ao n f) (hg : StepsAt w bo m g) : StepsAt w eo (n + m) (joinF f n g) := by
  intro i hi
  have hc := fun q hq => World.ownsRow.cells ho (g := q) hq
  obtain ⟨_, ⟨_, h0⟩ | ⟨q, cap, cur, hv, _⟩⟩ := ho
  · omega
  injection hv with hv _ _
  subst hv
  unfold joinF
  by_cases e : i < n
  · rw [if_pos e]
    obtain ⟨h1, h2, _⟩ := hf i e
    refine ⟨h1, h2, _, rfl, fun j u hj => hc q rfl (i * 5 + j) u ?_⟩
    have hj5 : j < 5 := by have := (Array.getElem?_eq_some_iff.1 hj).1; simpa using this
    rw [List.getElem?_append_left (by rw [stepsW_len]; omega), stepsW_get f n i j e hj5]
    exact hj
  · rw [if_neg e]
    obtain ⟨h1, h2, _⟩ := hg (i - n) (by omega)
    refine ⟨h1, h2, _, rfl, fun j u hj => hc q rfl (i * 5 + j) u ?_⟩
    have hj5 : j < 5 := by have := (Array.getElem?_eq_some_iff.1 hj).1; simpa using this
    rw [List.getElem?_append_right (by rw [stepsW_len]; omega), stepsW_len, show i * 5 + j - n * 5 = (i - n) * 5 + j by omega, stepsW_get g m (i - n) j (by omega) hj5]
    exact hj
/-- The two appends. -/
theorem steps_join {W w : World} (hb : Below W.heap.size W w) {ao bo : Option Addr} {n c m d : Nat} {f g : Nat → Sp} (hf : StepsAt W ao n f) (hg : StepsAt W bo m g) (na : ao = none → n = 0 ∧ c = 0) (nb : bo = none → m = 0 ∧ d = 0) (hn : n ≤ 400) (hm : m ≤ 400) :
    ∃ co cc w1 eo ec w2, (Builtin.append_ #[36, 36] 36 #[.slice (some ⟨w.heap.size, 0, none⟩) 0 0, .slice ao n c]).run Tryd.prog (w.alloc (.cells #[] 41)) = .ok (.slice co n cc) w1 ∧
      (Builtin.append_ #[36, 36] 36 #[.slice co n cc, .slice bo m d]).run Tryd.prog w1 = .ok (.slice eo (n + m) ec) w2 ∧ StepsAt w2 eo (n + m) (joinF f n g) ∧ Below w.heap.size w w2 := by
  have hbx := below_box w (.cells #[] 41)
  have up : ∀ u, Below w.heap.size w u → Below W.heap.size W u := fun u hu => hb.trans (hu.mono hb.size)
  have hown : (w.alloc (.cells #[] 41)).ownsRow w.heap.size 41 5 (.slice (some ⟨w.heap.size, 0, none⟩) 0 0) 0 [] := ⟨rfl, .inr ⟨w.heap.size, 0, #[], rfl, Nat.le_refl _, heap_alloc_new w _, Nat.le_refl _, by unfold maxLen; omega, rfl, rfl⟩⟩
  obtain ⟨co, cc, w1, h1, o1, b1⟩ := steps_push hown hbx (hf.step (up _ hbx)) na (by omega) (by omega) 36
  rw [Nat.zero_add] at h1 o1
  rw [List.nil_append] at o1
  obtain ⟨eo, ec, w2, h2, o2, b2⟩ := steps_push o1 b1 (hg.step (up _ b1)) nb (by omega) (by omega) 36
  exact ⟨co, cc, w1, eo, ec, w2, h1, h2, steps_at o2 (hf.step (up _ b2)) (hg.step (up _ b2)), b2⟩
/-- A row that is no row is empty. -/
theorem open_none {H : Type} {enc : TypeId × Value → H} {w : World} {base : Nat} {held : Bool} {spare : Nat → Bool} {ao : Option Addr} {n c : Nat} {d : DataW H} {pl : List MemPlace} (h : DataW.Trod enc Tryd.prog w base spare held 36 (.slice ao n c) d pl) : ao = none → n = 0 ∧ c = 0 := by
  rintro rfl
  obtain ⟨fuel, hf⟩ := h
  rcases open_slice Tryd.underlying36 hf with ⟨hcs, _⟩ | ⟨a, len, cap, m, k, D, Pl, hcs, _⟩
  · simp [Value.cells] at hcs
    omega
  · simp [Value.cells] at hcs
end M
end Go.Proofs.YtdgaokmmjnedhaaDoor

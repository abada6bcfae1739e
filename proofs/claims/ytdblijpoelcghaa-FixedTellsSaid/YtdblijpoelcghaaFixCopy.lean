/- A model that a call copies: its rows by appends, its biases by an append; where they lie. -/
import Derived.Test.YtdblijpoelcghaaFixSpanM
import Derived.Test.YtdblijpoelcghaaFixOwn
import Derived.Test.YtdblijpoelcghaaRegX
import Derived.Laws.MakeOwn
import Derived.Laws.OwnMore
import Derived.Lib.AppendZeros
namespace Go.Proofs.Ytdblijpoelcghaa
open Go Go.RowKit Go.Lib
namespace M
theorem info_rowsI : (Try.prog.info? 34).map (fun i => (i.zero, i.size, i.bytes)) = some (some (.slice none 0 0), 1, 24) := by kernel_rfl
/-- A row of values, one a cell, that a call itself makes by appends; nothing old has changed. -/
structure OwnV (T : TypeId) (w0 : World) (B : Nat) (v : Value) (xs : List Value) (w : World) : Prop where
  own : w.ownsRow B T 1 v xs.length xs
  size : B ≤ w.heap.size
  low : w0.heap.size ≤ B
  below : Below w0.heap.size w0 w
section
variable {T : TypeId} {w0 w w' : World} {B : Nat} {v : Value} {xs : List Value}
theorem OwnV.start (T : TypeId) (w0 : World) : OwnV T w0 w0.heap.size (.slice none 0 0) [] w0 := ⟨⟨rfl, .inl ⟨rfl, rfl⟩⟩, Nat.le_refl _, Nat.le_refl _, Below.refl _ _⟩
theorem OwnV.step (h : OwnV T w0 B v xs w) (hb : Below w.heap.size w w') : OwnV T w0 B v xs w' :=
  ⟨h.own.kept (row := none) ⟨hb.os, hb.tape, hb.output, hb.size, fun k hk _ => hb.block k hk⟩ (by cases v.ownBlock <;> simp), Nat.le_trans h.size hb.size, h.low, h.below.trans (hb.mono h.below.size)⟩
theorem OwnV.drewN (h : OwnV T w0 B v xs w) (n : Nat) : OwnV T w0 B v xs (w.drewN n) := h.step (below_drewN' w n _)
theorem OwnV.alloc (h : OwnV T w0 B v xs w) (o : Obj) : OwnV T w0 B v xs (w.alloc o) := h.step (below_box _ _)
theorem OwnV.val (h : OwnV T w0 B v xs w) : (v = .slice none 0 0 ∧ xs = []) ∨ ∃ g c, v = .slice (some ⟨g, 0, none⟩) xs.length c ∧ B ≤ g ∧ xs.length ≤ c ∧ ∀ j u, xs[j]? = some u → w.cell? ⟨g, j, none⟩ = some u := by
  obtain ⟨_, ⟨h1, h2⟩ | ⟨g, cap, cur, h1, h2, h3, h4, h5, _, h7⟩⟩ := h.own
  · exact .inl ⟨h1, List.eq_nil_of_length_eq_zero h2⟩
  · refine .inr ⟨g, cap, h1, h2, h4, fun j u hj => ?_⟩
    have hl := (List.getElem?_eq_some_iff.1 hj).1
    have e1 : (cur.toList.take (xs.length * 1))[j]? = xs[j]? := by rw [h7]
    rw [hj, List.getElem?_take_of_lt (by omega)] at e1
    rw [cell_of_row w g j _ _ _ h3]
    simpa using e1
/-- Some values more behind the row. -/
theorem OwnV.more {S : TypeId} {i0 : TypeInfo} {z0 : Value} {sz : Nat} (hS : Try.prog.underlying S = some (.slice T)) (hi : Try.prog.info? T = some i0) (hz : i0.zero = some z0) (h1 : i0.size = 1) (h2 : i0.bytes = sz) (hzs : z0.cells.size = 1) (hsz : sz ≤ 24)
    (h : OwnV T w0 B v xs w) {a : Addr} {m c : Nat} {news : List Value} (hl : news.length = m) (hn : ∀ j u, news[j]? = some u → w.cell? (a.add j) = some u) (ho : ∀ u ∈ news, u.oneCell' = true) (hb : xs.length + m ≤ 1000000) :
    ∃ v' w', (Builtin.append_ #[S, S] S #[v, .slice (some a) m c]).run Try.prog w = .ok v' w' ∧ OwnV T w0 B v' (xs ++ news) w' ∧ w.heap.size ≤ w'.heap.size ∧
      ∀ (k : Nat) (cs : Array Value) (t2 : TypeId), t2 ≠ T → w.heap[k]? = some (.cells cs t2 (0, 0)) → w'.heap[k]? = some (.cells cs t2 (0, 0)) := by
  obtain ⟨v', w', hr, ho', hg, _⟩ := run_append_own (P := Try.prog) w B S S T i0 z0 1 sz hS hi hz h1 h2 hzs (by decide) v xs.length xs h.own a m c news (by omega) hn ho (by unfold maxLen; omega) (Nat.le_trans (Nat.mul_le_mul hb hsz) (by decide)) h.size
  refine ⟨v', w', hr, ⟨?_, Nat.le_trans h.size hg.size, h.low, ?_⟩, hg.size, fun k cs t2 hne hk => (hg.block k (row_lt hk) (fun e => ?_)).trans hk⟩
  · rw [List.length_append, hl]; exact ho'
  · exact h.below.trans ⟨hg.os, hg.tape, hg.output, hg.size, fun j hj => hg.block j (Nat.lt_of_lt_of_le hj h.below.size) (fun e => by have := (h.own.lt j e.symm).1; have := h.low; omega)⟩
  · rcases h.own.2 with ⟨rfl, _⟩ | ⟨g, cap, cur, rfl, _, hg3, _⟩
    · cases e
    · have e' : k = g := by simpa [Value.ownBlock] using e
      subst e'
      rw [hk] at hg3
      injection hg3 with hg3
      injection hg3 with _ e2 _
      exact hne e2
end
theorem RowV.same {T : TypeId} {lo : Nat} {W W' : World} {v : Value} {n : Nat} {u : Nat → Value} (h : RowV T lo W v n u) (hk : ∀ (B : Nat) (cs : Array Value), W.heap[B]? = some (.cells cs T (0, 0)) → W'.heap[B]? = some (.cells cs T (0, 0))) : RowV T lo W' v n u := by
  rcases h with h | ⟨B, c, cs, h0, h1, h2, h3, h4⟩
  · exact .inl h
  · exact .inr ⟨B, c, cs, h0, h1, h2, hk B cs h3, h4⟩
theorem RowV.one {T : TypeId} {lo : Nat} {W : World} {v : Value} {n : Nat} {u : Nat → Value} (h : RowV T lo W v n u) : v.oneCell' = true := by
  rcases h with ⟨rfl, _⟩ | ⟨_, _, _, rfl, _⟩ <;> rfl
theorem ilist_cells {W : World} {ao : Option Addr} {a : Addr} {n c : Nat} {z : Nat → Int} (h : IRow W ao n c z) (ha : ao = some a) : ∀ j u, (ilist n z)[j]? = some u → W.cell? (a.add j) = some u := fun j u hj => by
  have hl := (List.getElem?_eq_some_iff.1 hj).1
  rw [ilist_len] at hl
  rw [ilist_get (by omega)] at hj
  obtain ⟨ad, e, hc⟩ := h.at_ (k := j) (by omega)
  rw [ha] at e
  cases e
  rw [← hj]; exact hc
theorem ilist_one (n : Nat) (z : Nat → Int) : ∀ u ∈ ilist n z, u.oneCell' = true := fun u hu => by
  simp [ilist] at hu
  obtain ⟨k, _, rfl⟩ := hu
  rfl
theorem OwnW.made0 (w : World) (z : Nat → Int) : OwnW w w.heap.size (.slice (some ⟨w.heap.size, 0, none⟩) 0 0) 0 z (w.alloc (.cells #[] 2)) :=
  ⟨World.ownsRow_made w #[] 0 (Nat.le_refl _) (by unfold maxLen; omega) (by simp), by simp, Nat.le_refl _, below_box _ _⟩
/-- A row is copied behind an empty one of the call's own. -/
theorem OwnW.copy {w0 w : World} {B : Nat} {v : Value} {z : Nat → Int} (h : OwnW w0 B v 0 z w) {ao : Option Addr} {n c : Nat} (hn : n ≤ 1000) (hs : IRow w ao n c z) :
    ∃ v' w', (Builtin.append_ #[34, 34] 34 #[v, .slice ao n c]).run Try.prog w = .ok v' w' ∧ OwnW w0 B v' n z w' := by
  obtain ⟨i0, hi, hz0, hz1, hz2⟩ := info_parts info_i64
  cases ao with
  | none =>
    obtain ⟨rfl, rfl⟩ := hs.2.1 rfl
    exact ⟨v, w, run_append_owned_none (P := Try.prog) w B 34 34 2 i0 1 Try.underlying34 hi v 0 (ilist 0 z) h.own, h⟩
  | some a =>
    obtain ⟨v', w', hr, ho, hg, _⟩ := run_append_own (P := Try.prog) w B 34 34 2 i0 (.int .i64 0) 1 8 Try.underlying34 hi hz0 hz1 hz2 rfl (by decide) v 0 (ilist 0 z) h.own a n c (ilist n z) (ilist_len n z) (ilist_cells hs rfl) (ilist_one n z) (by unfold maxLen; omega) (by omega) h.size
    rw [Nat.zero_add] at ho
    exact ⟨v', w', hr, h.grow ho (by simp [ilist]) hg⟩
/-- The copy so far: k rows, the biases. -/
structure Cop (W : World) (B : Nat) (v bv : Value) (k : Nat) (o : MM.Mo) (w : World) : Prop where
  rows : ∃ xs : List Value, xs.length = k ∧ OwnV 34 W B v xs w ∧ ∀ j, j < k → ∃ u, xs[j]? = some u ∧ NewI W.heap.size w u (o.L j) (o.F j)
  bias : NewI W.heap.size w bv o.n o.b
section
variable {W w w' : World} {B k : Nat} {v bv : Value} {o : MM.Mo}
theorem Cop.below (h : Cop W B v bv k o w) : Below W.heap.size W w := by obtain ⟨_, _, h, _⟩ := h.rows; exact h.below
theorem Cop.step (h : Cop W B v bv k o w) (hb : Below w.heap.size w w') : Cop W B v bv k o w' := by
  obtain ⟨xs, hx, ho, hr⟩ := h.rows
  exact ⟨⟨xs, hx, ho.step hb, fun j hj => let ⟨u, h1, h2⟩ := hr j hj; ⟨u, h1, h2.below hb⟩⟩, h.bias.below hb⟩
/-- A cell of another block is set. -/
theorem Cop.set (h : Cop W B v bv k o w) {H : Nat} {cs : Array Value} (hH : w.heap[H]? = some (.cells cs 36 (0, 0))) (hl : W.heap.size ≤ H) (j : Nat) (x : Value) : Cop W B v bv k o (w.setCell ⟨H, j, none⟩ x) := by
  obtain ⟨xs, hx, ho, hr⟩ := h.rows
  have hg : w.grownBy (w.setCell ⟨H, j, none⟩ x) (some H) := by
    have hb := (Below.refl H w).setCell (p := ⟨H, j, none⟩) (Nat.le_refl _) x
    exact ⟨hb.os, hb.tape, hb.output, hb.size, fun b hb' hne => Below.heap_setCell w ⟨H, j, none⟩ x b (fun e => hne (by rw [e]))⟩
  have hs : ∀ (T : TypeId), T ≠ 36 → ∀ (b : Nat) (ds : Array Value), w.heap[b]? = some (.cells ds T (0, 0)) → (w.setCell ⟨H, j, none⟩ x).heap[b]? = some (.cells ds T (0, 0)) := fun T hT b ds hd => (Below.heap_setCell w ⟨H, j, none⟩ x b (fun e => by
    have e' : b = H := e
    subst e'
    rw [hH] at hd
    injection hd with hd
    injection hd with _ e2 _
    exact hT e2.symm)).trans hd
  refine ⟨⟨xs, hx, ⟨ho.own.kept hg ?_, Nat.le_trans ho.size hg.size, ho.low, ho.below.setCell (p := ⟨H, j, none⟩) hl x⟩, fun j hj => let ⟨u, h1, h2⟩ := hr j hj; ⟨u, h1, h2.same (hs _ (by decide))⟩⟩, h.bias.same (hs _ (by decide))⟩
  rcases ho.own.2 with ⟨rfl, _⟩ | ⟨g, cap, cur, rfl, _, hg3, _⟩
  · exact .inl rfl
  · refine .inr fun e => ?_
    have e' : g = H := by simpa [Value.ownBlock] using e
    subst e'
    rw [hH] at hg3
    injection hg3 with hg3
    injection hg3 with _ e2 _
    exact absurd e2 (by decide)
/-- One row more, that lies in a new block by itself. -/
theorem Cop.more (h : Cop W B v bv k o w) {u : Value} (c : Nat) (hr : NewI W.heap.size w u (o.L k) (o.F k)) (hk : k ≤ 900000) :
    ∃ v' w', (Builtin.append_ #[33, 33] 33 #[v, .slice (some ⟨w.heap.size, 0, none⟩) 1 c]).run Try.prog (w.alloc (.cells #[u] 34)) = .ok v' w' ∧ Cop W B v' bv (k + 1) o w' ∧
      ∀ (H : Nat) (cs : Array Value), w.heap[H]? = some (.cells cs 36 (0, 0)) → w'.heap[H]? = some (.cells cs 36 (0, 0)) := by
  obtain ⟨xs, hx, ho, hrs⟩ := h.rows
  obtain ⟨i0, hi, hz0, hz1, hz2⟩ := info_parts info_rowsI
  have hb := below_box w (.cells #[u] 34)
  obtain ⟨v', w', hrun, ho', _, hsame⟩ := (ho.alloc (.cells #[u] 34)).more (S := 33) (a := ⟨w.heap.size, 0, none⟩) (m := 1) (c := c) (news := [u]) Try.underlying33 hi hz0 hz1 hz2 rfl (Nat.le_refl _) rfl (fun j y hj => by
    have hl := (List.getElem?_eq_some_iff.1 hj).1
    obtain rfl : j = 0 := by simpa using hl
    cases hj
    rw [row_add, cell_of_row _ _ _ _ _ _ (heap_alloc_new w _)]; rfl) (by simpa using hr.one) (by omega)
  have hs : ∀ {y : Value} {n : Nat} {z : Nat → Int}, NewI W.heap.size w y n z → NewI W.heap.size w' y n z := fun hy => (hy.below hb).same fun b cs hc => hsame b cs _ (by decide) hc
  refine ⟨v', w', hrun, ⟨⟨xs ++ [u], by simp [hx], ho', fun j hj => ?_⟩, hs h.bias⟩, fun H cs hH => hsame H cs _ (by decide) ((hb.block H (row_lt hH)).trans hH)⟩
  by_cases e : j = k
  · subst e
    exact ⟨u, by rw [List.getElem?_append_right (by omega), hx]; simp, hs hr⟩
  · obtain ⟨y, h1, h2⟩ := hrs j (by omega)
    exact ⟨y, by rw [List.getElem?_append_left (by omega)]; exact h1, hs h2⟩
/-- What the copy reads as. -/
theorem Cop.at_ (h : Cop W B v bv o.m o w) : ∃ u : MoV, v = .slice u.wo o.m u.wc ∧ bv = .slice u.bo o.n u.bc ∧ MoAt w u o := by
  obtain ⟨bo, bc, rfl, hb⟩ := h.bias.irow
  obtain ⟨xs, hx, ho, hrs⟩ := h.rows
  rcases ho.val with ⟨rfl, rfl⟩ | ⟨g, c, rfl, _, _, hc⟩
  · have hk : o.m = 0 := by simpa using hx.symm
    exact ⟨⟨none, 0, bo, bc⟩, by rw [hk], rfl, fun _ h => absurd h (by omega), hb⟩
  · refine ⟨⟨_, c, bo, bc⟩, by rw [hx], rfl, fun i hi => ?_, hb⟩
    obtain ⟨u, h1, h2⟩ := hrs i hi
    obtain ⟨ro, rc, rfl, hs⟩ := h2.irow
    exact ⟨_, ro, rc, rfl, by rw [row_add]; exact hc i _ h1, hs⟩
end
end M
end Go.Proofs.Ytdblijpoelcghaa

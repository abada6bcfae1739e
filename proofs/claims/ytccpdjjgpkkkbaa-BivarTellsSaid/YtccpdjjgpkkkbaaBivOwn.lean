/- Lists of lists: as a slice reads them, and as a call itself makes them by appends; rows of values of whatever type of one cell that a call makes by appends. -/
import Derived.Test.YtccpdjjgpkkkbaaPolyW9
import Derived.Laws.MakeOwn
namespace Go.Proofs.Ytccpdjjgpkkkbaa
open Go Go.RowKit Go.Lib
namespace M
theorem info_rows : (Try.prog.info? 23).map (fun i => (i.zero, i.size, i.bytes)) = some (some (.slice none 0 0), 1, 24) := by kernel_rfl
/-- Numbers that a slice reads, where one without an address is the nil slice. -/
def SrcN (W : World) (ao : Option Addr) (n c : Nat) (z : Nat → Nat) : Prop := Rd W ao n z ∧ (ao = none → n = 0 ∧ c = 0)
theorem SrcN.below {W W' : World} {ao : Option Addr} {n c : Nat} {z : Nat → Nat} (h : SrcN W ao n c z) (hb : Below W.heap.size W W') : SrcN W' ao n c z := ⟨h.1.below hb, h.2⟩
/-- A list of lists that a slice reads: m lists, the list i of L i numbers F i. -/
def Mat (W : World) (ao : Option Addr) (m : Nat) (L : Nat → Nat) (F : Nat → Nat → Nat) : Prop := ∀ i, i < m → ∃ ad bo c, ao = some ad ∧ W.cell? (ad.add i) = some (.slice bo (L i) c) ∧ SrcN W bo (L i) c (F i)
theorem Mat.below {W W' : World} {ao : Option Addr} {m : Nat} {L : Nat → Nat} {F : Nat → Nat → Nat} (h : Mat W ao m L F) (hb : Below W.heap.size W W') : Mat W' ao m L F := fun i hi => by
  obtain ⟨ad, bo, c, h1, h2, h3⟩ := h i hi
  exact ⟨ad, bo, c, h1, by rw [hb.cell (World.block_lt_of_cell? W _ h2)]; exact h2, h3.below hb⟩
theorem Mat.congr {W : World} {ao : Option Addr} {m : Nat} {L L' : Nat → Nat} {F F' : Nat → Nat → Nat} (h : Mat W ao m L F) (hL : ∀ i, i < m → L i = L' i) (hF : ∀ i, i < m → ∀ j, j < L i → F i j = F' i j) : Mat W ao m L' F' := fun i hi => by
  obtain ⟨ad, bo, c, h1, h2, h3⟩ := h i hi
  rw [← hL i hi]
  refine ⟨ad, bo, c, h1, h2, fun hn => ?_, h3.2⟩
  obtain ⟨a, e, hr⟩ := h3.1 hn
  exact ⟨a, e, fun k hk => by rw [hr k hk, hF i hi k hk]⟩
theorem add_zero' (b k : Nat) : (⟨b, 0, none⟩ : Addr).add k = ⟨b, k, none⟩ := by
  unfold Addr.add
  by_cases h0 : k = 0
  · subst h0; rfl
  · rw [if_neg h0]; simp
/-- A row of numbers in a block of its own, behind lo. -/
def RowC (lo : Nat) (W : World) (v : Value) (n : Nat) (z : Nat → Nat) : Prop := (v = .slice none 0 0 ∧ n = 0) ∨ ∃ B c cs, v = .slice (some ⟨B, 0, none⟩) n c ∧ lo ≤ B ∧ W.heap[B]? = some (.cells cs 22 (0, 0)) ∧ ∀ k, k < n → cs[k]? = some (.int .u64 ((z k : Nat) : Int))
theorem RowC.same {lo : Nat} {W W' : World} {v : Value} {n : Nat} {z : Nat → Nat} (h : RowC lo W v n z) (hk : ∀ (B : Nat) (cs : Array Value), W.heap[B]? = some (.cells cs 22 (0, 0)) → W'.heap[B]? = some (.cells cs 22 (0, 0))) : RowC lo W' v n z := by
  rcases h with h | ⟨B, c, cs, h0, h1, h2, h3⟩
  · exact .inl h
  · exact .inr ⟨B, c, cs, h0, h1, hk B cs h2, h3⟩
theorem RowC.below {lo : Nat} {W W' : World} {v : Value} {n : Nat} {z : Nat → Nat} (h : RowC lo W v n z) (hb : Below W.heap.size W W') : RowC lo W' v n z := h.same fun B _ h1 => (hb.block B (row_lt h1)).trans h1
theorem RowC.src {lo : Nat} {W : World} {v : Value} {n : Nat} {z : Nat → Nat} (h : RowC lo W v n z) : ∃ bo c, v = .slice bo n c ∧ SrcN W bo n c z := by
  rcases h with ⟨rfl, rfl⟩ | ⟨B, c, cs, rfl, _, h2, h3⟩
  · exact ⟨none, 0, rfl, fun h => absurd h (by omega), fun _ => ⟨rfl, rfl⟩⟩
  · exact ⟨_, c, rfl, fun _ => ⟨_, rfl, Row.of_block h2 h3⟩, fun h => by cases h⟩
theorem RowC.of_own {W : World} {B n : Nat} {v : Value} {z : Nat → Nat} (h : W.ownsRow B 22 1 v n (zlist n z)) : RowC B W v n z := by
  obtain ⟨_, h1 | ⟨g, cap, cur, h1, h2, h3, _, _, _, h7⟩⟩ := h
  · exact .inl h1
  · refine .inr ⟨g, cap, cur, h1, h2, h3, fun j hj => ?_⟩
    have e1 : (cur.toList.take (n * 1))[j]? = (zlist n z)[j]? := by rw [h7]
    rw [zlist_get hj, List.getElem?_take_of_lt (by omega)] at e1
    simpa using e1
theorem RowC.mono {lo lo' : Nat} {W : World} {v : Value} {n : Nat} {z : Nat → Nat} (h : RowC lo W v n z) (hl : lo' ≤ lo) : RowC lo' W v n z := by
  rcases h with h | ⟨B, c, cs, h0, h1, h2, h3⟩
  · exact .inl h
  · exact .inr ⟨B, c, cs, h0, Nat.le_trans hl h1, h2, h3⟩
theorem RowC.congr {lo : Nat} {W : World} {v : Value} {n : Nat} {z y : Nat → Nat} (h : RowC lo W v n z) (e : ∀ k, k < n → z k = y k) : RowC lo W v n y := by
  rcases h with h | ⟨B, c, cs, h0, h1, h2, h3⟩
  · exact .inl h
  · exact .inr ⟨B, c, cs, h0, h1, h2, fun k hk => by rw [h3 k hk, e k hk]⟩
theorem RowB.rowC {lo : Nat} {W : World} {v : Value} {n : Nat} {z : Nat → Nat} (h : RowB lo W v n z) : RowC lo W v n z := by
  rcases h with ⟨h1, h2⟩ | ⟨B, cs, h0, h1, h2, h3, h4⟩
  · first | exact .inl ⟨h1, h2⟩ | exact .inl ⟨h2, h1⟩
  · exact .inr ⟨B, n, cs, h0, h1, h2, h4⟩
/-- A row of values, one a cell, that a call itself makes by appends; nothing old has changed. -/
structure OwnV (T : TypeId) (w0 : World) (B : Nat) (v : Value) (xs : List Value) (w : World) : Prop where
  own : w.ownsRow B T 1 v xs.length xs
  size : B ≤ w.heap.size
  low : w0.heap.size ≤ B
  below : Below w0.heap.size w0 w
section
variable {T : TypeId} {w0 w w' : World} {B : Nat} {v : Value} {xs : List Value}
theorem OwnV.start (T : TypeId) (w0 : World) : OwnV T w0 w0.heap.size (.slice none 0 0) [] w0 := ⟨⟨rfl, .inl ⟨rfl, rfl⟩⟩, Nat.le_refl _, Nat.le_refl _, Below.refl _ _⟩
theorem OwnV.step (h : OwnV T w0 B v xs w) (hb : Below w.heap.size w w') : OwnV T w0 B v xs w' :=
  ⟨h.own.kept (row := none) ⟨hb.os, hb.tape, hb.output, hb.size, fun k hk _ => hb.block k hk⟩ (by cases v.ownBlock <;> simp), Nat.le_trans h.size hb.size, h.low, h.below.trans (hb.mono h.below.size)⟩
theorem OwnV.drewN (h : OwnV T w0 B v xs w) (n : Nat) : OwnV T w0 B v xs (w.drewN n) := h.step (below_drewN' w n _)
theorem OwnV.alloc (h : OwnV T w0 B v xs w) (o : Obj) : OwnV T w0 B v xs (w.alloc o) := h.step (below_box _ _)
theorem OwnV.val (h : OwnV T w0 B v xs w) : (v = .slice none 0 0 ∧ xs = []) ∨ ∃ g c, v = .slice (some ⟨g, 0, none⟩) xs.length c ∧ B ≤ g ∧ xs.length ≤ c ∧ ∀ j u, xs[j]? = some u → w.cell? ⟨g, j, none⟩ = some u := by
  obtain ⟨_, ⟨h1, h2⟩ | ⟨g, cap, cur, h1, h2, h3, h4, h5, _, h7⟩⟩ := h.own
  · exact .inl ⟨h1, List.eq_nil_of_length_eq_zero h2⟩
  · refine .inr ⟨g, cap, h1, h2, h4, fun j u hj => ?_⟩
    have hl := (List.getElem?_eq_some_iff.1 hj).1
    have e1 : (cur.toList.take (xs.length * 1))[j]? = xs[j]? := by rw [h7]
    rw [hj, List.getElem?_take_of_lt (by omega)] at e1
    rw [cell_of_row w g j _ _ _ h3]
    simpa using e1
/-- Some values more behind the row. -/
theorem OwnV.more {S : TypeId} {i0 : TypeInfo} {z0 : Value} {sz : Nat} (hS : Try.prog.underlying S = some (.slice T)) (hi : Try.prog.info? T = some i0) (hz : i0.zero = some z0) (h1 : i0.size = 1) (h2 : i0.bytes = sz) (hzs : z0.cells.size = 1) (hsz : sz ≤ 24)
    (h : OwnV T w0 B v xs w) {a : Addr} {m c : Nat} {news : List Value} (hl : news.length = m) (hn : ∀ j u, news[j]? = some u → w.cell? (a.add j) = some u) (ho : ∀ u ∈ news, u.oneCell' = true) (hb : xs.length + m ≤ 1000000) :
    ∃ v' w', (Builtin.append_ #[S, S] S #[v, .slice (some a) m c]).run Try.prog w = .ok v' w' ∧ OwnV T w0 B v' (xs ++ news) w' ∧ w.heap.size ≤ w'.heap.size ∧
      ∀ (k : Nat) (cs : Array Value) (t2 : TypeId), t2 ≠ T → w.heap[k]? = some (.cells cs t2 (0, 0)) → w'.heap[k]? = some (.cells cs t2 (0, 0)) := by
  obtain ⟨v', w', hr, ho', hg, _⟩ := run_append_own (P := Try.prog) w B S S T i0 z0 1 sz hS hi hz h1 h2 hzs (by decide) v xs.length xs h.own a m c news (by omega) hn ho (by unfold maxLen; omega) (Nat.le_trans (Nat.mul_le_mul hb hsz) (by decide)) h.size
  refine ⟨v', w', hr, ⟨?_, Nat.le_trans h.size hg.size, h.low, ?_⟩, hg.size, fun k cs t2 hne hk => (hg.block k (row_lt hk) (fun e => ?_)).trans hk⟩
  · rw [List.length_append, hl]; exact ho'
  · exact h.below.trans ⟨hg.os, hg.tape, hg.output, hg.size, fun j hj => hg.block j (Nat.lt_of_lt_of_le hj h.below.size) (fun e => by have := (h.own.lt j e.symm).1; have := h.low; omega)⟩
  · rcases h.own.2 with ⟨rfl, _⟩ | ⟨g, cap, cur, rfl, _, hg3, _⟩
    · cases e
    · have e' : k = g := by simpa [Value.ownBlock] using e
      subst e'
      rw [hk] at hg3
      injection hg3 with hg3
      injection hg3 with _ e2 _
      exact hne e2
end
/-- Lists that a call itself makes: the first k of them. -/
def OwnR (w0 : World) (B : Nat) (v : Value) (k : Nat) (L : Nat → Nat) (F : Nat → Nat → Nat) (w : World) : Prop := ∃ xs : List Value, xs.length = k ∧ OwnV 23 w0 B v xs w ∧ ∀ j, j < k → ∃ u, xs[j]? = some u ∧ RowC B w u (L j) (F j)
section
variable {w0 w w' : World} {B k : Nat} {v : Value} {L : Nat → Nat} {F : Nat → Nat → Nat}
theorem OwnR.start (w0 : World) (L : Nat → Nat) (F : Nat → Nat → Nat) : OwnR w0 w0.heap.size (.slice none 0 0) 0 L F w0 := ⟨[], rfl, OwnV.start _ w0, fun _ h => absurd h (by omega)⟩
theorem OwnR.size (h : OwnR w0 B v k L F w) : B ≤ w.heap.size := by obtain ⟨_, _, h, _⟩ := h; exact h.size
theorem OwnR.low (h : OwnR w0 B v k L F w) : w0.heap.size ≤ B := by obtain ⟨_, _, h, _⟩ := h; exact h.low
theorem OwnR.below (h : OwnR w0 B v k L F w) : Below w0.heap.size w0 w := by obtain ⟨_, _, h, _⟩ := h; exact h.below
theorem OwnR.step (h : OwnR w0 B v k L F w) (hb : Below w.heap.size w w') : OwnR w0 B v k L F w' := by
  obtain ⟨xs, hx, ho, hr⟩ := h
  exact ⟨xs, hx, ho.step hb, fun j hj => let ⟨u, h1, h2⟩ := hr j hj; ⟨u, h1, h2.below hb⟩⟩
theorem OwnR.drewN (h : OwnR w0 B v k L F w) (n : Nat) : OwnR w0 B v k L F (w.drewN n) := h.step (below_drewN' w n _)
theorem OwnR.alloc (h : OwnR w0 B v k L F w) (o : Obj) : OwnR w0 B v k L F (w.alloc o) := h.step (below_box _ _)
theorem RowC.one {lo n : Nat} {u : Value} {z : Nat → Nat} (h : RowC lo w u n z) : u.oneCell' = true := by
  rcases h with ⟨rfl, _⟩ | ⟨_, _, _, rfl, _⟩ <;> rfl
/-- One list more, that lies in a new block by itself. -/
theorem OwnR.more (h : OwnR w0 B v k L F w) {u : Value} (c : Nat) (hr : RowC B w u (L k) (F k)) (hk : k ≤ 900000) :
    ∃ v' w', (Builtin.append_ #[24, 24] 24 #[v, .slice (some ⟨w.heap.size, 0, none⟩) 1 c]).run Try.prog (w.alloc (.cells #[u] 23)) = .ok v' w' ∧ OwnR w0 B v' (k + 1) L F w' := by
  obtain ⟨xs, hx, ho, hrs⟩ := h
  obtain ⟨i0, hi, hz0, hz1, hz2⟩ := info_parts info_rows
  have hb := below_box w (.cells #[u] 23)
  obtain ⟨v', w', hrun, ho', _, hsame⟩ := (ho.alloc (.cells #[u] 23)).more (S := 24) (a := ⟨w.heap.size, 0, none⟩) (m := 1) (c := c) (news := [u]) Try.underlying24 hi hz0 hz1 hz2 rfl (Nat.le_refl _) rfl (fun j y hj => by
    have hl := (List.getElem?_eq_some_iff.1 hj).1
    obtain rfl : j = 0 := by simpa using hl
    cases hj
    rw [add_zero', cell_of_row _ _ _ _ _ _ (heap_alloc_new w _)]; rfl) (by simpa using hr.one) (by omega)
  have hs : ∀ {y : Value} {n : Nat} {z : Nat → Nat}, RowC B w y n z → RowC B w' y n z := fun hy => (hy.below hb).same fun b cs hc => hsame b cs _ (by decide) hc
  refine ⟨v', w', hrun, xs ++ [u], by simp [hx], ho', fun j hj => ?_⟩
  by_cases e : j = k
  · subst e
    exact ⟨u, by rw [List.getElem?_append_right (by omega), hx]; simp, hs hr⟩
  · obtain ⟨y, h1, h2⟩ := hrs j (by omega)
    exact ⟨y, by rw [List.getElem?_append_left (by omega)]; exact h1, hs h2⟩
/-- What the lists read as. -/
theorem OwnR.mat (h : OwnR w0 B v k L F w) : ∃ ao c, v = .slice ao k c ∧ Mat w ao k L F ∧ (ao = none → k = 0 ∧ c = 0) := by
  obtain ⟨xs, hx, ho, hrs⟩ := h
  rcases ho.val with ⟨rfl, rfl⟩ | ⟨g, c, rfl, _, _, hc⟩
  · have hk : k = 0 := by simpa using hx.symm
    subst hk
    exact ⟨none, 0, rfl, fun _ h => absurd h (by omega), fun _ => ⟨rfl, rfl⟩⟩
  · refine ⟨_, c, by rw [hx], fun i hi => ?_, fun h => by cases h⟩
    obtain ⟨u, h1, h2⟩ := hrs i hi
    obtain ⟨bo, cu, rfl, hs⟩ := h2.src
    exact ⟨_, bo, cu, rfl, by rw [add_zero']; exact hc i _ h1, hs⟩
theorem OwnR.congr {F' : Nat → Nat → Nat} (h : OwnR w0 B v k L F w) (hF : ∀ i, i < k → ∀ j, j < L i → F i j = F' i j) : OwnR w0 B v k L F' w := by
  obtain ⟨xs, hx, ho, hrs⟩ := h
  exact ⟨xs, hx, ho, fun j hj => let ⟨u, h1, h2⟩ := hrs j hj; ⟨u, h1, h2.congr fun i hi => hF j hj i hi⟩⟩
end
end M
end Go.Proofs.Ytccpdjjgpkkkbaa

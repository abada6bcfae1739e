/- The texts PolyW9, BivOwn, one behind the other. -/
import Derived.Test.YtlnlepadninnaaaKN5
import Derived.Deep.Cut
import Derived.Deep.AppendLies
import Derived.IntWalk
import Derived.Laws.MakeOwn
/- The walk of the program's polynomial through pairs. -/
namespace Go.Proofs.Ytlnlepadninnaaa
open Go Go.RowKit Go.Lib Go.Shelf
namespace MM
/-- The program's way to the polynomial through pairs: after as many pairs as there were, what goes through them, and what is 0 at them. -/
def invP (q : Nat) (z : Nat → Nat) (s : Nat × (Nat → Nat) × (Nat → Nat)) (x : Nat) : Nat := hornL s.2.2 (z x) q (M.down (s.1 + 1) 0)
noncomputable def facP (q : Nat) (z y : Nat → Nat) (s : Nat × (Nat → Nat) × (Nat → Nat)) (x : Nat) : Nat := mulU (subU (y x) (hornL s.2.1 (z x) q (M.down s.1 0)) q) (invU (invP q z s x) q) q
noncomputable def stepP (q : Nat) (z y : Nat → Nat) (s : Nat × (Nat → Nat) × (Nat → Nat)) (x : Nat) : Nat × (Nat → Nat) × (Nat → Nat) :=
  (s.1 + 1, sumU s.1 (s.1 + 1) q s.2.1 (scaleU (facP q z y s x) q s.2.2), timesU (s.1 + 1) 2 q s.2.2 (two (subU 0 (z x) q) 1))
noncomputable def stP (q : Nat) (z y : Nat → Nat) (l : List Nat) : Nat × (Nat → Nat) × (Nat → Nat) := l.foldl (stepP q z y) (0, fun _ => 0, fun _ => 1)
theorem stP_snoc (q : Nat) (z y : Nat → Nat) (l : List Nat) (x : Nat) : stP q z y (l ++ [x]) = stepP q z y (stP q z y l) x := by simp [stP]
theorem stP_len (q : Nat) (z y : Nat → Nat) (l : List Nat) : (stP q z y l).1 = l.length := by
  rcases List.eq_nil_or_concat l with rfl | ⟨l', x, rfl⟩
  · rfl
  · rw [List.concat_eq_append, stP_snoc, List.length_append, List.length_singleton, ← stP_len q z y l']; rfl
termination_by l.length
theorem sumU_lt (n m q : Nat) (a b : Nat → Nat) (i : Nat) : sumU n m q a b i < 18446744073709551616 := addU_lt _ _ _
theorem timesU_lt (la lb q : Nat) (a b : Nat → Nat) (n : Nat) : timesU la lb q a b n < 18446744073709551616 := convU_lt _ _ _ _ _ _ _
theorem stP_lt (q : Nat) (z y : Nat → Nat) (l : List Nat) (k : Nat) : (stP q z y l).2.1 k < 18446744073709551616 ∧ (stP q z y l).2.2 k < 18446744073709551616 := by
  rcases List.eq_nil_or_concat l with rfl | ⟨l', x, rfl⟩
  · exact ⟨by show (0 : Nat) < _; omega, by show (1 : Nat) < _; omega⟩
  · rw [List.concat_eq_append, stP_snoc]; exact ⟨sumU_lt _ _ _ _ _ _, timesU_lt _ _ _ _ _ _⟩
end MM
namespace M
attribute [local go_sem] Oper.semAt_some
/-- A row that a slice value reads: none, or a block of its own. -/
def RowB (lo : Nat) (W : World) (v : Value) (n : Nat) (z : Nat → Nat) : Prop := (n = 0 ∧ v = .slice none 0 0) ∨ ∃ (B : Nat) (cs : Array Value), v = .slice (some ⟨B, 0, none⟩) n n ∧ lo ≤ B ∧ W.heap[B]? = some (.cells cs 23 (0, 0)) ∧ cs.size = n ∧ ∀ k, k < n → cs[k]? = some (.int .u64 ((z k : Nat) : Int))
theorem RowB.rd {lo : Nat} {W : World} {v : Value} {n : Nat} {z : Nat → Nat} (h : RowB lo W v n z) : ∃ ao c, v = .slice ao n c ∧ Rd W ao n z := by
  rcases h with ⟨rfl, rfl⟩ | ⟨B, cs, rfl, _, h1, _, h3⟩
  · exact ⟨none, 0, rfl, fun h => absurd h (by omega)⟩
  · exact ⟨_, n, rfl, fun _ => ⟨_, rfl, Row.of_block h1 h3⟩⟩
theorem RowB.same {lo : Nat} {W W' : World} {v : Value} {n : Nat} {z : Nat → Nat} (h : RowB lo W v n z) (hk : ∀ (B : Nat) (cs : Array Value), W.heap[B]? = some (.cells cs 23 (0, 0)) → W'.heap[B]? = some (.cells cs 23 (0, 0))) : RowB lo W' v n z := by
  rcases h with h | ⟨B, cs, e, h0, h1, h2⟩
  · exact .inl h
  · exact .inr ⟨B, cs, e, h0, hk B cs h1, h2⟩
theorem RowB.below {lo : Nat} {W W' : World} {v : Value} {n : Nat} {z : Nat → Nat} (h : RowB lo W v n z) (hb : Below W.heap.size W W') : RowB lo W' v n z := h.same fun B _ h1 => (hb.block B (row_lt h1)).trans h1
theorem RowB.drewN {lo : Nat} {W : World} {v : Value} {n : Nat} {z : Nat → Nat} (h : RowB lo W v n z) (m : Nat) : RowB lo (W.drewN m) v n z := h
theorem RowB.own {lo : Nat} {W W' : World} {v : Value} {n : Nat} {z : Nat → Nat} {row : Option Nat} (h : RowB lo W v n z) (hg : W.grownBy W' row) (hr : ∀ r, row = some r → ∃ o : Obj, W.heap[r]? = some o ∧ o.isCells = false) : RowB lo W' v n z := h.same fun B cs h1 => by
  refine (hg.block B (row_lt h1) (fun e => ?_)).trans h1
  obtain ⟨o, ho, hc⟩ := hr B e.symm
  rw [h1] at ho
  cases ho; cases hc
theorem RowB.setBox {lo : Nat} {W : World} {v : Value} {n : Nat} {z : Nat → Nat} (h : RowB lo W v n z) {P : Nat} {t : TypeId} {u : Value} (hb : Box W P t u) (ht : t ≠ 23) (x : Value) : RowB lo (W.setCell ⟨P, 0, none⟩ x) v n z := h.same fun B cs h1 => by
  refine (Below.heap_setCell W ⟨P, 0, none⟩ x B (fun e => ?_)).trans h1
  have e' : B = P := e
  subst e'
  rw [show W.heap[B]? = _ from hb] at h1
  cases h1
  exact ht rfl
theorem Mine.rowB {w0 w : World} {B n lo : Nat} {z : Nat → Nat} (h : Mine w0 B n z w) (hl : lo ≤ w0.heap.size) : RowB lo w (.slice (some ⟨B, 0, none⟩) n n) n z := by
  obtain ⟨cs, h1, h2⟩ := h.block
  exact .inr ⟨B, cs, rfl, Nat.le_trans hl h.low, h1, h2⟩
/-- Between two rounds. -/
def ThInv (lo q : Nat) (z y : Nat → Nat) (h : Nat) (S : Nat → Prop) (W6 : World) (l : List Nat) (W : World) : Prop :=
  ∃ tv pv : Value, Box W h 27 tv ∧ Box W (h + 1 + 1) 27 pv ∧ RowB lo W tv (MM.stP q z y l).1 (MM.stP q z y l).2.1 ∧ RowB lo W pv ((MM.stP q z y l).1 + 1) (MM.stP q z y l).2.2 ∧ KeepS S W6 W ∧
    ∀ a x b, l = a ++ x :: b → MM.invC (MM.invP q z (MM.stP q z y a) x) q = 0
theorem ThInv.own {lo q : Nat} {z y : Nat → Nat} {h : Nat} {S : Nat → Prop} {W6 W W' : World} {l : List Nat} {row : Option Nat} (k : ThInv lo q z y h S W6 l W) (hS : ∀ j, S j → j < W6.heap.size) (hg : W.grownBy W' row) (hr : ∀ r, row = some r → W6.heap.size ≤ r ∧ ∃ o : Obj, W.heap[r]? = some o ∧ o.isCells = false) : ThInv lo q z y h S W6 l W' := by
  obtain ⟨tv, pv, h1, h2, h3, h4, h5, h6⟩ := k
  have hr' := fun r e => (hr r e).2
  exact ⟨tv, pv, h1.own hg hr', h2.own hg hr', h3.own hg hr', h4.own hg hr', h5.grown hS h5.size hg (fun r e => (hr r e).1), h6⟩
theorem boxes3 (w : World) (t1 t2 t3 : TypeId) (v1 v2 v3 : Value) : ∃ W, ((w.alloc (.cells #[v1] t1)).alloc (.cells #[v2] t2)).alloc (.cells #[v3] t3) = W ∧ Below w.heap.size w W ∧ W.heap.size = w.heap.size + 1 + 1 + 1 ∧
    Box W w.heap.size t1 v1 ∧ Box W (w.heap.size + 1) t2 v2 ∧ Box W (w.heap.size + 1 + 1) t3 v3 := by
  obtain ⟨W2, h2, b2, s2, x1, x2⟩ := boxes2 w t1 t2 v1 v2
  obtain ⟨W3, h3⟩ : ∃ W3, W2.alloc (.cells #[v3] t3) = W3 := ⟨_, rfl⟩
  have b3 : Below W2.heap.size W2 W3 := h3 ▸ below_box _ _
  have s3 : W3.heap.size = w.heap.size + 1 + 1 + 1 := by rw [← h3, World.size_alloc, s2]
  exact ⟨W3, by rw [h2, h3], b2.trans (b3.mono b2.size), s3, x1.below b3, x2.below b3, by rw [← h3, ← s2]; exact Box.new _ _ _⟩
theorem boxes5 (w : World) (t1 t2 t3 t4 t5 : TypeId) (v1 v2 v3 v4 v5 : Value) : ∃ W, ((((w.alloc (.cells #[v1] t1)).alloc (.cells #[v2] t2)).alloc (.cells #[v3] t3)).alloc (.cells #[v4] t4)).alloc (.cells #[v5] t5) = W ∧ Below w.heap.size w W ∧ W.heap.size = w.heap.size + 1 + 1 + 1 + 1 + 1 ∧
    Box W w.heap.size t1 v1 ∧ Box W (w.heap.size + 1) t2 v2 ∧ Box W (w.heap.size + 1 + 1) t3 v3 ∧ Box W (w.heap.size + 1 + 1 + 1) t4 v4 ∧ Box W (w.heap.size + 1 + 1 + 1 + 1) t5 v5 := by
  obtain ⟨W3, h3, b3, s3, x1, x2, x3⟩ := boxes3 w t1 t2 t3 v1 v2 v3
  obtain ⟨W5, h5, b5, s5, x4, x5⟩ := boxes2 W3 t4 t5 v4 v5
  rw [s3] at s5 x4 x5
  exact ⟨W5, by rw [h3, h5], b3.trans (b5.mono b3.size), s5, x1.below b5, x2.below b5, x3.below b5, x4, x5⟩

/-- What the program's polynomial through pairs is, or that some number has no inverse. -/
def Thru (w : World) (n q : Nat) (z y : Nat → Nat) (e : Ending) (w' : World) : Prop :=
  (∃ v, e = .returned (.tuple #[v, .int .i64 0]) ∧ RowB w.heap.size w' v n (MM.stP q z y (List.range n)).2.1 ∧ Below w.heap.size w w' ∧ ∀ k, k < n → MM.invC (MM.invP q z (MM.stP q z y (List.range k)) k) q = 0) ∨
  (e = .returned (.tuple #[.slice none 0 0, .int .i64 5]) ∧ Below w.heap.size w w' ∧ ∃ k, k < n ∧ MM.invC (MM.invP q z (MM.stP q z y (List.range k)) k) q ≠ 0)
theorem range_split {n k : Nat} (h : k < n) : ∃ b, List.range n = List.range k ++ k :: b := by
  refine ⟨(List.range (n - k - 1)).map (fun j => k + 1 + j), ?_⟩
  apply List.ext_getElem
  · simp; omega
  · intro i h1 h2
    rcases Nat.lt_trichotomy i k with h3 | h3 | h3
    · rw [List.getElem_append_left (by simpa using h3)]; simp
    · subst h3; simp
    · rw [List.getElem_append_right (by simp; omega)]
      obtain ⟨j, hj⟩ : ∃ j, i - k = j + 1 := ⟨i - k - 1, by omega⟩
      simp [hj]; omega
theorem snoc_split {L a b : List Nat} {x x' : Nat} (h : L ++ [x] = a ++ x' :: b) : (L = a ∧ x = x') ∨ ∃ b', L = a ++ x' :: b' := by
  rcases List.eq_nil_or_concat b with rfl | ⟨b', u, rfl⟩
  · have := List.append_inj' h rfl
    exact .inl ⟨this.1, by simpa using this.2⟩
  · rw [List.concat_eq_append, ← List.cons_append, ← List.append_assoc] at h
    exact .inr ⟨b', (List.append_inj' h rfl).1⟩
theorem results_cells {fn : Func} {p u : Tmp} {ty ty2 : TypeId} (h : fn.results = #[.cell p ty, .cell u ty2]) (tmps : Array Value) (P : Program) (w : World) :
    (results fn tmps).run P w = ((asAddr (tmps.getD p undef)).run P w).andThen fun a w1 => ((loadVar ty a).run P w1).andThen fun v w2 => ((asAddr (tmps.getD u undef)).run P w2).andThen fun b w3 => ((loadVar ty2 b).run P w3).andThen fun v2 w4 => .ok (.tuple #[v, v2]) w4 := by
  simp only [results, h]
  simp [Sem.run_bind, Result.andThen]

end M
end Go.Proofs.Ytlnlepadninnaaa
/- Lists of lists: as a slice reads them, and as a call itself makes them by appends; rows of values of whatever type of one cell that a call makes by appends. -/
namespace Go.Proofs.Ytlnlepadninnaaa
open Go Go.RowKit Go.Lib
namespace M
theorem info_rows : (Try.prog.info? 27).map (fun i => (i.zero, i.size, i.bytes)) = some (some (.slice none 0 0), 1, 24) := by kernel_rfl
/-- Numbers that a slice reads, where one without an address is the nil slice. -/
def SrcN (W : World) (ao : Option Addr) (n c : Nat) (z : Nat → Nat) : Prop := Rd W ao n z ∧ (ao = none → n = 0 ∧ c = 0)
theorem SrcN.below {W W' : World} {ao : Option Addr} {n c : Nat} {z : Nat → Nat} (h : SrcN W ao n c z) (hb : Below W.heap.size W W') : SrcN W' ao n c z := ⟨h.1.below hb, h.2⟩
/-- A list of lists that a slice reads: m lists, the list i of L i numbers F i. -/
def Mat (W : World) (ao : Option Addr) (m : Nat) (L : Nat → Nat) (F : Nat → Nat → Nat) : Prop := ∀ i, i < m → ∃ ad bo c, ao = some ad ∧ W.cell? (ad.add i) = some (.slice bo (L i) c) ∧ SrcN W bo (L i) c (F i)
theorem Mat.below {W W' : World} {ao : Option Addr} {m : Nat} {L : Nat → Nat} {F : Nat → Nat → Nat} (h : Mat W ao m L F) (hb : Below W.heap.size W W') : Mat W' ao m L F := fun i hi => by
  obtain ⟨ad, bo, c, h1, h2, h3⟩ := h i hi
  exact ⟨ad, bo, c, h1, by rw [hb.cell (World.block_lt_of_cell? W _ h2)]; exact h2, h3.below hb⟩
theorem Mat.congr {W : World} {ao : Option Addr} {m : Nat} {L L' : Nat → Nat} {F F' : Nat → Nat → Nat} (h : Mat W ao m L F) (hL : ∀ i, i < m → L i = L' i) (hF : ∀ i, i < m → ∀ j, j < L i → F i j = F' i j) : Mat W ao m L' F' := fun i hi => by
  obtain ⟨ad, bo, c, h1, h2, h3⟩ := h i hi
  rw [← hL i hi]
  refine ⟨ad, bo, c, h1, h2, fun hn => ?_, h3.2⟩
  obtain ⟨a, e, hr⟩ := h3.1 hn
  exact ⟨a, e, fun k hk => by rw [hr k hk, hF i hi k hk]⟩
theorem add_zero' (b k : Nat) : (⟨b, 0, none⟩ : Addr).add k = ⟨b, k, none⟩ := by
  unfold Addr.add
  by_cases h0 : k = 0
  · subst h0; rfl
  · rw [if_neg h0]; simp
/-- A row of numbers in a block of its own, behind lo. -/
def RowC (lo : Nat) (W : World) (v : Value) (n : Nat) (z : Nat → Nat) : Prop := (v = .slice none 0 0 ∧ n = 0) ∨ ∃ B c cs, v = .slice (some ⟨B, 0, none⟩) n c ∧ lo ≤ B ∧ W.heap[B]? = some (.cells cs 23 (0, 0)) ∧ ∀ k, k < n → cs[k]? = some (.int .u64 ((z k : Nat) : Int))
theorem RowC.same {lo : Nat} {W W' : World} {v : Value} {n : Nat} {z : Nat → Nat} (h : RowC lo W v n z) (hk : ∀ (B : Nat) (cs : Array Value), W.heap[B]? = some (.cells cs 23 (0, 0)) → W'.heap[B]? = some (.cells cs 23 (0, 0))) : RowC lo W' v n z := by
  rcases h with h | ⟨B, c, cs, h0, h1, h2, h3⟩
  · exact .inl h
  · exact .inr ⟨B, c, cs, h0, h1, hk B cs h2, h3⟩
theorem RowC.below {lo : Nat} {W W' : World} {v : Value} {n : Nat} {z : Nat → Nat} (h : RowC lo W v n z) (hb : Below W.heap.size W W') : RowC lo W' v n z := h.same fun B _ h1 => (hb.block B (row_lt h1)).trans h1
theorem RowC.src {lo : Nat} {W : World} {v : Value} {n : Nat} {z : Nat → Nat} (h : RowC lo W v n z) : ∃ bo c, v = .slice bo n c ∧ SrcN W bo n c z := by
  rcases h with ⟨rfl, rfl⟩ | ⟨B, c, cs, rfl, _, h2, h3⟩
  · exact ⟨none, 0, rfl, fun h => absurd h (by omega), fun _ => ⟨rfl, rfl⟩⟩
  · exact ⟨_, c, rfl, fun _ => ⟨_, rfl, Row.of_block h2 h3⟩, fun h => by cases h⟩
theorem RowC.of_own {W : World} {B n : Nat} {v : Value} {z : Nat → Nat} (h : W.ownsRow B 23 1 v n (zlist n z)) : RowC B W v n z := by
  obtain ⟨_, h1 | ⟨g, cap, cur, h1, h2, h3, _, _, _, h7⟩⟩ := h
  · exact .inl h1
  · refine .inr ⟨g, cap, cur, h1, h2, h3, fun j hj => ?_⟩
    have e1 : (cur.toList.take (n * 1))[j]? = (zlist n z)[j]? := by rw [h7]
    rw [zlist_get hj, List.getElem?_take_of_lt (by omega)] at e1
    simpa using e1
theorem RowC.mono {lo lo' : Nat} {W : World} {v : Value} {n : Nat} {z : Nat → Nat} (h : RowC lo W v n z) (hl : lo' ≤ lo) : RowC lo' W v n z := by
  rcases h with h | ⟨B, c, cs, h0, h1, h2, h3⟩
  · exact .inl h
  · exact .inr ⟨B, c, cs, h0, Nat.le_trans hl h1, h2, h3⟩
theorem RowC.congr {lo : Nat} {W : World} {v : Value} {n : Nat} {z y : Nat → Nat} (h : RowC lo W v n z) (e : ∀ k, k < n → z k = y k) : RowC lo W v n y := by
  rcases h with h | ⟨B, c, cs, h0, h1, h2, h3⟩
  · exact .inl h
  · exact .inr ⟨B, c, cs, h0, h1, h2, fun k hk => by rw [h3 k hk, e k hk]⟩
theorem RowB.rowC {lo : Nat} {W : World} {v : Value} {n : Nat} {z : Nat → Nat} (h : RowB lo W v n z) : RowC lo W v n z := by
  rcases h with ⟨h1, h2⟩ | ⟨B, cs, h0, h1, h2, h3, h4⟩
  · first | exact .inl ⟨h1, h2⟩ | exact .inl ⟨h2, h1⟩
  · exact .inr ⟨B, n, cs, h0, h1, h2, h4⟩
/-- A row of values, one a cell, that a call itself makes by appends; nothing old has changed. -/
structure OwnV (T : TypeId) (w0 : World) (B : Nat) (v : Value) (xs : List Value) (w : World) : Prop where
  own : w.ownsRow B T 1 v xs.length xs
  size : B ≤ w.heap.size
  low : w0.heap.size ≤ B
  below : Below w0.heap.size w0 w
section
variable {T : TypeId} {w0 w w' : World} {B : Nat} {v : Value} {xs : List Value}
theorem OwnV.start (T : TypeId) (w0 : World) : OwnV T w0 w0.heap.size (.slice none 0 0) [] w0 := ⟨⟨rfl, .inl ⟨rfl, rfl⟩⟩, Nat.le_refl _, Nat.le_refl _, Below.refl _ _⟩
theorem OwnV.step (h : OwnV T w0 B v xs w) (hb : Below w.heap.size w w') : OwnV T w0 B v xs w' :=
  ⟨h.own.kept (row := none) ⟨hb.os, hb.tape, hb.output, hb.size, fun k hk _ => hb.block k hk⟩ (by cases v.ownBlock <;> simp), Nat.le_trans h.size hb.size, h.low, h.below.trans (hb.mono h.below.size)⟩
theorem OwnV.drewN (h : OwnV T w0 B v xs w) (n : Nat) : OwnV T w0 B v xs (w.drewN n) := h.step (below_drewN' w n _)
theorem OwnV.alloc (h : OwnV T w0 B v xs w) (o : Obj) : OwnV T w0 B v xs (w.alloc o) := h.step (below_box _ _)
theorem OwnV.val (h : OwnV T w0 B v xs w) : (v = .slice none 0 0 ∧ xs = []) ∨ ∃ g c, v = .slice (some ⟨g, 0, none⟩) xs.length c ∧ B ≤ g ∧ xs.length ≤ c ∧ ∀ j u, xs[j]? = some u → w.cell? ⟨g, j, none⟩ = some u := by
  obtain ⟨_, ⟨h1, h2⟩ | ⟨g, cap, cur, h1, h2, h3, h4, h5, _, h7⟩⟩ := h.own
  · exact .inl ⟨h1, List.eq_nil_of_length_eq_zero h2⟩
  · refine .inr ⟨g, cap, h1, h2, h4, fun j u hj => ?_⟩
    have hl := (List.getElem?_eq_some_iff.1 hj).1
    have e1 : (cur.toList.take (xs.length * 1))[j]? = xs[j]? := by rw [h7]
    rw [hj, List.getElem?_take_of_lt (by omega)] at e1
    rw [cell_of_row w g j _ _ _ h3]
    simpa using e1
/-- Some values more behind the row. -/
theorem OwnV.more {S : TypeId} {i0 : TypeInfo} {z0 : Value} {sz : Nat} (hS : Try.prog.underlying S = some (.slice T)) (hi : Try.prog.info? T = some i0) (hz : i0.zero = some z0) (h1 : i0.size = 1) (h2 : i0.bytes = sz) (hzs : z0.cells.size = 1) (hsz : sz ≤ 24)
    (h : OwnV T w0 B v xs w) {a : Addr} {m c : Nat} {news : List Value} (hl : news.length = m) (hn : ∀ j u, news[j]? = some u → w.cell? (a.add j) = some u) (ho : ∀ u ∈ news, u.oneCell' = true) (hb : xs.length + m ≤ 1000000) :
    ∃ v' w', (Builtin.append_ #[S, S] S #[v, .slice (some a) m c]).run Try.prog w = .ok v' w' ∧ OwnV T w0 B v' (xs ++ news) w' ∧ w.heap.size ≤ w'.heap.size ∧
      ∀ (k : Nat) (cs : Array Value) (t2 : TypeId), t2 ≠ T → w.heap[k]? = some (.cells cs t2 (0, 0)) → w'.heap[k]? = some (.cells cs t2 (0, 0)) := by
  obtain ⟨v', w', hr, ho', hg, _⟩ := run_append_own (P := Try.prog) w B S S T i0 z0 1 sz hS hi hz h1 h2 hzs (by decide) v xs.length xs h.own a m c news (by omega) hn ho (by unfold maxLen; omega) (Nat.le_trans (Nat.mul_le_mul hb hsz) (by decide)) h.size
  refine ⟨v', w', hr, ⟨?_, Nat.le_trans h.size hg.size, h.low, ?_⟩, hg.size, fun k cs t2 hne hk => (hg.block k (row_lt hk) (fun e => ?_)).trans hk⟩
  · rw [List.length_append, hl]; exact ho'
  · exact h.below.trans ⟨hg.os, hg.tape, hg.output, hg.size, fun j hj => hg.block j (Nat.lt_of_lt_of_le hj h.below.size) (fun e => by have := (h.own.lt j e.symm).1; have := h.low; omega)⟩
  · rcases h.own.2 with ⟨rfl, _⟩ | ⟨g, cap, cur, rfl, _, hg3, _⟩
    · cases e
    · have e' : k = g := by simpa [Value.ownBlock] using e
      subst e'
      rw [hk] at hg3
      injection hg3 with hg3
      injection hg3 with _ e2 _
      exact hne e2
end
/-- Lists that a call itself makes: the first k of them. -/
def OwnR (w0 : World) (B : Nat) (v : Value) (k : Nat) (L : Nat → Nat) (F : Nat → Nat → Nat) (w : World) : Prop := ∃ xs : List Value, xs.length = k ∧ OwnV 27 w0 B v xs w ∧ ∀ j, j < k → ∃ u, xs[j]? = some u ∧ RowC B w u (L j) (F j)
section
variable {w0 w w' : World} {B k : Nat} {v : Value} {L : Nat → Nat} {F : Nat → Nat → Nat}
theorem OwnR.start (w0 : World) (L : Nat → Nat) (F : Nat → Nat → Nat) : OwnR w0 w0.heap.size (.slice none 0 0) 0 L F w0 := ⟨[], rfl, OwnV.start _ w0, fun _ h => absurd h (by omega)⟩
theorem OwnR.size (h : OwnR w0 B v k L F w) : B ≤ w.heap.size := by obtain ⟨_, _, h, _⟩ := h; exact h.size
theorem OwnR.low (h : OwnR w0 B v k L F w) : w0.heap.size ≤ B := by obtain ⟨_, _, h, _⟩ := h; exact h.low
theorem OwnR.below (h : OwnR w0 B v k L F w) : Below w0.heap.size w0 w := by obtain ⟨_, _, h, _⟩ := h; exact h.below
theorem OwnR.step (h : OwnR w0 B v k L F w) (hb : Below w.heap.size w w') : OwnR w0 B v k L F w' := by
  obtain ⟨xs, hx, ho, hr⟩ := h
  exact ⟨xs, hx, ho.step hb, fun j hj => let ⟨u, h1, h2⟩ := hr j hj; ⟨u, h1, h2.below hb⟩⟩
theorem OwnR.drewN (h : OwnR w0 B v k L F w) (n : Nat) : OwnR w0 B v k L F (w.drewN n) := h.step (below_drewN' w n _)
theorem OwnR.alloc (h : OwnR w0 B v k L F w) (o : Obj) : OwnR w0 B v k L F (w.alloc o) := h.step (below_box _ _)
theorem RowC.one {lo n : Nat} {u : Value} {z : Nat → Nat} (h : RowC lo w u n z) : u.oneCell' = true := by
  rcases h with ⟨rfl, _⟩ | ⟨_, _, _, rfl, _⟩ <;> rfl
/-- One list more, that lies in a new block by itself. -/
theorem OwnR.more (h : OwnR w0 B v k L F w) {u : Value} (c : Nat) (hr : RowC B w u (L k) (F k)) (hk : k ≤ 900000) :
    ∃ v' w', (Builtin.append_ #[28, 28] 28 #[v, .slice (some ⟨w.heap.size, 0, none⟩) 1 c]).run Try.prog (w.alloc (.cells #[u] 27)) = .ok v' w' ∧ OwnR w0 B v' (k + 1) L F w' := by
  obtain ⟨xs, hx, ho, hrs⟩ := h
  obtain ⟨i0, hi, hz0, hz1, hz2⟩ := info_parts info_rows
  have hb := below_box w (.cells #[u] 27)
  obtain ⟨v', w', hrun, ho', _, hsame⟩ := (ho.alloc (.cells #[u] 27)).more (S := 28) (a := ⟨w.heap.size, 0, none⟩) (m := 1) (c := c) (news := [u]) Try.underlying28 hi hz0 hz1 hz2 rfl (Nat.le_refl _) rfl (fun j y hj => by
    have hl := (List.getElem?_eq_some_iff.1 hj).1
    obtain rfl : j = 0 := by simpa using hl
    cases hj
    rw [add_zero', cell_of_row _ _ _ _ _ _ (heap_alloc_new w _)]; rfl) (by simpa using hr.one) (by omega)
  have hs : ∀ {y : Value} {n : Nat} {z : Nat → Nat}, RowC B w y n z → RowC B w' y n z := fun hy => (hy.below hb).same fun b cs hc => hsame b cs _ (by decide) hc
  refine ⟨v', w', hrun, xs ++ [u], by simp [hx], ho', fun j hj => ?_⟩
  by_cases e : j = k
  · subst e
    exact ⟨u, by rw [List.getElem?_append_right (by omega), hx]; simp, hs hr⟩
  · obtain ⟨y, h1, h2⟩ := hrs j (by omega)
    exact ⟨y, by rw [List.getElem?_append_left (by omega)]; exact h1, hs h2⟩
/-- What the lists read as. -/
theorem OwnR.mat (h : OwnR w0 B v k L F w) : ∃ ao c, v = .slice ao k c ∧ Mat w ao k L F ∧ (ao = none → k = 0 ∧ c = 0) := by
  obtain ⟨xs, hx, ho, hrs⟩ := h
  rcases ho.val with ⟨rfl, rfl⟩ | ⟨g, c, rfl, _, _, hc⟩
  · have hk : k = 0 := by simpa using hx.symm
    subst hk
    exact ⟨none, 0, rfl, fun _ h => absurd h (by omega), fun _ => ⟨rfl, rfl⟩⟩
  · refine ⟨_, c, by rw [hx], fun i hi => ?_, fun h => by cases h⟩
    obtain ⟨u, h1, h2⟩ := hrs i hi
    obtain ⟨bo, cu, rfl, hs⟩ := h2.src
    exact ⟨_, bo, cu, rfl, by rw [add_zero']; exact hc i _ h1, hs⟩
theorem OwnR.congr {F' : Nat → Nat → Nat} (h : OwnR w0 B v k L F w) (hF : ∀ i, i < k → ∀ j, j < L i → F i j = F' i j) : OwnR w0 B v k L F' w := by
  obtain ⟨xs, hx, ho, hrs⟩ := h
  exact ⟨xs, hx, ho, fun j hj => let ⟨u, h1, h2⟩ := hrs j hj; ⟨u, h1, h2.congr fun i hi => hF j hj i hi⟩⟩
end
end M
end Go.Proofs.Ytlnlepadninnaaa

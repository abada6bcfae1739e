/- The texts PedGrow, PedLit, one behind the other. -/
import Derived.Test.YtlnlepadninnaaaKN8
import Derived.Laws.OwnMore
import Derived.Deep.Cut
/- Rows that a call makes by appends, one value behind the other, while what the values stand for lies elsewhere; boxes and rows of rows; parameters loaded. -/
namespace Go.Proofs.Ytlnlepadninnaaa
open Go Go.RowKit Go.Lib
namespace M
/-- Cells of all types but two stay as they are. -/
def Sm (T S : TypeId) (X Y : World) : Prop := ∀ (k : Nat) (cs : Array Value) (t : TypeId) (fr : Nat × Nat), t ≠ T → t ≠ S → X.heap[k]? = some (.cells cs t fr) → Y.heap[k]? = some (.cells cs t fr)
theorem Sm.of_as {T S : TypeId} {X Y : World} (h : CellsAs X Y) : Sm T S X Y := fun k cs t fr _ _ e => h k cs t fr e
theorem Sm.trans {T S : TypeId} {X Y Z : World} (h : Sm T S X Y) (k : Sm T S Y Z) : Sm T S X Z := fun j cs t fr a b e => k j cs t fr a b (h j cs t fr a b e)
theorem ownsRow_as {X Y : World} {B size n : Nat} {T : TypeId} {v : Value} {xs : List Value} (h : X.ownsRow B T size v n xs) (hk : ∀ (k : Nat) (cs : Array Value), B ≤ k → X.heap[k]? = some (.cells cs T (0, 0)) → Y.heap[k]? = some (.cells cs T (0, 0))) : Y.ownsRow B T size v n xs := by
  obtain ⟨h1, h2 | ⟨g, cap, cur, a, b, c, d⟩⟩ := h
  · exact ⟨h1, .inl h2⟩
  · exact ⟨h1, .inr ⟨g, cap, cur, a, b, hk g cur b c, d⟩⟩
/-- A row of values, k of them, that lies behind B; each is as C says. -/
def Grow (T : TypeId) (B : Nat) (C : Nat → Value → World → Prop) (v : Value) (k : Nat) (X : World) : Prop := ∃ xs : List Value, xs.length = k ∧ X.ownsRow B T 1 v k xs ∧ ∀ j, j < k → ∃ u, xs[j]? = some u ∧ C j u X
theorem Grow.start (T : TypeId) (B : Nat) (C : Nat → Value → World → Prop) (X : World) : Grow T B C (.slice none 0 0) 0 X := ⟨[], rfl, ⟨rfl, .inl ⟨rfl, rfl⟩⟩, fun _ h => absurd h (by omega)⟩
section
variable {T S : TypeId} {B k : Nat} {C : Nat → Value → World → Prop} {v : Value} {X Y : World}
theorem Grow.as (h : Grow T B C v k X) (hC : ∀ j u, j < k → C j u X → C j u Y) (hk : ∀ (k : Nat) (cs : Array Value), B ≤ k → X.heap[k]? = some (.cells cs T (0, 0)) → Y.heap[k]? = some (.cells cs T (0, 0))) : Grow T B C v k Y := by
  obtain ⟨xs, h1, h2, h3⟩ := h
  exact ⟨xs, h1, ownsRow_as h2 hk, fun j hj => let ⟨u, a, b⟩ := h3 j hj; ⟨u, a, hC j u hj b⟩⟩
/-- One value more, that lies in a block by itself. -/
theorem Grow.more {i0 : TypeInfo} {z0 : Value} {sz : Nat} (hS : Try.prog.underlying S = some (.slice T)) (hi : Try.prog.info? T = some i0) (hz : i0.zero = some z0) (h1 : i0.size = 1) (h2 : i0.bytes = sz) (hzs : z0.cells.size = 1) (hsz : sz ≤ 24)
    (h : Grow T B C v k X) (hB : B ≤ X.heap.size) (hk : k ≤ 900000) (u : Value) (c : Nat) (h1u : u.oneCell' = true) (hu : C k u X) (hCs : ∀ j x Y, C j x X → Sm T S X Y → C j x Y) :
    ∃ v' Y, (Builtin.append_ #[S, S] S #[v, .slice (some ⟨X.heap.size, 0, none⟩) 1 c]).run Try.prog (X.alloc (.cells #[u] T)) = .ok v' Y ∧ Grow T B C v' (k + 1) Y ∧ Sm T S X Y ∧ RL.Objs X Y ∧ X.heap.size ≤ Y.heap.size ∧ (∀ j, j < B → Y.heap[j]? = X.heap[j]?) ∧ Y.os = X.os ∧ Y.tape = X.tape ∧ Y.output = X.output := by
  obtain ⟨xs, hx, ho, hr⟩ := h
  have hb := below_box X (.cells #[u] T)
  have hnew := heap_alloc_new X (.cells #[u] T)
  obtain ⟨X1, hX1⟩ : ∃ X1, X.alloc (.cells #[u] T) = X1 := ⟨_, rfl⟩
  rw [hX1] at hb hnew ⊢
  have ho1 : X1.ownsRow B T 1 v k xs := ownsRow_as ho fun j cs _ hj => (hb.block j (row_lt hj)).trans hj
  obtain ⟨v', Y, hrun, hown, hg, _⟩ := run_append_own (P := Try.prog) X1 B S S T i0 z0 1 sz hS hi hz h1 h2 hzs (by decide) v k xs ho1 ⟨X.heap.size, 0, none⟩ 1 c [u] (by rfl) (fun j y hj => by
    have hl := (List.getElem?_eq_some_iff.1 hj).1
    obtain rfl : j = 0 := by simpa using hl
    cases hj
    rw [add_zero', cell_of_row _ _ _ _ _ _ hnew]; rfl) (by simpa using h1u) (by unfold maxLen; omega) (Nat.le_trans (Nat.mul_le_mul (show k + 1 ≤ 1000000 by omega) hsz) (by decide)) (Nat.le_trans hB hb.size)
  have hob : ∀ j, v.ownBlock = some j → ∃ cs, X1.heap[j]? = some (.cells cs T (0, 0)) := fun j e => by
    rcases ho1.2 with ⟨rfl, _⟩ | ⟨g, cap, cur, rfl, _, hg3, _⟩
    · cases e
    · have e' : g = j := by simpa [Value.ownBlock] using e
      subst e'
      exact ⟨cur, hg3⟩
  have hlow : ∀ j, v.ownBlock = some j → B ≤ j := fun j e => by
    rcases ho1.2 with ⟨rfl, _⟩ | ⟨g, cap, cur, rfl, hg2, _⟩
    · cases e
    · have e' : g = j := by simpa [Value.ownBlock] using e
      subst e'
      exact hg2
  have hsm1 : Sm T S X1 Y := fun j cs t fr hT _ e => (hg.block j (row_lt e) (fun e1 => by
    obtain ⟨cs', hcs⟩ := hob j e1.symm
    rw [e] at hcs
    injection hcs with hcs
    injection hcs with _ e2 _
    exact hT e2)).trans e
  have hsm : Sm T S X Y := (Sm.of_as (.of_below hb)).trans hsm1
  refine ⟨v', Y, hrun, ⟨xs ++ [u], by simp [hx], hown, fun j hj => ?_⟩, hsm, (RL.Objs.of_below hb).trans (RL.Objs.grown hg fun j e => let ⟨cs, h⟩ := hob j e; ⟨cs, T, (0, 0), h⟩), Nat.le_trans hb.size hg.size, fun j hj => ?_, hg.os.trans hb.os, hg.tape.trans hb.tape, hg.output.trans hb.output⟩
  · by_cases e : j = k
    · subst e
      exact ⟨u, by rw [List.getElem?_append_right (by omega), hx]; simp, hCs _ _ _ hu hsm⟩
    · obtain ⟨y, a, b⟩ := hr j (by omega)
      exact ⟨y, by rw [List.getElem?_append_left (by omega)]; exact a, hCs _ _ _ b hsm⟩
  · have := hb.size
    exact (hg.block j (by omega) (fun e1 => by have := hlow j e1.symm; omega)).trans (hb.block j (by omega))
end
/-- Parameters are loaded, wherever in a region. -/
theorem load_pbox {w : World} {g : Nat} {p : Pm} (h : PBox w g p) {o : Oper} {ev : Operand → Value} {x : Operand} (ho : o.op = .load 25 x) (hx : ev x = .pointer (some ⟨g, 0, none⟩)) : (execOp ev o).run Try.prog w = .ok (.value (.agg p.cells)) w := by
  unfold execOp
  simp only [ho, hx, Instr.loadAt, Instr.sureAddr, Sem.run_bind, Sem.run_pure, Result.andThen_ok, run_loadVar_row w g 25 25 p.cells (0, 0) _ h Try.underlying25 rfl (by kernel_rfl)]
/-- A list of lists in a block of its own, behind lo. -/
def MatC (lo : Nat) (W : World) (v : Value) (m : Nat) (L : Nat → Nat) (F : Nat → Nat → Nat) : Prop := (v = .slice none 0 0 ∧ m = 0) ∨ ∃ B c cs, v = .slice (some ⟨B, 0, none⟩) m c ∧ lo ≤ B ∧ W.heap[B]? = some (.cells cs 27 (0, 0)) ∧ ∀ i, i < m → ∃ u, cs[i]? = some u ∧ RowC lo W u (L i) (F i)
section
variable {lo : Nat} {W W' : World} {v : Value} {m : Nat} {L : Nat → Nat} {F : Nat → Nat → Nat}
theorem MatC.same (h : MatC lo W v m L F) (hk : ∀ (B : Nat) (cs : Array Value) (t : TypeId), t = 27 ∨ t = 23 → W.heap[B]? = some (.cells cs t (0, 0)) → W'.heap[B]? = some (.cells cs t (0, 0))) : MatC lo W' v m L F := by
  rcases h with h | ⟨B, c, cs, h0, h1, h2, h3⟩
  · exact .inl h
  · exact .inr ⟨B, c, cs, h0, h1, hk B cs _ (.inl rfl) h2, fun i hi => let ⟨u, a, b⟩ := h3 i hi; ⟨u, a, b.same fun B cs => hk B cs _ (.inr rfl)⟩⟩
theorem MatC.as (h : MatC lo W v m L F) (hb : CellsAs W W') : MatC lo W' v m L F := h.same fun _ _ _ _ e => hb _ _ _ _ e
theorem MatC.below (h : MatC lo W v m L F) (hb : Below W.heap.size W W') : MatC lo W' v m L F := h.as (.of_below hb)
theorem MatC.mono {lo' : Nat} (h : MatC lo W v m L F) (hl : lo' ≤ lo) : MatC lo' W v m L F := by
  rcases h with h | ⟨B, c, cs, h0, h1, h2, h3⟩
  · exact .inl h
  · exact .inr ⟨B, c, cs, h0, Nat.le_trans hl h1, h2, fun i hi => let ⟨u, a, b⟩ := h3 i hi; ⟨u, a, b.mono hl⟩⟩
theorem MatC.one (h : MatC lo W v m L F) : v.oneCell' = true := by
  rcases h with ⟨rfl, _⟩ | ⟨_, _, _, rfl, _⟩ <;> rfl
theorem MatC.matV (h : MatC lo W v m L F) : MatV W v m L F := by
  rcases h with ⟨rfl, rfl⟩ | ⟨B, c, cs, rfl, h1, h2, h3⟩
  · exact MatV.nil _ _ _
  · refine ⟨_, c, rfl, fun i hi => ?_, fun h => by cases h⟩
    obtain ⟨u, a, b⟩ := h3 i hi
    obtain ⟨bo, cu, rfl, hs⟩ := b.src
    exact ⟨_, bo, cu, rfl, by rw [add_zero', cell_of_row _ _ _ _ _ _ h2]; exact a, hs⟩
theorem MatC.congr {L' : Nat → Nat} {F' : Nat → Nat → Nat} (h : MatC lo W v m L F) (hL : ∀ i, i < m → L i = L' i) (hF : ∀ i, i < m → ∀ j, j < L i → F i j = F' i j) : MatC lo W v m L' F' := by
  rcases h with h | ⟨B, c, cs, h0, h1, h2, h3⟩
  · exact .inl h
  · exact .inr ⟨B, c, cs, h0, h1, h2, fun i hi => let ⟨u, a, b⟩ := h3 i hi; ⟨u, a, by rw [← hL i hi]; exact b.congr (hF i hi)⟩⟩
end
/-- Lists of lists of lists in a block of its own. -/
def CubC (lo : Nat) (W : World) (v : Value) (n : Nat) (K : Nat → Nat) (L : Nat → Nat → Nat) (F : Nat → Nat → Nat → Nat) : Prop := (v = .slice none 0 0 ∧ n = 0) ∨ ∃ B c cs, v = .slice (some ⟨B, 0, none⟩) n c ∧ lo ≤ B ∧ W.heap[B]? = some (.cells cs 28 (0, 0)) ∧ ∀ i, i < n → ∃ u, cs[i]? = some u ∧ MatC lo W u (K i) (L i) (F i)
section
variable {lo : Nat} {W W' : World} {v : Value} {n : Nat} {K : Nat → Nat} {L : Nat → Nat → Nat} {F : Nat → Nat → Nat → Nat}
theorem CubC.as (h : CubC lo W v n K L F) (hb : CellsAs W W') : CubC lo W' v n K L F := by
  rcases h with h | ⟨B, c, cs, h0, h1, h2, h3⟩
  · exact .inl h
  · exact .inr ⟨B, c, cs, h0, h1, hb _ _ _ _ h2, fun i hi => let ⟨u, a, b⟩ := h3 i hi; ⟨u, a, b.as hb⟩⟩
theorem CubC.below (h : CubC lo W v n K L F) (hb : Below W.heap.size W W') : CubC lo W' v n K L F := h.as (.of_below hb)
/-- What they read as. -/
theorem CubC.cub (h : CubC lo W v n K L F) : ∃ ao c, v = .slice ao n c ∧ Cub W ao n K L F ∧ (ao = none → n = 0 ∧ c = 0) := by
  rcases h with ⟨rfl, rfl⟩ | ⟨B, c, cs, rfl, h1, h2, h3⟩
  · exact ⟨none, 0, rfl, fun _ h => absurd h (by omega), fun _ => ⟨rfl, rfl⟩⟩
  · refine ⟨_, c, rfl, fun i hi => ?_, fun h => by cases h⟩
    obtain ⟨u, a, b⟩ := h3 i hi
    exact ⟨_, u, rfl, by rw [add_zero', cell_of_row _ _ _ _ _ _ h2]; exact a, b.matV⟩
end
/-- A row that was made by appends, as what its values stand for. -/
theorem Grow.block {T : TypeId} {B k : Nat} {C : Nat → Value → World → Prop} {v : Value} {X : World} (h : Grow T B C v k X) : (v = .slice none 0 0 ∧ k = 0) ∨ ∃ g c cs, v = .slice (some ⟨g, 0, none⟩) k c ∧ B ≤ g ∧ X.heap[g]? = some (.cells cs T (0, 0)) ∧ ∀ i, i < k → ∃ u, cs[i]? = some u ∧ C i u X := by
  obtain ⟨xs, hx, ⟨_, h1 | ⟨g, cap, cur, h1, h2, h3, h4, h5, _, h7⟩⟩, hr⟩ := h
  · exact .inl h1
  · refine .inr ⟨g, cap, cur, h1, h2, h3, fun i hi => ?_⟩
    obtain ⟨u, a, b⟩ := hr i hi
    refine ⟨u, ?_, b⟩
    have e1 : (cur.toList.take (k * 1))[i]? = xs[i]? := by rw [h7]
    rw [a, List.getElem?_take_of_lt (by omega)] at e1
    simpa using e1
theorem Grow.slice {T : TypeId} {B k : Nat} {C : Nat → Value → World → Prop} {v : Value} {X : World} (h : Grow T B C v k X) : ∃ ao c, v = .slice ao k c := by
  rcases h.block with ⟨rfl, rfl⟩ | ⟨g, c, _, rfl, _⟩
  · exact ⟨_, _, rfl⟩
  · exact ⟨_, _, rfl⟩
/-- A slice with room for what it has. -/
def CapOk (v : Value) : Prop := ∃ ao n c, v = .slice ao n c ∧ n ≤ c
theorem Grow.cap {T : TypeId} {B k : Nat} {C : Nat → Value → World → Prop} {v : Value} {X : World} (h : Grow T B C v k X) : CapOk v := by
  obtain ⟨xs, hx, ⟨_, ⟨rfl, _⟩ | ⟨g, cap, cur, h1, h2, h3, h4, _⟩⟩, hr⟩ := h
  · exact ⟨_, _, _, rfl, Nat.le_refl _⟩
  · exact ⟨_, _, _, h1, h4⟩
theorem CapOk.le {ao : Option Addr} {n c : Nat} (h : CapOk (.slice ao n c)) : n ≤ c := by
  obtain ⟨_, _, _, e, h1⟩ := h
  injection e with _ e1 e2
  omega
end M
end Go.Proofs.Ytlnlepadninnaaa
/- Lists that are written down, as slices read them. -/
namespace Go.Proofs.Ytlnlepadninnaaa
open Go Go.RowKit Go.Lib
namespace MM
def nl (l : List Nat) (k : Nat) : Nat := l.getD k 0
def lenL (rows : List (List Nat)) (i : Nat) : Nat := (rows.getD i []).length
def nlR (rows : List (List Nat)) (i : Nat) : Nat → Nat := nl (rows.getD i [])
theorem nl_lt {l : List Nat} (h : l.all (· < 18446744073709551616) = true) (k : Nat) : nl l k < 18446744073709551616 := by
  unfold nl
  by_cases hk : k < l.length
  · rw [List.getD_eq_getElem?_getD, List.getElem?_eq_getElem hk]
    have := List.all_eq_true.1 h _ (List.getElem_mem hk)
    simpa using this
  · rw [List.getD_eq_getElem?_getD, List.getElem?_eq_none (by omega)]; show (0 : Nat) < _; omega
theorem nlR_lt {rows : List (List Nat)} (h : rows.all (fun l => l.all (· < 18446744073709551616)) = true) (i k : Nat) : nlR rows i k < 18446744073709551616 := by
  unfold nlR
  by_cases hk : i < rows.length
  · rw [List.getD_eq_getElem?_getD, List.getElem?_eq_getElem hk]
    exact nl_lt (List.all_eq_true.1 h _ (List.getElem_mem hk)) k
  · rw [List.getD_eq_getElem?_getD, List.getElem?_eq_none (by omega)]; show (0 : Nat) < _; omega
end MM
namespace M
def ua (l : List Nat) : Array Value := (l.map fun (x : Nat) => Value.int .u64 (x : Int)).toArray
/-- A row in a new block. -/
theorem row_at {W : World} (l : List Nat) {b n : Nat} (hb : W.heap.size = b) (hn : l.length = n) : Row (W.alloc (.cells (ua l) 23)) ⟨b, 0, none⟩ n (MM.nl l) := by
  subst hb hn
  refine Row.of_block (heap_alloc_new _ _) fun k hk => ?_
  unfold ua MM.nl
  rw [List.getD_eq_getElem?_getD]
  simp [hk]
theorem row_rd' {W : World} {a : Addr} {n : Nat} {z : Nat → Nat} (h : Row W a n z) : Rd W (some a) n z := fun _ => ⟨_, rfl, h⟩
theorem rd_nil (W : World) (z : Nat → Nat) : Rd W none 0 z := fun h => absurd h (by omega)
theorem Row.alloc {W : World} {a : Addr} {n : Nat} {z : Nat → Nat} (h : Row W a n z) (o : Obj) : Row (W.alloc o) a n z := h.below (below_box _ _)
theorem Rd.alloc {W : World} {ao : Option Addr} {n : Nat} {z : Nat → Nat} (h : Rd W ao n z) (o : Obj) : Rd (W.alloc o) ao n z := h.below (below_box _ _)
theorem Mat.alloc {W : World} {ao : Option Addr} {m : Nat} {L : Nat → Nat} {F : Nat → Nat → Nat} (h : Mat W ao m L F) (o : Obj) : Mat (W.alloc o) ao m L F := h.below (below_box _ _)
/-- A slice that reads as a list. -/
def Sl (W : World) (v : Value) (l : List Nat) : Prop := ∃ bo c, v = .slice bo l.length c ∧ SrcN W bo l.length c (MM.nl l)
theorem Sl.nil (W : World) : Sl W (.slice none 0 0) [] := ⟨none, 0, rfl, rd_nil _ _, fun _ => ⟨rfl, rfl⟩⟩
theorem Sl.row {W : World} {a n : Nat} {l : List Nat} (h : Row W ⟨a, 0, none⟩ n (MM.nl l)) (hn : l.length = n) : Sl W (.slice (some ⟨a, 0, none⟩) n n) l := by subst hn; exact ⟨_, _, rfl, row_rd' h, fun h => by cases h⟩
theorem mat_new {W : World} {vs : List Value} {rows : List (List Nat)} {b m : Nat} (hb : W.heap.size = b) (hm : rows.length = m) (h : ∀ i, i < m → ∃ v, vs[i]? = some v ∧ Sl W v (rows.getD i [])) : Mat (W.alloc (.cells vs.toArray 27)) (some ⟨b, 0, none⟩) m (MM.lenL rows) (MM.nlR rows) := fun i hi => by
  subst hb hm
  obtain ⟨v, h1, bo, c, rfl, h2⟩ := h i hi
  refine ⟨_, bo, c, rfl, ?_, h2.below (below_box _ _)⟩
  rw [add_zero', cell_of_row _ _ _ _ _ _ (heap_alloc_new W _), List.getElem?_toArray]
  exact h1
theorem mat1 {W : World} {v0 : Value} {l0 : List Nat} {b : Nat} (hb : W.heap.size = b) (h0 : Sl W v0 l0) : Mat (W.alloc (.cells #[v0] 27)) (some ⟨b, 0, none⟩) 1 (MM.lenL [l0]) (MM.nlR [l0]) :=
  mat_new (vs := [v0]) hb rfl fun i hi => by
    match i, hi with
    | 0, _ => exact ⟨_, rfl, h0⟩
theorem mat2 {W : World} {v0 v1 : Value} {l0 l1 : List Nat} {b : Nat} (hb : W.heap.size = b) (h0 : Sl W v0 l0) (h1 : Sl W v1 l1) : Mat (W.alloc (.cells #[v0, v1] 27)) (some ⟨b, 0, none⟩) 2 (MM.lenL [l0, l1]) (MM.nlR [l0, l1]) :=
  mat_new (vs := [v0, v1]) hb rfl fun i hi => by
    match i, hi with
    | 0, _ => exact ⟨_, rfl, h0⟩
    | 1, _ => exact ⟨_, rfl, h1⟩
theorem mat3 {W : World} {v0 v1 v2 : Value} {l0 l1 l2 : List Nat} {b : Nat} (hb : W.heap.size = b) (h0 : Sl W v0 l0) (h1 : Sl W v1 l1) (h2 : Sl W v2 l2) : Mat (W.alloc (.cells #[v0, v1, v2] 27)) (some ⟨b, 0, none⟩) 3 (MM.lenL [l0, l1, l2]) (MM.nlR [l0, l1, l2]) :=
  mat_new (vs := [v0, v1, v2]) hb rfl fun i hi => by
    match i, hi with
    | 0, _ => exact ⟨_, rfl, h0⟩
    | 1, _ => exact ⟨_, rfl, h1⟩
    | 2, _ => exact ⟨_, rfl, h2⟩
theorem mat0 (W : World) (rows : List (List Nat)) : Mat W none 0 (MM.lenL rows) (MM.nlR rows) := fun _ h => absurd h (by omega)
end M
end Go.Proofs.Ytlnlepadninnaaa

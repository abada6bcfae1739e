/- The texts FixMath3, FixSpanM, FixCopy, FixR3, FixR5, FixR9, one behind the other. -/
import Derived.Test.YtnlkikcnjlkkdaaWB9
import Derived.Test.YtnlkikcnjlkkdaaWB4
import Derived.Test.YtnlkikcnjlkkdaaWB3
import Derived.Test.YtnlkikcnjlkkdaaWB5
import Derived.Laws.MakeOwn
import Derived.Laws.OwnMore
import Derived.Lib.AppendZeros
import Derived.Test.YtnlkikcnjlkkdaaWB6
/- Scores are Int of the products of the secrets and the query, where parameters fit. -/
namespace Go.Proofs.Ytnlkikcnjlkkdaa
namespace MM
theorem secZ_at {p : Pm} {o : Mo} {d k j : Nat} (hd : p.D.toNat = d) (hj : j < d) : secZ p o (k * (d + 1) + j) = numU (o.F k j) p.Q := by
  unfold secZ
  rw [hd]
  have e1 : (k * (d + 1) + j) % (d + 1) = j := by rw [Nat.mul_comm, Nat.mul_add_mod]; exact Nat.mod_eq_of_lt (by omega)
  have e2 : (k * (d + 1) + j) / (d + 1) = k := by rw [Nat.mul_comm, Nat.mul_add_div (by omega), Nat.div_eq_of_lt (by omega), Nat.add_zero]
  rw [e1, e2, if_pos hj]
theorem secZ_last {p : Pm} {o : Mo} {d k : Nat} (hd : p.D.toNat = d) : secZ p o (k * (d + 1) + d) = numU (o.b k) p.Q := by
  unfold secZ
  rw [hd]
  have e1 : (k * (d + 1) + d) % (d + 1) = d := by rw [Nat.mul_comm, Nat.mul_add_mod]; exact Nat.mod_eq_of_lt (by omega)
  have e2 : (k * (d + 1) + d) / (d + 1) = k := by rw [Nat.mul_comm, Nat.mul_add_div (by omega), Nat.div_eq_of_lt (by omega), Nat.add_zero]
  rw [e1, e2, if_neg (by omega)]
/-- The sum of the products alone. -/
def linP (o : Mo) (x : Nat → Int) (k : Nat) : Nat → Int
  | 0 => 0
  | i + 1 => linP o x k i + o.F k i * x i
theorem scoP_lin (o : Mo) (x : Nat → Int) (k : Nat) : ∀ i, scoP o x k i = o.b k + linP o x k i
  | 0 => by simp [scoP, linP]
  | i + 1 => by rw [scoP, linP, scoP_lin o x k i]; omega
theorem dot_lin {p : Pm} {o : Mo} {x : Nat → Int} {n d kk k : Nat} (hg : Good p.Q) (hd : p.D.toNat = d) (hn : n = d) (hk : k < kk) : ∀ i, i ≤ d → dotP p.Q d (kk * (d + 1)) (secZ p o) (rowZ p n x) k i = numU (linP o x k i) p.Q
  | 0, _ => by rw [dotP, linP, numU_zero hg]
  | i + 1, hi => by
    have h1 : (k + 1) * (d + 1) ≤ kk * (d + 1) := Nat.mul_le_mul_right _ hk
    have h2 : (k + 1) * (d + 1) = k * (d + 1) + (d + 1) := Nat.succ_mul _ _
    have hr : rowZ p n x i = numU (x i) p.Q := by unfold rowZ; rw [hd, if_pos (by omega), if_pos (by omega)]
    rw [dotP, if_pos (by omega), dot_lin hg hd hn hk i (by omega), secZ_at hd (by omega), hr, numU_mul hg, numU_add hg]
    rfl
theorem dot_sco {p : Pm} {o : Mo} {x : Nat → Int} {n d kk k : Nat} (hg : Good p.Q) (hd : p.D.toNat = d) (hn : n = d) (hk : k < kk) : dotZ p (kk * (d + 1)) (secZ p o) n x k = numU (scoZ p o x k) p.Q := by
  have h1 : (k + 1) * (d + 1) ≤ kk * (d + 1) := Nat.mul_le_mul_right _ hk
  have h2 : (k + 1) * (d + 1) = k * (d + 1) + (d + 1) := Nat.succ_mul _ _
  have hr : rowZ p n x d = numU 1 p.Q := by unfold rowZ; rw [hd, if_neg (by omega)]
  unfold dotZ scoZ
  rw [hd, dotP, if_pos (by omega), dot_lin hg hd hn hk d (Nat.le_refl _), secZ_last hd, hr, numU_mul hg, numU_add hg, scoP_lin]
  congr 1
  rw [Int.mul_one, Int.add_comm]
theorem abs_mul_le {a b m x : Int} (ha : -m ≤ a ∧ a ≤ m) (hb : -x ≤ b ∧ b ≤ x) : -(m * x) ≤ a * b ∧ a * b ≤ m * x := by
  have h1 : (a * b).natAbs ≤ m.natAbs * x.natAbs := by
    rw [Int.natAbs_mul]
    exact Nat.mul_le_mul (by omega) (by omega)
  have h2 : ((m.natAbs * x.natAbs : Nat) : Int) = m * x := by
    rw [Int.natCast_mul, Int.natAbs_of_nonneg (by omega), Int.natAbs_of_nonneg (by omega)]
  omega
theorem scoP_bound {o : Mo} {x : Nat → Int} {k : Nat} {m mx y : Int} (hmx : m * y = mx) (hb : -m ≤ o.b k ∧ o.b k ≤ m) : ∀ i, (∀ j, j < i → (-m ≤ o.F k j ∧ o.F k j ≤ m) ∧ (-y ≤ x j ∧ x j ≤ y)) → -m - (i : Int) * mx ≤ scoP o x k i ∧ scoP o x k i ≤ m + (i : Int) * mx
  | 0, _ => by rw [scoP]; omega
  | i + 1, h => by
    have h1 := scoP_bound hmx hb i fun j hj => h j (by omega)
    have h2 := abs_mul_le (h i (by omega)).1 (h i (by omega)).2
    rw [hmx] at h2
    have h3 : ((i + 1 : Nat) : Int) * mx = (i : Int) * mx + mx := by rw [Int.natCast_add, Int.add_mul, Int.natCast_one, Int.one_mul]
    rw [scoP, h3]
    omega
/-- The stage's theorem, in numbers. -/
theorem scores_of_dot {p : Pm} {o : Mo} {x : Nat → Int} {n d kk k : Nat} (hQ : p.Q ≤ 2305843009213693952) (hd : p.D = (d : Int)) (hn : n = d) (hk : k < kk) (hM : 0 ≤ p.M) (hX : 0 ≤ p.X) (hfit : 2 * ((d : Int) * p.M * p.X + p.M) < (p.Q : Int))
    (hb : -p.M ≤ o.b k ∧ o.b k ≤ p.M) (hF : ∀ j, j < d → (-p.M ≤ o.F k j ∧ o.F k j ≤ p.M) ∧ (-p.X ≤ x j ∧ x j ≤ p.X)) :
    intU (dotZ p (kk * (d + 1)) (secZ p o) n x k) p.Q = scoZ p o x k := by
  have hdN : p.D.toNat = d := by omega
  have h0 : 0 ≤ (d : Int) * p.M * p.X := Int.mul_nonneg (Int.mul_nonneg (Int.natCast_nonneg _) hM) hX
  have hg : Good p.Q := ⟨by omega, hQ⟩
  rw [dot_sco hg hdN hn hk]
  obtain ⟨mx, hmx⟩ : ∃ mx, p.M * p.X = mx := ⟨_, rfl⟩
  have hbd := scoP_bound (x := x) hmx hb d hF
  have e : (d : Int) * p.M * p.X = (d : Int) * mx := by rw [← hmx, Int.mul_assoc]
  rw [e] at hfit h0
  generalize (d : Int) * mx = t at *
  unfold scoZ
  rw [hdN]
  exact int_num hg (by omega) (by omega)
end MM
end Go.Proofs.Ytnlkikcnjlkkdaa
/- Mixtures of queries whose factors come to 1; rows of whole numbers that a call makes by appends; three queries, two models. -/
namespace Go.Proofs.Ytnlkikcnjlkkdaa
open Go Go.RowKit Go.Lib
namespace MM
def pick3 {α : Type} (a b c : α) : Nat → α
  | 0 => a
  | 1 => b
  | _ => c
def mixZ (a b : Int) (x y z : Nat → Int) (i : Nat) : Int := a * x i + b * y i + (1 - a - b) * z i
theorem lin_mix (o : Mo) (a b : Int) (x y z : Nat → Int) (k : Nat) : ∀ i, linP o (mixZ a b x y z) k i = a * linP o x k i + b * linP o y k i + (1 - a - b) * linP o z k i
  | 0 => by simp [linP]
  | i + 1 => by
    rw [linP, linP, linP, linP, lin_mix o a b x y z k i, mixZ]
    grind
theorem sco_mix {p : Pm} {o1 o2 : Mo} {a b : Int} {x y z : Nat → Int} {k : Nat} (hx : scoZ p o1 x k = scoZ p o2 x k) (hy : scoZ p o1 y k = scoZ p o2 y k) (hz : scoZ p o1 z k = scoZ p o2 z k) : scoZ p o1 (mixZ a b x y z) k = scoZ p o2 (mixZ a b x y z) k := by
  unfold scoZ at *
  rw [scoP_lin, scoP_lin] at *
  rw [lin_mix, lin_mix]
  grind
theorem mix_lt {a b u v w : Int} (ha : -1000 < a ∧ a < 1000) (hb : -1000 < b ∧ b < 1000) (hu : -1048576 ≤ u ∧ u ≤ 1048576) (hv : -1048576 ≤ v ∧ v ≤ 1048576) (hw : -1048576 ≤ w ∧ w ≤ 1048576) :
    (-1048576000 ≤ a * u ∧ a * u ≤ 1048576000) ∧ (-1048576000 ≤ b * v ∧ b * v ≤ 1048576000) ∧ (-2097152000 ≤ (1 - a - b) * w ∧ (1 - a - b) * w ≤ 2097152000) := by
  have h1 := abs_mul_le (m := 1000) (x := 1048576) (a := a) (b := u) (by omega) (by omega)
  have h2 := abs_mul_le (m := 1000) (x := 1048576) (a := b) (b := v) (by omega) (by omega)
  have h3 := abs_mul_le (m := 2000) (x := 1048576) (a := 1 - a - b) (b := w) (by omega) (by omega)
  omega
end MM
namespace M
def ilist (n : Nat) (z : Nat → Int) : List Value := (List.range n).map fun k => .int .i64 (z k)
theorem ilist_len (n : Nat) (z : Nat → Int) : (ilist n z).length = n * 1 := by simp [ilist]
theorem ilist_get {n : Nat} {z : Nat → Int} {k : Nat} (h : k < n) : (ilist n z)[k]? = some (.int .i64 (z k)) := by simp [ilist, h]
theorem ilist_succ (n : Nat) (z : Nat → Int) : ilist n z ++ [.int .i64 (z n)] = ilist (n + 1) z := by simp [ilist, List.range_succ]
/-- A row of whole numbers by appends. -/
structure OwnW (w0 : World) (B : Nat) (v : Value) (k : Nat) (z : Nat → Int) (w : World) : Prop where
  own : w.ownsRow B 2 1 v k (ilist k z)
  size : B ≤ w.heap.size
  low : w0.heap.size ≤ B
  below : Below w0.heap.size w0 w
section
variable {w0 w w' : World} {B k : Nat} {v : Value} {z : Nat → Int}
theorem OwnW.start (w0 : World) (z : Nat → Int) : OwnW w0 w0.heap.size (.slice none 0 0) 0 z w0 := ⟨⟨by simp [ilist], .inl ⟨rfl, rfl⟩⟩, Nat.le_refl _, Nat.le_refl _, Below.refl _ _⟩
theorem OwnW.step (h : OwnW w0 B v k z w) (hb : Below w.heap.size w w') : OwnW w0 B v k z w' :=
  ⟨h.own.kept (row := none) ⟨hb.os, hb.tape, hb.output, hb.size, fun k hk _ => hb.block k hk⟩ (by cases v.ownBlock <;> simp), Nat.le_trans h.size hb.size, h.low, h.below.trans (hb.mono h.below.size)⟩
theorem OwnW.drewN (h : OwnW w0 B v k z w) (n : Nat) : OwnW w0 B v k z (w.drewN n) := h.step (below_drewN' w n _)
theorem OwnW.grow (h : OwnW w0 B v k z w) {v' : Value} {k' : Nat} {xs : List Value} (ho : w'.ownsRow B 2 1 v' k' xs) (hx : xs = ilist k' z) (hg : w.grownBy w' v.ownBlock) : OwnW w0 B v' k' z w' :=
  ⟨hx ▸ ho, Nat.le_trans h.size hg.size, h.low,
   h.below.trans ⟨hg.os, hg.tape, hg.output, hg.size, fun j hj => hg.block j (Nat.lt_of_lt_of_le hj h.below.size) (fun e => by have := (h.own.lt j e.symm).1; have := h.low; omega)⟩⟩
theorem OwnW.push (h : OwnW w0 B v k z w) (c : Nat) (hk : k ≤ 900000) :
    ∃ v' w', (Builtin.append_ #[34, 34] 34 #[v, .slice (some ⟨w.heap.size, 0, none⟩) 1 c]).run Try.prog (w.alloc (.cells #[.int .i64 (z k)] 2)) = .ok v' w' ∧ OwnW w0 B v' (k + 1) z w' := by
  obtain ⟨i0, hi, hz0, hz1, hz2⟩ := info_parts info_i64
  have ha := h.step (below_box w (.cells #[.int .i64 (z k)] 2))
  obtain ⟨v', w', hr, ho, hg, _⟩ := run_append_own (P := Try.prog) _ B 34 34 2 i0 (.int .i64 0) 1 8 Try.underlying34 hi hz0 hz1 hz2 rfl (by decide) v k (ilist k z) ha.own ⟨w.heap.size, 0, none⟩ 1 c [.int .i64 (z k)] rfl (fun j u hj => by
    have hl := (List.getElem?_eq_some_iff.1 hj).1
    obtain rfl : j = 0 := by simpa using hl
    cases hj
    rw [show (⟨w.heap.size, 0, none⟩ : Addr).add 0 = ⟨w.heap.size, 0, none⟩ from rfl, cell_of_row _ _ _ _ _ _ (heap_alloc_new w _)]; rfl) (by simp [Value.oneCell']) (by unfold maxLen; omega) (by omega) ha.size
  exact ⟨v', w', hr, ha.grow ho (ilist_succ k z) hg⟩
theorem OwnW.irow (h : OwnW w0 B v k z w) : ∃ ao c, v = .slice ao k c ∧ IRow w ao k c z := by
  obtain ⟨_, ⟨h1, h2⟩ | ⟨g, cap, cur, h1, h2, h3, h4, h5, _, h7⟩⟩ := h.own
  · subst h2; exact ⟨none, 0, h1, IRow.nil w z⟩
  · refine ⟨_, cap, h1, fun j hj => ⟨_, rfl, ?_⟩, (fun h => by cases h), h4⟩
    have e1 : (cur.toList.take (k * 1))[j]? = (ilist k z)[j]? := by rw [h7]
    rw [ilist_get hj, List.getElem?_take_of_lt (by omega)] at e1
    rw [row_add, cell_of_row w g j _ _ _ h3]
    simpa using e1
end
/-- Parameters and two models in their boxes. -/
structure In3 (w0 : World) (g h k : Nat) (p : Pm) (v : MoV) (o : MM.Mo) (u : MoV) (q : MM.Mo) (w : World) : Prop where
  box : PBox w g p
  mod : BoxM w h v o
  mat : MoAt w v o
  mod2 : BoxM w k u q
  mat2 : MoAt w u q
  below : Below w0.heap.size w0 w
theorem In3.step {w0 w w' : World} {g h k : Nat} {p : Pm} {v u : MoV} {o q : MM.Mo} (i : In3 w0 g h k p v o u q w) (hb : Below w.heap.size w w') : In3 w0 g h k p v o u q w' :=
  ⟨i.box.below hb, i.mod.below hb, i.mat.below hb, i.mod2.below hb, i.mat2.below hb, i.below.trans (hb.mono i.below.size)⟩
theorem In3.new (w : World) (p : Pm) (v u : MoV) (o q : MM.Mo) (h1 : MoAt w v o) (h2 : MoAt w u q) : In3 w w.heap.size (w.heap.size + 1) (w.heap.size + 1 + 1) p v o u q (((w.alloc (.cells p.cells 31)).alloc (.cells (v.cells o) 36)).alloc (.cells (u.cells q) 36)) := by
  have i := InM.new w p v o h1
  generalize hw : (w.alloc (.cells p.cells 31)).alloc (.cells (v.cells o) 36) = W at *
  have hs : W.heap.size = w.heap.size + 1 + 1 := by rw [← hw, World.size_alloc, World.size_alloc]
  have hb := below_box W (.cells (u.cells q) 36)
  have hn := BoxM.new W u q
  rw [hs] at hn
  exact ⟨i.box.below hb, i.mod.below hb, i.mat.below hb, hn, (h2.below i.below).below hb, i.below.trans (hb.mono i.below.size)⟩
/-- Three rows as a list of rows. -/
theorem three_mat (u : World) {ao bo co : Option Addr} {n m l ca cb cc : Nat} {x y z : Nat → Int} (hx : IRow u ao n ca x) (hy : IRow u bo m cb y) (hz : IRow u co l cc z) :
    IMat (u.alloc (.cells #[.slice ao n ca, .slice bo m cb, .slice co l cc] 34)) (some ⟨u.heap.size, 0, none⟩) 3 (MM.pick3 n m l) (MM.pick3 x y z) := fun i hi => by
  have hb := below_box u (.cells #[.slice ao n ca, .slice bo m cb, .slice co l cc] 34)
  have hc := fun j => cell_of_row _ u.heap.size j _ _ _ (heap_alloc_new u (.cells #[.slice ao n ca, .slice bo m cb, .slice co l cc] 34))
  match i, hi with
  | 0, _ => exact ⟨_, ao, ca, rfl, by rw [row_add, hc]; rfl, hx.below hb⟩
  | 1, _ => exact ⟨_, bo, cb, rfl, by rw [row_add, hc]; rfl, hy.below hb⟩
  | 2, _ => exact ⟨_, co, cc, rfl, by rw [row_add, hc]; rfl, hz.below hb⟩
end M
end Go.Proofs.Ytnlkikcnjlkkdaa
/- A model that a call copies: its rows by appends, its biases by an append; where they lie. -/
namespace Go.Proofs.Ytnlkikcnjlkkdaa
open Go Go.RowKit Go.Lib
namespace M
theorem info_rowsI : (Try.prog.info? 34).map (fun i => (i.zero, i.size, i.bytes)) = some (some (.slice none 0 0), 1, 24) := by kernel_rfl
/-- A row of values, one a cell, that a call itself makes by appends; nothing old has changed. -/
structure OwnV (T : TypeId) (w0 : World) (B : Nat) (v : Value) (xs : List Value) (w : World) : Prop where
  own : w.ownsRow B T 1 v xs.length xs
  size : B ≤ w.heap.size
  low : w0.heap.size ≤ B
  below : Below w0.heap.size w0 w
section
variable {T : TypeId} {w0 w w' : World} {B : Nat} {v : Value} {xs : List Value}
theorem OwnV.start (T : TypeId) (w0 : World) : OwnV T w0 w0.heap.size (.slice none 0 0) [] w0 := ⟨⟨rfl, .inl ⟨rfl, rfl⟩⟩, Nat.le_refl _, Nat.le_refl _, Below.refl _ _⟩
theorem OwnV.step (h : OwnV T w0 B v xs w) (hb : Below w.heap.size w w') : OwnV T w0 B v xs w' :=
  ⟨h.own.kept (row := none) ⟨hb.os, hb.tape, hb.output, hb.size, fun k hk _ => hb.block k hk⟩ (by cases v.ownBlock <;> simp), Nat.le_trans h.size hb.size, h.low, h.below.trans (hb.mono h.below.size)⟩
theorem OwnV.drewN (h : OwnV T w0 B v xs w) (n : Nat) : OwnV T w0 B v xs (w.drewN n) := h.step (below_drewN' w n _)
theorem OwnV.alloc (h : OwnV T w0 B v xs w) (o : Obj) : OwnV T w0 B v xs (w.alloc o) := h.step (below_box _ _)
theorem OwnV.val (h : OwnV T w0 B v xs w) : (v = .slice none 0 0 ∧ xs = []) ∨ ∃ g c, v = .slice (some ⟨g, 0, none⟩) xs.length c ∧ B ≤ g ∧ xs.length ≤ c ∧ ∀ j u, xs[j]? = some u → w.cell? ⟨g, j, none⟩ = some u := by
  obtain ⟨_, ⟨h1, h2⟩ | ⟨g, cap, cur, h1, h2, h3, h4, h5, _, h7⟩⟩ := h.own
  · exact .inl ⟨h1, List.eq_nil_of_length_eq_zero h2⟩
  · refine .inr ⟨g, cap, h1, h2, h4, fun j u hj => ?_⟩
    have hl := (List.getElem?_eq_some_iff.1 hj).1
    have e1 : (cur.toList.take (xs.length * 1))[j]? = xs[j]? := by rw [h7]
    rw [hj, List.getElem?_take_of_lt (by omega)] at e1
    rw [cell_of_row w g j _ _ _ h3]
    simpa using e1
/-- Some values more behind the row. -/
theorem OwnV.more {S : TypeId} {i0 : TypeInfo} {z0 : Value} {sz : Nat} (hS : Try.prog.underlying S = some (.slice T)) (hi : Try.prog.info? T = some i0) (hz : i0.zero = some z0) (h1 : i0.size = 1) (h2 : i0.bytes = sz) (hzs : z0.cells.size = 1) (hsz : sz ≤ 24)
    (h : OwnV T w0 B v xs w) {a : Addr} {m c : Nat} {news : List Value} (hl : news.length = m) (hn : ∀ j u, news[j]? = some u → w.cell? (a.add j) = some u) (ho : ∀ u ∈ news, u.oneCell' = true) (hb : xs.length + m ≤ 1000000) :
    ∃ v' w', (Builtin.append_ #[S, S] S #[v, .slice (some a) m c]).run Try.prog w = .ok v' w' ∧ OwnV T w0 B v' (xs ++ news) w' ∧ w.heap.size ≤ w'.heap.size ∧
      ∀ (k : Nat) (cs : Array Value) (t2 : TypeId), t2 ≠ T → w.heap[k]? = some (.cells cs t2 (0, 0)) → w'.heap[k]? = some (.cells cs t2 (0, 0)) := by
  obtain ⟨v', w', hr, ho', hg, _⟩ := run_append_own (P := Try.prog) w B S S T i0 z0 1 sz hS hi hz h1 h2 hzs (by decide) v xs.length xs h.own a m c news (by omega) hn ho (by unfold maxLen; omega) (Nat.le_trans (Nat.mul_le_mul hb hsz) (by decide)) h.size
  refine ⟨v', w', hr, ⟨?_, Nat.le_trans h.size hg.size, h.low, ?_⟩, hg.size, fun k cs t2 hne hk => (hg.block k (row_lt hk) (fun e => ?_)).trans hk⟩
  · rw [List.length_append, hl]; exact ho'
  · exact h.below.trans ⟨hg.os, hg.tape, hg.output, hg.size, fun j hj => hg.block j (Nat.lt_of_lt_of_le hj h.below.size) (fun e => by have := (h.own.lt j e.symm).1; have := h.low; omega)⟩
  · rcases h.own.2 with ⟨rfl, _⟩ | ⟨g, cap, cur, rfl, _, hg3, _⟩
    · cases e
    · have e' : k = g := by simpa [Value.ownBlock] using e
      subst e'
      rw [hk] at hg3
      injection hg3 with hg3
      injection hg3 with _ e2 _
      exact hne e2
end
theorem RowV.same {T : TypeId} {lo : Nat} {W W' : World} {v : Value} {n : Nat} {u : Nat → Value} (h : RowV T lo W v n u) (hk : ∀ (B : Nat) (cs : Array Value), W.heap[B]? = some (.cells cs T (0, 0)) → W'.heap[B]? = some (.cells cs T (0, 0))) : RowV T lo W' v n u := by
  rcases h with h | ⟨B, c, cs, h0, h1, h2, h3, h4⟩
  · exact .inl h
  · exact .inr ⟨B, c, cs, h0, h1, h2, hk B cs h3, h4⟩
theorem RowV.one {T : TypeId} {lo : Nat} {W : World} {v : Value} {n : Nat} {u : Nat → Value} (h : RowV T lo W v n u) : v.oneCell' = true := by
  rcases h with ⟨rfl, _⟩ | ⟨_, _, _, rfl, _⟩ <;> rfl
theorem ilist_cells {W : World} {ao : Option Addr} {a : Addr} {n c : Nat} {z : Nat → Int} (h : IRow W ao n c z) (ha : ao = some a) : ∀ j u, (ilist n z)[j]? = some u → W.cell? (a.add j) = some u := fun j u hj => by
  have hl := (List.getElem?_eq_some_iff.1 hj).1
  rw [ilist_len] at hl
  rw [ilist_get (by omega)] at hj
  obtain ⟨ad, e, hc⟩ := h.at_ (k := j) (by omega)
  rw [ha] at e
  cases e
  rw [← hj]; exact hc
theorem ilist_one (n : Nat) (z : Nat → Int) : ∀ u ∈ ilist n z, u.oneCell' = true := fun u hu => by
  simp [ilist] at hu
  obtain ⟨k, _, rfl⟩ := hu
  rfl
theorem OwnW.made0 (w : World) (z : Nat → Int) : OwnW w w.heap.size (.slice (some ⟨w.heap.size, 0, none⟩) 0 0) 0 z (w.alloc (.cells #[] 2)) :=
  ⟨World.ownsRow_made w #[] 0 (Nat.le_refl _) (by unfold maxLen; omega) (by simp), by simp, Nat.le_refl _, below_box _ _⟩
/-- A row is copied behind an empty one of the call's own. -/
theorem OwnW.copy {w0 w : World} {B : Nat} {v : Value} {z : Nat → Int} (h : OwnW w0 B v 0 z w) {ao : Option Addr} {n c : Nat} (hn : n ≤ 1000) (hs : IRow w ao n c z) :
    ∃ v' w', (Builtin.append_ #[34, 34] 34 #[v, .slice ao n c]).run Try.prog w = .ok v' w' ∧ OwnW w0 B v' n z w' := by
  obtain ⟨i0, hi, hz0, hz1, hz2⟩ := info_parts info_i64
  cases ao with
  | none =>
    obtain ⟨rfl, rfl⟩ := hs.2.1 rfl
    exact ⟨v, w, run_append_owned_none (P := Try.prog) w B 34 34 2 i0 1 Try.underlying34 hi v 0 (ilist 0 z) h.own, h⟩
  | some a =>
    obtain ⟨v', w', hr, ho, hg, _⟩ := run_append_own (P := Try.prog) w B 34 34 2 i0 (.int .i64 0) 1 8 Try.underlying34 hi hz0 hz1 hz2 rfl (by decide) v 0 (ilist 0 z) h.own a n c (ilist n z) (ilist_len n z) (ilist_cells hs rfl) (ilist_one n z) (by unfold maxLen; omega) (by omega) h.size
    rw [Nat.zero_add] at ho
    exact ⟨v', w', hr, h.grow ho (by simp [ilist]) hg⟩
/-- The copy so far: k rows, the biases. -/
structure Cop (W : World) (B : Nat) (v bv : Value) (k : Nat) (o : MM.Mo) (w : World) : Prop where
  rows : ∃ xs : List Value, xs.length = k ∧ OwnV 34 W B v xs w ∧ ∀ j, j < k → ∃ u, xs[j]? = some u ∧ NewI W.heap.size w u (o.L j) (o.F j)
  bias : NewI W.heap.size w bv o.n o.b
section
variable {W w w' : World} {B k : Nat} {v bv : Value} {o : MM.Mo}
theorem Cop.below (h : Cop W B v bv k o w) : Below W.heap.size W w := by obtain ⟨_, _, h, _⟩ := h.rows; exact h.below
theorem Cop.step (h : Cop W B v bv k o w) (hb : Below w.heap.size w w') : Cop W B v bv k o w' := by
  obtain ⟨xs, hx, ho, hr⟩ := h.rows
  exact ⟨⟨xs, hx, ho.step hb, fun j hj => let ⟨u, h1, h2⟩ := hr j hj; ⟨u, h1, h2.below hb⟩⟩, h.bias.below hb⟩
/-- A cell of another block is set. -/
theorem Cop.set (h : Cop W B v bv k o w) {H : Nat} {cs : Array Value} (hH : w.heap[H]? = some (.cells cs 36 (0, 0))) (hl : W.heap.size ≤ H) (j : Nat) (x : Value) : Cop W B v bv k o (w.setCell ⟨H, j, none⟩ x) := by
  obtain ⟨xs, hx, ho, hr⟩ := h.rows
  have hg : w.grownBy (w.setCell ⟨H, j, none⟩ x) (some H) := by
    have hb := (Below.refl H w).setCell (p := ⟨H, j, none⟩) (Nat.le_refl _) x
    exact ⟨hb.os, hb.tape, hb.output, hb.size, fun b hb' hne => Below.heap_setCell w ⟨H, j, none⟩ x b (fun e => hne (by rw [e]))⟩
  have hs : ∀ (T : TypeId), T ≠ 36 → ∀ (b : Nat) (ds : Array Value), w.heap[b]? = some (.cells ds T (0, 0)) → (w.setCell ⟨H, j, none⟩ x).heap[b]? = some (.cells ds T (0, 0)) := fun T hT b ds hd => (Below.heap_setCell w ⟨H, j, none⟩ x b (fun e => by
    have e' : b = H := e
    subst e'
    rw [hH] at hd
    injection hd with hd
    injection hd with _ e2 _
    exact hT e2.symm)).trans hd
  refine ⟨⟨xs, hx, ⟨ho.own.kept hg ?_, Nat.le_trans ho.size hg.size, ho.low, ho.below.setCell (p := ⟨H, j, none⟩) hl x⟩, fun j hj => let ⟨u, h1, h2⟩ := hr j hj; ⟨u, h1, h2.same (hs _ (by decide))⟩⟩, h.bias.same (hs _ (by decide))⟩
  rcases ho.own.2 with ⟨rfl, _⟩ | ⟨g, cap, cur, rfl, _, hg3, _⟩
  · exact .inl rfl
  · refine .inr fun e => ?_
    have e' : g = H := by simpa [Value.ownBlock] using e
    subst e'
    rw [hH] at hg3
    injection hg3 with hg3
    injection hg3 with _ e2 _
    exact absurd e2 (by decide)
/-- One row more, that lies in a new block by itself. -/
theorem Cop.more (h : Cop W B v bv k o w) {u : Value} (c : Nat) (hr : NewI W.heap.size w u (o.L k) (o.F k)) (hk : k ≤ 900000) :
    ∃ v' w', (Builtin.append_ #[33, 33] 33 #[v, .slice (some ⟨w.heap.size, 0, none⟩) 1 c]).run Try.prog (w.alloc (.cells #[u] 34)) = .ok v' w' ∧ Cop W B v' bv (k + 1) o w' ∧
      ∀ (H : Nat) (cs : Array Value), w.heap[H]? = some (.cells cs 36 (0, 0)) → w'.heap[H]? = some (.cells cs 36 (0, 0)) := by
  obtain ⟨xs, hx, ho, hrs⟩ := h.rows
  obtain ⟨i0, hi, hz0, hz1, hz2⟩ := info_parts info_rowsI
  have hb := below_box w (.cells #[u] 34)
  obtain ⟨v', w', hrun, ho', _, hsame⟩ := (ho.alloc (.cells #[u] 34)).more (S := 33) (a := ⟨w.heap.size, 0, none⟩) (m := 1) (c := c) (news := [u]) Try.underlying33 hi hz0 hz1 hz2 rfl (Nat.le_refl _) rfl (fun j y hj => by
    have hl := (List.getElem?_eq_some_iff.1 hj).1
    obtain rfl : j = 0 := by simpa using hl
    cases hj
    rw [row_add, cell_of_row _ _ _ _ _ _ (heap_alloc_new w _)]; rfl) (by simpa using hr.one) (by omega)
  have hs : ∀ {y : Value} {n : Nat} {z : Nat → Int}, NewI W.heap.size w y n z → NewI W.heap.size w' y n z := fun hy => (hy.below hb).same fun b cs hc => hsame b cs _ (by decide) hc
  refine ⟨v', w', hrun, ⟨⟨xs ++ [u], by simp [hx], ho', fun j hj => ?_⟩, hs h.bias⟩, fun H cs hH => hsame H cs _ (by decide) ((hb.block H (row_lt hH)).trans hH)⟩
  by_cases e : j = k
  · subst e
    exact ⟨u, by rw [List.getElem?_append_right (by omega), hx]; simp, hs hr⟩
  · obtain ⟨y, h1, h2⟩ := hrs j (by omega)
    exact ⟨y, by rw [List.getElem?_append_left (by omega)]; exact h1, hs h2⟩
/-- What the copy reads as. -/
theorem Cop.at_ (h : Cop W B v bv o.m o w) : ∃ u : MoV, v = .slice u.wo o.m u.wc ∧ bv = .slice u.bo o.n u.bc ∧ MoAt w u o := by
  obtain ⟨bo, bc, rfl, hb⟩ := h.bias.irow
  obtain ⟨xs, hx, ho, hrs⟩ := h.rows
  rcases ho.val with ⟨rfl, rfl⟩ | ⟨g, c, rfl, _, _, hc⟩
  · have hk : o.m = 0 := by simpa using hx.symm
    exact ⟨⟨none, 0, bo, bc⟩, by rw [hk], rfl, fun _ h => absurd h (by omega), hb⟩
  · refine ⟨⟨_, c, bo, bc⟩, by rw [hx], rfl, fun i hi => ?_, hb⟩
    obtain ⟨u, h1, h2⟩ := hrs i hi
    obtain ⟨ro, rc, rfl, hs⟩ := h2.irow
    exact ⟨_, ro, rc, rfl, by rw [row_add]; exact hc i _ h1, hs⟩
end
end M
end Go.Proofs.Ytnlkikcnjlkkdaa
/- The document's own: may a query, a model be. -/
namespace Go.Proofs.Ytnlkikcnjlkkdaa
open Go Go.RowKit Go.Lib
namespace M
end M
end Go.Proofs.Ytnlkikcnjlkkdaa
/- The document's own: may a model be. -/
namespace Go.Proofs.Ytnlkikcnjlkkdaa
open Go Go.RowKit Go.Lib
namespace M
end M
end Go.Proofs.Ytnlkikcnjlkkdaa
/- The document's own: the scores. -/
namespace Go.Proofs.Ytnlkikcnjlkkdaa
open Go Go.RowKit Go.Lib
namespace M
section
variable {w0 w w1 : World} {B k : Nat} {v : Value} {z : Nat → Int}
theorem OwnW.base (h : OwnW w1 B v k z w) (hb : Below w0.heap.size w0 w1) : OwnW w0 B v k z w := ⟨h.own, h.size, Nat.le_trans hb.size h.low, hb.trans (h.below.mono hb.size)⟩
theorem OwnW.newI (h : OwnW w0 B v k z w) : NewI w0.heap.size w v k z := by
  obtain ⟨_, h1 | ⟨g, cap, cur, h1, h2, h3, h4, h5, _, h7⟩⟩ := h.own
  · exact .inl h1
  · refine .inr ⟨g, cap, cur, h1, h4, Nat.le_trans h.low h2, h3, fun j hj => ?_⟩
    have e1 : (cur.toList.take (k * 1))[j]? = (ilist k z)[j]? := by rw [h7]
    rw [ilist_get hj, List.getElem?_take_of_lt (by omega)] at e1
    simpa using e1
end
end M
end Go.Proofs.Ytnlkikcnjlkkdaa

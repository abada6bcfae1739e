/- The walk of the program's polynomial through pairs. -/
import Derived.Test.YtaogdhpiiclejaaDoorPolyW8
import Derived.Test.YtaogdhpiiclejaaDoorPolyW3
import Derived.Test.YtaogdhpiiclejaaDoorPolyTwo
import Derived.Deep.Cut
import Derived.Deep.AppendLies
import Derived.IntWalk
import Derived.Test.YtaogdhpiiclejaaDoorRegK
namespace Go.Proofs.YtaogdhpiiclejaaDoor
open Go Go.RowKit Go.Lib Go.Shelf
namespace MM
/-- The program's way to the polynomial through pairs: after as many pairs as there were, what goes through them, and what is 0 at them. -/
def invP (q : Nat) (z : Nat → Nat) (s : Nat × (Nat → Nat) × (Nat → Nat)) (x : Nat) : Nat := hornL s.2.2 (z x) q (M.down (s.1 + 1) 0)
noncomputable def facP (q : Nat) (z y : Nat → Nat) (s : Nat × (Nat → Nat) × (Nat → Nat)) (x : Nat) : Nat := mulU (subU (y x) (hornL s.2.1 (z x) q (M.down s.1 0)) q) (invU (invP q z s x) q) q
noncomputable def stepP (q : Nat) (z y : Nat → Nat) (s : Nat × (Nat → Nat) × (Nat → Nat)) (x : Nat) : Nat × (Nat → Nat) × (Nat → Nat) :=
  (s.1 + 1, sumU s.1 (s.1 + 1) q s.2.1 (scaleU (facP q z y s x) q s.2.2), timesU (s.1 + 1) 2 q s.2.2 (two (subU 0 (z x) q) 1))
noncomputable def stP (q : Nat) (z y : Nat → Nat) (l : List Nat) : Nat × (Nat → Nat) × (Nat → Nat) := l.foldl (stepP q z y) (0, fun _ => 0, fun _ => 1)
theorem stP_snoc (q : Nat) (z y : Nat → Nat) (l : List Nat) (x : Nat) : stP q z y (l ++ [x]) = stepP q z y (stP q z y l) x := by simp [stP]
theorem stP_len (q : Nat) (z y : Nat → Nat) (l : List Nat) : (stP q z y l).1 = l.length := by
  rcases List.eq_nil_or_concat l with rfl | ⟨l', x, rfl⟩
  · rfl
  · rw [List.concat_eq_append, stP_snoc, List.length_append, List.length_singleton, ← stP_len q z y l']; rfl
termination_by l.length
theorem sumU_lt (n m q : Nat) (a b : Nat → Nat) (i : Nat) : sumU n m q a b i < 18446744073709551616 := addU_lt _ _ _
theorem timesU_lt (la lb q : Nat) (a b : Nat → Nat) (n : Nat) : timesU la lb q a b n < 18446744073709551616 := convU_lt _ _ _ _ _ _ _
theorem stP_lt (q : Nat) (z y : Nat → Nat) (l : List Nat) (k : Nat) : (stP q z y l).2.1 k < 18446744073709551616 ∧ (stP q z y l).2.2 k < 18446744073709551616 := by
  rcases List.eq_nil_or_concat l with rfl | ⟨l', x, rfl⟩
  · exact ⟨by show (0 : Nat) < _; omega, by show (1 : Nat) < _; omega⟩
  · rw [List.concat_eq_append, stP_snoc]; exact ⟨sumU_lt _ _ _ _ _ _, timesU_lt _ _ _ _ _ _⟩
end MM
namespace M
attribute [local go_sem] Oper.semAt_some
/-- A row that a slice value reads: none, or a block of its own. -/
def RowB (lo : Nat) (W : World) (v : Value) (n : Nat) (z : Nat → Nat) : Prop := (n = 0 ∧ v = .slice none 0 0) ∨ ∃ (B : Nat) (cs : Array Value), v = .slice (some ⟨B, 0, none⟩) n n ∧ lo ≤ B ∧ W.heap[B]? = some (.cells cs 23 (0, 0)) ∧ cs.size = n ∧ ∀ k, k < n → cs[k]? = some (.int .u64 ((z k : Nat) : Int))
theorem RowB.rd {lo : Nat} {W : World} {v : Value} {n : Nat} {z : Nat → Nat} (h : RowB lo W v n z) : ∃ ao c, v = .slice ao n c ∧ Rd W ao n z := by
  rcases h with ⟨rfl, rfl⟩ | ⟨B, cs, rfl, _, h1, _, h3⟩
  · exact ⟨none, 0, rfl, fun h => absurd h (by omega)⟩
  · exact ⟨_, n, rfl, fun _ => ⟨_, rfl, Row.of_block h1 h3⟩⟩
theorem RowB.same {lo : Nat} {W W' : World} {v : Value} {n : Nat} {z : Nat → Nat} (h : RowB lo W v n z) (hk : ∀ (B : Nat) (cs : Array Value), W.heap[B]? = some (.cells cs 23 (0, 0)) → W'.heap[B]? = some (.cells cs 23 (0, 0))) : RowB lo W' v n z := by
  rcases h with h | ⟨B, cs, e, h0, h1, h2⟩
  · exact .inl h
  · exact .inr ⟨B, cs, e, h0, hk B cs h1, h2⟩
theorem RowB.below {lo : Nat} {W W' : World} {v : Value} {n : Nat} {z : Nat → Nat} (h : RowB lo W v n z) (hb : Below W.heap.size W W') : RowB lo W' v n z := h.same fun B _ h1 => (hb.block B (row_lt h1)).trans h1
theorem RowB.drewN {lo : Nat} {W : World} {v : Value} {n : Nat} {z : Nat → Nat} (h : RowB lo W v n z) (m : Nat) : RowB lo (W.drewN m) v n z := h
theorem RowB.own {lo : Nat} {W W' : World} {v : Value} {n : Nat} {z : Nat → Nat} {row : Option Nat} (h : RowB lo W v n z) (hg : W.grownBy W' row) (hr : ∀ r, row = some r → ∃ o : Obj, W.heap[r]? = some o ∧ o.isCells = false) : RowB lo W' v n z := h.same fun B cs h1 => by
  refine (hg.block B (row_lt h1) (fun e => ?_)).trans h1
  obtain ⟨o, ho, hc⟩ := hr B e.symm
  rw [h1] at ho
  cases ho; cases hc
theorem RowB.setBox {lo : Nat} {W : World} {v : Value} {n : Nat} {z : Nat → Nat} (h : RowB lo W v n z) {P : Nat} {t : TypeId} {u : Value} (hb : Box W P t u) (ht : t ≠ 23) (x : Value) : RowB lo (W.setCell ⟨P, 0, none⟩ x) v n z := h.same fun B cs h1 => by
  refine (Below.heap_setCell W ⟨P, 0, none⟩ x B (fun e => ?_)).trans h1
  have e' : B = P := e
  subst e'
  rw [show W.heap[B]? = _ from hb] at h1
  cases h1
  exact ht rfl
theorem Mine.rowB {w0 w : World} {B n lo : Nat} {z : Nat → Nat} (h : Mine w0 B n z w) (hl : lo ≤ w0.heap.size) : RowB lo w (.slice (some ⟨B, 0, none⟩) n n) n z := by
  obtain ⟨cs, h1, h2⟩ := h.block
  exact .inr ⟨B, cs, rfl, Nat.le_trans hl h.low, h1, h2⟩
/-- Between two rounds. -/
def ThInv (lo q : Nat) (z y : Nat → Nat) (h : Nat) (S : Nat → Prop) (W6 : World) (l : List Nat) (W : World) : Prop :=
  ∃ tv pv : Value, Box W h 22 tv ∧ Box W (h + 1 + 1) 22 pv ∧ RowB lo W tv (MM.stP q z y l).1 (MM.stP q z y l).2.1 ∧ RowB lo W pv ((MM.stP q z y l).1 + 1) (MM.stP q z y l).2.2 ∧ KeepS S W6 W ∧
    ∀ a x b, l = a ++ x :: b → MM.invC (MM.invP q z (MM.stP q z y a) x) q = 0
/-- A round has found a number without an inverse. -/
def ThNone (q : Nat) (z y : Nat → Nat) (w : World) (g0 : Nat) (l : List Nat) (W : World) : Prop :=
  Box W (g0 + 1 + 1 + 1) 22 (.slice none 0 0) ∧ Box W (g0 + 1 + 1 + 1 + 1) 29 (.int .i64 5) ∧ Below g0 w W ∧ ∃ a x, l = a ++ [x] ∧ MM.invC (MM.invP q z (MM.stP q z y a) x) q ≠ 0
theorem ThInv.own {lo q : Nat} {z y : Nat → Nat} {h : Nat} {S : Nat → Prop} {W6 W W' : World} {l : List Nat} {row : Option Nat} (k : ThInv lo q z y h S W6 l W) (hS : ∀ j, S j → j < W6.heap.size) (hg : W.grownBy W' row) (hr : ∀ r, row = some r → W6.heap.size ≤ r ∧ ∃ o : Obj, W.heap[r]? = some o ∧ o.isCells = false) : ThInv lo q z y h S W6 l W' := by
  obtain ⟨tv, pv, h1, h2, h3, h4, h5, h6⟩ := k
  have hr' := fun r e => (hr r e).2
  exact ⟨tv, pv, h1.own hg hr', h2.own hg hr', h3.own hg hr', h4.own hg hr', h5.grown hS h5.size hg (fun r e => (hr r e).1), h6⟩
theorem ThNone.own {q : Nat} {z y : Nat → Nat} {w : World} {g0 N : Nat} {W W' : World} {l : List Nat} {row : Option Nat} (k : ThNone q z y w g0 l W) (hN : g0 ≤ N) (hg : W.grownBy W' row) (hr : ∀ r, row = some r → N ≤ r ∧ ∃ o : Obj, W.heap[r]? = some o ∧ o.isCells = false) : ThNone q z y w g0 l W' := by
  obtain ⟨h1, h2, h3, h4⟩ := k
  have hr' := fun r e => (hr r e).2
  refine ⟨h1.own hg hr', h2.own hg hr', h3.grown hg ?_ (fun k e => by have := (hr k e).1; omega), h4⟩
  have := row_lt h1; omega
theorem boxes3 (w : World) (t1 t2 t3 : TypeId) (v1 v2 v3 : Value) : ∃ W, ((w.alloc (.cells #[v1] t1)).alloc (.cells #[v2] t2)).alloc (.cells #[v3] t3) = W ∧ Below w.heap.size w W ∧ W.heap.size = w.heap.size + 1 + 1 + 1 ∧
    Box W w.heap.size t1 v1 ∧ Box W (w.heap.size + 1) t2 v2 ∧ Box W (w.heap.size + 1 + 1) t3 v3 := by
  obtain ⟨W2, h2, b2, s2, x1, x2⟩ := boxes2 w t1 t2 v1 v2
  obtain ⟨W3, h3⟩ : ∃ W3, W2.alloc (.cells #[v3] t3) = W3 := ⟨_, rfl⟩
  have b3 : Below W2.heap.size W2 W3 := h3 ▸ below_box _ _
  have s3 : W3.heap.size = w.heap.size + 1 + 1 + 1 := by rw [← h3, World.size_alloc, s2]
  exact ⟨W3, by rw [h2, h3], b2.trans (b3.mono b2.size), s3, x1.below b3, x2.below b3, by rw [← h3, ← s2]; exact Box.new _ _ _⟩
theorem boxes5 (w : World) (t1 t2 t3 t4 t5 : TypeId) (v1 v2 v3 v4 v5 : Value) : ∃ W, ((((w.alloc (.cells #[v1] t1)).alloc (.cells #[v2] t2)).alloc (.cells #[v3] t3)).alloc (.cells #[v4] t4)).alloc (.cells #[v5] t5) = W ∧ Below w.heap.size w W ∧ W.heap.size = w.heap.size + 1 + 1 + 1 + 1 + 1 ∧
    Box W w.heap.size t1 v1 ∧ Box W (w.heap.size + 1) t2 v2 ∧ Box W (w.heap.size + 1 + 1) t3 v3 ∧ Box W (w.heap.size + 1 + 1 + 1) t4 v4 ∧ Box W (w.heap.size + 1 + 1 + 1 + 1) t5 v5 := by
  obtain ⟨W3, h3, b3, s3, x1, x2, x3⟩ := boxes3 w t1 t2 t3 v1 v2 v3
  obtain ⟨W5, h5, b5, s5, x4, x5⟩ := boxes2 W3 t4 t5 v4 v5
  rw [s3] at s5 x4 x5
  exact ⟨W5, by rw [h3, h5], b3.trans (b5.mono b3.size), s5, x1.below b5, x2.below b5, x3.below b5, x4, x5⟩

/-- What the program's polynomial through pairs is, or that some number has no inverse. -/
def Thru (w : World) (n q : Nat) (z y : Nat → Nat) (e : Ending) (w' : World) : Prop :=
  (∃ v, e = .returned (.tuple #[v, .int .i64 0]) ∧ RowB w.heap.size w' v n (MM.stP q z y (List.range n)).2.1 ∧ Below w.heap.size w w' ∧ ∀ k, k < n → MM.invC (MM.invP q z (MM.stP q z y (List.range k)) k) q = 0) ∨
  (e = .returned (.tuple #[.slice none 0 0, .int .i64 5]) ∧ Below w.heap.size w w' ∧ ∃ k, k < n ∧ MM.invC (MM.invP q z (MM.stP q z y (List.range k)) k) q ≠ 0)
theorem range_split {n k : Nat} (h : k < n) : ∃ b, List.range n = List.range k ++ k :: b := by
  refine ⟨(List.range (n - k - 1)).map (fun j => k + 1 + j), ?_⟩
  apply List.ext_getElem
  · simp; omega
  · intro i h1 h2
    rcases Nat.lt_trichotomy i k with h3 | h3 | h3
    · rw [List.getElem_append_left (by simpa using h3)]; simp
    · subst h3; simp
    · rw [List.getElem_append_right (by simp; omega)]
      obtain ⟨j, hj⟩ : ∃ j, i - k = j + 1 := ⟨i - k - 1, by omega⟩
      simp [hj]; omega
theorem snoc_split {L a b : List Nat} {x x' : Nat} (h : L ++ [x] = a ++ x' :: b) : (L = a ∧ x = x') ∨ ∃ b', L = a ++ x' :: b' := by
  rcases List.eq_nil_or_concat b with rfl | ⟨b', u, rfl⟩
  · have := List.append_inj' h rfl
    exact .inl ⟨this.1, by simpa using this.2⟩
  · rw [List.concat_eq_append, ← List.cons_append, ← List.append_assoc] at h
    exact .inr ⟨b', (List.append_inj' h rfl).1⟩
theorem results_cells {fn : Func} {p u : Tmp} {ty ty2 : TypeId} (h : fn.results = #[.cell p ty, .cell u ty2]) (tmps : Array Value) (P : Program) (w : World) :
    (results fn tmps).run P w = ((asAddr (tmps.getD p undef)).run P w).andThen fun a w1 => ((loadVar ty a).run P w1).andThen fun v w2 => ((asAddr (tmps.getD u undef)).run P w2).andThen fun b w3 => ((loadVar ty2 b).run P w3).andThen fun v2 w4 => .ok (.tuple #[v, v2]) w4 := by
  simp only [results, h]
  simp [Sem.run_bind, Result.andThen]

set_option maxRecDepth 100000 in
set_option maxHeartbeats 8000000 in
set_option pp.deepTerms true in
set_option pp.maxSteps 1000000 in
theorem through_good (xo yo : Option Addr) (n cx cy q : Nat) (z y : Nat → Nat) (hz : ∀ k, z k < 18446744073709551616) (hy : ∀ k, y k < 18446744073709551616) (hq : MM.Good q) (hn : n ≤ 1024) (hS : Sorts n) (hT : MM.tw6 q z n = 0) (w : World) (hr : Rd w xo n z) (hs : Rd w yo n y) :
    Calls Tryd.prog 14 #[.slice xo n cx, .slice yo n cy, .int .u64 (q : Int)] w (Thru w n q z y) := by
  refine (callsIn_wide (n := 3)).1 ?_
  have hck := fun (W : World) (hb : Below w.heap.size w W) => check_good xo n cx q z hz hq hn hS W (hr.below hb)
  rw [hT] at hck
  have HCK := Lib.hid hck
  have hl1 : 1 ≤ 3 := by omega
  have hl2 : n ≤ 1000000 := by omega
  have HZ := Lib.hid hz
  have HY := Lib.hid hy
  have HQ := Lib.hid hq
  have HR := Lib.hid hr
  have HS := Lib.hid hs
  clear hck hz hy hq hr hs hS hT
  refine callsIn_of_wp_marks Tryd.func14 rfl trivial ?_ rfl
  simp only [Tryd.ntmps14, List.size_toArray, List.length_cons, List.length_nil, Nat.reduceAdd, Nat.reduceSub, Array.replicate_succ, Array.replicate_zero, List.push_toArray, List.append_toArray, List.nil_append, List.cons_append]
  gi_upto_region 1 with fail
  obtain ⟨g0, hg0⟩ : ∃ g, w.heap.size = g := ⟨_, rfl⟩
  obtain ⟨W1, h1, b1, s1, x1, x2, x3, x4, x5⟩ := boxes5 w 22 22 23 22 29 (.slice xo n cx) (.slice yo n cy) (.int .u64 (q : Int)) (.slice none 0 0) (.int .i64 0)
  rw [hg0] at s1 x1 x2 x3 x4 x5
  rw [h1, hg0]
  have c1 := x1.cell
  have c2 := x2.cell
  have c3 := x3.cell
  have HX := Lib.hid (And.intro b1 (And.intro x1 (And.intro x2 (And.intro x3 (And.intro x4 x5)))))
  clear h1 b1 x1 x2 x3 x4 x5
  gi_upto_region 4 with (refine ⟨trivial, ?_⟩; gi_at_call 26; refine (callsIn_wide.2 (HCK.out _ HX.out.1)).mono ?_; rintro e w' ⟨rfl, hb⟩; have HB := Lib.hid hb; clear hb)
  clear c1 c2 c3
  have hsz := HB.out.size
  have X1 := Lib.hid (HX.out.2.1.below HB.out)
  have X2 := Lib.hid (HX.out.2.2.1.below HB.out)
  have X3 := Lib.hid (HX.out.2.2.2.1.below HB.out)
  have X4 := Lib.hid (HX.out.2.2.2.2.1.below HB.out)
  have X5 := Lib.hid (HX.out.2.2.2.2.2.below HB.out)
  have BW := Lib.hid (HX.out.1.trans (HB.out.mono HX.out.1.size))
  clear HCK
  gi_upto_region 8 with fail
  obtain ⟨h, hh⟩ : ∃ h, w'.heap.size = h := ⟨_, rfl⟩
  obtain ⟨W4, h4, b4, s4, y1, y2, y3⟩ := boxes3 w' 22 23 22 (.slice none 0 0) (.int .u64 1) (.slice (some ⟨w'.heap.size + 1, 0, none⟩) 1 1)
  rw [hh] at s4 y1 y2 y3
  rw [h4, hh]
  have c1 := (X1.out.below b4).cell
  have c3 := (X3.out.below b4).cell
  have HY4 := Lib.hid (And.intro y1 (And.intro y2 y3))
  have HB4 := Lib.hid b4
  clear h4 y1 y2 y3 b4
  gi_upto_region 9 with (refine ⟨trivial, ?_⟩; gi_at_call 27; refine (callsIn_wide.2 (factors_any _ _ _ _ _)).mono ?_; rintro e w' ⟨rfl, rfl⟩)
  clear c1 c3
  obtain ⟨W6, h6, b6, s6, y5, y6⟩ := boxes2 W4 22 23 (.slice xo n cx) (.int .u64 (q : Int))
  rw [s4] at s6 y5 y6
  rw [h6]
  have b16 : Below w'.heap.size w' W6 := HB4.out.trans (b6.mono HB4.out.size)
  have z1 : Box W6 g0 22 (.slice xo n cx) := X1.out.below b16
  have z2 : Box W6 (g0 + 1) 22 (.slice yo n cy) := X2.out.below b16
  have z3 : Box W6 (g0 + 1 + 1) 23 (.int .u64 (q : Int)) := X3.out.below b16
  have z4 : Box W6 (g0 + 1 + 1 + 1) 22 (.slice none 0 0) := X4.out.below b16
  have z5 : Box W6 (g0 + 1 + 1 + 1 + 1) 29 (.int .i64 0) := X5.out.below b16
  have z6 : Box W6 h 22 (.slice none 0 0) := HY4.out.1.below b6
  have z7 : Box W6 (h + 1) 23 (.int .u64 1) := HY4.out.2.1.below b6
  have z8 : Box W6 (h + 1 + 1) 22 (.slice (some ⟨h + 1, 0, none⟩) 1 1) := HY4.out.2.2.below b6
  have bw6 : Below w.heap.size w W6 := BW.out.trans (b16.mono BW.out.size)
  have hgh : g0 + 1 + 1 + 1 + 1 < h := by have := row_lt X5.out; omega
  have hS0 : ∀ j, (fun j => j < W6.heap.size ∧ j ≠ h ∧ j ≠ h + 1 + 1  ) j → j < W6.heap.size := fun j h => h.1
  have hrx : 0 < n → ∃ ad, xo = some ad ∧ (fun j => j < W6.heap.size ∧ j ≠ h ∧ j ≠ h + 1 + 1  ) ad.block ∧ Row W6 ad n z := fun h0 => by
    obtain ⟨ad, e, hrow⟩ := HR.out h0
    have h1 := Rd.lt (e ▸ HR.out) h0
    exact ⟨ad, e, ⟨by omega, by omega, by omega⟩, h1.2.below bw6⟩
  have hry : 0 < n → ∃ ad, yo = some ad ∧ (fun j => j < W6.heap.size ∧ j ≠ h ∧ j ≠ h + 1 + 1  ) ad.block ∧ Row W6 ad n y := fun h0 => by
    obtain ⟨ad, e, hrow⟩ := HS.out h0
    have h1 := Rd.lt (e ▸ HS.out) h0
    exact ⟨ad, e, ⟨by omega, by omega, by omega⟩, h1.2.below bw6⟩
  have HSEQ := factors_fin (3 - 1) (by omega) (fun j => j < W6.heap.size ∧ j ≠ h ∧ j ≠ h + 1 + 1  ) (h + 1 + 1 + 1) (h + 1 + 1 + 1 + 1) q xo n cx z hl2 W6 hS0 y5 y6 ⟨by omega, by omega, by omega⟩ ⟨by omega, by omega, by omega⟩ hrx
  have H6 := Lib.hid (And.intro z1 (And.intro z2 (And.intro z3 (And.intro z4 (And.intro z5 (And.intro bw6 (And.intro hrx hry)))))))
  have HI0 : ThInv g0 q z y h (fun j => j < W6.heap.size ∧ j ≠ h ∧ j ≠ h + 1 + 1  ) W6 [] W6 := ⟨_, _, z6, z8, .inl ⟨rfl, rfl⟩, .inr ⟨h + 1, _, rfl, by omega, z7, rfl, fun k hk => by obtain rfl : k = 0 := (by have hk1 : k < 1 := hk; omega); rfl⟩, KeepS.refl _ _, fun a x b e => (by cases a <;> cases e)⟩
  clear h6 y5 y6 z1 z2 z3 z4 z5 z6 z7 z8 bw6 b16 hrx hry b6 X1 X2 X3 X4 X5 HX HB HY4 HB4 BW
  have HG0 := Lib.hid hg0
  refine wpIn_rangeFunc_ownG rfl (by omega) (gf := 42) (lb := #[.pointer (some ⟨h + 1 + 1 + 1, 0, none⟩), .pointer (some ⟨h + 1 + 1 + 1 + 1, 0, none⟩)]) rfl trivial (enters_of Tryd.func42 (by kernel_rfl) rfl)
    HSEQ KeepS.trans (keepS_b hS0) (Below.refl _ _) (fun _ => rfl)
    (fun (l : List (Fin n)) W => ThInv g0 q z y h (fun j => j < W6.heap.size ∧ j ≠ h ∧ j ≠ h + 1 + 1  ) W6 (l.map (fun x : Fin n => x.1)) W)
    (fun c (l : List (Fin n)) W => c = .ret ∧ ThNone q z y w g0 (l.map (fun x : Fin n => x.1)) W)
    (fun pre A C row hs hg hr => hs.own hS0 hg hr)
    (fun c pre A C row hs hg hr => ⟨hs.1, hs.2.own (by omega) hg hr⟩)
    HI0
    (fun x => { tmps := #[.slice xo n cx, .slice yo n cy, .int .u64 (q : Int), .pointer (some ⟨g0, 0, none⟩), .pointer (some ⟨g0 + 1, 0, none⟩), .pointer (some ⟨g0 + 1 + 1, 0, none⟩), .pointer (some ⟨g0 + 1 + 1 + 1, 0, none⟩), .pointer (some ⟨g0 + 1 + 1 + 1 + 1, 0, none⟩), .int .i64 0, .pointer (some ⟨h, 0, none⟩), .pointer (some ⟨h + 1 + 1, 0, none⟩), .int .i64 ((x.1 : Nat) : Int), .int .u64 ((MM.subU 0 (z x.1) q : Nat) : Int), undef, undef, undef, .slice xo n cx, .int .i64 (n : Int), .slice yo n cy, .int .i64 (n : Int), .bool false, .slice xo n cx, .int .u64 (q : Int), .int .i64 0, .int .i64 0, .bool false, undef, .slice (some ⟨h + 1, 0, none⟩) 1 1, .slice xo n cx, .int .u64 (q : Int), .func (.func 42) #[] #[.pointer (some ⟨h + 1 + 1 + 1, 0, none⟩), .pointer (some ⟨h + 1 + 1 + 1 + 1, 0, none⟩)], .int .i64 ((x.1 : Nat) : Int), .int .u64 ((MM.subU 0 (z x.1) q : Nat) : Int), undef, undef, undef, undef, undef, undef, undef, undef, undef, undef, undef, undef, undef, undef, undef, undef, undef, undef, undef, undef, undef, undef, undef, undef, undef, undef, undef, undef, undef, undef, undef, undef, undef, undef, undef, undef, undef, undef, undef, undef, undef, undef, undef, undef], defers := [] }) ?assign ?body ?done ?stop
  case assign =>
    intro l x W K hK
    gi_wp2
    exact hK
  case body =>
    rintro l pre ⟨x, hxn⟩ W hi hlen
    obtain ⟨tv, pv, t1, t2, t3, t4, hk, hok⟩ := hi
    obtain ⟨L, hL⟩ : ∃ L, pre.map (fun x : Fin n => x.1) = L := ⟨_, rfl⟩
    have hLn : L.length = pre.length := by rw [← hL, List.length_map]
    have hLx : (pre ++ [(⟨x, hxn⟩ : Fin n)]).map (fun x : Fin n => x.1) = L ++ [x] := by rw [List.map_append, hL]; rfl
    rw [hL] at t3 t4 hok
    have hst := MM.stP_snoc q z y L x
    have hlt := MM.stP_lt q z y L
    have hle := MM.stP_len q z y L
    obtain ⟨s, hs⟩ : ∃ s, MM.stP q z y L = s := ⟨_, rfl⟩
    rw [hs] at t3 t4 hst hlt hle
    obtain ⟨k, thr, prod⟩ := s
    dsimp only at t3 t4 hlt hle
    have hk1 : k ≤ 1024 := by omega
    obtain ⟨tao, ct, rfl, rt⟩ := t3.rd
    obtain ⟨po, cp, rfl, rp⟩ := t4.rd
    have bx := H6.out.1.keepS hk ⟨by omega, by omega, by omega⟩
    have by_ := H6.out.2.1.keepS hk ⟨by omega, by omega, by omega⟩
    have bq := H6.out.2.2.1.keepS hk ⟨by omega, by omega, by omega⟩
    have b6' := H6.out.2.2.2.1.keepS hk ⟨by omega, by omega, by omega⟩
    have b7' := H6.out.2.2.2.2.1.keepS hk ⟨by omega, by omega, by omega⟩
    obtain ⟨adx, ex, hSx, rowx⟩ := H6.out.2.2.2.2.2.2.1 (by omega)
    obtain ⟨ady, ey, hSy, rowy⟩ := H6.out.2.2.2.2.2.2.2 (by omega)
    have rx := rowx.keepS hk hSx
    have ry := rowy.keepS hk hSy
    subst ex
    subst ey
    have hx0 : (0 : Int) ≤ (x : Int) := Int.natCast_nonneg _
    have hx1 : (x : Int) < (n : Int) := by omega
    dsimp only
    have HOK := Lib.hid (And.intro hLx (And.intro hs (And.intro hst (And.intro hok hle))))
    have HLT := Lib.hid hlt
    clear hLx hs hst hok hlt hle hL hLn hlen
    obtain ⟨ev, hev⟩ : ∃ ev, MM.hornL prod (z x) q (down (k + 1) 0) = ev := ⟨_, rfl⟩
    have HEV : Hid (∀ W', Below W.heap.size W W' → Calls Tryd.prog 18 #[.slice po (k + 1) cp, .int .u64 ((z x : Nat) : Int), .int .u64 (q : Int)] W' fun e w' => e = .returned (.int .u64 ((ev : Nat) : Int)) ∧ Below W'.heap.size W' w') := Lib.hid fun W' hb => hev ▸ eval_any po (k + 1) cp (z x) q prod (by omega) (HZ.out x) W' (rp.below hb)
    obtain ⟨iv, hiv⟩ : ∃ iv, MM.invU ev q = iv := ⟨_, rfl⟩
    obtain ⟨c, hc⟩ : ∃ c, MM.invC ev q = c := ⟨_, rfl⟩
    have HIV : Hid (∀ W', Calls Tryd.prog 28 #[.int .u64 ((ev : Nat) : Int), .int .u64 (q : Int)] W' fun e w' => e = .returned (.tuple #[.int .u64 ((iv : Nat) : Int), .int .i64 c]) ∧ ∃ m, w' = W'.drewN m) := Lib.hid fun W' => hiv ▸ hc ▸ ret_invU ev q W'
    have HEQ := Lib.hid (And.intro hev (And.intro hiv hc))
    clear hev hiv hc
    gi_upto_region 11 with fail
    refine RK.region_in l _ (Below W.heap.size W) 100 (by kernel_rfl) (by simp) (fun h => by obtain ⟨_, _, h⟩ := h; exact h) ?_
    have HS0 : Below W.heap.size W W.drew := below_drewN' W 1 _
    refine RK.Any.take 0 34 (.slice po (k + 1) cp) rfl rfl (by kernel_rfl) (by kernel_rfl) (by kernel_rfl) (by kernel_rfl) (fun _ _ _ h => h) (by rfl) (fun W' hb => ?_) HS0 ?_
    · have c := (t2.below hb).cell; go_simp
    simp only [List.setIfInBounds_toArray, List.set_cons_zero, List.set_cons_succ]
    refine RK.Any.take 1 35 (.slice (some adx) n cx) rfl rfl (by kernel_rfl) (by kernel_rfl) (by kernel_rfl) (by kernel_rfl) (fun _ _ _ h => h) (by rfl) (fun W' hb => ?_) HS0 ?_
    · have c := (bx.below hb).cell; go_simp
    simp only [List.setIfInBounds_toArray, List.set_cons_zero, List.set_cons_succ]
    refine RK.Any.take 2 36 (.int .i64 (x : Int)) rfl rfl (by kernel_rfl) (by kernel_rfl) (by kernel_rfl) (by kernel_rfl) (fun _ _ _ h => h) (by rfl) (fun W' hb => ?_) HS0 ?_
    · skip; go_simp
    simp only [List.setIfInBounds_toArray, List.set_cons_zero, List.set_cons_succ]
    refine RK.Any.take 3 37 (.pointer (some (adx.add x))) rfl rfl (by kernel_rfl) (by kernel_rfl) (by kernel_rfl) (by kernel_rfl) (fun _ _ _ h => h) (by rfl) (fun W' hb => ?_) HS0 ?_
    · skip; go_simp
    simp only [List.setIfInBounds_toArray, List.set_cons_zero, List.set_cons_succ]
    refine RK.Any.take 4 38 (.int .u64 ((z x : Nat) : Int)) rfl rfl (by kernel_rfl) (by kernel_rfl) (by kernel_rfl) (by kernel_rfl) (fun _ _ _ h => h) (by rfl) (fun W' hb => ?_) HS0 ?_
    · have c := (rx.below hb) x hxn; go_simp
    simp only [List.setIfInBounds_toArray, List.set_cons_zero, List.set_cons_succ]
    refine RK.Any.take 5 39 (.int .u64 (q : Int)) rfl rfl (by kernel_rfl) (by kernel_rfl) (by kernel_rfl) (by kernel_rfl) (fun _ _ _ h => h) (by rfl) (fun W' hb => ?_) HS0 ?_
    · have c := (bq.below hb).cell; go_simp
    simp only [List.setIfInBounds_toArray, List.set_cons_zero, List.set_cons_succ]
    refine RK.Any.take 7 41 (.int .u64 (q : Int)) rfl rfl (by kernel_rfl) (by kernel_rfl) (by kernel_rfl) (by kernel_rfl) (fun _ _ _ h => h) (by rfl) (fun W' hb => ?_) HS0 ?_
    · have c := (bq.below hb).cell; go_simp
    simp only [List.setIfInBounds_toArray, List.set_cons_zero, List.set_cons_succ]
    refine RK.Any.call 6 40 18 #[.slice po (k + 1) cp, .int .u64 ((z x : Nat) : Int), .int .u64 (q : Int)] (by kernel_rfl) rfl rfl (by rfl) (by go_simp) (Calls.mono (HEV.out _ HS0) ?_)
    rintro e w1 ⟨rfl, hb1⟩
    have HS1 : Below W.heap.size W w1 := HS0.trans (hb1.mono HS0.size)
    refine ⟨_, rfl, fun _ => HS1, ?_⟩
    simp only [List.setIfInBounds_toArray, List.set_cons_zero, List.set_cons_succ]
    refine RK.Any.call 8 42 28 #[.int .u64 ((ev : Nat) : Int), .int .u64 (q : Int)] (by kernel_rfl) rfl rfl (by rfl) (by go_simp) (Calls.mono (HIV.out w1) ?_)
    rintro e w2 ⟨rfl, nd, rfl⟩
    have HS2 : Below W.heap.size W (w1.drewN nd) := HS1.trans (below_drewN' _ _ _)
    refine ⟨_, rfl, fun _ => HS2, ?_⟩
    simp only [List.setIfInBounds_toArray, List.set_cons_zero, List.set_cons_succ]
    refine RK.Any.take 9 33 (.tuple #[.int .u64 ((iv : Nat) : Int), .int .i64 c]) rfl rfl (by kernel_rfl) (by kernel_rfl) (by kernel_rfl) (by kernel_rfl) (fun _ _ _ h => h) (by rfl) (fun W' hb => ?_) HS2 ?_
    · skip; go_simp
    simp only [List.setIfInBounds_toArray, List.set_cons_zero, List.set_cons_succ]
    refine RK.Any.take 10 43 (.int .u64 ((iv : Nat) : Int)) rfl rfl (by kernel_rfl) (by kernel_rfl) (by kernel_rfl) (by kernel_rfl) (fun _ _ _ h => h) (by rfl) (fun W' hb => ?_) HS2 ?_
    · skip; go_simp
    simp only [List.setIfInBounds_toArray, List.set_cons_zero, List.set_cons_succ]
    refine RK.Any.take 11 44 (.int .i64 c) rfl rfl (by kernel_rfl) (by kernel_rfl) (by kernel_rfl) (by kernel_rfl) (fun _ _ _ h => h) (by rfl) (fun W' hb => ?_) HS2 ?_
    · skip; go_simp
    simp only [List.setIfInBounds_toArray, List.set_cons_zero, List.set_cons_succ]
    refine RK.Any.take 12 13 (.int .u64 ((iv : Nat) : Int)) rfl rfl (by kernel_rfl) (by kernel_rfl) (by kernel_rfl) (by kernel_rfl) (fun _ _ _ h => h) (by rfl) (fun W' hb => ?_) HS2 ?_
    · skip; go_simp
    simp only [List.setIfInBounds_toArray, List.set_cons_zero, List.set_cons_succ]
    refine RK.Any.take 13 14 (.int .i64 c) rfl rfl (by kernel_rfl) (by kernel_rfl) (by kernel_rfl) (by kernel_rfl) (fun _ _ _ h => h) (by rfl) (fun W' hb => ?_) HS2 ?_
    · skip; go_simp
    simp only [List.setIfInBounds_toArray, List.set_cons_zero, List.set_cons_succ]
    refine RK.Any.done (by kernel_rfl) ?_
    obtain ⟨w2, hw2⟩ : ∃ w2, w1.drewN nd = w2 := ⟨_, rfl⟩
    rw [hw2] at HS2 ⊢
    clear HEV HIV HS0 HS1 hb1 hw2
    have bx2 := bx.below HS2
    have by2 := by_.below HS2
    have bq2 := bq.below HS2
    have rx2 := rx.below HS2
    have ry2 := ry.below HS2
    have t12 := t1.below HS2
    have t22 := t2.below HS2
    have t32 := t3.below HS2
    have t42 := t4.below HS2
    have rt2 := rt.below HS2
    have rp2 := rp.below HS2
    have H2 := Lib.hid (And.intro HS2 (And.intro hk (And.intro b6' b7')))
    clear bx by_ bq rx ry t1 t2 t3 t4 rt rp rowx rowy hSx hSy HS2 hk b6' b7'
    by_cases hc0 : c = 0
    · subst hc0
      obtain ⟨ev2, hev2⟩ : ∃ ev2, MM.hornL thr (z x) q (down k 0) = ev2 := ⟨_, rfl⟩
      have HEV2 : Hid (∀ W', Below w2.heap.size w2 W' → Calls Tryd.prog 18 #[.slice tao k ct, .int .u64 ((z x : Nat) : Int), .int .u64 (q : Int)] W' fun e w' => e = .returned (.int .u64 ((ev2 : Nat) : Int)) ∧ Below W'.heap.size W' w') := Lib.hid fun W' hb => hev2 ▸ eval_any tao k ct (z x) q thr (by omega) (HZ.out x) W' (rt2.below hb)
      obtain ⟨ms, hms⟩ : ∃ ms, MM.subU (y x) ev2 q = ms := ⟨_, rfl⟩
      have HSU : Hid (∀ W', Calls Tryd.prog 29 #[.int .u64 ((y x : Nat) : Int), .int .u64 ((ev2 : Nat) : Int), .int .u64 (q : Int)] W' fun e w' => e = .returned (.int .u64 ((ms : Nat) : Int)) ∧ ∃ m, w' = W'.drewN m) := Lib.hid fun W' => hms ▸ ret_subU (y x) ev2 q W'
      have HEQ2 := Lib.hid (And.intro hev2 hms)
      clear hev2 hms
      gi_upto_region 14 with fail
      refine RK.region_in l _ (Below w2.heap.size w2) 100 (by kernel_rfl) (by simp) (fun h => by obtain ⟨_, _, h⟩ := h; exact h) ?_
      have HS0 : Below w2.heap.size w2 w2.drew := below_drewN' w2 1 _
      refine RK.Any.take 0 48 (.slice (some ady) n cy) rfl rfl (by kernel_rfl) (by kernel_rfl) (by kernel_rfl) (by kernel_rfl) (fun _ _ _ h => h) (by rfl) (fun W' hb => ?_) HS0 ?_
      · have c := (by2.below hb).cell; go_simp
      simp only [List.setIfInBounds_toArray, List.set_cons_zero, List.set_cons_succ]
      refine RK.Any.take 1 49 (.int .i64 (x : Int)) rfl rfl (by kernel_rfl) (by kernel_rfl) (by kernel_rfl) (by kernel_rfl) (fun _ _ _ h => h) (by rfl) (fun W' hb => ?_) HS0 ?_
      · skip; go_simp
      simp only [List.setIfInBounds_toArray, List.set_cons_zero, List.set_cons_succ]
      refine RK.Any.take 2 50 (.pointer (some (ady.add x))) rfl rfl (by kernel_rfl) (by kernel_rfl) (by kernel_rfl) (by kernel_rfl) (fun _ _ _ h => h) (by rfl) (fun W' hb => ?_) HS0 ?_
      · skip; go_simp
      simp only [List.setIfInBounds_toArray, List.set_cons_zero, List.set_cons_succ]
      refine RK.Any.take 3 51 (.int .u64 ((y x : Nat) : Int)) rfl rfl (by kernel_rfl) (by kernel_rfl) (by kernel_rfl) (by kernel_rfl) (fun _ _ _ h => h) (by rfl) (fun W' hb => ?_) HS0 ?_
      · have c := (ry2.below hb) x hxn; go_simp
      simp only [List.setIfInBounds_toArray, List.set_cons_zero, List.set_cons_succ]
      refine RK.Any.take 4 52 (.slice tao k ct) rfl rfl (by kernel_rfl) (by kernel_rfl) (by kernel_rfl) (by kernel_rfl) (fun _ _ _ h => h) (by rfl) (fun W' hb => ?_) HS0 ?_
      · have c := (t12.below hb).cell; go_simp
      simp only [List.setIfInBounds_toArray, List.set_cons_zero, List.set_cons_succ]
      refine RK.Any.take 5 53 (.slice (some adx) n cx) rfl rfl (by kernel_rfl) (by kernel_rfl) (by kernel_rfl) (by kernel_rfl) (fun _ _ _ h => h) (by rfl) (fun W' hb => ?_) HS0 ?_
      · have c := (bx2.below hb).cell; go_simp
      simp only [List.setIfInBounds_toArray, List.set_cons_zero, List.set_cons_succ]
      refine RK.Any.take 6 54 (.int .i64 (x : Int)) rfl rfl (by kernel_rfl) (by kernel_rfl) (by kernel_rfl) (by kernel_rfl) (fun _ _ _ h => h) (by rfl) (fun W' hb => ?_) HS0 ?_
      · skip; go_simp
      simp only [List.setIfInBounds_toArray, List.set_cons_zero, List.set_cons_succ]
      refine RK.Any.take 7 55 (.pointer (some (adx.add x))) rfl rfl (by kernel_rfl) (by kernel_rfl) (by kernel_rfl) (by kernel_rfl) (fun _ _ _ h => h) (by rfl) (fun W' hb => ?_) HS0 ?_
      · skip; go_simp
      simp only [List.setIfInBounds_toArray, List.set_cons_zero, List.set_cons_succ]
      refine RK.Any.take 8 56 (.int .u64 ((z x : Nat) : Int)) rfl rfl (by kernel_rfl) (by kernel_rfl) (by kernel_rfl) (by kernel_rfl) (fun _ _ _ h => h) (by rfl) (fun W' hb => ?_) HS0 ?_
      · have c := (rx2.below hb) x hxn; go_simp
      simp only [List.setIfInBounds_toArray, List.set_cons_zero, List.set_cons_succ]
      refine RK.Any.take 9 57 (.int .u64 (q : Int)) rfl rfl (by kernel_rfl) (by kernel_rfl) (by kernel_rfl) (by kernel_rfl) (fun _ _ _ h => h) (by rfl) (fun W' hb => ?_) HS0 ?_
      · have c := (bq2.below hb).cell; go_simp
      simp only [List.setIfInBounds_toArray, List.set_cons_zero, List.set_cons_succ]
      refine RK.Any.take 11 59 (.int .u64 (q : Int)) rfl rfl (by kernel_rfl) (by kernel_rfl) (by kernel_rfl) (by kernel_rfl) (fun _ _ _ h => h) (by rfl) (fun W' hb => ?_) HS0 ?_
      · have c := (bq2.below hb).cell; go_simp
      simp only [List.setIfInBounds_toArray, List.set_cons_zero, List.set_cons_succ]
      refine RK.Any.call 10 58 18 #[.slice tao k ct, .int .u64 ((z x : Nat) : Int), .int .u64 (q : Int)] (by kernel_rfl) rfl rfl (by rfl) (by go_simp) (Calls.mono (HEV2.out _ HS0) ?_)
      rintro e w3 ⟨rfl, hb3⟩
      have HS1 : Below w2.heap.size w2 w3 := HS0.trans (hb3.mono HS0.size)
      refine ⟨_, rfl, fun _ => HS1, ?_⟩
      simp only [List.setIfInBounds_toArray, List.set_cons_zero, List.set_cons_succ]
      refine RK.Any.call 12 60 29 #[.int .u64 ((y x : Nat) : Int), .int .u64 ((ev2 : Nat) : Int), .int .u64 (q : Int)] (by kernel_rfl) rfl rfl (by rfl) (by go_simp) (Calls.mono (HSU.out w3) ?_)
      rintro e w4 ⟨rfl, nd, rfl⟩
      have HS2 : Below w2.heap.size w2 (w3.drewN nd) := HS1.trans (below_drewN' _ _ _)
      refine ⟨_, rfl, fun _ => HS2, ?_⟩
      simp only [List.setIfInBounds_toArray, List.set_cons_zero, List.set_cons_succ]
      refine RK.Any.take 13 15 (.int .u64 ((ms : Nat) : Int)) rfl rfl (by kernel_rfl) (by kernel_rfl) (by kernel_rfl) (by kernel_rfl) (fun _ _ _ h => h) (by rfl) (fun W' hb => ?_) HS2 ?_
      · skip; go_simp
      simp only [List.setIfInBounds_toArray, List.set_cons_zero, List.set_cons_succ]
      refine RK.Any.done (by kernel_rfl) ?_

      obtain ⟨w4, hw4⟩ : ∃ w4, w3.drewN nd = w4 := ⟨_, rfl⟩
      rw [hw4] at HS2 ⊢
      clear HEV2 HSU HS0 HS1 hb3 hw4
      have bq4 := bq2.below HS2
      have t14 := t12.below HS2
      have t24 := t22.below HS2
      have t44 := t42.below HS2
      have rt4 := rt2.below HS2
      have rp4 := rp2.below HS2
      have H4 := Lib.hid HS2
      clear bx2 by2 bq2 rx2 ry2 t12 t22 t32 t42 rt2 rp2 HS2
      obtain ⟨fc, hfc⟩ : ∃ fc, MM.mulU ms iv q = fc := ⟨_, rfl⟩
      have HMU : Hid (∀ W', Calls Tryd.prog 23 #[.int .u64 ((ms : Nat) : Int), .int .u64 ((iv : Nat) : Int), .int .u64 (q : Int)] W' fun e w' => e = .returned (.int .u64 ((fc : Nat) : Int)) ∧ ∃ m, w' = W'.drewN m) := Lib.hid fun W' => hfc ▸ ret_mulU ms iv q (by rw [← HEQ2.out.2]; exact MM.subU_lt _ _ _) (by rw [← HEQ.out.2.1]; exact MM.invU_lt _ _) W'
      have hfl : fc < 18446744073709551616 := by rw [← hfc]; exact MM.mulU_lt _ _ _
      have HSC : Hid (∀ W', Below w4.heap.size w4 W' → Calls Tryd.prog 31 #[.slice po (k + 1) cp, .int .u64 ((fc : Nat) : Int), .int .u64 (q : Int)] W' fun e w' => e = .returned (.slice (some ⟨W'.heap.size, 0, none⟩) (k + 1) (k + 1)) ∧ Mine W' W'.heap.size (k + 1) (MM.scaleU fc q prod) w') :=
        Lib.hid fun W' hb => scale_good po (k + 1) cp fc q prod (by omega) (fun j => (HLT.out j).2) hfl HQ.out W' (rp4.below hb)
      have HSM : Hid (∀ W' ao c, Below w4.heap.size w4 W' → Rd W' ao (k + 1) (MM.scaleU fc q prod) → Calls Tryd.prog 30 #[.slice tao k ct, .slice ao (k + 1) c, .int .u64 (q : Int)] W' fun e w' => e = .returned (.slice (some ⟨W'.heap.size, 0, none⟩) (k + 1) (k + 1)) ∧ Mine W' W'.heap.size (k + 1) (MM.sumU k (k + 1) q thr (MM.scaleU fc q prod)) w') :=
        Lib.hid fun W' ao c hb hrd => by
          have hsm := sum_good tao ao k ct (k + 1) c q thr (MM.scaleU fc q prod) (by omega) (by omega) HQ.out W' (rt4.below hb) hrd
          rwa [show max k (k + 1) = k + 1 by omega] at hsm
      have HEQ3 := Lib.hid hfc
      clear hfc hfl
      gi_upto_region 15 with fail
      refine RK.region_in l _ (Below w4.heap.size w4) 10 (by kernel_rfl) (by simp) (fun h => by obtain ⟨_, _, h⟩ := h; exact h) ?_
      have HS0 : Below w4.heap.size w4 w4.drew := below_drewN' w4 1 _
      refine RK.Any.take 0 61 (.slice tao k ct) rfl rfl (by kernel_rfl) (by kernel_rfl) (by kernel_rfl) (by kernel_rfl) (fun _ _ _ h => h) (by rfl) (fun W' hb => ?_) HS0 ?_
      · have c := (t14.below hb).cell; go_simp
      simp only [List.setIfInBounds_toArray, List.set_cons_zero, List.set_cons_succ]
      refine RK.Any.take 1 62 (.slice po (k + 1) cp) rfl rfl (by kernel_rfl) (by kernel_rfl) (by kernel_rfl) (by kernel_rfl) (fun _ _ _ h => h) (by rfl) (fun W' hb => ?_) HS0 ?_
      · have c := (t24.below hb).cell; go_simp
      simp only [List.setIfInBounds_toArray, List.set_cons_zero, List.set_cons_succ]
      refine RK.Any.take 2 63 (.int .u64 ((ms : Nat) : Int)) rfl rfl (by kernel_rfl) (by kernel_rfl) (by kernel_rfl) (by kernel_rfl) (fun _ _ _ h => h) (by rfl) (fun W' hb => ?_) HS0 ?_
      · skip; go_simp
      simp only [List.setIfInBounds_toArray, List.set_cons_zero, List.set_cons_succ]
      refine RK.Any.take 3 64 (.int .u64 ((iv : Nat) : Int)) rfl rfl (by kernel_rfl) (by kernel_rfl) (by kernel_rfl) (by kernel_rfl) (fun _ _ _ h => h) (by rfl) (fun W' hb => ?_) HS0 ?_
      · skip; go_simp
      simp only [List.setIfInBounds_toArray, List.set_cons_zero, List.set_cons_succ]
      refine RK.Any.take 4 65 (.int .u64 (q : Int)) rfl rfl (by kernel_rfl) (by kernel_rfl) (by kernel_rfl) (by kernel_rfl) (fun _ _ _ h => h) (by rfl) (fun W' hb => ?_) HS0 ?_
      · have c := (bq4.below hb).cell; go_simp
      simp only [List.setIfInBounds_toArray, List.set_cons_zero, List.set_cons_succ]
      refine RK.Any.take 6 67 (.int .u64 (q : Int)) rfl rfl (by kernel_rfl) (by kernel_rfl) (by kernel_rfl) (by kernel_rfl) (fun _ _ _ h => h) (by rfl) (fun W' hb => ?_) HS0 ?_
      · have c := (bq4.below hb).cell; go_simp
      simp only [List.setIfInBounds_toArray, List.set_cons_zero, List.set_cons_succ]
      refine RK.Any.take 8 69 (.int .u64 (q : Int)) rfl rfl (by kernel_rfl) (by kernel_rfl) (by kernel_rfl) (by kernel_rfl) (fun _ _ _ h => h) (by rfl) (fun W' hb => ?_) HS0 ?_
      · have c := (bq4.below hb).cell; go_simp
      simp only [List.setIfInBounds_toArray, List.set_cons_zero, List.set_cons_succ]
      refine RK.Any.call 5 66 23 #[.int .u64 ((ms : Nat) : Int), .int .u64 ((iv : Nat) : Int), .int .u64 (q : Int)] (by kernel_rfl) rfl rfl (by rfl) (by go_simp) (Calls.mono (HMU.out _) ?_)
      rintro e w5 ⟨rfl, nd5, rfl⟩
      have HS1 : Below w4.heap.size w4 (w4.drew.drewN nd5) := HS0.trans (below_drewN' _ _ _)
      obtain ⟨w5, hw5⟩ : ∃ w5, w4.drew.drewN nd5 = w5 := ⟨_, rfl⟩
      rw [hw5] at HS1 ⊢
      refine ⟨_, rfl, fun _ => HS1, ?_⟩
      simp only [List.setIfInBounds_toArray, List.set_cons_zero, List.set_cons_succ]
      refine RK.Any.call 7 68 31 #[.slice po (k + 1) cp, .int .u64 ((fc : Nat) : Int), .int .u64 (q : Int)] (by kernel_rfl) rfl rfl (by rfl) (by go_simp) (Calls.mono (HSC.out w5 HS1) ?_)
      rintro e w6 ⟨rfl, hm6⟩
      have HS2 : Below w4.heap.size w4 w6 := HS1.trans (hm6.below.mono HS1.size)
      refine ⟨_, rfl, fun _ => HS2, ?_⟩
      simp only [List.setIfInBounds_toArray, List.set_cons_zero, List.set_cons_succ]
      refine RK.Any.call 9 70 30 #[.slice tao k ct, .slice (some ⟨w5.heap.size, 0, none⟩) (k + 1) (k + 1), .int .u64 (q : Int)] (by kernel_rfl) rfl rfl (by rfl) (by go_simp) (Calls.mono (HSM.out w6 _ (k + 1) HS2 hm6.rd) ?_)
      rintro e w7 ⟨rfl, hm7⟩
      have HS3 : Below w4.heap.size w4 w7 := HS2.trans (hm7.below.mono HS2.size)
      refine ⟨_, rfl, fun _ => HS3, ?_⟩
      simp only [List.setIfInBounds_toArray, List.set_cons_zero, List.set_cons_succ]
      have c7 := (t14.below HS3).cell
      have f7 := (t14.below HS3).free
      refine RK.Any.store 10 (w1 := w7.setCell ⟨h, 0, none⟩ (.slice (some ⟨w6.heap.size, 0, none⟩) (k + 1) (k + 1))) (by kernel_rfl) rfl rfl (by rfl) (by go_simp) (fun e => absurd rfl e) ?_
      refine RK.Any.done (by kernel_rfl) ?_

      have s8 : Box w7 h 22 (.slice tao k ct) := t14.below HS3
      obtain ⟨W8, hW8⟩ : ∃ W8, w7.setCell ⟨h, 0, none⟩ (.slice (some ⟨w6.heap.size, 0, none⟩) (k + 1) (k + 1)) = W8 := ⟨_, rfl⟩
      have u1 : Box W8 h 22 (.slice (some ⟨w6.heap.size, 0, none⟩) (k + 1) (k + 1)) := by rw [← hW8]; exact s8.set _
      have u2 : Box W8 (h + 1 + 1) 22 (.slice po (k + 1) cp) := by rw [← hW8]; exact (t24.below HS3).other _ _ (by show h + 1 + 1 ≠ h; omega)
      have uq : Box W8 (g0 + 1 + 1) 23 (.int .u64 (q : Int)) := by rw [← hW8]; exact (bq4.below HS3).other _ _ (by show g0 + 1 + 1 ≠ h; omega)
      have hg6 : g0 ≤ w6.heap.size := by have := HS2.size; have := row_lt t14; omega
      have u3 : RowB g0 W8 (.slice (some ⟨w6.heap.size, 0, none⟩) (k + 1) (k + 1)) (k + 1) (MM.sumU k (k + 1) q thr (MM.scaleU fc q prod)) := by rw [← hW8]; exact (hm7.rowB hg6).setBox s8 (by decide) _
      have u4 : RowB g0 W8 (.slice po (k + 1) cp) (k + 1) prod := by rw [← hW8]; exact (t44.below HS3).setBox s8 (by decide) _
      have k8 : KeepS (fun j => j < W6.heap.size ∧ j ≠ h ∧ j ≠ h + 1 + 1  ) W W8 := by
        rw [← hW8]
        have k2 : KeepS (fun j => j < W6.heap.size ∧ j ≠ h ∧ j ≠ h + 1 + 1  ) W w2 := KeepS.below H2.out.1 (fun j hj => Nat.lt_of_lt_of_le hj.1 H2.out.2.1.size)
        have k4 : KeepS (fun j => j < W6.heap.size ∧ j ≠ h ∧ j ≠ h + 1 + 1  ) w2 w4 := KeepS.below H4.out (fun j hj => Nat.lt_of_lt_of_le hj.1 (Nat.le_trans H2.out.2.1.size k2.size))
        have k7 : KeepS (fun j => j < W6.heap.size ∧ j ≠ h ∧ j ≠ h + 1 + 1  ) w4 w7 := KeepS.below HS3 (fun j hj => Nat.lt_of_lt_of_le hj.1 (Nat.le_trans H2.out.2.1.size (Nat.le_trans k2.size k4.size)))
        exact ((k2.trans k4).trans k7).setCell _ _ (fun e => e.2.1 rfl)
      have o8 : KeepsOthers W W8 := by
        rw [← hW8]
        exact (((keepsO_below H2.out.1).trans (keepsO_below H4.out)).trans (keepsO_below HS3)).trans (KeepsOthers.setCell _ _ _)
      rw [hW8]
      have r4 : Rd W8 po (k + 1) prod := by
        obtain ⟨ao', c', e', hrd⟩ := u4.rd
        injection e' with e1 _ _
        subst e1; exact hrd
      have cU := u2.cell
      have bA : Below W8.heap.size W8 (W8.alloc (.cells #[.int .u64 ((MM.subU 0 (z x) q : Nat) : Int), .int .u64 1] 23)) := below_box _ _
      have cA := (uq.below bA).cell
      have htm := times_good po (some ⟨W8.heap.size, 0, none⟩) (k + 1) cp 2 2 q prod (MM.two (MM.subU 0 (z x) q) 1) (by omega) (by omega) (by omega) (by omega) (fun j => (HLT.out j).2) (fun j => two_lt2 (MM.subU_lt _ _ _)) HQ.out _ (r4.below bA) (two_rd W8 (MM.subU 0 (z x) q))
      rw [show k + 1 + 2 - 1 = k + 1 + 1 by omega] at htm
      obtain ⟨WA, hWA⟩ : ∃ WA, W8.alloc (.cells #[.int .u64 ((MM.subU 0 (z x) q : Nat) : Int), .int .u64 1] 23) = WA := ⟨_, rfl⟩
      have htm2 : ∀ w9, Mine (W8.alloc (.cells #[.int .u64 ((MM.subU 0 (z x) q : Nat) : Int), .int .u64 1] 23)) (W8.alloc (.cells #[.int .u64 ((MM.subU 0 (z x) q : Nat) : Int), .int .u64 1] 23)).heap.size (k + 1 + 1) (MM.timesU (k + 1) 2 q prod (MM.two (MM.subU 0 (z x) q) 1)) w9 → Box w9 (h + 1 + 1) 22 (.slice po (k + 1) cp) ∧ Below W8.heap.size W8 w9 := fun w9 hm => ⟨(u2.below bA).below hm.below, bA.trans (hm.below.mono bA.size)⟩
      have HTM := Lib.hid htm
      have HTM2 := Lib.hid htm2
      have H8 := Lib.hid (And.intro u1 (And.intro u3 (And.intro k8 o8)))
      clear htm htm2 u1 u2 uq u3 u4 k8 o8 r4 bA hWA WA hW8 s8 HS0 HS1 HS2 HS3 hm6 hm7 c7 f7 t14 t24 t44 rt4 rp4 bq4 HMU HSC HSM hg6
      gi_wp2_with (refine ⟨trivial, ?_⟩; gi_at_call 32; refine (callsIn_wide.2 HTM.out).mono ?_; rintro e w9 ⟨rfl, hm9⟩; have HM9 := Lib.hid hm9; obtain ⟨b9, l9⟩ := HTM2.out w9 hm9; have c9 := b9.cell; have f9 := b9.free; have HB9 := Lib.hid (And.intro b9 l9); clear b9 l9 hm9)
      have hfp : MM.facP q z y (k, thr, prod) x = fc := by
        show MM.mulU (MM.subU (y x) (MM.hornL thr (z x) q (down k 0)) q) (MM.invU (MM.hornL prod (z x) q (down (k + 1) 0)) q) q = fc
        rw [HEQ2.out.1, HEQ2.out.2, HEQ.out.1, HEQ.out.2.1, HEQ3.out]
      have hmr := (HM9.out.rowB (lo := g0) (by have h1 := row_lt H8.out.1; rw [World.size_alloc]; omega)).setBox HB9.out.1 (by decide) (.slice (some ⟨W8.heap.size + 1, 0, none⟩) (k + 1 + 1) (k + 1 + 1))
      rw [World.size_alloc] at hmr
      have hsr := (H8.out.2.1.below HB9.out.2).setBox HB9.out.1 (by decide) (.slice (some ⟨W8.heap.size + 1, 0, none⟩) (k + 1 + 1) (k + 1 + 1))
      rw [← hfp] at hsr
      have kF : KeepS (fun j => j < W6.heap.size ∧ j ≠ h ∧ j ≠ h + 1 + 1  ) W (w9.setCell ⟨h + 1 + 1, 0, none⟩ (.slice (some ⟨W8.heap.size + 1, 0, none⟩) (k + 1 + 1) (k + 1 + 1))) :=
        (H8.out.2.2.1.trans (KeepS.below HB9.out.2 (fun j hj => Nat.lt_of_lt_of_le hj.1 (Nat.le_trans H2.out.2.1.size H8.out.2.2.1.size)))).setCell _ _ (fun e => e.2.2 rfl)
      refine ⟨((H8.out.2.2.2.trans (keepsO_below HB9.out.2)).trans (KeepsOthers.setCell _ _ _)).from _, kF, ?_⟩
      show ThInv _ _ _ _ _ _ _ _ _
      rw [HOK.out.1]
      unfold ThInv
      rw [HOK.out.2.2.1]
      refine ⟨_, _, (H8.out.1.below HB9.out.2).other _ _ (by show h ≠ h + 1 + 1; omega), HB9.out.1.set _, hsr, hmr, H2.out.2.1.trans kF, fun a x' b e => ?_⟩
      rcases snoc_split e with ⟨rfl, rfl⟩ | ⟨b', e'⟩
      · rw [HOK.out.2.1]
        show MM.invC (MM.hornL prod (z x) q (down (k + 1) 0)) q = 0
        rw [HEQ.out.1, HEQ.out.2.2]
      · exact HOK.out.2.2.2.1 a x' b' e'
    · have hc5 : c = 5 := by
        have h1 := HEQ.out.2.2
        unfold MM.invC at h1
        rw [if_pos HQ.out] at h1
        by_cases hg : Nat.gcd ev q = 1
        · rw [if_pos hg] at h1; exact absurd h1.symm hc0
        · rw [if_neg hg] at h1; exact h1.symm
      subst hc5
      have p6 := (H2.out.2.2.1.below H2.out.1)
      have p7 := (H2.out.2.2.2.below H2.out.1)
      have d6 := p6.cell
      have e6 := p6.free
      have d7 := p7.cell
      have e7 := p7.free
      have HP := Lib.hid (And.intro p6 p7)
      have hne : MM.invC (MM.invP q z (MM.stP q z y L) x) q ≠ 0 := by
        rw [HOK.out.2.1]
        show MM.invC (MM.hornL prod (z x) q (down (k + 1) 0)) q ≠ 0
        rw [HEQ.out.1, HEQ.out.2.2]; omega
      have HNE := Lib.hid hne
      have d7' : (w2.setCell ⟨g0 + 1 + 1 + 1, 0, none⟩ (.slice none 0 0)).cell? ⟨g0 + 1 + 1 + 1 + 1, 0, none⟩ = some (.int .i64 0) := (p7.other _ _ (by show g0 + 1 + 1 + 1 + 1 ≠ g0 + 1 + 1 + 1; omega)).cell
      clear p6 p7 hc0 hne
      gi_wp2
      have hbw : Below g0 w w2 := (HG0.out ▸ H2.out.2.1.up H6.out.2.2.2.2.2.1 (fun j hj => ⟨by omega, by omega, by omega⟩)).trans (H2.out.1.mono (by have := row_lt (HP.out.1); have := H2.out.2.1.size; omega))
      exact ⟨(((keepsO_below H2.out.1).trans (KeepsOthers.setCell _ _ _)).trans (KeepsOthers.setCell _ _ _)).from _, rfl, by
        rw [HOK.out.1]
        exact ⟨(HP.out.1.set _).other _ _ (by show g0 + 1 + 1 + 1 ≠ g0 + 1 + 1 + 1 + 1; omega), (HP.out.2.other _ _ (by show g0 + 1 + 1 + 1 + 1 ≠ g0 + 1 + 1 + 1; omega)).set _, (hbw.setCell (p := ⟨g0 + 1 + 1 + 1, 0, none⟩) (by show g0 ≤ g0 + 1 + 1 + 1; omega) _).setCell (p := ⟨g0 + 1 + 1 + 1 + 1, 0, none⟩) (by show g0 ≤ g0 + 1 + 1 + 1 + 1; omega) _, L, x, rfl, HNE.out⟩⟩
  case done =>
    rintro D ys W7 hD hys hi hK
    obtain ⟨tv, pv, t1, t2, t3, t4, hk, hok⟩ := hi
    rw [hys] at t3 hok
    obtain ⟨ao, ct, rfl, rt⟩ := t3.rd
    have r1 := H6.out.2.2.2.1.keepS hk ⟨by omega, by omega, by omega⟩
    have r2 := H6.out.2.2.2.2.1.keepS hk ⟨by omega, by omega, by omega⟩
    have c9 := t1.cell
    have c6 := r1.cell
    have f6 := r1.free
    have c7 := r2.cell
    have f7 := r2.free
    have c7' : (W7.setCell ⟨g0 + 1 + 1 + 1, 0, none⟩ (.slice ao (MM.stP q z y (List.range n)).1 ct)).cell? ⟨g0 + 1 + 1 + 1 + 1, 0, none⟩ = some (.int .i64 0) := (r2.other _ _ (by show g0 + 1 + 1 + 1 + 1 ≠ g0 + 1 + 1 + 1; omega)).cell
    have H7 := Lib.hid (And.intro t3 (And.intro r1 (And.intro r2 (And.intro (hk.up H6.out.2.2.2.2.2.1 (fun j hj => ⟨by omega, by omega, by omega⟩)) (And.intro hok hK)))))
    clear t1 t2 t3 t4 r1 r2 rt hok hk hK
    gi_wp2
    obtain ⟨t3, r1, r2, bw7, hok, hK⟩ := H7.out
    have hK' := (KeepsOthers.setCell (W7.setCell ⟨g0 + 1 + 1 + 1, 0, none⟩ (.slice ao (MM.stP q z y (List.range n)).1 ct)) ⟨g0 + 1 + 1 + 1 + 1, 0, none⟩ (.int .i64 0)).same D _ ((KeepsOthers.setCell W7 ⟨g0 + 1 + 1 + 1, 0, none⟩ (.slice ao (MM.stP q z y (List.range n)).1 ct)).same D _ hK rfl) rfl
    have m3 := (t3.setBox r1 (by decide) (.slice ao (MM.stP q z y (List.range n)).1 ct)).setBox (r2.other _ _ (by show g0 + 1 + 1 + 1 + 1 ≠ g0 + 1 + 1 + 1; omega)) (by decide) (.int .i64 0)
    have m1 := (r1.set (.slice ao (MM.stP q z y (List.range n)).1 ct)).other ⟨g0 + 1 + 1 + 1 + 1, 0, none⟩ (.int .i64 0) (by show g0 + 1 + 1 + 1 ≠ g0 + 1 + 1 + 1 + 1; omega)
    have m2 := (r2.other ⟨g0 + 1 + 1 + 1, 0, none⟩ (.slice ao (MM.stP q z y (List.range n)).1 ct) (by show g0 + 1 + 1 + 1 + 1 ≠ g0 + 1 + 1 + 1; omega)).set (.int .i64 0)
    have mb := (bw7.setCell (p := ⟨g0 + 1 + 1 + 1, 0, none⟩) (by show w.heap.size ≤ g0 + 1 + 1 + 1; rw [HG0.out]; omega) (.slice ao (MM.stP q z y (List.range n)).1 ct)).setCell (p := ⟨g0 + 1 + 1 + 1 + 1, 0, none⟩) (by show w.heap.size ≤ g0 + 1 + 1 + 1 + 1; rw [HG0.out]; omega) (.int .i64 0)
    obtain ⟨WF, hWF⟩ : ∃ WF, (W7.setCell ⟨g0 + 1 + 1 + 1, 0, none⟩ (.slice ao (MM.stP q z y (List.range n)).1 ct)).setCell ⟨g0 + 1 + 1 + 1 + 1, 0, none⟩ (.int .i64 0) = WF := ⟨_, rfl⟩
    rw [hWF] at hK' m3 m1 m2 mb ⊢
    refine ⟨by simp, .inl ⟨_, _, rfl, run_takeDeferred hK', ?_⟩⟩
    have hr : ∀ r, some D = some r → ∃ o : Obj, WF.heap[r]? = some o ∧ o.isCells = false := fun r e => by cases e; exact ⟨_, hK', rfl⟩
    have q1 := (m1.own (grownBy_putObj' WF D (.deferred none)) hr).cell
    have q2 := (m2.own (grownBy_putObj' WF D (.deferred none)) hr).cell
    have q3 := m3.own (grownBy_putObj' WF D (.deferred none)) hr
    have hgw := HG0.out
    refine ⟨.tuple #[.slice ao (MM.stP q z y (List.range n)).1 ct, .int .i64 0], ?_, .inl ⟨_, rfl, ?_, mb.trans (belowK_b (w := w) (Nat.le_refl _) WF D _ _ (by omega) hK' rfl rfl), ?_⟩⟩
    · rw [results_cells rfl]
      simp [go_sem, q1, q2]
    · rw [hgw, show n = (MM.stP q z y (List.range n)).1 by rw [MM.stP_len, List.length_range]]
      rw [show List.range (MM.stP q z y (List.range n)).1 = List.range n by rw [MM.stP_len, List.length_range]]
      exact q3
    · intro k hkn
      obtain ⟨b, e⟩ := range_split hkn
      exact hok _ _ _ e
  case stop =>
    rintro D c pre W hD ⟨k, hkn, hpre⟩ ⟨rfl, h1, h2, h3, a, x, hl, hne⟩ hK
    gi_wp2
    refine ⟨by simp, .inl ⟨_, _, rfl, run_takeDeferred hK, ?_⟩⟩
    have hr : ∀ r, some D = some r → ∃ o : Obj, W.heap[r]? = some o ∧ o.isCells = false := fun r e => by cases e; exact ⟨_, hK, rfl⟩
    have q1 := (h1.own (grownBy_putObj' W D (.deferred none)) hr).cell
    have q2 := (h2.own (grownBy_putObj' W D (.deferred none)) hr).cell
    rw [hpre, List.range_succ] at hl
    have e := List.append_inj' hl rfl
    obtain rfl : k = x := by simpa using e.2
    have hgw := HG0.out
    refine ⟨.tuple #[.slice none 0 0, .int .i64 5], ?_, .inr ⟨rfl, (hgw ▸ h3).trans (belowK_b (w := w) (Nat.le_refl _) W D _ _ (by omega) hK rfl rfl), k, hkn, by rw [e.1]; exact hne⟩⟩
    rw [results_cells rfl]
    simp [go_sem, q1, q2]
end M
end Go.Proofs.YtaogdhpiiclejaaDoor

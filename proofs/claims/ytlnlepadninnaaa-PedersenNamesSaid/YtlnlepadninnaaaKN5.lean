/- The texts PolyW4, PolyW6, PolyW7, PolyW8, PolyW3, PolyTwo, RegK, one behind the other. -/
import Derived.Test.YtlnlepadninnaaaKN4
import Derived.RangeFuncBox
import Derived.RangeFuncNested
import Derived.RangeFuncBound
import Derived.RangeFuncCalls
import Derived.RangeFuncLeaves
import Derived.Shelf.Abstract
import Derived.WalkKit
import Derived.OwnWalkIn
import Derived.TacticsInMore
import Derived.LoopNIn
import Derived.LoopIn
import Derived.Sort.CutIn
import Derived.Test.YtlnlepadninnaaaKN3
import Derived.OrdersHeld
import Derived.Deep.RegionWith
/- The library's Backward over a row of numbers, and the walk of the program's value of a polynomial. -/
namespace Go.Proofs.Ytlnlepadninnaaa
open Go Go.RowKit Go.Lib Go.Shelf
namespace M
attribute [local go_sem] Oper.semAt_some
/-- What a round keeps: the blocks of S, whatever else it does. -/
structure KeepS (S : Nat → Prop) (W W' : World) : Prop where
  os : W'.os = W.os
  tape : W'.tape = W.tape
  output : W'.output = W.output
  size : W.heap.size ≤ W'.heap.size
  same : ∀ k, S k → W'.heap[k]? = W.heap[k]?
theorem KeepS.refl (S : Nat → Prop) (W : World) : KeepS S W W := ⟨rfl, rfl, rfl, Nat.le_refl _, fun _ _ => rfl⟩
theorem KeepS.trans {S : Nat → Prop} {A B C : World} (h : KeepS S A B) (k : KeepS S B C) : KeepS S A C := ⟨k.os.trans h.os, k.tape.trans h.tape, k.output.trans h.output, Nat.le_trans h.size k.size, fun i hi => (k.same i hi).trans (h.same i hi)⟩
theorem keepS_b {S : Nat → Prop} {w : World} (hS : ∀ k, S k → k < w.heap.size) (W : World) (l : Nat) (o o' : Obj) (hl : w.heap.size ≤ l) (_h : W.heap[l]? = some o) (_ : o.isCells = false) (_ : o.isWalk = false) : KeepS S W (W.putObj l o') :=
  ⟨rfl, rfl, rfl, by simp, fun k hk => World.putObj_heap_other (fun e => by have := hS k hk; omega)⟩
theorem KeepS.setCell {S : Nat → Prop} {W W' : World} (h : KeepS S W W') (a : Addr) (v : Value) (ha : ¬ S a.block) : KeepS S W (W'.setCell a v) :=
  ⟨h.os, h.tape, h.output, by simpa using h.size, fun k hk => (Below.heap_setCell W' a v k (fun e => ha (e ▸ hk))).trans (h.same k hk)⟩
theorem KeepS.drewN {S : Nat → Prop} {W W' : World} (h : KeepS S W W') (n : Nat) : KeepS S W (W'.drewN n) := ⟨h.os, h.tape, h.output, h.size, h.same⟩
theorem KeepS.below {S : Nat → Prop} {W W' : World} (hb : Below W.heap.size W W') (hS : ∀ k, S k → k < W.heap.size) : KeepS S W W' := ⟨hb.os, hb.tape, hb.output, hb.size, fun k hk => hb.block k (hS k hk)⟩
theorem KeepS.up {S : Nat → Prop} {B : Nat} {W0 W W' : World} (h : KeepS S W W') (hb : Below B W0 W) (hS : ∀ k, k < B → S k) : Below B W0 W' := hb.trans ⟨h.os, h.tape, h.output, h.size, fun k hk => h.same k (hS k hk)⟩
theorem KeepS.grown {S : Nat → Prop} {B : Nat} {W W' W'' : World} {row : Option Nat} (h : KeepS S W W') (hS : ∀ k, S k → k < B) (hBs : B ≤ W'.heap.size) (hg : W'.grownBy W'' row) (hr : ∀ r, row = some r → B ≤ r) : KeepS S W W'' :=
  ⟨hg.os.trans h.os, hg.tape.trans h.tape, hg.output.trans h.output, Nat.le_trans h.size hg.size, fun k hk => (hg.block k (by have := hS k hk; omega) (fun e => by have := hS k hk; have := hr k e.symm; omega)).trans (h.same k hk)⟩
theorem Box.keepS {S : Nat → Prop} {W W' : World} {B : Nat} {t : TypeId} {v : Value} (h : Box W B t v) (hk : KeepS S W W') (hS : S B) : Box W' B t v := (hk.same B hS).trans h
theorem Box.own {W W' : World} {B : Nat} {t : TypeId} {v : Value} {row : Option Nat} (h : Box W B t v) (hg : W.grownBy W' row) (hr : ∀ r, row = some r → ∃ o : Obj, W.heap[r]? = some o ∧ o.isCells = false) : Box W' B t v := by
  refine (hg.block B (row_lt h) (fun e => ?_)).trans h
  obtain ⟨o, ho, hc⟩ := hr B e.symm
  rw [show W.heap[B]? = _ from h] at ho
  cases ho; cases hc
theorem Box.set {W : World} {B : Nat} {t : TypeId} {v : Value} (h : Box W B t v) (u : Value) : Box (W.setCell ⟨B, 0, none⟩ u) B t u := by
  have := heap_setCell_same W B 0 #[v] t u h
  simpa [Box] using this
theorem Box.other {W : World} {B : Nat} {t : TypeId} {v : Value} (h : Box W B t v) (a : Addr) (u : Value) (hne : B ≠ a.block) : Box (W.setCell a u) B t v := (Below.heap_setCell W a u B hne).trans h
theorem Box.drewN {W : World} {B : Nat} {t : TypeId} {v : Value} (h : Box W B t v) (n : Nat) : Box (W.drewN n) B t v := h
theorem Row.keepS {S : Nat → Prop} {W W' : World} {ad : Addr} {n : Nat} {z : Nat → Nat} (h : Row W ad n z) (hk : KeepS S W W') (hS : S ad.block) : Row W' ad n z := fun t ht => by
  have hb : (ad.add t).block = ad.block := by unfold Addr.add; split <;> rfl
  have := World.cell?_of_block (w := W) (w' := W') (a := ad.add t) (by rw [hb]; exact hk.same _ hS)
  rw [this]; exact h t ht
theorem keepsO_drewN (W : World) (n : Nat) : KeepsOthers W (W.drewN n) := ⟨Nat.le_refl _, fun _ _ h _ => h⟩
theorem keepsO_below {W W' : World} (h : Below W.heap.size W W') : KeepsOthers W W' := ⟨h.size, fun k _ hk _ => (h.block k (row_lt hk)).trans hk⟩
def down (n m : Nat) : List Nat := (List.range (n - m)).map (fun t => n - 1 - t)
theorem down_self (n : Nat) : down n n = [] := by simp [down]
theorem down_succ {n m : Nat} (h : m < n) : down n m = down n (m + 1) ++ [m] := by
  unfold down
  rw [show n - m = (n - (m + 1)) + 1 by omega, List.range_succ, List.map_append]
  simp; omega
theorem down_length (n m : Nat) : (down n m).length = n - m := by simp [down]

end M
namespace MM
/-- The value as the program reckons it: from the last coefficient on. -/
def hornL (c : Nat → Nat) (x q : Nat) (l : List Nat) : Nat := l.foldl (fun v i => addU (mulU v x q) (c i) q) 0
theorem hornL_snoc (c : Nat → Nat) (x q : Nat) (l : List Nat) (i : Nat) : hornL c x q (l ++ [i]) = addU (mulU (hornL c x q l) x q) (c i) q := by simp [hornL]
theorem hornL_lt (c : Nat → Nat) (x q : Nat) (l : List Nat) : hornL c x q l < 18446744073709551616 := by
  rcases List.eq_nil_or_concat l with rfl | ⟨l', i, rfl⟩
  · show (0 : Nat) < _; omega
  · rw [List.concat_eq_append, hornL_snoc]; exact addU_lt _ _ _
end MM
namespace M
attribute [local go_sem] Oper.semAt_some
end M
end Go.Proofs.Ytlnlepadninnaaa
/- The factors of points, one after another: what the program's iterator hands to a loop. -/
namespace Go.Proofs.Ytlnlepadninnaaa
open Go Go.RowKit Go.Lib Go.Shelf
namespace M
attribute [local go_sem] Oper.semAt_some
theorem grownBy_drewN (W : World) (n : Nat) : W.grownBy (W.drewN n) none := ⟨rfl, rfl, rfl, Nat.le_refl _, fun _ _ _ => rfl⟩
theorem range_succ_eq (k : Nat) : List.range (k + 1) = List.range k ++ [k] := List.range_succ

end M
end Go.Proofs.Ytlnlepadninnaaa
/- The marks that ranges over a function leave with a call: what they are, and that a call leaves through them. -/
namespace Go.Proofs.Ytlnlepadninnaaa
open Go Go.RowKit Go.Lib Go.Shelf
namespace M
def mark (D : Nat) : Deferred := { target := .collected D, args := #[] }
structure Marks (Ds : List Nat) (w : World) : Prop where
  nodup : Ds.Nodup
  at_ : ∀ D, D ∈ Ds → w.heap[D]? = some (.deferred (some []))
theorem Marks.nil (w : World) : Marks [] w := ⟨List.nodup_nil, fun _ h => by cases h⟩
theorem Marks.lt {Ds : List Nat} {w : World} (h : Marks Ds w) {D : Nat} (hD : D ∈ Ds) : D < w.heap.size := row_lt (h.at_ D hD)
theorem Marks.below {Ds : List Nat} {w w' : World} (h : Marks Ds w) (hb : Below w.heap.size w w') : Marks Ds w' := ⟨h.nodup, fun D hD => (hb.block D (h.lt hD)).trans (h.at_ D hD)⟩
theorem Marks.drewN {Ds : List Nat} {w : World} (h : Marks Ds w) (n : Nat) : Marks Ds (w.drewN n) := ⟨h.nodup, h.at_⟩
theorem Marks.keepS {S : Nat → Prop} {Ds : List Nat} {w w' : World} (h : Marks Ds w) (hk : KeepS S w w') (hS : ∀ D, D ∈ Ds → S D) : Marks Ds w' := ⟨h.nodup, fun D hD => (hk.same D (hS D hD)).trans (h.at_ D hD)⟩
theorem Marks.cons {Ds : List Nat} {w : World} (h : Marks Ds w) {D : Nat} (hD : w.heap[D]? = some (.deferred (some []))) (hne : D ∉ Ds) : Marks (D :: Ds) w :=
  ⟨List.nodup_cons.2 ⟨hne, h.nodup⟩, fun E hE => by
    rcases List.mem_cons.1 hE with rfl | h'
    · exact hD
    · exact h.at_ E h'⟩
theorem Marks.setCell {Ds : List Nat} {w : World} (h : Marks Ds w) {a : Addr} {v u : Value} (hc : w.cell? a = some u) : Marks Ds (w.setCell a v) :=
  ⟨h.nodup, fun D hD => (Below.heap_setCell w a v D (fun e => by
    have h1 := h.at_ D hD
    rw [e] at h1
    simp [World.cell?, h1] at hc)).trans (h.at_ D hD)⟩
/-- All cells are as they were. -/
def CellsAs (w w' : World) : Prop := ∀ (k : Nat) (cs : Array Value) (t : TypeId) (fr : Nat × Nat), w.heap[k]? = some (.cells cs t fr) → w'.heap[k]? = some (.cells cs t fr)
theorem leaves_marks {F : Fence} {n : Nat} {P : Program} {fn : Func} {tmps : Array Value} {R : Ending → World → Prop} {B : Nat} : ∀ (Ds : List Nat) (w : World), Marks Ds w → (∀ D, D ∈ Ds → B ≤ D) →
    (∀ w', Below B w w' → CellsAs w w' → LeavesInM F n P fn tmps R [] .returning w') → LeavesInM F n P fn tmps R (Ds.map mark) .returning w
  | [], w, _, _, h => h w (Below.refl _ _) (fun _ _ _ _ h => h)
  | D :: Ds, w, hm, hB, h => by
    refine ⟨by simp, .inl ⟨D, _, rfl, run_takeDeferred (hm.at_ D (by simp)), ?_⟩⟩
    have hne : D ∉ Ds := (List.nodup_cons.1 hm.nodup).1
    have hD := hm.lt (D := D) (by simp)
    have hb : Below B w (w.putObj D (.deferred none)) := (Below.refl B w).grown (grownBy_putObj' w D _) (by have := hB D (by simp); omega) (fun k e => by cases e; exact hB D (by simp))
    refine leaves_marks Ds _ ⟨(List.nodup_cons.1 hm.nodup).2, fun E hE => (World.putObj_heap_other (by intro e; subst e; exact hne hE)).trans (hm.at_ E (by simp [hE]))⟩ (fun E hE => hB E (by simp [hE])) ?_
    intro w' hb' hc'
    refine h w' (hb.trans hb') (fun k cs t fr hk => hc' k cs t fr ?_)
    refine (World.putObj_heap_other (fun e => ?_)).trans hk
    subst e
    rw [hm.at_ k (by simp)] at hk
    cases hk
end M
end Go.Proofs.Ytlnlepadninnaaa
/- The walk of the program's weights of points. -/
namespace Go.Proofs.Ytlnlepadninnaaa
open Go Go.RowKit Go.Lib Go.Shelf
namespace MM
/-- The product of the factors at x, but for the one of the point i. -/
def prodL (x q : Nat) (z : Nat → Nat) (i : Nat) (l : List Nat) : Nat := l.foldl (fun v j => if j = i then v else mulU v (addU x (subU 0 (z j) q) q) q) 1
theorem prodL_same (x q : Nat) (z : Nat → Nat) (i : Nat) (l : List Nat) : prodL x q z i (l ++ [i]) = prodL x q z i l := by simp [prodL]
theorem prodL_other {x q : Nat} {z : Nat → Nat} {i j : Nat} (h : j ≠ i) (l : List Nat) : prodL x q z i (l ++ [j]) = mulU (prodL x q z i l) (addU x (subU 0 (z j) q) q) q := by simp [prodL, h]
theorem prodL_lt (x q : Nat) (z : Nat → Nat) (i : Nat) (l : List Nat) : prodL x q z i l < 18446744073709551616 := by
  suffices H : ∀ (l : List Nat) (v : Nat), v < 18446744073709551616 → l.foldl (fun v j => if j = i then v else mulU v (addU x (subU 0 (z j) q) q) q) v < 18446744073709551616 from H l 1 (by omega)
  intro l
  induction l with
  | nil => intro v h; exact h
  | cons j l ih =>
    intro v h
    refine ih _ ?_
    show (if j = i then v else _) < _
    by_cases e : j = i
    · rw [if_pos e]; exact h
    · rw [if_neg e]; exact mulU_lt _ _ _
def undU (q : Nat) (z : Nat → Nat) (n i : Nat) : Nat := prodL (z i) q z i (List.range n)
noncomputable def wgtU (p q : Nat) (z : Nat → Nat) (n i : Nat) : Nat := mulU (prodL p q z i (List.range n)) (invU (undU q z n i) q) q
end MM
namespace M
attribute [local go_sem] Oper.semAt_some
/-- What the program's weights are, or that some difference has no inverse. -/
def Weighed (w : World) (n p q : Nat) (z : Nat → Nat) (e : Ending) (w' : World) : Prop :=
  (∃ B : Nat, e = .returned (.tuple #[.slice (some ⟨B, 0, none⟩) n n, .int .i64 0]) ∧ Mine w B n (MM.wgtU p q z n) w' ∧ ∀ j, j < n → MM.invC (MM.undU q z n j) q = 0) ∨
  (e = .returned (.tuple #[.slice none 0 0, .int .i64 5]) ∧ Below w.heap.size w w' ∧ ∃ j, j < n ∧ MM.invC (MM.undU q z n j) q ≠ 0)
theorem Mine.leave {w w1 w2 : World} {B n : Nat} {z : Nat → Nat} (h : Mine w B n z w1) (hb : Below w.heap.size w1 w2) (hc : CellsAs w1 w2) : Mine w B n z w2 :=
  ⟨by obtain ⟨cs, h1, h2⟩ := h.block; exact ⟨cs, hc _ _ _ _ h1, h2⟩, h.low, h.below.trans hb⟩
/-- The state between two rounds of the outer loop. -/
structure WInv (w : World) (g0 B n p q k : Nat) (z : Nat → Nat) (Ds : List Nat) (wx : World) : Prop where
  mine : Mine w B n (fun j => if j < k then MM.wgtU p q z n j else 0) wx
  b1 : Box wx g0 23 (.int .u64 (p : Int))
  b2 : Box wx (g0 + 1) 23 (.int .u64 (q : Int))
  marks : Marks Ds wx
  low : ∀ D, D ∈ Ds → w.heap.size ≤ D
  good : ∀ j, j < k → MM.invC (MM.undU q z n j) q = 0
theorem Rd.lt {w : World} {ad : Addr} {n : Nat} {z : Nat → Nat} (h : Rd w (some ad) n z) (hn : 0 < n) : ad.block < w.heap.size ∧ Row w ad n z := by
  obtain ⟨ad', e, hr⟩ := h hn
  cases e
  have h1 := World.block_lt_of_cell? w _ (hr 0 hn)
  have hb : (ad.add 0).block = ad.block := by unfold Addr.add; split <;> rfl
  exact ⟨by rw [← hb]; exact h1, hr⟩
theorem boxes2 (w : World) (t1 t2 : TypeId) (v1 v2 : Value) : ∃ W, (w.alloc (.cells #[v1] t1)).alloc (.cells #[v2] t2) = W ∧ Below w.heap.size w W ∧ W.heap.size = w.heap.size + 1 + 1 ∧ Box W w.heap.size t1 v1 ∧ Box W (w.heap.size + 1) t2 v2 := by
  obtain ⟨W1, h1⟩ : ∃ W1, w.alloc (.cells #[v1] t1) = W1 := ⟨_, rfl⟩
  obtain ⟨W2, h2⟩ : ∃ W2, W1.alloc (.cells #[v2] t2) = W2 := ⟨_, rfl⟩
  have b1 : Below w.heap.size w W1 := h1 ▸ below_box _ _
  have b2 : Below W1.heap.size W1 W2 := h2 ▸ below_box _ _
  have s1 : W1.heap.size = w.heap.size + 1 := by rw [← h1, World.size_alloc]
  have s2 : W2.heap.size = w.heap.size + 1 + 1 := by rw [← h2, World.size_alloc, s1]
  exact ⟨W2, by rw [h1, h2], b1.trans (b2.mono b1.size), s2, Box.below (W := W1) (by rw [← h1]; exact Box.new _ _ _) b2, by rw [← h2, ← s1]; exact Box.new _ _ _⟩
theorem boxes4 (w : World) (t1 t2 t3 t4 : TypeId) (v1 v2 v3 v4 : Value) : ∃ W, (((w.alloc (.cells #[v1] t1)).alloc (.cells #[v2] t2)).alloc (.cells #[v3] t3)).alloc (.cells #[v4] t4) = W ∧ Below w.heap.size w W ∧ W.heap.size = w.heap.size + 1 + 1 + 1 + 1 ∧
    Box W w.heap.size t1 v1 ∧ Box W (w.heap.size + 1) t2 v2 ∧ Box W (w.heap.size + 1 + 1) t3 v3 ∧ Box W (w.heap.size + 1 + 1 + 1) t4 v4 := by
  obtain ⟨W2, h2, b2, s2, x1, x2⟩ := boxes2 w t1 t2 v1 v2
  obtain ⟨W4, h4, b4, s4, x3, x4⟩ := boxes2 W2 t3 t4 v3 v4
  rw [s2] at s4 x3 x4
  exact ⟨W4, by rw [h2, h4], b2.trans (b4.mono b2.size), s4, x1.below b4, x2.below b4, x3, x4⟩

end M
end Go.Proofs.Ytlnlepadninnaaa
/- The walk of the program's product of polynomials. -/
namespace Go.Proofs.Ytlnlepadninnaaa
open Go Go.RowKit Go.Lib
namespace MM
/-- The coefficient at n of a product, when i factors of the one have met all of the other, and the next has met j of them. -/
def cellT (la lb q : Nat) (a b : Nat → Nat) (i j n : Nat) : Nat := if i ≤ n ∧ n < i + j then convU la lb q a b n (i + 1) else convU la lb q a b n (min i (n + 1))
theorem cellT_zero (la lb q : Nat) (a b : Nat → Nat) (n : Nat) : cellT la lb q a b 0 0 n = 0 := by
  unfold cellT; rw [if_neg (by omega), Nat.zero_min]; rfl
theorem cellT_at {la lb q : Nat} {a b : Nat → Nat} (i j : Nat) : cellT la lb q a b i j (i + j) = convU la lb q a b (i + j) i := by
  unfold cellT; rw [if_neg (by omega), Nat.min_eq_left (by omega)]
theorem cellT_new {la lb q : Nat} {a b : Nat → Nat} {i j : Nat} (hi : i < la) (hj : j < lb) : cellT la lb q a b i (j + 1) (i + j) = addU (convU la lb q a b (i + j) i) (mulU (a i) (b j) q) q := by
  unfold cellT; rw [if_pos (by omega), convU, if_pos ⟨hi, by omega⟩, show i + j - i = j by omega]
theorem cellT_else {la lb q : Nat} {a b : Nat → Nat} {i j n : Nat} (h : n ≠ i + j) : cellT la lb q a b i (j + 1) n = cellT la lb q a b i j n := by
  unfold cellT
  by_cases h1 : i ≤ n ∧ n < i + j
  · rw [if_pos h1, if_pos (by omega)]
  · rw [if_neg h1, if_neg (by omega)]
theorem cellT_next {la lb q : Nat} {a b : Nat → Nat} {i : Nat} (n : Nat) : cellT la lb q a b i lb n = cellT la lb q a b (i + 1) 0 n := by
  unfold cellT
  rw [if_neg (show ¬ (i + 1 ≤ n ∧ n < i + 1 + 0) by omega)]
  by_cases h1 : i ≤ n ∧ n < i + lb
  · rw [if_pos h1, Nat.min_eq_left (by omega)]
  · rw [if_neg h1]
    by_cases h2 : n < i
    · rw [Nat.min_eq_right (by omega), Nat.min_eq_right (by omega)]
    · rw [Nat.min_eq_left (by omega), Nat.min_eq_left (by omega), convU, if_neg (by omega)]
theorem convU_far {la lb q : Nat} {a b : Nat → Nat} {n : Nat} : ∀ i, la ≤ i → convU la lb q a b n i = convU la lb q a b n la
  | 0, h => by rw [show la = 0 by omega]
  | i + 1, h => by
    by_cases e : la = i + 1
    · rw [e]
    · rw [convU, if_neg (by omega), convU_far i (by omega)]
theorem cellT_end {la lb q : Nat} {a b : Nat → Nat} (n : Nat) : cellT la lb q a b la 0 n = timesU la lb q a b n := by
  unfold cellT timesU
  rw [if_neg (by omega)]
  by_cases h : n + 1 ≤ la
  · rw [Nat.min_eq_right h]
  · rw [Nat.min_eq_left (by omega), convU_far (n + 1) (by omega)]
end MM
namespace M
end M
end Go.Proofs.Ytlnlepadninnaaa
/- A row of two numbers. -/
namespace Go.Proofs.Ytlnlepadninnaaa
open Go Go.RowKit Go.Lib
namespace M
theorem two_rd (W : World) (x : Nat) : Rd (W.alloc (.cells #[.int .u64 (x : Int), .int .u64 1] 23)) (some ⟨W.heap.size, 0, none⟩) 2 (MM.two x 1) := fun _ => ⟨_, rfl, Row.of_block (heap_alloc_new _ _) fun k hk => by
  match k, hk with
  | 0, _ => rfl
  | 1, _ => rfl
  | k + 2, h => exact absurd h (by omega)⟩
theorem two_lt2 {x k : Nat} (hx : x < 18446744073709551616) : MM.two x 1 k < 18446744073709551616 := by
  match k with
  | 0 => exact hx
  | _ + 1 => show (1 : Nat) < _; omega
end M
end Go.Proofs.Ytlnlepadninnaaa
/- A region that draws its order, with loads beside calls that make memory, and a last store that may hit what it loads: the loads come first, whatever the order; outside, and in a round of a range over a function. -/
namespace Go.Proofs.Ytlnlepadninnaaa
open Go
namespace RK
/-- A hypothesis that no tactic looks into till it is opened. -/
def Bar (p : Prop) : Prop := p
theorem Bar.out {p : Prop} (h : Bar p) : p := h
section
variable {P : Program} {md : Region.Mode} {ops : Array Oper} {Q : Exit → Act → World → Prop} {S : World → Prop} {st : Nat}
/-- Whatever order comes; behind each operation but number st S is shown. -/
def Any (P : Program) (md : Region.Mode) (ops : Array Oper) (Q : Exit → Act → World → Prop) (S : World → Prop) (st : Nat) : Nat → Array Bool → Act → World → Prop
  | 0, s, a, w => Region.ready md ops s = [] ∧ Q .normal a w
  | f + 1, s, a, w => (Region.ready md ops s = [] → Q .normal a w) ∧ ∀ i ∈ Region.ready md ops s, wpOp P ops Q i (fun a' w' => (i ≠ st → S w') ∧ Any P md ops Q S st f (s.setIfInBounds i true) a' w') a w
theorem Any.plain : ∀ (f : Nat) (s : Array Bool) (a : Act) (w : World), Any P md ops Q S st f s a w → wpAny P md ops Q f s a w
  | 0, _, _, _, h => h
  | f + 1, _, _, _, h => ⟨h.1, fun i hi => wpOp_mono (fun a' w' k => Any.plain f _ a' w' k.2) (h.2 i hi)⟩
theorem Any.first {i : Nat} {oi : Oper} {v : Value} (hi : ops[i]? = some oi) (hsel : ∀ (j : Nat) (o : Oper) cs b, ops[j]? = some o → o.op ≠ .select cs b)
    (hQ : ∀ c a w, Q (.panic c) (a.put oi.dst v) w → Q (.panic c) a w) (hst : ∀ oj, ops[st]? = some oj → ∃ e ∈ oj.after, Region.binds md e = true ∧ e.on = i) (f : Nat) :
    ∀ (s : Array Bool) (a : Act) (w : World), (∀ j oj, ops[j]? = some oj → j ≠ i → s.getD j true = false → (∀ e ∈ oj.after, Region.binds md e = true → e.on ≠ i) → oi.apart ops oj = true) →
      i ∈ Region.ready md ops s → YieldsIf P ops S oi v a → S w → Any P md ops Q S st f (s.setIfInBounds i true) (a.put oi.dst v) w → Any P md ops Q S st (f + 1) s a w := by
  induction f with
  | zero =>
    intro s a w _ hr hy hS H
    refine ⟨fun e => (by rw [e] at hr; cases hr), fun j hj => ?_⟩
    rcases Nat.decEq j i with hji | rfl
    · have h1 := ready_mono hj hji
      rw [H.1] at h1; cases h1
    · exact hy.wpOp hi hS ⟨fun _ => hS, H⟩
  | succ f ih =>
    intro s a w hfree hr hy hS H
    refine ⟨fun e => (by rw [e] at hr; cases hr), fun j hj => ?_⟩
    rcases Nat.decEq j i with hji | rfl
    · obtain ⟨hju, oj, hoj, hall⟩ := mem_ready.1 hj
      have hno : ∀ e ∈ oj.after, Region.binds md e = true → e.on ≠ i := fun e he hb e1 => by
        have h1 := hall e he hb
        rw [e1, getD_both (mem_ready.1 hr).1] at h1
        cases h1
      have hjst : j ≠ st := fun e => by
        subst e
        obtain ⟨e, he, hb, h1⟩ := hst oj hoj
        exact hno e he hb h1
      refine wpOp_mono (fun a' w' k => ⟨k.2.1, ih _ a' w' (fun k' ok hk hki hku => hfree k' ok hk hki ?_) (ready_mono hr (Ne.symm hji)) k.1 (k.2.1 hjst) ?_⟩)
        (wpOp_putIf hoj (hfree j oj hoj hji hju hno) (fun cs b => hsel i oi cs b hi) (fun cs b => hsel j oj cs b hoj) hQ hy (H.2 j (ready_mono hj hji)))
      · rcases Nat.decEq j k' with hjk | rfl
        · rwa [getD_set_ne true hjk] at hku
        · exact hju
      · rw [Array.setIfInBounds_comm _ _ hji]; exact k.2.2
    · exact hy.wpOp hi hS ⟨fun _ => hS, H⟩
/-- Number i comes first. -/
theorem Any.take {s : Array Bool} {a : Act} {w : World} {f : Nat} (i t : Nat) {oi : Oper} (v : Value) (hi : ops[i]? = some oi) (hd : oi.dst = some t) (hs : Region.noSelect ops = true) (hf : Region.free md ops s i = true) (hr : (Region.ready md ops s).contains i = true)
    (hst : (decide (ops.size ≤ st) || Region.waitsFor md ops st i) = true) (hQ : ∀ c a w, Q (.panic c) (a.put oi.dst v) w → Q (.panic c) a w)
    (hw : Region.wanted oi (yielded ops a.tmps) = true) (hy : ∀ w, S w → (execOp a.eval oi).run P w = .ok (.value v) w) (hS : S w) (h : Any P md ops Q S st f (s.setIfInBounds i true) { a with tmps := a.tmps.setIfInBounds t v } w) : Any P md ops Q S st (f + 1) s a w :=
  Any.first hi (Region.noSelect_spec hs) hQ (fun oj hoj => by
    rw [Bool.or_eq_true] at hst
    rcases hst with h1 | h1
    · have := (Array.getElem?_eq_some_iff.1 hoj).1
      have := of_decide_eq_true h1
      omega
    · obtain ⟨o', ho', e, he, hb, h2⟩ := Region.waitsFor_spec h1
      rw [hoj] at ho'; cases ho'
      exact ⟨e, he, hb, h2⟩) f s a w (Region.free_spec hi hf) (by simpa using hr) (.inl ⟨hw, hy⟩) hS (by rw [hd]; exact h)
/-- Number i alone may come, and calls. -/
theorem Any.call {s : Array Bool} {a : Act} {w : World} {f : Nat} (i t : Nat) {o : Oper} (g : FuncId) (args : Array Value) (hr : Region.ready md ops s = [i]) (hi : ops[i]? = some o) (hd : o.dst = some t) (hw : Region.wanted o (yielded ops a.tmps) = true)
    (he : (execOp a.eval o).run P w = .ok (.enter g args) w)
    (h : Calls P g args w fun e w' => ∃ v, e = .returned v ∧ (i ≠ st → S w') ∧ Any P md ops Q S st f (s.setIfInBounds i true) { a with tmps := a.tmps.setIfInBounds t v } w') : Any P md ops Q S st (f + 1) s a w :=
  ⟨fun e => (by rw [hr] at e; cases e), fun j hj => by
    rw [hr] at hj
    obtain rfl : j = i := by simpa using hj
    unfold wpOp
    simp only [hi, hw, if_true]
    refine .inl ?_
    unfold Oper.wp
    rw [he, Oper.upon_enter]
    refine h.mono ?_
    rintro e w' ⟨v, rfl, h1, h2⟩
    exact ⟨h1, by rw [hd]; exact h2⟩⟩
/-- Number i alone may come, and stores. -/
theorem Any.store {s : Array Bool} {a : Act} {w w1 : World} {f : Nat} (i : Nat) {o : Oper} (hr : Region.ready md ops s = [i]) (hi : ops[i]? = some o) (hd : o.dst = none) (hw : Region.wanted o (yielded ops a.tmps) = true)
    (he : (execOp a.eval o).run P w = .ok .skip w1) (hS : i ≠ st → S w1) (h : Any P md ops Q S st f (s.setIfInBounds i true) a w1) : Any P md ops Q S st (f + 1) s a w :=
  ⟨fun e => (by rw [hr] at e; cases e), fun j hj => by
    rw [hr] at hj
    obtain rfl : j = i := by simpa using hj
    unfold wpOp
    simp only [hi, hw, if_true]
    refine .inl ?_
    unfold Oper.wp
    rw [he, Oper.upon_skip, hd]
    exact ⟨hS, h⟩⟩
/-- Number i alone may come. What follows stands behind a variable. -/
theorem Any.step {s : Array Bool} {a : Act} {w : World} {f : Nat} (i : Nat) {o : Oper} (hr : Region.ready md ops s = [i]) (hi : ops[i]? = some o) (hw : Region.wanted o (yielded ops a.tmps) = true)
    (h : ∀ K : Act → World → Prop, Bar (∀ a w, (i ≠ st → S w) → Any P md ops Q S st f (s.setIfInBounds i true) a w → K a w) → o.wp P a w K Q) : Any P md ops Q S st (f + 1) s a w :=
  ⟨fun e => (by rw [hr] at e; cases e), fun j hj => by
    rw [hr] at hj
    obtain rfl : j = i := by simpa using hj
    unfold wpOp
    simp only [hi, hw, if_true]
    exact .inl (h _ (fun _ _ h1 h2 => ⟨h1, h2⟩))⟩
theorem Any.done {s : Array Bool} {a : Act} {w : World} {f : Nat} (hr : Region.ready md ops s = []) (h : Q .normal a w) : Any P md ops Q S st f s a w := by
  cases f with
  | zero => exact ⟨hr, h⟩
  | succ f => exact ⟨fun _ => h, by rw [hr]; simp⟩
end
theorem region {P : Program} {id : Nat} {Q : Exit → Act → World → Prop} {a : Act} {w : World} {ops : Array Oper} (S : World → Prop) (st : Nat) (hm : P.follows .mixedOrders = true)
    (h : Any P .any ops Q S st ops.size (Array.replicate ops.size false) a w.drew) : (Code.region id ops true).wp P Q a w := wp_region_any hm (Any.plain _ _ _ _ h)
theorem region_in {P : Program} {id : Nat} {Q : Exit → Act → World → Prop} {a : Act} {w : World} {ops : List Oper} (l m : Nat) (S : World → Prop) (st : Nat) (hm : P.follows .mixedOrders = true) (hd : ∀ o ∈ ops, ∀ c, o.op ≠ .defer c) (hno : ¬ LetsOut Q)
    (h : Any P .any ops.toArray Q S st ops.toArray.size (Array.replicate ops.toArray.size false) a w.drew) : (Code.region id ops.toArray true).wpIn (Fence.wide.inRound l) m P Q a w :=
  wpIn_region_any hm (QT.any_in l m (by simpa using hd) hno _ _ _ _ (Any.plain _ _ _ _ h))
end RK
end Go.Proofs.Ytlnlepadninnaaa

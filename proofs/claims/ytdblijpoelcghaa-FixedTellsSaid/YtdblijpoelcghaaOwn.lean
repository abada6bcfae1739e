/- A row of numbers that a call itself makes, one append behind the other: what it holds, what is kept over steps, appends and the end. -/
import Derived.Test.YtdblijpoelcghaaNum
import Derived.OwnWalk
import Derived.Maps.AppendAt
namespace Go.Proofs.Ytdblijpoelcghaa
open Go Go.RowKit Go.Lib
namespace M
theorem info_u64 : (Try.prog.info? 23).map (fun i => (i.zero, i.size, i.bytes)) = some (some (.int .u64 0), 1, 8) := by kernel_rfl
/-- A row's first numbers, as values. -/
def zlist (n : Nat) (z : Nat → Nat) : List Value := (List.range n).map fun k => .int .u64 ((z k : Nat) : Int)
theorem zlist_len (n : Nat) (z : Nat → Nat) : (zlist n z).length = n * 1 := by simp [zlist]
theorem zlist_get {n : Nat} {z : Nat → Nat} {k : Nat} (h : k < n) : (zlist n z)[k]? = some (.int .u64 ((z k : Nat) : Int)) := by simp [zlist, h]
theorem zlist_succ (n : Nat) (z : Nat → Nat) : zlist n z ++ [.int .u64 ((z n : Nat) : Int)] = zlist (n + 1) z := by simp [zlist, List.range_succ]
theorem zlist_congr {n : Nat} {y z : Nat → Nat} (h : ∀ k, k < n → y k = z k) : zlist n y = zlist n z := by
  unfold zlist
  exact List.map_congr_left fun k hk => by rw [h k (List.mem_range.1 hk)]
theorem zlist_cells {W : World} {a : Addr} {n : Nat} {z : Nat → Nat} (h : Row W a n z) : ∀ j u, (zlist n z)[j]? = some u → W.cell? (a.add j) = some u := fun j u hj => by
  have hl := (List.getElem?_eq_some_iff.1 hj).1
  rw [zlist_len] at hl
  rw [zlist_get (by omega)] at hj
  rw [← hj]; exact h j (by omega)
theorem zlist_one (n : Nat) (z : Nat → Nat) : ∀ u ∈ zlist n z, u.oneCell' = true := fun u hu => by
  simp [zlist] at hu
  obtain ⟨k, _, rfl⟩ := hu
  rfl
/-- The row so far: of the call's own memory, behind block B; nothing old has changed. -/
structure Own (w0 : World) (B : Nat) (v : Value) (k : Nat) (z : Nat → Nat) (w : World) : Prop where
  own : w.ownsRow B 23 1 v k (zlist k z)
  size : B ≤ w.heap.size
  low : w0.heap.size ≤ B
  below : Below w0.heap.size w0 w
section
variable {w0 w w' : World} {B k : Nat} {v : Value} {z : Nat → Nat}
theorem Own.start (w0 : World) (z : Nat → Nat) : Own w0 w0.heap.size (.slice none 0 0) 0 z w0 := ⟨⟨by simp [zlist], .inl ⟨rfl, rfl⟩⟩, Nat.le_refl _, Nat.le_refl _, Below.refl _ _⟩
theorem Own.step (h : Own w0 B v k z w) (hb : Below w.heap.size w w') : Own w0 B v k z w' :=
  ⟨h.own.kept (row := none) ⟨hb.os, hb.tape, hb.output, hb.size, fun k hk _ => hb.block k hk⟩ (by cases v.ownBlock <;> simp), Nat.le_trans h.size hb.size, h.low, h.below.trans (hb.mono h.below.size)⟩
theorem Own.drewN (h : Own w0 B v k z w) (n : Nat) : Own w0 B v k z (w.drewN n) := h.step (below_drewN' w n _)
theorem Own.drew (h : Own w0 B v k z w) : Own w0 B v k z w.drew := h.drewN 1
theorem Own.alloc (h : Own w0 B v k z w) (o : Obj) : Own w0 B v k z (w.alloc o) := h.step (below_box _ _)
theorem Own.grow (h : Own w0 B v k z w) {v' : Value} {k' : Nat} {xs : List Value} (ho : w'.ownsRow B 23 1 v' k' xs) (hx : xs = zlist k' z) (hg : w.grownBy w' v.ownBlock) : Own w0 B v' k' z w' :=
  ⟨hx ▸ ho, Nat.le_trans h.size hg.size, h.low,
   h.below.trans ⟨hg.os, hg.tape, hg.output, hg.size, fun j hj => hg.block j (Nat.lt_of_lt_of_le hj h.below.size) (fun e => by have := (h.own.lt j e.symm).1; have := h.low; omega)⟩⟩
/-- What the row reads as. -/
theorem Own.row (h : Own w0 B v k z w) : (v = .slice none 0 0 ∧ k = 0) ∨ ∃ g c, v = .slice (some ⟨g, 0, none⟩) k c ∧ B ≤ g ∧ k ≤ c ∧ c ≤ maxLen ∧ Row w ⟨g, 0, none⟩ k z := by
  obtain ⟨_, h1 | ⟨g, cap, cur, h1, h2, h3, h4, h5, _, h7⟩⟩ := h.own
  · exact .inl h1
  · refine .inr ⟨g, cap, h1, h2, h4, h5, Row.of_block h3 fun j hj => ?_⟩
    have e1 : (cur.toList.take (k * 1))[j]? = (zlist k z)[j]? := by rw [h7]
    rw [zlist_get hj, List.getElem?_take_of_lt (by omega)] at e1
    simpa using e1
end
/-- A call that hands back a row of its own: n numbers z, in new memory; nothing old has changed. A plain definition: the walk does not look into it. -/
def Gives (W : World) (n : Nat) (z : Nat → Nat) (e : Ending) (w' : World) : Prop := ∃ v, e = .returned v ∧ w'.ownsRow W.heap.size 23 1 v n (zlist n z) ∧ Below W.heap.size W w'
theorem Own.gives {w0 w : World} {B k : Nat} {v : Value} {z : Nat → Nat} (h : Own w0 B v k z w) : Gives w0 k z (.returned v) w := ⟨v, rfl, by
  obtain ⟨h1, h2⟩ := h.own
  refine ⟨h1, h2.imp id fun ⟨g, cap, cur, a, b, c⟩ => ⟨g, cap, cur, a, Nat.le_trans h.low b, c⟩⟩, h.below⟩
/-- Numbers that a slice reads, whatever its address while there is none. -/
def Rd (W : World) (ao : Option Addr) (n : Nat) (z : Nat → Nat) : Prop := 0 < n → ∃ ad, ao = some ad ∧ Row W ad n z
theorem Rd.below {W W' : World} {ao : Option Addr} {n : Nat} {z : Nat → Nat} (h : Rd W ao n z) (hb : Below W.heap.size W W') : Rd W' ao n z := fun hn => let ⟨ad, e, hr⟩ := h hn; ⟨ad, e, hr.below hb⟩
theorem Rd.at_ {W : World} {ao : Option Addr} {n : Nat} {z : Nat → Nat} (h : Rd W ao n z) {k : Nat} (hk : k < n) : ∃ ad, ao = some ad ∧ W.cell? (ad.add k) = some (.int .u64 ((z k : Nat) : Int)) := let ⟨ad, e, hr⟩ := h (by omega); ⟨ad, e, hr k hk⟩
theorem Own.rd {w0 w : World} {B k : Nat} {v : Value} {z : Nat → Nat} (h : Own w0 B v k z w) : ∃ ao c, v = .slice ao k c ∧ k ≤ c ∧ c ≤ maxLen ∧ Rd w ao k z := by
  rcases h.row with ⟨rfl, rfl⟩ | ⟨g, c, rfl, _, h1, h2, hr⟩
  · exact ⟨none, 0, rfl, Nat.le_refl _, Nat.zero_le _, fun hn => absurd hn (by omega)⟩
  · exact ⟨_, c, rfl, h1, h2, fun _ => ⟨_, rfl, hr⟩⟩
end M
end Go.Proofs.Ytdblijpoelcghaa

/- The texts TapTel, one behind the other. -/
import Derived.Test.YtbappohnljlchaaWB7
import Derived.Test.YtbappohnljlchaaWB3
/- What TapeTells is made of: a copy of numbers that came in, which is written over; draws of any count; a drawn region whose invariant grows. -/
namespace Go.Proofs.Ytbappohnljlchaa
open Go Go.RowKit Go.Lib
namespace RK
/-- Less is asked of the worlds between. -/
theorem Any.weaken {P : Program} {md : Region.Mode} {ops : Array Oper} {Q : Exit → Act → World → Prop} {S S2 : World → Prop} {st : Nat} (hS : ∀ w, S2 w → S w) : ∀ (f : Nat) (s : Array Bool) (a : Act) (w : World), Any P md ops Q S2 st f s a w → Any P md ops Q S st f s a w
  | 0, _, _, _, h => h
  | f + 1, _, _, _, h => ⟨h.1, fun i hi => wpOp_mono (fun _ _ k => ⟨fun e => hS _ (k.1 e), Any.weaken hS f _ _ _ k.2⟩) (h.2 i hi)⟩
end RK
namespace M
open MM
/-- A row that may be written over: n numbers from off on in block G. -/
def IR (G off n : Nat) (w : World) : Prop := ∃ cs, Bx 24 G cs w ∧ off + n ≤ cs.size
theorem IR.step {G off n : Nat} {w w' : World} (h : IR G off n w) (hb : Below w.heap.size w w') : IR G off n w' := let ⟨cs, a, b⟩ := h; ⟨cs, a.step hb, b⟩
theorem IR.cell {G off n : Nat} {w : World} (h : IR G off n w) {k : Nat} (hk : k < n) : ∃ v, w.cell? ⟨G, off + k, none⟩ = some v := let ⟨cs, a, b⟩ := h; ⟨cs[off + k]'(by omega), by rw [a.cell, Array.getElem?_eq_getElem]⟩
theorem IR.free {G off n : Nat} {w : World} (h : IR G off n w) (j : Nat) : w.frozen? ⟨G, j, none⟩ = false := let ⟨_, a, _⟩ := h; a.free j
theorem IR.set {G off n : Nat} {w : World} (h : IR G off n w) (j : Nat) (v : Value) : IR G off n (w.setCell ⟨G, j, none⟩ v) := let ⟨cs, a, b⟩ := h; ⟨_, a.put j v, by simpa using b⟩
/-- How many draws a count that is asked for gives. -/
def cnt (n : Int) : Nat := if 0 ≤ n ∧ n ≤ 1024 then n.toNat else 0
theorem cnt_le (n : Int) : cnt n ≤ 1024 := by unfold cnt; split <;> omega
/-- What Draws told. -/
def OutAt (b : Nat) (w : World) (oo : Option Addr) (N : Nat) (z : Nat → Nat) : Prop := 0 < N → ∃ R, oo = some ⟨R, 0, none⟩ ∧ b ≤ R ∧ Nm R N z w
theorem OutAt.rd {b : Nat} {w : World} {oo : Option Addr} {N : Nat} {z : Nat → Nat} (h : OutAt b w oo N z) : Rd w oo N z := fun hn => by
  obtain ⟨R, e, _, h3⟩ := h hn
  obtain ⟨ad, e2, h4⟩ := h3.rd hn
  exact ⟨ad, e.trans e2, h4⟩
theorem OutAt.turn {b g : Nat} {w w' : World} {oo : Option Addr} {N : Nat} {z : Nat → Nat} {T : TypeId} {cs : Array Value} (h : OutAt b w oo N z) (ht : Turn g w w') (hg : Bx T g cs w) (hT : T ≠ 24) : OutAt b w' oo N z := fun hn => by
  obtain ⟨R, e, h2, h3⟩ := h hn
  exact ⟨R, e, h2, h3.turn ht (h3.apart hg hT)⟩
theorem OutAt.step {b : Nat} {w w' : World} {oo : Option Addr} {N : Nat} {z : Nat → Nat} (h : OutAt b w oo N z) (hb : Below w.heap.size w w') : OutAt b w' oo N z := fun hn => by
  obtain ⟨R, e, h2, h3⟩ := h hn
  exact ⟨R, e, h2, h3.step hb⟩
section
variable {W w : World} {lo hi : Nat} {L : List (Bool × Nat × Tp)} {B : Nat} {t : Tp}
theorem TS.drawsZ (h : TS W lo hi L w) {i : Nat} (hL : L[i]? = some (true, B, t)) (n : Int) (q : Nat) (hq : q < 18446744073709551616) (ht : t.n < 4000000000000000000) :
    Calls Try.prog 12 #[ptr B, .int .i64 n, .int .u64 (q : Int)] w fun e w' => ∃ oo oc, e = .returned (.slice oo (cnt n) oc) ∧ OutAt hi w' oo (cnt n) (t.get (allq q)) ∧ TS W lo hi (L.set i (true, B, t.run (allq q) (cnt n))) w' := by
  by_cases hn : 0 ≤ n ∧ n ≤ 1024
  · obtain ⟨m, rfl⟩ : ∃ m : Nat, n = (m : Int) := ⟨n.toNat, by omega⟩
    have hc : cnt (m : Int) = m := by unfold cnt; rw [if_pos hn]; simp
    rw [hc]
    exact (h.draws hL m q (by omega) hq ht).mono fun _ _ ⟨R, a, b, c, d, _⟩ => ⟨_, _, a, fun _ => ⟨R, rfl, Nat.le_trans h.top b, c⟩, d⟩
  · have hc : cnt n = 0 := by unfold cnt; rw [if_neg hn]
    rw [hc]
    refine (draws_few B n q w (by omega)).mono fun _ _ ⟨a, b⟩ => ⟨none, 0, a, fun h0 => absurd h0 (by omega), ?_⟩
    rw [b]
    exact h.put hL (Turn.refl _ _) (h.each i _ hL)
theorem TS.rdrawsZ (h : TS W lo hi L w) {i : Nat} (hL : L[i]? = some (false, B, t)) (n : Int) (q : Nat) (hq : q < 18446744073709551616) (ht : t.n < 4000000000000000000) {b : Nat} {oo : Option Addr} {N : Nat} {z : Nat → Nat} (ho : OutAt b w oo N z) :
    Calls Try.prog 21 #[ptr B, .int .i64 n, .int .u64 (q : Int)] w fun e w' => ∃ ao c, e = .returned (.slice ao (cnt n) c) ∧ Rd w' ao (cnt n) (t.get (allq q)) ∧ TS W lo hi (L.set i (false, B, t.run (allq q) (cnt n))) w' ∧ OutAt b w' oo N z := by
  obtain ⟨T, cs, hbx, hT⟩ := (h.each i _ hL).bx
  by_cases hn : 0 ≤ n ∧ n ≤ 1024
  · obtain ⟨m, rfl⟩ : ∃ m : Nat, n = (m : Int) := ⟨n.toNat, by omega⟩
    have hc : cnt (m : Int) = m := by unfold cnt; rw [if_pos hn]; simp
    rw [hc]
    exact (h.rdraws hL m q (by omega) hq ht).mono fun _ _ ⟨ao, c, a, b, d, f⟩ => ⟨ao, c, a, b, d, ho.turn f hbx hT⟩
  · have hc : cnt n = 0 := by unfold cnt; rw [if_neg hn]
    rw [hc]
    refine (rdraws_few B n q w (by omega)).mono fun _ _ ⟨a, b⟩ => ⟨none, 0, a, fun h0 => absurd h0 (by omega), ?_⟩
    rw [b]
    exact ⟨h.put hL (Turn.refl _ _) (h.each i _ hL), ho⟩
/-- The count of a tape of the document's, as it lies. -/
theorem TS.cntAt (h : TS W lo hi L w) {i : Nat} (hL : L[i]? = some (false, B, t)) : w.cell? ⟨B, 2, none⟩ = some (.int .i64 (t.n : Int)) := by
  have h0 : QAt lo hi w B t := h.each i _ hL
  obtain ⟨ao, c, hb, _⟩ := h0.lies
  exact hb.cell 2
end
section
variable {W w : World} {L : List (Bool × Nat × Tp)} {B : Nat} {t : Tp}
theorem Tz.rnext (h : Tz W L w) {i : Nat} (hL : L[i]? = some (false, B, t)) (q : Nat) (hq : q < 18446744073709551616) (hn : t.n < 4611686018427387904) :
    Calls Try.prog 19 #[ptr B, .int .u64 (q : Int)] w fun e w' => e = .returned (.int .u64 ((t.val q : Nat) : Int)) ∧ Tz W (L.set i (false, B, t.next q)) w' :=
  let ⟨_, _, a⟩ := h; (a.rnext hL q hq hn).mono fun _ _ ⟨x, y, _⟩ => ⟨x, _, _, y⟩
theorem Tz.rcopy (h : Tz W L w) {i : Nat} (hL : L[i]? = some (false, B, t)) (hl : t.fs.length ≤ 1000) :
    Calls Try.prog 22 #[ptr B] w fun e w' => ∃ B', e = .returned (ptr B') ∧ Tz W (L ++ [(false, B', t)]) w' ∧ Below w.heap.size w w' :=
  let ⟨_, _, a⟩ := h; (a.rcopy hL hl).mono fun _ _ ⟨B', x, y, z⟩ => ⟨B', x, ⟨_, _, y⟩, z⟩
theorem Tz.cntAt (h : Tz W L w) {i : Nat} (hL : L[i]? = some (false, B, t)) : w.cell? ⟨B, 2, none⟩ = some (.int .i64 (t.n : Int)) := let ⟨_, _, a⟩ := h; a.cntAt hL
theorem Tz.of_TS {lo hi : Nat} (h : TS W lo hi L w) : Tz W L w := ⟨lo, hi, h⟩
end
/-- The copy may be written over. -/
theorem Copied.ir {W w : World} {co : Option Addr} {cc : Nat} {l : List Nat} (h : Copied W co cc l w) (hn : 0 < l.length) : ∃ G off, co = some ⟨G, off, none⟩ ∧ W.heap.size ≤ G ∧ G < w.heap.size ∧ IR G off l.length w := by
  obtain ⟨G, off, cs, e, h1, h2, h3, h4⟩ := h.row (by intro h0; rw [h0] at hn; simp at hn)
  refine ⟨G, off, e, h1, h2, cs, h3, ?_⟩
  have h5 := h4 (l.length - 1) _ (List.getElem?_eq_getElem (by omega))
  have := (Array.getElem?_eq_some_iff.1 h5).1
  omega
end M
end Go.Proofs.Ytbappohnljlchaa

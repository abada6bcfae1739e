/- The texts TapMem, TapW1, TapW2, TapW3, one behind the other. -/
import Derived.Test.YtbappohnljlchaaWB1
import Derived.Lib.Hide
import Derived.Laws.OwnMore
import Derived.Laws.Bits64
/- A tape as it lies, the program's and the document's; what a call may turn: the tape's own block, and new memory. -/
namespace Go.Proofs.Ytbappohnljlchaa
open Go Go.RowKit Go.Lib
namespace M
open MM
theorem Ret.at {f : FuncId} {args : Array Value} {v : Value} (h : Ret f args v) (W : World) : Calls Try.prog f args W fun e w' => e = .returned v ∧ ∃ n, w' = W.drewN n := h W
theorem bnext {w w1 w2 : World} (h : Below w.heap.size w w1) (k : Below w1.heap.size w1 w2) : Below w.heap.size w w2 := h.trans (k.mono h.size)
abbrev ptr (B : Nat) : Value := .pointer (some ⟨B, 0, none⟩)
abbrev TB : TypeId := 49
abbrev QB : TypeId := 36
/-- A row of numbers in a block of its own kind, between lo and hi. -/
def RowAt (lo hi : Nat) (w : World) (ao : Option Addr) (l : List Nat) : Prop := l ≠ [] → ∃ (G off : Nat) (cs : Array Value), ao = some ⟨G, off, none⟩ ∧ lo ≤ G ∧ G < hi ∧ w.heap[G]? = some (.cells cs 24 (0, 0)) ∧ ∀ (k x : Nat), l[k]? = some x → cs[off + k]? = some (.int .u64 (x : Int))
/-- A block. -/
def Bx (T : TypeId) (B : Nat) (cs : Array Value) (w : World) : Prop := w.heap[B]? = some (.cells cs T (0, 0))
section
variable {T : TypeId} {B : Nat} {cs : Array Value} {w w' : World}
theorem Bx.lt (h : Bx T B cs w) : B < w.heap.size := row_lt h
theorem Bx.cell (h : Bx T B cs w) (j : Nat) : w.cell? ⟨B, j, none⟩ = cs[j]? := cell_of_row w B j _ _ _ h
theorem Bx.free (h : Bx T B cs w) (j : Nat) : w.frozen? ⟨B, j, none⟩ = false := by unfold Bx at h; simp [World.frozen?, h]
theorem Bx.put (h : Bx T B cs w) (j : Nat) (v : Value) : Bx T B (cs.setIfInBounds j v) (w.setCell ⟨B, j, none⟩ v) := heap_setCell_same w B j _ _ _ h
theorem Bx.step (h : Bx T B cs w) (hb : Below w.heap.size w w') : Bx T B cs w' := (hb.block B h.lt).trans h
theorem Bx.turn {g : Nat} (h : Bx T B cs w) (hb : Turn g w w') (hg : B ≠ g) : Bx T B cs w' := (hb.block B h.lt hg).trans h
theorem Bx.apart {T2 : TypeId} {B2 : Nat} {cs2 : Array Value} (h : Bx T B cs w) (h2 : Bx T2 B2 cs2 w) (hT : T ≠ T2) : B ≠ B2 := fun e => by
  subst e
  unfold Bx at h h2
  rw [h] at h2
  injection h2 with h3
  injection h3 with _ h4
  exact hT h4
end
section
variable {lo hi : Nat} {w w' : World} {ao : Option Addr} {l : List Nat}
theorem RowAt.nil (lo hi : Nat) (w : World) (ao : Option Addr) : RowAt lo hi w ao [] := fun h => absurd rfl h
theorem RowAt.step (h : RowAt lo hi w ao l) (hb : Below w.heap.size w w') : RowAt lo hi w' ao l := fun hn => let ⟨G, off, cs, a, b, c, d, e⟩ := h hn; ⟨G, off, cs, a, b, c, (hb.block G (row_lt d)).trans d, e⟩
theorem RowAt.turn {g : Nat} {T : TypeId} {cs : Array Value} (h : RowAt lo hi w ao l) (hb : Turn g w w') (hg : Bx T g cs w) (hT : T ≠ 24) : RowAt lo hi w' ao l := fun hn => let ⟨G, off, cs, a, b, c, d, e⟩ := h hn; ⟨G, off, cs, a, b, c, Bx.turn d hb (Bx.apart d hg (Ne.symm hT)), e⟩
theorem RowAt.other {g : Nat} (h : RowAt lo hi w ao l) (hb : Turn g w w') (hg : g < lo ∨ hi ≤ g) : RowAt lo hi w' ao l := fun hn => let ⟨G, off, cs, a, b, c, d, e⟩ := h hn; ⟨G, off, cs, a, b, c, Bx.turn d hb (by omega), e⟩
theorem RowAt.mono {lo2 hi2 : Nat} (h : RowAt lo hi w ao l) (h1 : lo2 ≤ lo) (h2 : hi ≤ hi2) : RowAt lo2 hi2 w ao l := fun hn => let ⟨G, off, cs, a, b, c, d⟩ := h hn; ⟨G, off, cs, a, by omega, by omega, d⟩
theorem RowAt.head {x : Nat} (h : RowAt lo hi w ao (x :: l)) : ∃ (G off : Nat) (cs : Array Value), ao = some ⟨G, off, none⟩ ∧ lo ≤ G ∧ G < hi ∧ w.heap[G]? = some (.cells cs 24 (0, 0)) ∧ w.cell? ⟨G, off, none⟩ = some (.int .u64 (x : Int)) ∧ ∀ (k y : Nat), l[k]? = some y → cs[off + 1 + k]? = some (.int .u64 (y : Int)) := by
  obtain ⟨G, off, cs, a, b, c, d, e⟩ := h (by simp)
  refine ⟨G, off, cs, a, b, c, d, by rw [Bx.cell d]; simpa using e 0 x rfl, fun k y hk => ?_⟩
  have := e (k + 1) y (by simpa using hk)
  rwa [show off + 1 + k = off + (k + 1) by omega]
theorem RowAt.rd (h : RowAt lo hi w ao l) : Rd w ao l.length (fun k => l.getD k 0) := fun hn => by
  obtain ⟨G, off, cs, a, b, c, d, e⟩ := h (by intro h0; subst h0; simp at hn)
  refine ⟨_, a, fun k hk => ?_⟩
  have e1 : (⟨G, off, none⟩ : Addr).add k = ⟨G, off + k, none⟩ := by
    unfold Addr.add
    by_cases h0 : k = 0
    · subst h0; rfl
    · rw [if_neg h0]
  rw [e1, Bx.cell d]; dsimp only; rw [List.getD_eq_getElem?_getD, List.getElem?_eq_getElem hk]
  exact e k _ (List.getElem?_eq_getElem hk)
end
/-- The program's tape. -/
structure PAt (lo hi : Nat) (w : World) (B : Nat) (t : Tp) : Prop where
  ok : t.Ok
  box : lo ≤ B ∧ B < hi
  lies : ∃ (ao : Option Addr) (c : Nat), Bx TB B #[.int .u64 (t.st : Int), .slice ao t.fs.length c, .int .i64 (t.n : Int)] w ∧ t.fs.length ≤ c ∧ c ≤ maxLen ∧ (ao = none → t.fs = [] ∧ c = 0) ∧ RowAt lo hi w ao t.fs
/-- The document's tape. -/
structure QAt (lo hi : Nat) (w : World) (B : Nat) (t : Tp) : Prop where
  ok : t.Ok
  box : lo ≤ B ∧ B < hi
  lies : ∃ (ao : Option Addr) (c : Nat), Bx QB B #[.slice ao t.fs.length c, .int .u64 (t.st : Int), .int .i64 (t.n : Int)] w ∧ t.fs.length ≤ c ∧ c ≤ maxLen ∧ (ao = none → t.fs = [] ∧ c = 0) ∧ RowAt lo hi w ao t.fs
/-- The state that a cell holds. -/
def stOf (w : World) (B j : Nat) : Nat := match w.cell? ⟨B, j, none⟩ with
  | some v => (RowKit.intOf v).toNat
  | none => 0
theorem stOf_is {w : World} {B j s : Nat} (h : w.cell? ⟨B, j, none⟩ = some (.int .u64 (s : Int))) : stOf w B j = s := by
  unfold stOf
  rw [h]
  simp [RowKit.intOf]
section
variable {lo hi B : Nat} {w w' : World} {t : Tp}
theorem PAt.step (h : PAt lo hi w B t) (hb : Below w.heap.size w w') : PAt lo hi w' B t := ⟨h.ok, h.box, let ⟨ao, c, a, b, d, e, f⟩ := h.lies; ⟨ao, c, a.step hb, b, d, e, f.step hb⟩⟩
theorem QAt.step (h : QAt lo hi w B t) (hb : Below w.heap.size w w') : QAt lo hi w' B t := ⟨h.ok, h.box, let ⟨ao, c, a, b, d, e, f⟩ := h.lies; ⟨ao, c, a.step hb, b, d, e, f.step hb⟩⟩
theorem PAt.turn {g : Nat} {T : TypeId} {cs : Array Value} (h : PAt lo hi w B t) (hb : Turn g w w') (hg : Bx T g cs w) (hT : T ≠ 24) (hBg : B ≠ g) : PAt lo hi w' B t := ⟨h.ok, h.box, let ⟨ao, c, a, b, d, e, f⟩ := h.lies; ⟨ao, c, a.turn hb hBg, b, d, e, f.turn hb hg hT⟩⟩
theorem QAt.turn {g : Nat} {T : TypeId} {cs : Array Value} (h : QAt lo hi w B t) (hb : Turn g w w') (hg : Bx T g cs w) (hT : T ≠ 24) (hBg : B ≠ g) : QAt lo hi w' B t := ⟨h.ok, h.box, let ⟨ao, c, a, b, d, e, f⟩ := h.lies; ⟨ao, c, a.turn hb hBg, b, d, e, f.turn hb hg hT⟩⟩
theorem PAt.other {g : Nat} (h : PAt lo hi w B t) (hb : Turn g w w') (hg : g < lo ∨ hi ≤ g) : PAt lo hi w' B t := ⟨h.ok, h.box, let ⟨ao, c, a, b, d, e, f⟩ := h.lies; ⟨ao, c, a.turn hb (by have := h.box; omega), b, d, e, f.other hb hg⟩⟩
theorem QAt.other {g : Nat} (h : QAt lo hi w B t) (hb : Turn g w w') (hg : g < lo ∨ hi ≤ g) : QAt lo hi w' B t := ⟨h.ok, h.box, let ⟨ao, c, a, b, d, e, f⟩ := h.lies; ⟨ao, c, a.turn hb (by have := h.box; omega), b, d, e, f.other hb hg⟩⟩
theorem PAt.mono {lo2 hi2 : Nat} (h : PAt lo hi w B t) (h1 : lo2 ≤ lo) (h2 : hi ≤ hi2) : PAt lo2 hi2 w B t := ⟨h.ok, by have := h.box; omega, let ⟨ao, c, a, b, d, e, f⟩ := h.lies; ⟨ao, c, a, b, d, e, f.mono h1 h2⟩⟩
theorem QAt.mono {lo2 hi2 : Nat} (h : QAt lo hi w B t) (h1 : lo2 ≤ lo) (h2 : hi ≤ hi2) : QAt lo2 hi2 w B t := ⟨h.ok, by have := h.box; omega, let ⟨ao, c, a, b, d, e, f⟩ := h.lies; ⟨ao, c, a, b, d, e, f.mono h1 h2⟩⟩
theorem tb_row : TB ≠ 24 := by decide
theorem qb_row : QB ≠ 24 := by decide
theorem tb_qb : TB ≠ QB := by decide
end
end M
end Go.Proofs.Ytbappohnljlchaa
/- The walks of what a number is made of: the generator, the greatest number that is taken, a number modulo q; the document's own number. -/
namespace Go.Proofs.Ytbappohnljlchaa
open Go Go.RowKit Go.Lib
namespace M
open MM
theorem wrap_nxt (s : Nat) : IntKind.u64.wrap ((s : Int) + 11400714819323198485) = ((nxt s : Nat) : Int) := by
  rw [IntKind.wrap_u64]
  unfold nxt
  omega
theorem wrap_mixA {s : Nat} (h : s < 18446744073709551616) : IntKind.u64.wrap (bits .xor .u64 (s : Int) ((s : Int) / 1073741824) * 13787848793156543929) = ((mixA s : Nat) : Int) := mixStep_u64 s 1073741824 13787848793156543929 h
theorem wrap_mixB {s : Nat} (h : s < 18446744073709551616) : IntKind.u64.wrap (bits .xor .u64 (s : Int) ((s : Int) / 134217728) * 10723151780598845931) = ((mixB s : Nat) : Int) := mixStep_u64 s 134217728 10723151780598845931 h
theorem wrap_mixC {s : Nat} (h : s < 18446744073709551616) : bits .xor .u64 (s : Int) ((s : Int) / 2147483648) = ((mixC s : Nat) : Int) := xorShift_u64 s 2147483648 h
theorem reduced_any (z q : Nat) : Ret 23 #[.int .u64 (z : Int), .int .u64 (q : Int)] (.int .u64 ((red z q : Nat) : Int)) := fun W => by
  unfold red
  by_cases h : q = 0
  · rw [if_pos h]
    subst h
    go_enter Try.func23, Try.ntmps23
    go_wp2_with fail
    go_ret
    exact ⟨rfl, 0, rfl⟩
  · rw [if_neg h]
    have h1 : ¬ (q : Int) = 0 := by omega
    go_enter Try.func23, Try.ntmps23
    go_wp2_with fail
    go_ret
    exact ⟨rfl, 0, rfl⟩
theorem wrap_quo {s : Nat} (k : Nat) (h : s < 18446744073709551616) : IntKind.u64.wrap ((s : Int) / (k : Int)) = (s : Int) / (k : Int) := by
  rw [IntKind.wrap_u64]
  have h1 : (s : Int) / (k : Int) = ((s / k : Nat) : Int) := rfl
  have h2 : s / k < 18446744073709551616 := Nat.lt_of_le_of_lt (Nat.div_le_self _ _) h
  rw [h1]
  clear h1
  generalize s / k = d at *
  omega
theorem greatest_any (q : Nat) (hq : q < 18446744073709551616) : Ret 25 #[.int .u64 (q : Int)] (.int .u64 ((if q = 0 then 18446744073709551615 else 18446744073709551615 - 18446744073709551616 % q : Nat) : Int)) := fun W => by
  by_cases h : q = 0
  · rw [if_pos h]
    subst h
    go_enter Try.func25, Try.ntmps25
    go_wp2_with fail
    go_ret
    exact ⟨rfl, 0, rfl⟩
  · rw [if_neg h]
    have h1 : ¬ (q : Int) = 0 := by omega
    have e1 : IntKind.u64.wrap (-(q : Int)) = ((18446744073709551616 - q : Nat) : Int) := by
      rw [IntKind.wrap_u64]
      omega
    have e2 : ((18446744073709551616 - q : Nat) : Int) % (q : Int) = ((18446744073709551616 % q : Nat) : Int) := by
      have : (18446744073709551616 - q) % q = 18446744073709551616 % q := (Nat.mod_eq_sub_mod (by omega)).symm
      rw [← this]
      rfl
    have e3 : IntKind.u64.wrap (18446744073709551615 - ((18446744073709551616 % q : Nat) : Int)) = ((18446744073709551615 - 18446744073709551616 % q : Nat) : Int) := by
      have : 18446744073709551616 % q < q := Nat.mod_lt _ (by omega)
      generalize 18446744073709551616 % q = r at *
      rw [IntKind.wrap_u64]
      omega
    generalize 18446744073709551616 - q = p at *
    generalize 18446744073709551615 - 18446744073709551616 % q = g at *
    generalize 18446744073709551616 % q = r at *
    go_enter Try.func25, Try.ntmps25
    go_wp2_with fail
    go_ret
    exact ⟨rfl, 0, rfl⟩
theorem number_any (B s : Nat) (v1 v2 : Value) (W : World) (h : Bx TB B #[.int .u64 (s : Int), v1, v2] W) :
    Calls Try.prog 24 #[ptr B] W fun e w' => e = .returned (.int .u64 ((mix (nxt s) : Nat) : Int)) ∧ Bx TB B #[.int .u64 ((nxt s : Nat) : Int), v1, v2] w' ∧ Turn B W w' := by
  have c0 : W.cell? ⟨B, 0, none⟩ = some (.int .u64 (s : Int)) := h.cell 0
  have f0 := h.free 0
  have HB := Lib.hid h
  have e1 := wrap_nxt s
  have e2 := wrap_mixA (nxt_lt s)
  have e3 := wrap_mixB (mixA_lt (nxt s))
  have e4 := wrap_mixC (mixB_lt (mixA (nxt s)))
  unfold mix
  generalize mixC (mixB (mixA (nxt s))) = zc at *
  generalize mixB (mixA (nxt s)) = zb at *
  generalize mixA (nxt s) = za at *
  generalize nxt s = z0 at *
  clear h
  go_enter Try.func24, Try.ntmps24
  go_wp2_with fail
  go_ret
  exact ⟨rfl, HB.out.put 0 _, (Turn.refl B W).set 0 _⟩
theorem own_any (B s : Nat) (v1 v2 : Value) (W : World) (h : Bx QB B #[v1, .int .u64 (s : Int), v2] W) :
    Calls Try.prog 27 #[ptr B] W fun e w' => e = .returned (.int .u64 ((mix (nxt s) : Nat) : Int)) ∧ Bx QB B #[v1, .int .u64 ((nxt s : Nat) : Int), v2] w' ∧ Turn B W w' := by
  have c0 : W.cell? ⟨B, 1, none⟩ = some (.int .u64 (s : Int)) := h.cell 1
  have f0 := h.free 1
  have HB := Lib.hid h
  have e1 := wrap_nxt s
  have e2 := wrap_mixA (nxt_lt s)
  have e3 := wrap_mixB (mixA_lt (nxt s))
  have e4 := wrap_mixC (mixB_lt (mixA (nxt s)))
  unfold mix
  have u1 : IntKind.u64.wrap (((nxt s : Nat) : Int) / 1073741824) = ((nxt s : Nat) : Int) / 1073741824 := wrap_quo 1073741824 (nxt_lt s)
  have u2 : IntKind.u64.wrap (((mixA (nxt s) : Nat) : Int) / 134217728) = ((mixA (nxt s) : Nat) : Int) / 134217728 := wrap_quo 134217728 (mixA_lt _)
  have u3 : IntKind.u64.wrap (((mixB (mixA (nxt s)) : Nat) : Int) / 2147483648) = ((mixB (mixA (nxt s)) : Nat) : Int) / 2147483648 := wrap_quo 2147483648 (mixB_lt _)
  generalize mixC (mixB (mixA (nxt s))) = zc at *
  generalize mixB (mixA (nxt s)) = zb at *
  generalize mixA (nxt s) = za at *
  generalize nxt s = z0 at *
  clear h
  go_enter Try.func27, Try.ntmps27
  go_wp2_with fail
  go_ret
  exact ⟨rfl, HB.out.put 1 _, (Turn.refl B W).set 1 _⟩
end M
end Go.Proofs.Ytbappohnljlchaa
/- The walk of the program's Next, whatever tape and bound. -/
namespace Go.Proofs.Ytbappohnljlchaa
open Go Go.RowKit Go.Lib
namespace M
open MM
theorem taken_no {q z : Nat} (h : (if q = 0 then 18446744073709551615 else 18446744073709551615 - 18446744073709551616 % q) < z) (hz : z < 18446744073709551616) : taken q z = false := by
  unfold taken
  by_cases h0 : q = 0
  · rw [if_pos h0] at h; omega
  · rw [if_neg h0] at h
    rw [decide_eq_false h0, decide_eq_false (by omega)]
    rfl
theorem taken_yes {q z : Nat} (h : ¬ (if q = 0 then 18446744073709551615 else 18446744073709551615 - 18446744073709551616 % q) < z) : taken q z = true := by
  unfold taken
  by_cases h0 : q = 0
  · rw [decide_eq_true h0]; rfl
  · rw [if_neg h0] at h
    rw [decide_eq_true (show z ≤ 18446744073709551615 - 18446744073709551616 % q by omega), Bool.or_true]
theorem cons_end {lo hi B x c G off : Nat} {r : List Nat} {st n : Nat} {W : World} {cs : Array Value} (h : PAt lo hi W B ⟨x :: r, st, n⟩) 
    (hb : Bx TB B #[.int .u64 (st : Int), .slice (some ⟨G, off, none⟩) (r.length + 1) c, .int .i64 (n : Int)] W) (hg1 : lo ≤ G) (hg2 : G < hi) (hg3 : W.heap[G]? = some (.cells cs 24 (0, 0))) (hg5 : ∀ (k y : Nat), r[k]? = some y → cs[off + 1 + k]? = some (.int .u64 (y : Int)))
    (a2 : Addr) (ha : r ≠ [] → a2 = ⟨G, off + 1, none⟩) (c2 : Nat) (h3 : r.length ≤ c2) (h4 : c2 ≤ maxLen) (d : Nat) :
    PAt lo hi (((W.setCell ⟨B, 2, none⟩ (.int .i64 ((n : Int) + 1))).setCell ⟨B, 1, none⟩ (.slice (some a2) r.length c2)).drewN d) B ⟨r, st, n + 1⟩ ∧ Turn B W (((W.setCell ⟨B, 2, none⟩ (.int .i64 ((n : Int) + 1))).setCell ⟨B, 1, none⟩ (.slice (some a2) r.length c2)).drewN d) := by
  have hne : G ≠ B := Bx.apart hg3 hb (Ne.symm tb_row)
  have ht := (((Turn.refl B W).set 2 (.int .i64 ((n : Int) + 1))).set 1 (.slice (some a2) r.length c2)).drewN d
  refine ⟨⟨⟨fun y hy => h.ok.fs y (List.mem_cons_of_mem _ hy), h.ok.st⟩, h.box, some a2, c2, (hb.put 2 _).put 1 _, h3, h4, fun e => by (cases e), fun hr => ?_⟩, ht⟩
  exact ⟨G, off + 1, cs, by rw [ha hr], hg1, hg2, Bx.turn hg3 ht hne, hg5⟩
set_option maxHeartbeats 2000000 in
theorem next_cons (lo hi B x q : Nat) (r : List Nat) (st n : Nat) (hn : n < 4611686018427387904) (W : World) (h : PAt lo hi W B ⟨x :: r, st, n⟩) :
    Calls Try.prog 11 #[ptr B, .int .u64 (q : Int)] W fun e w' => e = .returned (.int .u64 ((red x q : Nat) : Int)) ∧ PAt lo hi w' B ⟨r, st, n + 1⟩ ∧ Turn B W w' := by
  obtain ⟨ao, c, hb, h1, h2, h3, h4⟩ := h.lies
  obtain ⟨G, off, cs, rfl, hg1, hg2, hg3, hg4, hg5⟩ := h4.head
  have HR := reduced_any x q
  have c2 : W.cell? ⟨B, 2, none⟩ = some (.int .i64 (n : Int)) := hb.cell 2
  have f2 := hb.free 2
  have en : wrap64 ((n : Int) + 1) = ((n + 1 : Nat) : Int) := IntWalk.wrap64_in _ ⟨by omega, by omega⟩
  have c1 : W.cell? ⟨B, 1, none⟩ = some (.slice (some ⟨G, off, none⟩) ((r.length + 1 : Nat) : Int).toNat c) := hb.cell 1
  have f1 := hb.free 1
  have hne : G ≠ B := Bx.apart hg3 hb (Ne.symm tb_row)
  have HB := Lib.hid hb
  have HX := Lib.hid h
  clear h hb h4
  go_enter Try.func11, Try.ntmps11
  go_wp2_with fail
  all_goals
    go_wp2_with (go_at_call 23; (with_reducible refine (HR.at _).mono ?_); rintro e w' ⟨rfl, n1, rfl⟩)
    go_ret
  · rename_i hc1
    refine ⟨rfl, cons_end HX.out HB.out hg1 hg2 hg3 hg5 _ (fun hr => ?_) 0 (by have : r.length + 1 ≤ c := h1; omega) (by omega) n1⟩
    have : r.length + 1 ≤ c := h1
    have := List.length_pos_iff.2 hr
    omega
  · exact ⟨rfl, cons_end HX.out HB.out hg1 hg2 hg3 hg5 _ (fun _ => rfl) _ (by have : r.length + 1 ≤ c := h1; omega) (by omega) n1⟩
set_option maxHeartbeats 2000000 in
theorem next_nil (lo hi B q : Nat) (st n : Nat) (hq : q < 18446744073709551616) (hn : n < 4611686018427387904) (W : World) (h : PAt lo hi W B ⟨[], st, n⟩) :
    Calls Try.prog 11 #[ptr B, .int .u64 (q : Int)] W fun e w' => e = .returned (.int .u64 ((red (mix (acc q (nxt st))) q : Nat) : Int)) ∧ PAt lo hi w' B ⟨[], acc q (nxt st), n + 1⟩ ∧ Turn B W w' := by
  obtain ⟨ao, c, hb, h1, h2, h3, h4⟩ := h.lies
  have c2 : W.cell? ⟨B, 2, none⟩ = some (.int .i64 (n : Int)) := hb.cell 2
  have f2 := hb.free 2
  have en : wrap64 ((n : Int) + 1) = ((n + 1 : Nat) : Int) := IntWalk.wrap64_in _ ⟨by omega, by omega⟩
  have c1 : W.cell? ⟨B, 1, none⟩ = some (.slice ao 0 c) := hb.cell 1
  have HB2 : Bx TB B #[.int .u64 (st : Int), .slice ao 0 c, .int .i64 ((n : Int) + 1)] (W.setCell ⟨B, 2, none⟩ (.int .i64 ((n : Int) + 1))) := hb.put 2 _
  have HN := Lib.hid (number_any B st (.slice ao 0 c) (.int .i64 ((n : Int) + 1)) _ HB2)
  have HT0 := Lib.hid ((Turn.refl B W).set 2 (.int .i64 ((n : Int) + 1)))
  have HG := greatest_any q hq
  obtain ⟨A, hA⟩ : ∃ A, acc q (nxt st) = A := ⟨_, rfl⟩
  rw [hA]
  have HA := Lib.hid hA
  have HR := Lib.hid (reduced_any (mix A) q)
  clear hA
  have HX := Lib.hid h
  clear h hb h4 HB2
  go_enter Try.func11, Try.ntmps11
  go_wp2_with (go_at_call 24; (with_reducible refine (HN.out).mono ?_); rintro e w1 ⟨rfl, hb, ht⟩; have HB1 := Lib.hid hb; have HT1 := Lib.hid (HT0.out.trans ht); clear hb ht HN HT0)
  go_loopw [6] (fun s6 wx => ∃ s : Nat, s < 18446744073709551616 ∧ s6 = .int .u64 ((mix s : Nat) : Int) ∧ Hid (acc q s = A) ∧ Hid (Bx TB B #[.int .u64 (s : Int), .slice ao 0 c, .int .i64 ((n : Int) + 1)] wx) ∧ Hid (Turn B W wx)) (fun _ wx => left (stOf wx B 0))
  case atStart => exact ⟨nxt st, nxt_lt st, rfl, HA, HB1, HT1⟩
  case round =>
    clear HB1 HT1 HA
    obtain ⟨s, hs, rfl, HA, HB, HT⟩ := hrel
    rename_i wr
    have hst := stOf_is (w := wr) (B := B) (j := 0) (HB.out.cell 0)
    by_cases hlt : (if q = 0 then 18446744073709551615 else 18446744073709551615 - 18446744073709551616 % q) < mix s
    · have ht0 := taken_no hlt (mix_lt s)
      obtain ⟨ha1, ha2⟩ := acc_no hs ht0
      rw [HA.out] at ha1
      have HA2 := Lib.hid ha1.symm
      have HM := Lib.hid ha2
      have hlti : (((if q = 0 then 18446744073709551615 else 18446744073709551615 - 18446744073709551616 % q : Nat)) : Int) < ((mix s : Nat) : Int) := by exact_mod_cast hlt
      generalize (if q = 0 then 18446744073709551615 else 18446744073709551615 - 18446744073709551616 % q) = g at *
      clear ht0 ha1 ha2 hlt
      have HN := Lib.hid (fun d => number_any B s (.slice ao 0 c) (.int .i64 ((n : Int) + 1)) (wr.drewN d) (HB.out.step (below_drewN wr d)))
      generalize mix s = ms at *
      go_wp2_with (first
        | (go_at_call 25; (with_reducible refine (HG.at _).mono ?_); rintro e w' ⟨rfl, n1, rfl⟩)
        | (go_at_call 24; (with_reducible refine (HN.out _).mono ?_); rintro e w1 ⟨rfl, hb, ht⟩; have HB1 := Lib.hid hb; have HT1 := Lib.hid ((HT.out.trans (Turn.of (below_drewN wr n1))).trans ht); clear hb ht))
      go_roundw
      case rel => exact ⟨nxt s, nxt_lt s, rfl, HA2, HB1, HT1⟩
      case measure =>
        rw [hst, stOf_is (HB1.out.cell 0)]
        have := HM.out
        omega
    · have ht0 := taken_yes hlt
      have ha1 := acc_yes ht0
      have ha2 := HA.out
      rw [ha2] at ha1
      subst ha1
      have hlti : ¬ (((if q = 0 then 18446744073709551615 else 18446744073709551615 - 18446744073709551616 % q : Nat)) : Int) < ((mix A : Nat) : Int) := by exact_mod_cast hlt
      generalize (if q = 0 then 18446744073709551615 else 18446744073709551615 - 18446744073709551616 % q) = g at *
      clear ht0 ha2 hlt
      go_wp2_with (first
        | (go_at_call 25; (with_reducible refine (HG.at _).mono ?_); rintro e w' ⟨rfl, n1, rfl⟩)
        | (go_at_call 23; (with_reducible refine (HR.out.at _).mono ?_); rintro e w' ⟨rfl, n2, rfl⟩))
      go_ret
      have hb : Below wr.heap.size wr (wr.drewN (n1 + n2)) := below_drewN wr _
      exact ⟨rfl, ⟨⟨fun x hx => (by cases hx), hs⟩, HX.out.box, ao, c, HB.out.step hb, h1, h2, fun e => ⟨rfl, (h3 e).2⟩, RowAt.nil _ _ _ _⟩, HT.out.trans (Turn.of hb)⟩
/-- Next, whatever tape and bound. -/
theorem next_any {lo hi B : Nat} {t : Tp} {W : World} (h : PAt lo hi W B t) (q : Nat) (hq : q < 18446744073709551616) (hn : t.n < 4611686018427387904) :
    Calls Try.prog 11 #[ptr B, .int .u64 (q : Int)] W fun e w' => e = .returned (.int .u64 ((t.val q : Nat) : Int)) ∧ PAt lo hi w' B (t.next q) ∧ Turn B W w' := by
  obtain ⟨fs, st, n⟩ := t
  cases fs with
  | nil => exact next_nil lo hi B q st n hq hn W h
  | cons x r => exact next_cons lo hi B x q r st n hn W h
theorem next_none (q : Nat) (W : World) : Calls Try.prog 11 #[.pointer none, .int .u64 (q : Int)] W fun e w' => e = .returned (.int .u64 0) ∧ w' = W := by
  go_enter Try.func11, Try.ntmps11
  go_wp2_with fail
  go_ret
  exact ⟨rfl, rfl⟩
end M
end Go.Proofs.Ytbappohnljlchaa
/- The walk of the document's Next, whatever tape and bound. -/
namespace Go.Proofs.Ytbappohnljlchaa
open Go Go.RowKit Go.Lib
namespace M
open MM
theorem rcons_end {lo hi B x c G off : Nat} {r : List Nat} {st n : Nat} {W : World} {cs : Array Value} (h : QAt lo hi W B ⟨x :: r, st, n⟩)
    (hb : Bx QB B #[.slice (some ⟨G, off, none⟩) (r.length + 1) c, .int .u64 (st : Int), .int .i64 (n : Int)] W) (hg1 : lo ≤ G) (hg2 : G < hi) (hg3 : W.heap[G]? = some (.cells cs 24 (0, 0))) (hg5 : ∀ (k y : Nat), r[k]? = some y → cs[off + 1 + k]? = some (.int .u64 (y : Int)))
    (a2 : Addr) (ha : r ≠ [] → a2 = ⟨G, off + 1, none⟩) (c2 : Nat) (h3 : r.length ≤ c2) (h4 : c2 ≤ maxLen) :
    QAt lo hi ((W.setCell ⟨B, 2, none⟩ (.int .i64 ((n : Int) + 1))).setCell ⟨B, 0, none⟩ (.slice (some a2) r.length c2)) B ⟨r, st, n + 1⟩ ∧ Turn B W ((W.setCell ⟨B, 2, none⟩ (.int .i64 ((n : Int) + 1))).setCell ⟨B, 0, none⟩ (.slice (some a2) r.length c2)) := by
  have hne : G ≠ B := Bx.apart hg3 hb (Ne.symm qb_row)
  have ht := ((Turn.refl B W).set 2 (.int .i64 ((n : Int) + 1))).set 0 (.slice (some a2) r.length c2)
  refine ⟨⟨⟨fun y hy => h.ok.fs y (List.mem_cons_of_mem _ hy), h.ok.st⟩, h.box, some a2, c2, (hb.put 2 _).put 0 _, h3, h4, fun e => by (cases e), fun hr => ?_⟩, ht⟩
  exact ⟨G, off + 1, cs, by rw [ha hr], hg1, hg2, Bx.turn hg3 ht hne, hg5⟩
set_option maxHeartbeats 2000000 in
theorem rnext_cons (lo hi B x q : Nat) (r : List Nat) (st n : Nat) (hn : n < 4611686018427387904) (W : World) (h : QAt lo hi W B ⟨x :: r, st, n⟩) :
    Calls Try.prog 19 #[ptr B, .int .u64 (q : Int)] W fun e w' => e = .returned (.int .u64 ((red x q : Nat) : Int)) ∧ QAt lo hi w' B ⟨r, st, n + 1⟩ ∧ Turn B W w' := by
  obtain ⟨ao, c, hb, h1, h2, h3, h4⟩ := h.lies
  obtain ⟨G, off, cs, rfl, hg1, hg2, hg3, hg4, hg5⟩ := h4.head
  have c2 : W.cell? ⟨B, 2, none⟩ = some (.int .i64 (n : Int)) := hb.cell 2
  have f2 := hb.free 2
  have en : wrap64 ((n : Int) + 1) = ((n + 1 : Nat) : Int) := IntWalk.wrap64_in _ ⟨by omega, by omega⟩
  have c1 : W.cell? ⟨B, 0, none⟩ = some (.slice (some ⟨G, off, none⟩) ((r.length + 1 : Nat) : Int).toNat c) := hb.cell 0
  have f1 := hb.free 0
  have hne : G ≠ B := Bx.apart hg3 hb (Ne.symm qb_row)
  have HB := Lib.hid hb
  have HX := Lib.hid h
  unfold red
  clear h hb h4
  by_cases h0 : q = 0
  · rw [if_pos h0]
    subst h0
    go_enter Try.func19, Try.ntmps19
    go_wp2_with fail
    all_goals
      go_ret
    · rename_i hc1
      refine ⟨rfl, rcons_end HX.out HB.out hg1 hg2 hg3 hg5 _ (fun hr => ?_) 0 (by have : r.length + 1 ≤ c := h1; omega) (by omega)⟩
      have : r.length + 1 ≤ c := h1
      have := List.length_pos_iff.2 hr
      omega
    · exact ⟨rfl, rcons_end HX.out HB.out hg1 hg2 hg3 hg5 _ (fun _ => rfl) _ (by have : r.length + 1 ≤ c := h1; omega) (by omega)⟩
  · rw [if_neg h0]
    have hqi : (0 : Int) < (q : Int) := by omega
    have hqn : 0 < q := by omega
    go_enter Try.func19, Try.ntmps19
    go_wp2_with fail
    all_goals
      go_ret
    · rename_i hc1
      refine ⟨rfl, rcons_end HX.out HB.out hg1 hg2 hg3 hg5 _ (fun hr => ?_) 0 (by have : r.length + 1 ≤ c := h1; omega) (by omega)⟩
      have : r.length + 1 ≤ c := h1
      have := List.length_pos_iff.2 hr
      omega
    · exact ⟨rfl, rcons_end HX.out HB.out hg1 hg2 hg3 hg5 _ (fun _ => rfl) _ (by have : r.length + 1 ≤ c := h1; omega) (by omega)⟩
set_option maxHeartbeats 2000000 in
set_option maxRecDepth 100000 in
theorem rnext_nil (lo hi B q : Nat) (st n : Nat) (hq : q < 18446744073709551616) (hn : n < 4611686018427387904) (W : World) (h : QAt lo hi W B ⟨[], st, n⟩) :
    Calls Try.prog 19 #[ptr B, .int .u64 (q : Int)] W fun e w' => e = .returned (.int .u64 ((red (mix (acc q (nxt st))) q : Nat) : Int)) ∧ QAt lo hi w' B ⟨[], acc q (nxt st), n + 1⟩ ∧ Turn B W w' := by
  obtain ⟨ao, c, hb, h1, h2, h3, h4⟩ := h.lies
  have c2 : W.cell? ⟨B, 2, none⟩ = some (.int .i64 (n : Int)) := hb.cell 2
  have f2 := hb.free 2
  have en : wrap64 ((n : Int) + 1) = ((n + 1 : Nat) : Int) := IntWalk.wrap64_in _ ⟨by omega, by omega⟩
  have c1 : W.cell? ⟨B, 0, none⟩ = some (.slice ao 0 c) := hb.cell 0
  have HB0 : Hid (Bx QB B #[.slice ao 0 c, .int .u64 (st : Int), .int .i64 ((n : Int) + 1)] (W.setCell ⟨B, 2, none⟩ (.int .i64 ((n : Int) + 1)))) := Lib.hid (hb.put 2 _)
  have HT0 := Lib.hid ((Turn.refl B W).set 2 (.int .i64 ((n : Int) + 1)))
  obtain ⟨A, hA⟩ : ∃ A, acc q (nxt st) = A := ⟨_, rfl⟩
  rw [hA]
  have HA := Lib.hid hA
  have HX := Lib.hid h
  obtain ⟨R, hR⟩ : ∃ R, red (mix A) q = R := ⟨_, rfl⟩
  rw [hR]
  have HRR := Lib.hid hR
  clear h hb h4 hA hR
  go_enter Try.func19, Try.ntmps19
  go_wp2_with fail
  go_loopw [6, 7] (fun s6 s7 wx => ∃ s : Nat, s < 18446744073709551616 ∧ Hid (acc q (nxt s) = A) ∧ Hid (Bx QB B #[.slice ao 0 c, .int .u64 (s : Int), .int .i64 ((n : Int) + 1)] wx) ∧ Hid (Turn B W wx)) (fun _ _ wx => left (nxt (stOf wx B 1)))
  case atStart => exact ⟨st, HX.out.ok.st, HA, HB0, HT0⟩
  case round =>
    rename_i wr
    clear HB0 HT0 HA
    obtain ⟨s, hs, HA, HB, HT⟩ := hrel
    have hst := stOf_is (w := wr) (B := B) (j := 1) (HB.out.cell 1)
    have HN := Lib.hid (own_any B s (.slice ao 0 c) (.int .i64 ((n : Int) + 1)) wr HB.out)
    have hz := mix_lt (nxt s)
    by_cases h0 : q = 0
    · have hq0 : ((q : Int) == 0) = true := by simpa using h0
      have ht0 : taken q (mix (nxt s)) = true := by unfold taken; rw [decide_eq_true h0]; rfl
      have ha1 := acc_yes ht0
      rw [HA.out] at ha1
      rw [← ha1] at HN
      have hr0 : mix A = R := by rw [← HRR.out, red, if_pos h0]
      rw [hr0] at HN
      have HS := Lib.hid (show A < 18446744073709551616 by rw [ha1]; exact nxt_lt s)
      clear ht0 hr0 ha1 hz h0 hst hs hq
      go_wp2_with (go_at_call 27; (with_reducible refine (HN.out).mono ?_); rintro e w1 ⟨rfl, hb, ht⟩; have HB1 := Lib.hid hb; have HT1 := Lib.hid (HT.out.trans ht); clear hb ht)
      go_ret
      exact ⟨rfl, ⟨⟨fun x hx => (by cases hx), HS.out⟩, HX.out.box, ao, c, HB1.out, h1, h2, fun e => ⟨rfl, (h3 e).2⟩, RowAt.nil _ _ _ _⟩, HT1.out⟩
    · have h0i : ¬ (q : Int) = 0 := by omega
      have hq0 : ((q : Int) == 0) = false := by simpa using h0
      have htb := taken_base (q := q) (by omega) hq hz
      have hs2 := nxt_lt s
      obtain ⟨z, hzz⟩ : ∃ z, mix (nxt s) = z := ⟨_, rfl⟩
      have e0 : ((z : Nat) : Int) % (q : Int) = ((z % q : Nat) : Int) := rfl
      have hpq : z % q < q := Nat.mod_lt _ (by omega)
      have hpz : z % q ≤ z := Nat.mod_le _ _
      have hred : z % q = red z q := by unfold red; rw [if_neg h0]
      rw [hzz] at htb hz
      have e1 : IntKind.u64.wrap ((z : Int) - ((z % q : Nat) : Int)) = ((z - z % q : Nat) : Int) := by rw [IntKind.wrap_u64]; generalize z % q = p at *; omega
      have e2 : IntKind.u64.wrap ((q : Int) - 1) = ((q - 1 : Nat) : Int) := by rw [IntKind.wrap_u64]; omega
      have e3 : IntKind.u64.wrap (((z - z % q : Nat) : Int) + ((q - 1 : Nat) : Int)) = (((z - z % q + (q - 1)) % 18446744073709551616 : Nat) : Int) := by rw [IntKind.wrap_u64]; generalize z - z % q = b at *; omega
      have e4 : IntKind.u64.wrap ((z : Int) - ((z - z % q : Nat) : Int)) = ((z % q : Nat) : Int) := by rw [IntKind.wrap_u64]; generalize z % q = p at *; omega
      cases htk : taken q z with
      | true =>
        have hle : z - z % q + (q - 1) < 18446744073709551616 := of_decide_eq_true (htb.symm.trans htk)
        have hge : z - z % q ≤ (z - z % q + (q - 1)) % 18446744073709551616 := by rw [Nat.mod_eq_of_lt hle]; omega
        have ha1 := acc_yes (q := q) (s := nxt s) (by rw [hzz]; exact htk)
        rw [HA.out] at ha1
        have HR : Hid (z % q = R) := Lib.hid (by rw [hred, ← HRR.out, ha1, hzz])
        have HN2 := HN
        rw [hzz, ← ha1] at HN2
        generalize (z - z % q + (q - 1)) % 18446744073709551616 = m at *
        generalize z - z % q = b at *
        generalize z % q = p at *
        generalize q - 1 = q1 at *
        have HA1 := Lib.hid ha1
        have HS2 := Lib.hid hs2
        clear htb htk hle hred hpq hpz HN hzz ha1 hs2 hz hst hs hq
        have hgi : (b : Int) ≤ (m : Int) := by omega
        clear hge
        go_wp2_with (go_at_call 27; (with_reducible refine (HN2.out).mono ?_); rintro e w1 ⟨rfl, hb, ht⟩; have HB1 := Lib.hid hb; have HT1 := Lib.hid (HT.out.trans ht); clear hb ht)
        go_ret
        rw [← HR.out]
        exact ⟨rfl, ⟨⟨fun x hx => (by cases hx), by rw [HA1.out]; exact HS2.out⟩, HX.out.box, ao, c, HB1.out, h1, h2, fun e => ⟨rfl, (h3 e).2⟩, RowAt.nil _ _ _ _⟩, HT1.out⟩
      | false =>
        have hle : ¬ z - z % q + (q - 1) < 18446744073709551616 := of_decide_eq_false (htb.symm.trans htk)
        have hge : (z - z % q + (q - 1)) % 18446744073709551616 < z - z % q := by
          generalize z % q = p at *
          clear e0 e1 e2 e3 e4
          obtain ⟨b, hb⟩ : ∃ b, z - p = b := ⟨_, rfl⟩
          rw [hb] at hle ⊢
          omega
        obtain ⟨ha1, ha2⟩ := acc_no (q := q) (s := nxt s) hs2 (by rw [hzz]; exact htk)
        rw [HA.out] at ha1
        have HA2 := Lib.hid ha1.symm
        have HM := Lib.hid ha2
        rw [hzz] at HN
        generalize (z - z % q + (q - 1)) % 18446744073709551616 = m at *
        generalize z - z % q = b at *
        generalize z % q = p at *
        generalize q - 1 = q1 at *
        have HS2 := Lib.hid hs2
        have HST := Lib.hid hst
        have hgi : ¬ (b : Int) ≤ (m : Int) := by omega
        have hgd : decide ((b : Int) ≤ (m : Int)) = false := decide_eq_false hgi
        have hgn : ¬ b ≤ m := by omega
        clear htb htk hle hred hpq hpz hzz ha1 ha2 hz hst hs hq hge hs2
        go_wp2_with (go_at_call 27; (with_reducible refine (HN.out).mono ?_); rintro e w1 ⟨rfl, hb, ht⟩; have HB1 := Lib.hid hb; have HT1 := Lib.hid (HT.out.trans ht); clear hb ht)
        go_roundw
        case rel => exact ⟨nxt s, HS2.out, HA2, HB1, HT1⟩
        case measure =>
          rw [HST.out, stOf_is (HB1.out.cell 1)]
          have := HM.out
          omega
/-- Next, whatever tape and bound. -/
theorem rnext_any {lo hi B : Nat} {t : Tp} {W : World} (h : QAt lo hi W B t) (q : Nat) (hq : q < 18446744073709551616) (hn : t.n < 4611686018427387904) :
    Calls Try.prog 19 #[ptr B, .int .u64 (q : Int)] W fun e w' => e = .returned (.int .u64 ((t.val q : Nat) : Int)) ∧ QAt lo hi w' B (t.next q) ∧ Turn B W w' := by
  obtain ⟨fs, st, n⟩ := t
  cases fs with
  | nil => exact rnext_nil lo hi B q st n hq hn W h
  | cons x r => exact rnext_cons lo hi B x q r st n hn W h
end M
end Go.Proofs.Ytbappohnljlchaa

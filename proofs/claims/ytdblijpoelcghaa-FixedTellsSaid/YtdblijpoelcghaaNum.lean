/- What calls answer at whatever modulus, rows of numbers that a slice reads, and calls that make new memory at most. -/
import Derived.Test.YtdblijpoelcghaaModRet
import Derived.Test.YtdblijpoelcghaaGrpMath
import Derived.Below
import Derived.Laws.Rows
import Derived.Deep.RegionHeld
import Derived.LoopTactic
import Derived.LoopN
import Derived.Deep.QuietTactic
import Derived.BigQuiet
namespace Go.Proofs.Ytdblijpoelcghaa
open Go Go.RowKit Go.Lib
namespace M
/-- A call that answers v in every world and makes new memory at most: what was there stays. A plain definition: the walk does not look into it. -/
def RetB (f : FuncId) (args : Array Value) (v : Value) : Prop := ∀ W : World, Calls Try.prog f args W fun e w' => e = .returned v ∧ Below W.heap.size W w'
theorem RetB.at {f : FuncId} {args : Array Value} {v : Value} (h : RetB f args v) (W : World) : Calls Try.prog f args W fun e w' => e = .returned v ∧ Below W.heap.size W w' := h W
theorem below_drewN (w : World) (n : Nat) : Below w.heap.size w (w.drewN n) := ⟨rfl, rfl, rfl, Nat.le_refl _, fun _ _ => rfl⟩
theorem Ret.toB {f : FuncId} {args : Array Value} {v : Value} (h : Ret f args v) : RetB f args v := fun W => (h W).mono fun _ _ ⟨he, n, hn⟩ => ⟨he, by rw [hn]; exact below_drewN _ _⟩
theorem bcell {W w1 : World} (hb : Below W.heap.size W w1) : (∀ b o, b < W.heap.size → w1.cell? ⟨b, o, none⟩ = W.cell? ⟨b, o, none⟩) ∧ (∀ b o, b < W.heap.size → w1.frozen? ⟨b, o, none⟩ = W.frozen? ⟨b, o, none⟩) :=
  ⟨fun b o h => hb.cell (p := ⟨b, o, none⟩) h, fun b o h => hb.frozen (p := ⟨b, o, none⟩) h⟩
theorem setCell_drewN (w : World) (n : Nat) (a : Addr) (v : Value) : (w.drewN n).setCell a v = (w.setCell a v).drewN n := rfl
theorem alloc_drewN (w : World) (n : Nat) (o : Obj) : (w.drewN n).alloc o = (w.alloc o).drewN n := rfl
theorem below_drewN' (w : World) (n B : Nat) : Below B w (w.drewN n) := ⟨rfl, rfl, rfl, Nat.le_refl _, fun _ _ => rfl⟩
theorem row_lt {w : World} {b : Nat} {o : Obj} (h : w.heap[b]? = some o) : b < w.heap.size := by
  rcases Nat.lt_or_ge b w.heap.size with h' | h'
  · exact h'
  · rw [Array.getElem?_eq_none h'] at h; cases h
theorem below_box (w : World) (o : Obj) : Below w.heap.size w (w.alloc o) := (Below.refl _ _).alloc (Nat.le_refl _) _
theorem Below.drawn {B : Nat} {w w' : World} (h : Below B w w') (n : Nat) : Below B w (w'.drewN n) := h.trans (below_drewN' w' n _)

theorem ret_addU (a b m : Nat) : Ret 34 #[.int .u64 (a : Int), .int .u64 (b : Int), .int .u64 (m : Int)] (.int .u64 ((MM.addU a b m : Nat) : Int)) := by
  unfold MM.addU
  by_cases h : MM.Good m
  · rw [if_pos h]; exact ret_add a b m _ h.1 h.2 rfl
  · rw [if_neg h]; exact ret_no_add a b m (MM.good_not h)
theorem ret_mulU (a b m : Nat) (ha : a < 18446744073709551616) (hb : b < 18446744073709551616) : Ret 35 #[.int .u64 (a : Int), .int .u64 (b : Int), .int .u64 (m : Int)] (.int .u64 ((MM.mulU a b m : Nat) : Int)) := by
  unfold MM.mulU
  by_cases h : MM.Good m
  · rw [if_pos h]; exact ret_mul a b m _ h.1 h.2 ha hb rfl
  · rw [if_neg h]; exact ret_no_mul a b m (MM.good_not h)
/-- A row of numbers that a slice reads. -/
def Row (W : World) (a : Addr) (n : Nat) (z : Nat → Nat) : Prop := ∀ t, t < n → W.cell? (a.add t) = some (.int .u64 (z t : Int))
theorem Row.below {W W' : World} {a : Addr} {n : Nat} {z : Nat → Nat} (h : Row W a n z) (hb : Below W.heap.size W W') : Row W' a n z := fun t ht => by
  have h1 := h t ht
  have hs : (a.add t).block < W.heap.size := World.block_lt_of_cell? W _ h1
  rw [hb.cell hs]; exact h1
theorem Row.of_block {W : World} {b : Nat} {cs : Array Value} {t : TypeId} {n : Nat} {z : Nat → Nat} (h : W.heap[b]? = some (.cells cs t (0, 0))) (hz : ∀ k, k < n → cs[k]? = some (.int .u64 (z k : Int))) : Row W ⟨b, 0, none⟩ n z := fun k hk => by
  have e : (⟨b, 0, none⟩ : Addr).add k = ⟨b, k, none⟩ := by
    unfold Addr.add
    by_cases h0 : k = 0
    · subst h0; rfl
    · rw [if_neg h0]; simp
  rw [e, cell_of_row W b k _ _ _ h, hz k hk]

theorem row_cell {W : World} {b : Nat} {n : Nat} {z : Nat → Nat} (h : Row W ⟨b, 0, none⟩ n z) {k : Nat} (hk : k < n) : W.cell? ⟨b, k, none⟩ = some (.int .u64 ((z k : Nat) : Int)) := by
  have e : (⟨b, 0, none⟩ : Addr).add k = ⟨b, k, none⟩ := by
    unfold Addr.add
    by_cases h0 : k = 0
    · subst h0; rfl
    · rw [if_neg h0]; simp
  rw [← e]; exact h k hk
end M
end Go.Proofs.Ytdblijpoelcghaa

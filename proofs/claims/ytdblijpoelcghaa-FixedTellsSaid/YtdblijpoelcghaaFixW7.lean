/- The walk of what adds a product to a sum, as the program has it: the closure, and what makes it. -/
import Derived.Test.YtdblijpoelcghaaFixW4
import Derived.Test.YtdblijpoelcghaaRegX
namespace Go.Proofs.Ytdblijpoelcghaa
open Go Go.RowKit Go.Lib
namespace M
attribute [local go_sem] Oper.semAt_some
/-- What the closure holds: three cells. -/
structure Held (w : World) (a0 a1 a2 : Nat) (lo : Option Addr) (ln lc off q : Nat) : Prop where
  off : w.cell? ⟨a0, 0, none⟩ = some (.int .i64 (off : Int))
  vals : w.cell? ⟨a1, 0, none⟩ = some (.slice lo ln lc)
  q : w.cell? ⟨a2, 0, none⟩ = some (.int .u64 (q : Int))
set_option maxHeartbeats 4000000 in
theorem add1_any (a0 a1 a2 : Nat) (lo : Option Addr) (ln lc off q s i n : Nat) (l : Nat → Nat) (hl : ∀ j, l j < 18446744073709551616) (hn : n < 18446744073709551616) (ho : off ≤ 1000) (hi : i ≤ 1000) (W : World) (hh : Held W a0 a1 a2 lo ln lc off q) (hr : Rd W lo ln l) :
    Calls Try.prog 49 #[.int .u64 (s : Int), .int .i64 (i : Int), .int .u64 (n : Int), .pointer (some ⟨a0, 0, none⟩), .pointer (some ⟨a1, 0, none⟩), .pointer (some ⟨a2, 0, none⟩)] W fun e w' => e = .returned (.int .u64 ((if off + i < ln then MM.addU s (MM.mulU (l (off + i)) n q) q else s : Nat) : Int)) ∧ ∃ m, w' = W.drewN m := by
  obtain ⟨h0, h1, h2⟩ := hh
  have hw : IntKind.i64.wrap ((off : Int) + (i : Int)) = ((off + i : Nat) : Int) := by rw [IntWalk.i64_in _ (by omega)]; rfl
  obtain ⟨t, ht⟩ : ∃ t, off + i = t := ⟨_, rfl⟩
  rw [ht] at hw ⊢
  clear ht
  by_cases hlt : t < ln
  · rw [if_pos hlt]
    obtain ⟨ad, rfl, hc⟩ := hr.at_ hlt
    have HM := ret_mulU (l t) n q (hl t) hn
    have HA := ret_addU s (MM.mulU (l t) n q) q
    generalize MM.mulU (l t) n q = x1 at *
    generalize MM.addU s x1 q = x2 at *
    generalize l t = lt at *
    have ht0 : (0 : Int) ≤ (t : Int) := Int.natCast_nonneg _
    have htI : (t : Int) < (ln : Int) := by omega
    clear hr hl
    go_enter Try.func49, Try.ntmps49
    go_upto_region 3 with fail
    go_quiet (first | (go_at_call 35; exact (HM).quiet) | (go_at_call 34; exact (HA).quiet))
    go_wp2_with fail
    go_ret
    exact ⟨rfl, _, rfl⟩
  · rw [if_neg hlt]
    have htI : ¬ (t : Int) < (ln : Int) := by omega
    clear hr hl
    go_enter Try.func49, Try.ntmps49
    go_wp2_with fail
    go_ret
    exact ⟨rfl, 0, rfl⟩
/-- What a call of adder hands back. -/
def Adder (W : World) (lo : Option Addr) (ln lc off q : Nat) (e : Ending) (w' : World) : Prop := ∃ a0 a1 a2, e = .returned (.func (Fn.func 49) #[] #[.pointer (some ⟨a0, 0, none⟩), .pointer (some ⟨a1, 0, none⟩), .pointer (some ⟨a2, 0, none⟩)]) ∧
  Held w' a0 a1 a2 lo ln lc off q ∧ W.heap.size ≤ a0 ∧ W.heap.size ≤ a1 ∧ W.heap.size ≤ a2 ∧ Below W.heap.size W w'
theorem adder_any (lo : Option Addr) (ln lc off q : Nat) (W : World) : Calls Try.prog 39 #[.slice lo ln lc, .int .i64 (off : Int), .int .u64 (q : Int)] W (Adder W lo ln lc off q) := by
  have b1 := below_box W (.cells #[.slice lo ln lc] 39)
  have n1 := heap_alloc_new W (.cells #[.slice lo ln lc] 39)
  obtain ⟨W1, hW1⟩ : ∃ W1, W.alloc (.cells #[.slice lo ln lc] 39) = W1 := ⟨_, rfl⟩
  have s1 : W1.heap.size = W.heap.size + 1 := by rw [← hW1, World.size_alloc]
  have b2 := below_box W1 (.cells #[.int .i64 (off : Int)] 3)
  have n2 := heap_alloc_new W1 (.cells #[.int .i64 (off : Int)] 3)
  obtain ⟨W2, hW2⟩ : ∃ W2, W1.alloc (.cells #[.int .i64 (off : Int)] 3) = W2 := ⟨_, rfl⟩
  have s2 : W2.heap.size = W1.heap.size + 1 := by rw [← hW2, World.size_alloc]
  have b3 := below_box W2 (.cells #[.int .u64 (q : Int)] 23)
  have n3 := heap_alloc_new W2 (.cells #[.int .u64 (q : Int)] 23)
  obtain ⟨W3, hW3⟩ : ∃ W3, W2.alloc (.cells #[.int .u64 (q : Int)] 23) = W3 := ⟨_, rfl⟩
  rw [hW1] at b1 n1
  rw [hW2, s1] at n2
  rw [hW2] at b2
  rw [hW3] at b3
  rw [hW3, s2, s1] at n3
  have HE : Hid (Adder W lo ln lc off q (.returned (.func (Fn.func 49) #[] #[.pointer (some ⟨W.heap.size + 1, 0, none⟩), .pointer (some ⟨W.heap.size, 0, none⟩), .pointer (some ⟨W.heap.size + 1 + 1, 0, none⟩)])) W3) := Lib.hid (by
    have n2' := (b3.block _ (row_lt n2)).trans n2
    have n1' := (b3.block _ (by have := row_lt n1; omega)).trans ((b2.block _ (row_lt n1)).trans n1)
    exact ⟨_, _, _, rfl, ⟨(cell_of_row W3 _ 0 _ _ _ n2').trans rfl, (cell_of_row W3 _ 0 _ _ _ n1').trans rfl, (cell_of_row W3 _ 0 _ _ _ n3).trans rfl⟩, by omega, by omega, by omega, b1.trans ((b2.mono (by omega)).trans (b3.mono (by omega)))⟩)
  subst hW3; subst hW2; subst hW1
  clear b1 n1 b2 n2 b3 n3 s1 s2
  go_enter Try.func39, Try.ntmps39
  go_wp2_with fail
  go_ret
  exact HE.out
theorem Kept.trans {B : Nat} {W w w' : World} (h : Kept B W w) (h' : Kept B w w') (hs : W.heap.size ≤ w.heap.size) : Kept B W w' := fun k a b => (h' k (by omega) b).trans (h k a b)
theorem Held.kept {w w' : World} {a0 a1 a2 B : Nat} {lo : Option Addr} {ln lc off q : Nat} (h : Held w a0 a1 a2 lo ln lc off q) (hk : Kept B w w') (h0 : a0 ≠ B) (h1 : a1 ≠ B) (h2 : a2 ≠ B) : Held w' a0 a1 a2 lo ln lc off q := by
  have st : ∀ (a : Nat) (v : Value), a ≠ B → w.cell? ⟨a, 0, none⟩ = some v → w'.cell? ⟨a, 0, none⟩ = some v := fun a v hn hc => by
    have hlt : a < w.heap.size := World.block_lt_of_cell? w _ hc
    rw [← hc]
    unfold World.cell?
    simp only [hk a hlt hn]
  exact ⟨st _ _ h0 h.off, st _ _ h1 h.vals, st _ _ h2 h.q⟩
theorem Mine.kept {w0 w w' : World} {B B2 n : Nat} {z : Nat → Nat} (h : Mine w0 B2 n z w) (hk : Kept B w w') (hne : B2 ≠ B) (hb : Below w0.heap.size w0 w') : Mine w0 B2 n z w' :=
  ⟨by obtain ⟨cs, h1, h2⟩ := h.block; exact ⟨cs, (hk B2 (row_lt h1) hne).trans h1, h2⟩, h.low, hb⟩
end M
end Go.Proofs.Ytdblijpoelcghaa

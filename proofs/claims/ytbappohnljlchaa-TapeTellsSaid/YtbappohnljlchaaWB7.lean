/- The texts TapRow, one behind the other. -/
import Derived.Test.YtbappohnljlchaaWB5
import Derived.Test.YtbappohnljlchaaWB6
/- A row that grows beside tapes; what a tape's draws read of numbers that came in. -/
namespace Go.Proofs.Ytbappohnljlchaa
open Go Go.RowKit Go.Lib
namespace M
open MM
theorem TS.lowb {W w w' : World} {lo hi b : Nat} {L : List (Bool × Nat × Tp)} (h : TS W lo hi L w) (hb : Below b w w') (hh : hi ≤ b) : TS W lo hi L w' :=
  ⟨fun j x hx => by
    have := h.each j x hx
    cases hk : x.1 with
    | true => rw [hk] at this; exact PAt.low this hb hh
    | false => rw [hk] at this; exact QAt.low this hb hh, h.apart, h.low, h.mid, Nat.le_trans h.top hb.size, h.below.trans (hb.mono (by have := h.low; have := h.mid; omega))⟩
/-- The world without memory. -/
def bare (W : World) : World := { W with heap := #[] }
theorem Own.bare0 {W w : World} (hb : Below W.heap.size W w) (z : Nat → Nat) : Own (bare W) w.heap.size (.slice none 0 0) 0 z w := ⟨⟨by simp [zlist], .inl ⟨rfl, rfl⟩⟩, Nat.le_refl _, Nat.zero_le _, ⟨hb.os, hb.tape, hb.output, Nat.zero_le _, fun k hk => absurd hk (Nat.not_lt_zero _)⟩⟩
/-- Next on one of the program's tapes; a row that grows is kept. -/
theorem TS.nextO {W w : World} {lo hi : Nat} {L : List (Bool × Nat × Tp)} {B : Nat} {t : Tp} {b k : Nat} {v : Value} {z : Nat → Nat} (h : TS W lo hi L w) (ho : Own (bare W) b v k z w) {i : Nat} (hL : L[i]? = some (true, B, t)) (q : Nat) (hq : q < 18446744073709551616) (hn : t.n < 4611686018427387904) :
    Calls Try.prog 11 #[ptr B, .int .u64 (q : Int)] w fun e w' => e = .returned (.int .u64 ((t.val q : Nat) : Int)) ∧ TS W lo hi (L.set i (true, B, t.next q)) w' ∧ Own (bare W) b v k z w' := by
  obtain ⟨T, cs, hbx, hT⟩ := (h.each i _ hL).bx
  exact (h.next hL q hq hn).mono fun _ _ ⟨x, y, ht⟩ => ⟨x, y, ho.turn ht hbx hT (Nat.zero_le _)⟩
theorem TS.atn {W w : World} {lo hi : Nat} {L : List (Bool × Nat × Tp)} {B : Nat} {t : Tp} (h : TS W lo hi L w) {i : Nat} (hL : L[i]? = some (true, B, t)) (m : Nat) (hm : t.n = m) : Calls Try.prog 13 #[ptr B] w fun e w' => e = .returned (.int .i64 (m : Int)) ∧ w' = w := by
  rw [← hm]
  exact h.at_ hL
theorem fs_next (t : Tp) (q : Nat) : (t.next q).fs.length ≤ t.fs.length := by
  obtain ⟨fs, st, n⟩ := t
  cases fs with
  | nil => rw [Tp.next_nil]; exact Nat.le_refl _
  | cons x r => rw [Tp.next_cons]; exact Nat.le_succ _
theorem fs_run (t : Tp) (q : Nat → Nat) : ∀ k, (t.run q k).fs.length ≤ t.fs.length
  | 0 => Nat.le_refl _
  | k + 1 => Nat.le_trans (fs_next _ _) (fs_run t q k)
end M
end Go.Proofs.Ytbappohnljlchaa

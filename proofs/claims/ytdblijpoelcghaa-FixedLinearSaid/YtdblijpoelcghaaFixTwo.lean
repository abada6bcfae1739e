/- Two rows of numbers that a call makes by appends, side by side. -/
import Derived.Test.YtdblijpoelcghaaFixPush
import Derived.Maps.AppendAt
namespace Go.Proofs.Ytdblijpoelcghaa
open Go Go.RowKit Go.Lib
namespace M
/-- Two rows, in blocks of their own. -/
structure Duo (w0 : World) (x y : Value) (k m : Nat) (f g : Nat → Nat) (w : World) : Prop where
  one : Own w0 w0.heap.size x k f w
  two : Own w0 w0.heap.size y m g w
  apart : ∀ b, x.ownBlock = some b → y.ownBlock = some b → False
section
variable {w0 w w' : World} {x y : Value} {k m : Nat} {f g : Nat → Nat}
theorem Duo.start (w0 : World) (f g : Nat → Nat) : Duo w0 (.slice none 0 0) (.slice none 0 0) 0 0 f g w0 := ⟨Own.start w0 f, Own.start w0 g, fun b h => by cases h⟩
theorem Duo.step (h : Duo w0 x y k m f g w) (hb : Below w.heap.size w w') : Duo w0 x y k m f g w' := ⟨h.one.step hb, h.two.step hb, h.apart⟩
theorem Duo.swap (h : Duo w0 x y k m f g w) : Duo w0 y x m k g f w := ⟨h.two, h.one, fun b h1 h2 => h.apart b h2 h1⟩
theorem Duo.left (h : Duo w0 x y k m f g w) (hk : k ≤ 1000) (c : Nat) :
    ∃ x' w', (Builtin.append_ #[39, 39] 39 #[x, .slice (some ⟨w.heap.size, 0, none⟩) 1 c]).run Try.prog (w.alloc (.cells #[.int .u64 ((f k : Nat) : Int)] 23)) = .ok x' w' ∧ Duo w0 x' y (k + 1) m f g w' := by
  obtain ⟨i0, hi, hz0, hz1, hz2⟩ := info_parts info_u64
  have ha := h.step (below_box w (.cells #[.int .u64 ((f k : Nat) : Int)] 23))
  obtain ⟨x', w', hr, ho, hg, _, hb⟩ := run_append_own_at (P := Try.prog) _ w0.heap.size 39 39 23 i0 (.int .u64 0) 1 8 Try.underlying39 hi hz0 hz1 hz2 rfl (by decide) x k (zlist k f) ha.one.own ⟨w.heap.size, 0, none⟩ 1 c [.int .u64 ((f k : Nat) : Int)] rfl (fun j u hj => by
    have hl := (List.getElem?_eq_some_iff.1 hj).1
    obtain rfl : j = 0 := by simpa using hl
    cases hj
    rw [show (⟨w.heap.size, 0, none⟩ : Addr).add 0 = ⟨w.heap.size, 0, none⟩ from rfl, cell_of_row _ _ _ _ _ _ (heap_alloc_new w _)]; rfl) (by simp [Value.oneCell']) (by unfold maxLen; omega) (by omega) ha.one.size
  have hw := ha.one.grow ho (zlist_succ k f) hg
  refine ⟨x', w', hr, hw, ⟨?_, Nat.le_trans ha.two.size hg.size, h.two.low, hw.below⟩, fun b h1 h2 => ?_⟩
  · refine ha.two.own.kept (row := x.ownBlock) hg ?_
    cases e : y.ownBlock with
    | none => exact .inl rfl
    | some b => exact .inr fun e2 => h.apart b e2.symm e
  · rcases hb with hb | hb
    · exact h.apart b (hb ▸ h1) h2
    · have := (ha.two.own.lt b h2).2
      rw [hb] at h1
      have : (w.alloc (.cells #[.int .u64 ((f k : Nat) : Int)] 23)).heap.size = b := by simpa using h1
      omega
end
end M
end Go.Proofs.Ytdblijpoelcghaa

/- How rows of numbers that come in are opened, where no parameters are about. -/
import Derived.Test.YtccpdjjgpkkkbaaNum
import Derived.ProofKit
import Derived.OpenShut
import Derived.ChangeOld
import Derived.ChangeSlices
namespace Go.Proofs.Ytccpdjjgpkkkbaa
open Go.ChangeShapes Go.WideShapes Go.ChangeAt Go.RowKit
namespace M
theorem laidOut : laidOutB Try.prog = true := by kernel_rfl
/-- A row of numbers that came in: nil, or a slice whose cells read as numbers. -/
def NumsIn (w : World) (v : Value) : Prop := v = .slice none 0 0 ∨ ∃ (a : Addr) (n cap : Nat) (z : Nat → Nat), v = .slice (some a) n cap ∧ n ≤ 9223372036854775807 ∧ (∀ k, z k < 18446744073709551616) ∧ Row w a n z
set_option maxRecDepth 100000 in
theorem open_nums {H : Type} {enc : TypeId × Value → H} {w : World} {base : Nat} {spare : Nat → Bool} {held : Bool} {r : Reach} {b0 : Nat} {v : Value} {d : DataW H} {pl : List MemPlace}
    (hv : Value.okWide Try.prog w r b0 23 v) (h : DataW.Trod enc Try.prog w base spare held 23 v d pl) : NumsIn w v := by
  obtain ⟨ad, len0, cap0, rfl⟩ := okWide_slice Try.underlying23 hv
  obtain ⟨fuel, hf⟩ := h
  rcases open_ints Try.underlying23 Try.underlying22 (by kernel_rfl) hf with ⟨hcs, _⟩ | ⟨a, len, cap, zs, hcs, _, hl, hm, hz, _, hcell, hwf⟩
  · simp [Value.cells] at hcs
    obtain ⟨rfl, rfl, rfl⟩ := hcs
    exact .inl rfl
  · simp [Value.cells] at hcs
    obtain ⟨rfl, rfl, rfl⟩ := hcs
    have hle : len0 ≤ zs.length := by rw [hz]; split <;> omega
    unfold maxLen at hm
    have hb : ∀ k, k < zs.length → 0 ≤ zs.getD k 0 ∧ zs.getD k 0 ≤ 18446744073709551615 := fun k hk => by
      have hmem : zs.getD k 0 ∈ zs := by rw [List.getD_eq_getElem?_getD, List.getElem?_eq_getElem hk]; exact List.getElem_mem hk
      exact M.u64_bounds (hwf _ hmem)
    refine .inr ⟨a, len0, cap0, fun k => if k < zs.length then (zs.getD k 0).toNat else 0, rfl, by omega, fun k => ?_, fun k hk => ?_⟩
    · by_cases h : k < zs.length
      · have := hb k h; simp only [if_pos h]; omega
      · simp only [if_neg h]; omega
    · have h : k < zs.length := by omega
      have := hb k h
      rw [hcell k h]
      simp only [if_pos h]
      congr 2
      omega
end M
end Go.Proofs.Ytccpdjjgpkkkbaa

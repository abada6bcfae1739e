/- How lists of lists of numbers that come in are opened. -/
import Derived.Test.YtccpdjjgpkkkbaaOpenN
import Derived.Test.YtccpdjjgpkkkbaaBivOwn
import Derived.Deep.Matrix
namespace Go.Proofs.Ytccpdjjgpkkkbaa
open Go.ChangeShapes Go.WideShapes Go.ChangeAt Go.RowKit Go.Deep
namespace M
/-- A list of lists that came in. -/
def MatIn (w : World) (v : Value) : Prop := ∃ (ao : Option Addr) (m c : Nat) (L : Nat → Nat) (F : Nat → Nat → Nat), v = .slice ao m c ∧ m ≤ 9223372036854775807 ∧ (∀ i, L i ≤ 9223372036854775807) ∧ (∀ i j, F i j < 18446744073709551616) ∧ Mat w ao m L F ∧ (ao = none → m = 0 ∧ c = 0)
set_option maxRecDepth 100000 in
theorem open_rows {H : Type} {enc : TypeId × Value → H} {w : World} {base : Nat} {held : Bool} {r : Reach} {b0 : Nat} {v : Value} {d : DataW H} {pl : List MemPlace}
    (hv : Value.okWide Try.prog w r b0 24 v) (h : DataW.Trod enc Try.prog w base (fun _ => true) held 24 v d pl) : MatIn w v := by
  obtain ⟨ad, len0, cap0, rfl⟩ := okWide_slice Try.underlying24 hv
  obtain ⟨fuel, hf⟩ := h
  rcases open_int_rows Try.underlying24 Try.underlying23 Try.underlying22 (by kernel_rfl) (by kernel_rfl) hf with ⟨hcs, _⟩ | ⟨a, len, cap, A, L, C, Z, hcs, _, hl, hm, _, hx⟩
  · simp [Value.cells] at hcs
    obtain ⟨rfl, rfl, rfl⟩ := hcs
    exact ⟨none, 0, 0, fun _ => 0, fun _ _ => 0, rfl, by omega, fun _ => Nat.zero_le _, fun _ _ => Nat.zero_lt_succ _, fun _ h => absurd h (by omega), fun _ => ⟨rfl, rfl⟩⟩
  · simp [Value.cells] at hcs
    obtain ⟨rfl, rfl, rfl⟩ := hcs
    unfold maxLen at hm hx
    have hb : ∀ i, i < cap0 → ∀ k, k < C i → 0 ≤ (Z i).getD k 0 ∧ (Z i).getD k 0 ≤ 18446744073709551615 := fun i hi k hk => by
      obtain ⟨_, _, _, hz, hw, _⟩ := hx i hi
      have hmem : (Z i).getD k 0 ∈ Z i := by rw [List.getD_eq_getElem?_getD, List.getElem?_eq_getElem (by omega)]; exact List.getElem_mem _
      exact M.u64_bounds (hw _ hmem)
    refine ⟨some a, len0, cap0, fun i => if i < len0 then L i else 0, fun i k => if i < cap0 ∧ k < C i then ((Z i).getD k 0).toNat else 0, rfl, by omega, fun i => ?_, fun i k => ?_, fun i hi => ?_, fun h => by cases h⟩
    · by_cases h : i < len0
      · obtain ⟨_, h1, h2, _⟩ := hx i (by omega)
        simp only [if_pos h]; omega
      · simp only [if_neg h]; omega
    · by_cases h : i < cap0 ∧ k < C i
      · have := hb i h.1 k h.2; simp only [if_pos h]; omega
      · simp only [if_neg h]; omega
    · obtain ⟨h0, h1, h2, h3, h4, h5, h6⟩ := hx i (by omega)
      simp only [if_pos hi]
      refine ⟨a, A i, C i, rfl, h0, fun hn => ?_, fun e => ?_⟩
      · cases e : A i with
        | none => have := h5 e; omega
        | some a' =>
          obtain ⟨_, hc⟩ := h6 a' e
          refine ⟨a', rfl, fun k hk => ?_⟩
          have hk' : k < C i := by omega
          have := hb i (by omega) k hk'
          rw [hc k hk']
          simp only [if_pos (show i < cap0 ∧ k < C i from ⟨by omega, hk'⟩)]
          congr 2
          omega
      · have := h5 e; exact ⟨by omega, this⟩
end M
end Go.Proofs.Ytccpdjjgpkkkbaa

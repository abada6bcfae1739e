/- How rows of numbers, and of pairs, that come in are opened. -/
import Derived.Test.YtmeaiindbkkkiaaDoorOpen
import Derived.Test.YtmeaiindbkkkiaaDoorGrpW1
import Derived.ChangeSlices
import Derived.Deep.SlicePairs
namespace Go.Proofs.YtmeaiindbkkkiaaDoor
open Go.ChangeShapes Go.WideShapes Go.ChangeAt Go.RowKit Go.Deep
namespace M
/-- A row of numbers that came in: nil, or a slice whose cells read as numbers. -/
def NumsIn (w : World) (v : Value) : Prop := v = .slice none 0 0 ∨ ∃ (a : Addr) (n cap : Nat) (z : Nat → Nat), v = .slice (some a) n cap ∧ n ≤ 9223372036854775807 ∧ (∀ k, z k < 18446744073709551616) ∧ Row w a n z
theorem open_nums {H : Type} {enc : TypeId × Value → H} {w : World} {base : Nat} {spare : Nat → Bool} {held : Bool} {r : Reach} {b0 : Nat} {v : Value} {d : DataW H} {pl : List MemPlace}
    (hv : Value.okWide Tryd.prog w r b0 29 v) (h : DataW.Trod enc Tryd.prog w base spare held 29 v d pl) : NumsIn w v := by
  obtain ⟨ad, len0, cap0, rfl⟩ := okWide_slice Tryd.underlying29 hv
  obtain ⟨fuel, hf⟩ := h
  rcases open_ints Tryd.underlying29 Tryd.underlying23 (by kernel_rfl) hf with ⟨hcs, _⟩ | ⟨a, len, cap, zs, hcs, _, hl, hm, hz, _, hcell, hwf⟩
  · simp [Value.cells] at hcs
    obtain ⟨rfl, rfl, rfl⟩ := hcs
    exact .inl rfl
  · simp [Value.cells] at hcs
    obtain ⟨rfl, rfl, rfl⟩ := hcs
    have hle : len0 ≤ zs.length := by rw [hz]; split <;> omega
    unfold maxLen at hm
    have hb : ∀ k, k < zs.length → 0 ≤ zs.getD k 0 ∧ zs.getD k 0 ≤ 18446744073709551615 := fun k hk => by
      have hmem : zs.getD k 0 ∈ zs := by rw [List.getD_eq_getElem?_getD, List.getElem?_eq_getElem hk]; exact List.getElem_mem hk
      exact M.u64_bounds (hwf _ hmem)
    refine .inr ⟨a, len0, cap0, fun k => if k < zs.length then (zs.getD k 0).toNat else 0, rfl, by omega, fun k => ?_, fun k hk => ?_⟩
    · by_cases h : k < zs.length
      · have := hb k h; simp only [if_pos h]; omega
      · simp only [if_neg h]; omega
    · have h : k < zs.length := by omega
      have := hb k h
      rw [hcell k h]
      simp only [if_pos h]
      congr 2
      omega
/-- A row of pairs that came in. -/
def PairsIn (w : World) (v : Value) : Prop := v = .slice none 0 0 ∨ ∃ (a : Addr) (n cap : Nat) (s b : Nat → Nat), v = .slice (some a) n cap ∧ n ≤ 9223372036854775807 ∧ (∀ k, s k < 18446744073709551616) ∧ (∀ k, b k < 18446744073709551616) ∧
  ∀ k, k < n → w.cell? (a.add (k * 2)) = some (.int .u64 (s k : Int)) ∧ w.cell? (a.add (k * 2 + 1)) = some (.int .u64 (b k : Int))
theorem open_pairs {H : Type} {enc : TypeId × Value → H} {w : World} {base : Nat} {spare : Nat → Bool} {held : Bool} {r : Reach} {b0 : Nat} {v : Value} {d : DataW H} {pl : List MemPlace}
    (hv : Value.okWide Tryd.prog w r b0 40 v) (h : DataW.Trod enc Tryd.prog w base spare held 40 v d pl) : PairsIn w v := by
  obtain ⟨ad, len0, cap0, rfl⟩ := okWide_slice Tryd.underlying40 hv
  obtain ⟨fuel, hf⟩ := h
  rcases open_slice_pairs Tryd.underlying40 Tryd.underlying35 (by kernel_rfl) rfl rfl (by kernel_rfl) (by kernel_rfl) hf with ⟨hcs, _⟩ | ⟨a, len, cap, m, n, V0, V1, D0, D1, P0, P1, hcs, _, hl, hm, hmm, _, hx⟩
  · simp [Value.cells] at hcs
    obtain ⟨rfl, rfl, rfl⟩ := hcs
    exact .inl rfl
  · simp [Value.cells] at hcs
    obtain ⟨rfl, rfl, rfl⟩ := hcs
    have hle : len0 ≤ m := by rw [hmm]; split <;> omega
    unfold maxLen at hm
    have num : ∀ (v : Value) (y : DataW H × List MemPlace), DataW.trod enc Tryd.prog w base spare held n 23 [v] = some y → ∃ c : Nat, v = .int .u64 (c : Int) ∧ c < 18446744073709551616 := fun v y ht => by
      obtain ⟨c, e, _, hw⟩ := DataW.trod_int Tryd.underlying23 ht
      have hv : v = .int .u64 c := by simpa using e
      have hb := M.u64_bounds hw
      exact ⟨c.toNat, by rw [hv]; congr 1; omega, by omega⟩
    have h0 : ∀ k, ∃ c : Nat, (k < len0 → V0 k = .int .u64 (c : Int)) ∧ c < 18446744073709551616 := fun k => by
      by_cases hk : k < len0
      · obtain ⟨c, e, hc⟩ := num _ _ (hx k (by omega)).2.2.1
        exact ⟨c, fun _ => e, hc⟩
      · exact ⟨0, fun h => absurd h hk, by omega⟩
    have h1 : ∀ k, ∃ c : Nat, (k < len0 → V1 k = .int .u64 (c : Int)) ∧ c < 18446744073709551616 := fun k => by
      by_cases hk : k < len0
      · obtain ⟨c, e, hc⟩ := num _ _ (hx k (by omega)).2.2.2
        exact ⟨c, fun _ => e, hc⟩
      · exact ⟨0, fun h => absurd h hk, by omega⟩
    refine .inr ⟨a, len0, cap0, fun k => (h0 k).choose, fun k => (h1 k).choose, rfl, by omega, fun k => (h0 k).choose_spec.2, fun k => (h1 k).choose_spec.2, fun k hk => ⟨?_, ?_⟩⟩
    · rw [(hx k (by omega)).1, (h0 k).choose_spec.1 hk]
    · rw [(hx k (by omega)).2.1, (h1 k).choose_spec.1 hk]
end M
end Go.Proofs.YtmeaiindbkkkiaaDoor

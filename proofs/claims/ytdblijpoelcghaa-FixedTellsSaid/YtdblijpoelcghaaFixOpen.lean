/- How rows of numbers, rows of whole numbers, and models that come in are opened. -/
import Derived.Test.YtdblijpoelcghaaOpen
import Derived.Test.YtdblijpoelcghaaFixOwn
import Derived.ChangeSlices
import Derived.ChangeSame
import Derived.Deep.Matrix
namespace Go.Proofs.Ytdblijpoelcghaa
open Go.ChangeShapes Go.WideShapes Go.ChangeAt Go.RowKit Go.Deep
namespace M
theorem i64_bounds {n : Int} (h : (Lit.int .i64 n).wf = true) : -9223372036854775808 ≤ n ∧ n ≤ 9223372036854775807 := by
  simp [Lit.wf, IntKind.min, IntKind.max, IntKind.signed, IntKind.bits] at h
  omega
/-- A row of numbers that came in. -/
def NumsIn (w : World) (v : Value) : Prop := ∃ (ao : Option Addr) (n c : Nat) (z : Nat → Nat), v = .slice ao n c ∧ n ≤ c ∧ n ≤ 9223372036854775807 ∧ (∀ k, z k < 18446744073709551616) ∧ Rd w ao n z ∧ (ao = none → n = 0 ∧ c = 0)
/-- A row of whole numbers that came in. -/
def IntsIn (w : World) (v : Value) : Prop := ∃ (ao : Option Addr) (n c : Nat) (z : Nat → Int), v = .slice ao n c ∧ n ≤ 9223372036854775807 ∧ (∀ k, -9223372036854775808 ≤ z k ∧ z k ≤ 9223372036854775807) ∧ IRow w ao n c z
/-- A model that came in. -/
def ModelIn (w : World) (v : Value) : Prop := ∃ (mv : MoV) (o : MM.Mo), v = .agg (mv.cells o) ∧ MoOk o ∧ MoAt w mv o
section
variable {H : Type} {enc : TypeId × Value → H} {w : World} {base : Nat} {held : Bool}
set_option maxRecDepth 100000 in
theorem trod_nums {fuel : Nat} {cs : List Value} {x : DataW H × List MemPlace} (h : DataW.trod enc Try.prog w base (fun _ => true) held fuel 39 cs = some x) : ∃ v, cs = [v] ∧ NumsIn w v := by
  rcases open_ints Try.underlying39 Try.underlying23 (by kernel_rfl) h with ⟨hcs, _⟩ | ⟨a, len, cap, zs, hcs, _, hl, hm, hz, _, hcell, hwf⟩
  · exact ⟨_, hcs, none, 0, 0, fun _ => 0, rfl, Nat.le_refl _, by omega, fun _ => by show (0 : Nat) < _; omega, fun h => absurd h (by omega), fun _ => ⟨rfl, rfl⟩⟩
  · unfold maxLen at hm
    simp only [if_true] at hz
    have hb : ∀ k, k < zs.length → 0 ≤ zs.getD k 0 ∧ zs.getD k 0 ≤ 18446744073709551615 := fun k hk => by
      have hmem : zs.getD k 0 ∈ zs := by rw [List.getD_eq_getElem?_getD, List.getElem?_eq_getElem hk]; exact List.getElem_mem hk
      exact M.u64_bounds (hwf _ hmem)
    refine ⟨_, hcs, some a, len, cap, fun k => if k < zs.length then (zs.getD k 0).toNat else 0, rfl, hl, by omega, fun k => ?_, fun _ => ⟨a, rfl, fun k hk => ?_⟩, fun h => by cases h⟩
    · by_cases h : k < zs.length
      · have := hb k h; simp only [if_pos h]; omega
      · simp only [if_neg h]; omega
    · have h : k < zs.length := by omega
      have := hb k h
      rw [hcell k h]
      simp only [if_pos h]
      congr 2
      omega
set_option maxRecDepth 100000 in
theorem trod_wholes {fuel : Nat} {cs : List Value} {x : DataW H × List MemPlace} (h : DataW.trod enc Try.prog w base (fun _ => true) held fuel 34 cs = some x) : ∃ v, cs = [v] ∧ IntsIn w v := by
  rcases open_ints Try.underlying34 Try.underlying2 (by kernel_rfl) h with ⟨hcs, _⟩ | ⟨a, len, cap, zs, hcs, _, hl, hm, hz, _, hcell, hwf⟩
  · exact ⟨_, hcs, none, 0, 0, fun _ => 0, rfl, by omega, fun _ => by show (_ : Int) ≤ 0 ∧ (0 : Int) ≤ _; omega, IRow.nil w _⟩
  · unfold maxLen at hm
    simp only [if_true] at hz
    refine ⟨_, hcs, some a, len, cap, fun k => zs.getD k 0, rfl, by omega, fun k => ?_, fun k hk => ⟨a, rfl, hcell k (by omega)⟩, (fun h => by cases h), hl⟩
    show -9223372036854775808 ≤ zs.getD k 0 ∧ zs.getD k 0 ≤ 9223372036854775807
    by_cases hk : k < zs.length
    · have hmem : zs.getD k 0 ∈ zs := by rw [List.getD_eq_getElem?_getD, List.getElem?_eq_getElem hk]; exact List.getElem_mem hk
      exact i64_bounds (hwf _ hmem)
    · rw [List.getD_eq_getElem?_getD, List.getElem?_eq_none (by omega)]; simp
/-- Rows of whole numbers that came in. -/
def GridIn (w : World) (v : Value) : Prop := ∃ (ao : Option Addr) (m c : Nat) (L : Nat → Nat) (F : Nat → Nat → Int), v = .slice ao m c ∧ m ≤ 9223372036854775807 ∧ (∀ i, L i ≤ 9223372036854775807) ∧ (∀ i j, -9223372036854775808 ≤ F i j ∧ F i j ≤ 9223372036854775807) ∧ IMat w ao m L F
set_option maxRecDepth 100000 in
theorem trod_grid {fuel : Nat} {cs : List Value} {x : DataW H × List MemPlace} (h : DataW.trod enc Try.prog w base (fun _ => true) held fuel 33 cs = some x) : ∃ v, cs = [v] ∧ GridIn w v := by
  rcases open_int_rows Try.underlying33 Try.underlying34 Try.underlying2 (by kernel_rfl) (by kernel_rfl) h with ⟨hcs, _⟩ | ⟨a, len, cap, A, L, C, Z, hcs, _, hl, hm, _, hx⟩
  · exact ⟨_, hcs, none, 0, 0, fun _ => 0, fun _ _ => 0, rfl, by omega, fun _ => by show (0 : Nat) ≤ _; omega, fun _ _ => by show (_ : Int) ≤ 0 ∧ (0 : Int) ≤ _; omega, fun _ h => absurd h (by omega)⟩
  · unfold maxLen at hm hx
    refine ⟨_, hcs, some a, len, cap, fun i => if i < len then L i else 0, fun i k => if i < cap then (Z i).getD k 0 else 0, rfl, by omega, fun i => ?_, fun i k => ?_, fun i hi => ?_⟩
    · by_cases h : i < len
      · obtain ⟨_, h1, h2, _⟩ := hx i (by omega)
        simp only [if_pos h]; omega
      · simp only [if_neg h]; omega
    · by_cases h : i < cap
      · obtain ⟨_, _, _, hz, hw, _⟩ := hx i h
        simp only [if_pos h]
        by_cases hk : k < (Z i).length
        · have hmem : (Z i).getD k 0 ∈ Z i := by rw [List.getD_eq_getElem?_getD, List.getElem?_eq_getElem hk]; exact List.getElem_mem hk
          exact i64_bounds (hw _ hmem)
        · rw [List.getD_eq_getElem?_getD, List.getElem?_eq_none (by omega)]; simp
      · simp only [if_neg h]; omega
    · obtain ⟨h0, h1, h2, h3, h4, h5, h6⟩ := hx i (by omega)
      simp only [if_pos hi, if_pos (show i < cap by omega)]
      refine ⟨a, A i, C i, rfl, h0, fun k hk => ?_, fun e => ?_, h1⟩
      · cases e : A i with
        | none => have := h5 e; omega
        | some a' => exact ⟨a', rfl, (h6 a' e).2 k (by omega)⟩
      · have := h5 e; exact ⟨by omega, this⟩
theorem open_nums {r : Reach} {b0 : Nat} {v : Value} {d : DataW H} {pl : List MemPlace} (hv : Value.okWide Try.prog w r b0 39 v) (h : DataW.Trod enc Try.prog w base (fun _ => true) held 39 v d pl) : NumsIn w v := by
  obtain ⟨ad, len0, cap0, rfl⟩ := okWide_slice Try.underlying39 hv
  obtain ⟨fuel, hf⟩ := h
  obtain ⟨v2, e, h2⟩ := trod_nums hf
  simp [Value.cells] at e
  rw [e]; exact h2
theorem open_wholes {r : Reach} {b0 : Nat} {v : Value} {d : DataW H} {pl : List MemPlace} (hv : Value.okWide Try.prog w r b0 34 v) (h : DataW.Trod enc Try.prog w base (fun _ => true) held 34 v d pl) : IntsIn w v := by
  obtain ⟨ad, len0, cap0, rfl⟩ := okWide_slice Try.underlying34 hv
  obtain ⟨fuel, hf⟩ := h
  obtain ⟨v2, e, h2⟩ := trod_wholes hf
  simp [Value.cells] at e
  rw [e]; exact h2
set_option maxRecDepth 100000 in
theorem open_model {r : Reach} {b0 : Nat} {v : Value} {d : DataW H} {pl : List MemPlace} (hv : Value.okWide Try.prog w r b0 36 v) (h : DataW.Trod enc Try.prog w base (fun _ => true) held 36 v d pl) : ModelIn w v := by
  obtain ⟨cs, rfl, hsz, hfs⟩ := open_fields Try.underlying36 (by kernel_rfl) (by kernel_rfl) hv h
  obtain ⟨c0, y0, n0, hc0, ht0⟩ := hfs 0 _ rfl
  obtain ⟨c1, y1, n1, hc1, ht1⟩ := hfs 1 _ rfl
  obtain ⟨v0, e0, ao, m, c, L, F, rfl, h1, h2, h3, h4⟩ := trod_grid ht0
  obtain ⟨v1, e1, bo, n, bc, b, rfl, g1, g2, g3⟩ := trod_wholes ht1
  obtain rfl := List.cons.inj e0 |>.1
  obtain rfl := List.cons.inj e1 |>.1
  have hcs : cs = #[.slice ao m c, .slice bo n bc] := by
    apply Array.ext_getElem?
    intro i
    match i with
    | 0 => rw [hc0]; rfl
    | 1 => rw [hc1]; rfl
    | i + 2 => rw [Array.getElem?_eq_none (by rw [hsz]; show 2 ≤ i + 2; omega), Array.getElem?_eq_none (by show 2 ≤ i + 2; omega)]
  exact ⟨⟨ao, c, bo, bc⟩, ⟨m, L, F, n, b⟩, by rw [hcs], ⟨h1, g1, h2, h3, g2⟩, ⟨h4, g3⟩⟩
end
end M
end Go.Proofs.Ytdblijpoelcghaa

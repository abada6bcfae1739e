/- The texts FixTab, FixMath2, one behind the other. -/
import Derived.Test.YtnlkikcnjlkkdaaWB8
import Derived.Deep.MidRow
import Derived.Test.YtnlkikcnjlkkdaaWB2
/- The tables of FixedNames, as they are built, and what is told of their rows. -/
namespace Go.Proofs.Ytnlkikcnjlkkdaa
open Go Go.RowKit Go.Lib
namespace M
abbrev nuN : List Int := [50, 51, -50, 101, -9223372036854775808, 9223372036854775807, 5, 5, -7]
abbrev nuQ : List Nat := [101, 101, 101, 101, 2305843009213693951, 2305843009213693952, 0, 2305843009213693953, 1]
abbrev nuX : List Nat := [50, 51, 51, 0, 2305843009213693947, 2305843009213693951, 0, 0, 0]
abbrev inX : List Nat := [50, 51, 151, 5, 4, 1, 0, 5, 5, 1152921504606846976, 2305843009213693950]
abbrev inQ : List Nat := [101, 101, 101, 10, 10, 2, 1, 0, 2305843009213693953, 2305843009213693952, 2305843009213693951]
abbrev inN : List Int := [50, -50, 50, -5, 4, -1, 0, 0, 0, -1152921504606846976, -1]
theorem num_tab : ∀ k, k < 9 → MM.numU (MM.il nuN k) (MM.nl nuQ k) = MM.nl nuX k ∧ -9223372036854775808 ≤ MM.il nuN k ∧ MM.il nuN k ≤ 9223372036854775807 := by decide +kernel
theorem int_tab : ∀ k, k < 11 → MM.intU (MM.nl inX k) (MM.nl inQ k) = MM.il inN k ∧ MM.nl inQ k < 18446744073709551616 := by decide +kernel

/-- The rows of the first table. -/
theorem num_at (W : World) (T : TypeId) (k : Nat) (hk : k < 9) : (W.alloc (.cells #[.int .i64 50, .int .u64 101, .int .u64 50, .int .i64 51, .int .u64 101, .int .u64 51, .int .i64 (-50), .int .u64 101, .int .u64 51, .int .i64 101, .int .u64 101, .int .u64 0, .int .i64 (-9223372036854775808), .int .u64 2305843009213693951, .int .u64 2305843009213693947, .int .i64 9223372036854775807, .int .u64 2305843009213693952, .int .u64 2305843009213693951, .int .i64 5, .int .u64 0, .int .u64 0, .int .i64 5, .int .u64 2305843009213693953, .int .u64 0, .int .i64 (-7), .int .u64 1, .int .u64 0] T)).rangeAt W.heap.size (k * 3) [.int .i64 (MM.il nuN k), .int .u64 ((MM.nl nuQ k : Nat) : Int), .int .u64 ((MM.nl nuX k : Nat) : Int)] := by
  intro j v hv
  rw [cell_of_row _ _ _ _ _ _ (heap_alloc_new W _)]
  have h : k = 0 ∨ k = 1 ∨ k = 2 ∨ k = 3 ∨ k = 4 ∨ k = 5 ∨ k = 6 ∨ k = 7 ∨ k = 8 := by omega
  clear hk
  rcases h with rfl | rfl | rfl | rfl | rfl | rfl | rfl | rfl | rfl <;> (match j, hv with | 0, hv => exact hv | 1, hv => exact hv | 2, hv => exact hv | j + 3, hv => cases hv)

/-- The rows of the second table. -/
theorem int_at (W : World) (T : TypeId) (k : Nat) (hk : k < 11) : (W.alloc (.cells #[.int .u64 50, .int .u64 101, .int .i64 50, .int .u64 51, .int .u64 101, .int .i64 (-50), .int .u64 151, .int .u64 101, .int .i64 50, .int .u64 5, .int .u64 10, .int .i64 (-5), .int .u64 4, .int .u64 10, .int .i64 4, .int .u64 1, .int .u64 2, .int .i64 (-1), .int .u64 0, .int .u64 1, .int .i64 0, .int .u64 5, .int .u64 0, .int .i64 0, .int .u64 5, .int .u64 2305843009213693953, .int .i64 0, .int .u64 1152921504606846976, .int .u64 2305843009213693952, .int .i64 (-1152921504606846976), .int .u64 2305843009213693950, .int .u64 2305843009213693951, .int .i64 (-1)] T)).rangeAt W.heap.size (k * 3) [.int .u64 ((MM.nl inX k : Nat) : Int), .int .u64 ((MM.nl inQ k : Nat) : Int), .int .i64 (MM.il inN k)] := by
  intro j v hv
  rw [cell_of_row _ _ _ _ _ _ (heap_alloc_new W _)]
  have h : k = 0 ∨ k = 1 ∨ k = 2 ∨ k = 3 ∨ k = 4 ∨ k = 5 ∨ k = 6 ∨ k = 7 ∨ k = 8 ∨ k = 9 ∨ k = 10 := by omega
  clear hk
  rcases h with rfl | rfl | rfl | rfl | rfl | rfl | rfl | rfl | rfl | rfl | rfl <;> (match j, hv with | 0, hv => exact hv | 1, hv => exact hv | 2, hv => exact hv | j + 3, hv => cases hv)

abbrev ps7 : List Pm := [⟨0, 101, 0, 0, 0, 0, 0, -1, 1, 0, 3, 2⟩, ⟨0, 101, 0, 0, 0, 0, 0, 3, 1, 0, 3, 2⟩, ⟨0, 101, 0, 0, 0, 0, 0, 2, 5, 0, 3, 2⟩, ⟨0, 101, 0, 0, 0, 0, 0, 2, -1, 0, 3, 2⟩, ⟨0, 101, 0, 0, 0, 0, 0, 2, 1, 0, -1, 2⟩, ⟨0, 101, 0, 0, 0, 0, 0, 2, 1, 0, 1048577, 2⟩, ⟨0, 101, 0, 0, 0, 0, 0, 2, 1, 0, 3, -1⟩, ⟨0, 101, 0, 0, 0, 0, 0, 2, 1, 0, 3, 1048577⟩]
theorem bad_pm : ∀ k, k < 8 → ¬ MM.Fit (ps7.getD k sp) := by decide +kernel

/-- The rows of the table of parameters. -/
theorem pm_at (W : World) (T : TypeId) (k : Nat) (hk : k < 8) : (W.alloc (.cells #[.int .u64 0, .int .u64 101, .int .u64 0, .int .u64 0, .int .i64 0, .int .i64 0, .int .i64 0, .int .i64 (-1), .int .i64 1, .int .i64 0, .int .i64 3, .int .i64 2, .int .u64 0, .int .u64 101, .int .u64 0, .int .u64 0, .int .i64 0, .int .i64 0, .int .i64 0, .int .i64 3, .int .i64 1, .int .i64 0, .int .i64 3, .int .i64 2, .int .u64 0, .int .u64 101, .int .u64 0, .int .u64 0, .int .i64 0, .int .i64 0, .int .i64 0, .int .i64 2, .int .i64 5, .int .i64 0, .int .i64 3, .int .i64 2, .int .u64 0, .int .u64 101, .int .u64 0, .int .u64 0, .int .i64 0, .int .i64 0, .int .i64 0, .int .i64 2, .int .i64 (-1), .int .i64 0, .int .i64 3, .int .i64 2, .int .u64 0, .int .u64 101, .int .u64 0, .int .u64 0, .int .i64 0, .int .i64 0, .int .i64 0, .int .i64 2, .int .i64 1, .int .i64 0, .int .i64 (-1), .int .i64 2, .int .u64 0, .int .u64 101, .int .u64 0, .int .u64 0, .int .i64 0, .int .i64 0, .int .i64 0, .int .i64 2, .int .i64 1, .int .i64 0, .int .i64 1048577, .int .i64 2, .int .u64 0, .int .u64 101, .int .u64 0, .int .u64 0, .int .i64 0, .int .i64 0, .int .i64 0, .int .i64 2, .int .i64 1, .int .i64 0, .int .i64 3, .int .i64 (-1), .int .u64 0, .int .u64 101, .int .u64 0, .int .u64 0, .int .i64 0, .int .i64 0, .int .i64 0, .int .i64 2, .int .i64 1, .int .i64 0, .int .i64 3, .int .i64 1048577] T)).rangeAt W.heap.size (k * 12) (ps7.getD k sp).cells.toList := by
  intro j v hv
  rw [cell_of_row _ _ _ _ _ _ (heap_alloc_new W _)]
  have h : k = 0 ∨ k = 1 ∨ k = 2 ∨ k = 3 ∨ k = 4 ∨ k = 5 ∨ k = 6 ∨ k = 7 := by omega
  clear hk
  rcases h with rfl | rfl | rfl | rfl | rfl | rfl | rfl | rfl <;> (match j, hv with | 0, hv => exact hv | 1, hv => exact hv | 2, hv => exact hv | 3, hv => exact hv | 4, hv => exact hv | 5, hv => exact hv | 6, hv => exact hv | 7, hv => exact hv | 8, hv => exact hv | 9, hv => exact hv | 10, hv => exact hv | 11, hv => exact hv | j + 12, hv => cases hv)

abbrev msW : List (List (List Int)) := [[], [[2]], [[2], [1]], [[2], [1, 1]], [[4], [1]], [[2], [1]], [[2], [-9223372036854775808]]]
abbrev msB : List (List Int) := [[], [1, 0], [1], [1, 0], [1, 0], [1, -4], [1, 0]]
def moK (k : Nat) : MM.Mo := MM.moL (msW.getD k []) (msB.getD k [])
theorem moL_ok (W : List (List Int)) (B : List Int) (h1 : W.length ≤ 1000) (h2 : B.length ≤ 1000) (h3 : W.all (fun r => decide (r.length ≤ 1000)) = true) (h4 : W.all (fun r => r.all fun x => decide (-9223372036854775808 ≤ x ∧ x ≤ 9223372036854775807)) = true) (h5 : (B.all fun x => decide (-9223372036854775808 ≤ x ∧ x ≤ 9223372036854775807)) = true) : MoOk (MM.moL W B) := by
  refine ⟨by show W.length ≤ _; omega, by show B.length ≤ _; omega, fun i => ?_, fun i j => ?_, fun i => il_ok h5 i⟩
  · show (W.getD i []).length ≤ _
    by_cases hi : i < W.length
    · rw [List.getD_eq_getElem?_getD, List.getElem?_eq_getElem hi]
      have := of_decide_eq_true (List.all_eq_true.1 h3 _ (List.getElem_mem hi))
      exact Nat.le_trans this (by decide)
    · rw [List.getD_eq_getElem?_getD, List.getElem?_eq_none (by omega)]; exact Nat.zero_le _
  · show _ ≤ (W.getD i []).getD j 0 ∧ (W.getD i []).getD j 0 ≤ _
    by_cases hi : i < W.length
    · have e : W.getD i [] = W[i] := by rw [List.getD_eq_getElem?_getD, List.getElem?_eq_getElem hi]; rfl
      rw [e]
      exact il_ok (List.all_eq_true.1 h4 _ (List.getElem_mem hi)) j
    · have e : W.getD i [] = [] := by rw [List.getD_eq_getElem?_getD, List.getElem?_eq_none (by omega)]; rfl
      rw [e]
      exact il_ok (l := []) rfl j
theorem bad_mo : ∀ k, k < 7 → ¬ MM.Valid sp (moK k) ∧ (msW.getD k []).length ≤ 1000 ∧ (msB.getD k []).length ≤ 1000 ∧ (msW.getD k []).all (fun r => decide (r.length ≤ 1000)) = true ∧ (msW.getD k []).all (fun r => r.all fun x => decide (-9223372036854775808 ≤ x ∧ x ≤ 9223372036854775807)) = true ∧ ((msB.getD k []).all fun x => decide (-9223372036854775808 ≤ x ∧ x ≤ 9223372036854775807)) = true := by decide +kernel
theorem ok_mo {k : Nat} (hk : k < 7) : MoOk (moK k) := let ⟨_, h1, h2, h3, h4, h5⟩ := bad_mo k hk; moL_ok _ _ h1 h2 h3 h4 h5

/-- The models that are wrong, as they are built. -/
theorem models_at (W : World) (T : TypeId) : ∃ W1 : World, ((((((((((((((((((((((((W.alloc (.cells #[.int .i64 2] 2)).alloc (.cells #[.slice (some ⟨W.heap.size, 0, none⟩) 1 1] 34)).alloc (.cells #[.int .i64 1, .int .i64 0] 2)).alloc (.cells #[.int .i64 2] 2)).alloc (.cells #[.int .i64 1] 2)).alloc (.cells #[.slice (some ⟨W.heap.size + 1 + 1 + 1, 0, none⟩) 1 1, .slice (some ⟨W.heap.size + 1 + 1 + 1 + 1, 0, none⟩) 1 1] 34)).alloc (.cells #[.int .i64 1] 2)).alloc (.cells #[.int .i64 2] 2)).alloc (.cells #[.int .i64 1, .int .i64 1] 2)).alloc (.cells #[.slice (some ⟨W.heap.size + 1 + 1 + 1 + 1 + 1 + 1 + 1, 0, none⟩) 1 1, .slice (some ⟨W.heap.size + 1 + 1 + 1 + 1 + 1 + 1 + 1 + 1, 0, none⟩) 2 2] 34)).alloc (.cells #[.int .i64 1, .int .i64 0] 2)).alloc (.cells #[.int .i64 4] 2)).alloc (.cells #[.int .i64 1] 2)).alloc (.cells #[.slice (some ⟨W.heap.size + 1 + 1 + 1 + 1 + 1 + 1 + 1 + 1 + 1 + 1 + 1, 0, none⟩) 1 1, .slice (some ⟨W.heap.size + 1 + 1 + 1 + 1 + 1 + 1 + 1 + 1 + 1 + 1 + 1 + 1, 0, none⟩) 1 1] 34)).alloc (.cells #[.int .i64 1, .int .i64 0] 2)).alloc (.cells #[.int .i64 2] 2)).alloc (.cells #[.int .i64 1] 2)).alloc (.cells #[.slice (some ⟨W.heap.size + 1 + 1 + 1 + 1 + 1 + 1 + 1 + 1 + 1 + 1 + 1 + 1 + 1 + 1 + 1, 0, none⟩) 1 1, .slice (some ⟨W.heap.size + 1 + 1 + 1 + 1 + 1 + 1 + 1 + 1 + 1 + 1 + 1 + 1 + 1 + 1 + 1 + 1, 0, none⟩) 1 1] 34)).alloc (.cells #[.int .i64 1, .int .i64 (-4)] 2)).alloc (.cells #[.int .i64 2] 2)).alloc (.cells #[.int .i64 (-9223372036854775808)] 2)).alloc (.cells #[.slice (some ⟨W.heap.size + 1 + 1 + 1 + 1 + 1 + 1 + 1 + 1 + 1 + 1 + 1 + 1 + 1 + 1 + 1 + 1 + 1 + 1 + 1, 0, none⟩) 1 1, .slice (some ⟨W.heap.size + 1 + 1 + 1 + 1 + 1 + 1 + 1 + 1 + 1 + 1 + 1 + 1 + 1 + 1 + 1 + 1 + 1 + 1 + 1 + 1, 0, none⟩) 1 1] 34)).alloc (.cells #[.int .i64 1, .int .i64 0] 2)).alloc (.cells #[.slice none 0 0, .slice none 0 0, .slice (some ⟨W.heap.size + 1, 0, none⟩) 1 1, .slice (some ⟨W.heap.size + 1 + 1, 0, none⟩) 2 2, .slice (some ⟨W.heap.size + 1 + 1 + 1 + 1 + 1, 0, none⟩) 2 2, .slice (some ⟨W.heap.size + 1 + 1 + 1 + 1 + 1 + 1, 0, none⟩) 1 1, .slice (some ⟨W.heap.size + 1 + 1 + 1 + 1 + 1 + 1 + 1 + 1 + 1, 0, none⟩) 2 2, .slice (some ⟨W.heap.size + 1 + 1 + 1 + 1 + 1 + 1 + 1 + 1 + 1 + 1, 0, none⟩) 2 2, .slice (some ⟨W.heap.size + 1 + 1 + 1 + 1 + 1 + 1 + 1 + 1 + 1 + 1 + 1 + 1 + 1, 0, none⟩) 2 2, .slice (some ⟨W.heap.size + 1 + 1 + 1 + 1 + 1 + 1 + 1 + 1 + 1 + 1 + 1 + 1 + 1 + 1, 0, none⟩) 2 2, .slice (some ⟨W.heap.size + 1 + 1 + 1 + 1 + 1 + 1 + 1 + 1 + 1 + 1 + 1 + 1 + 1 + 1 + 1 + 1 + 1, 0, none⟩) 2 2, .slice (some ⟨W.heap.size + 1 + 1 + 1 + 1 + 1 + 1 + 1 + 1 + 1 + 1 + 1 + 1 + 1 + 1 + 1 + 1 + 1 + 1, 0, none⟩) 2 2, .slice (some ⟨W.heap.size + 1 + 1 + 1 + 1 + 1 + 1 + 1 + 1 + 1 + 1 + 1 + 1 + 1 + 1 + 1 + 1 + 1 + 1 + 1 + 1 + 1, 0, none⟩) 2 2, .slice (some ⟨W.heap.size + 1 + 1 + 1 + 1 + 1 + 1 + 1 + 1 + 1 + 1 + 1 + 1 + 1 + 1 + 1 + 1 + 1 + 1 + 1 + 1 + 1 + 1, 0, none⟩) 2 2] T)) = W1 ∧ (∀ k, k < 7 → ∃ v : MoV, MoAt W1 v (moK k) ∧ W1.rangeAt (W.heap.size + 1 + 1 + 1 + 1 + 1 + 1 + 1 + 1 + 1 + 1 + 1 + 1 + 1 + 1 + 1 + 1 + 1 + 1 + 1 + 1 + 1 + 1 + 1) (k * 2) [.slice v.wo (moK k).m v.wc, .slice v.bo (moK k).n v.bc]) ∧ Below W.heap.size W W1 := by
  have n1 := isI_new W [2] (cs := #[.int .i64 2]) rfl rfl
  have b1 := below_box W (.cells #[.int .i64 2] 2)
  have s1 := World.size_alloc W (.cells #[.int .i64 2] 2)
  generalize W.alloc (.cells #[.int .i64 2] 2) = V1 at *
  have e1 : V1.heap.size = W.heap.size + 1 := by rw [s1]
  have B1 : Below W.heap.size W V1 := b1
  have n2 := mat_new (w := V1) (T := 34) [[2]] [.slice (some ⟨W.heap.size, 0, none⟩) 1 1] (n := 1) fun i hi => by match i, hi with | 0, _ => exact ⟨_, rfl, n1⟩
  have b2 := below_box V1 (.cells #[.slice (some ⟨W.heap.size, 0, none⟩) 1 1] 34)
  have s2 := World.size_alloc V1 (.cells #[.slice (some ⟨W.heap.size, 0, none⟩) 1 1] 34)
  generalize V1.alloc (.cells #[.slice (some ⟨W.heap.size, 0, none⟩) 1 1] 34) = V2 at *
  rw [e1] at n2
  have e2 : V2.heap.size = W.heap.size + 1 + 1 := by rw [s2, e1]
  have B2 : Below W.heap.size W V2 := B1.trans (b2.mono B1.size)
  replace n1 := n1.below b2
  have n3 := isI_new V2 [1, 0] (cs := #[.int .i64 1, .int .i64 0]) rfl rfl
  have b3 := below_box V2 (.cells #[.int .i64 1, .int .i64 0] 2)
  have s3 := World.size_alloc V2 (.cells #[.int .i64 1, .int .i64 0] 2)
  generalize V2.alloc (.cells #[.int .i64 1, .int .i64 0] 2) = V3 at *
  rw [e2] at n3
  have e3 : V3.heap.size = W.heap.size + 1 + 1 + 1 := by rw [s3, e2]
  have B3 : Below W.heap.size W V3 := B2.trans (b3.mono B2.size)
  replace n2 := n2.below b3
  have n4 := isI_new V3 [2] (cs := #[.int .i64 2]) rfl rfl
  have b4 := below_box V3 (.cells #[.int .i64 2] 2)
  have s4 := World.size_alloc V3 (.cells #[.int .i64 2] 2)
  generalize V3.alloc (.cells #[.int .i64 2] 2) = V4 at *
  rw [e3] at n4
  have e4 : V4.heap.size = W.heap.size + 1 + 1 + 1 + 1 := by rw [s4, e3]
  have B4 : Below W.heap.size W V4 := B3.trans (b4.mono B3.size)
  replace n2 := n2.below b4
  replace n3 := n3.below b4
  have n5 := isI_new V4 [1] (cs := #[.int .i64 1]) rfl rfl
  have b5 := below_box V4 (.cells #[.int .i64 1] 2)
  have s5 := World.size_alloc V4 (.cells #[.int .i64 1] 2)
  generalize V4.alloc (.cells #[.int .i64 1] 2) = V5 at *
  rw [e4] at n5
  have e5 : V5.heap.size = W.heap.size + 1 + 1 + 1 + 1 + 1 := by rw [s5, e4]
  have B5 : Below W.heap.size W V5 := B4.trans (b5.mono B4.size)
  replace n2 := n2.below b5
  replace n3 := n3.below b5
  replace n4 := n4.below b5
  have n6 := mat_new (w := V5) (T := 34) [[2], [1]] [.slice (some ⟨W.heap.size + 1 + 1 + 1, 0, none⟩) 1 1, .slice (some ⟨W.heap.size + 1 + 1 + 1 + 1, 0, none⟩) 1 1] (n := 2) fun i hi => by match i, hi with | 0, _ => exact ⟨_, rfl, n4⟩ | 1, _ => exact ⟨_, rfl, n5⟩
  have b6 := below_box V5 (.cells #[.slice (some ⟨W.heap.size + 1 + 1 + 1, 0, none⟩) 1 1, .slice (some ⟨W.heap.size + 1 + 1 + 1 + 1, 0, none⟩) 1 1] 34)
  have s6 := World.size_alloc V5 (.cells #[.slice (some ⟨W.heap.size + 1 + 1 + 1, 0, none⟩) 1 1, .slice (some ⟨W.heap.size + 1 + 1 + 1 + 1, 0, none⟩) 1 1] 34)
  generalize V5.alloc (.cells #[.slice (some ⟨W.heap.size + 1 + 1 + 1, 0, none⟩) 1 1, .slice (some ⟨W.heap.size + 1 + 1 + 1 + 1, 0, none⟩) 1 1] 34) = V6 at *
  rw [e5] at n6
  have e6 : V6.heap.size = W.heap.size + 1 + 1 + 1 + 1 + 1 + 1 := by rw [s6, e5]
  have B6 : Below W.heap.size W V6 := B5.trans (b6.mono B5.size)
  replace n2 := n2.below b6
  replace n3 := n3.below b6
  replace n4 := n4.below b6
  replace n5 := n5.below b6
  have n7 := isI_new V6 [1] (cs := #[.int .i64 1]) rfl rfl
  have b7 := below_box V6 (.cells #[.int .i64 1] 2)
  have s7 := World.size_alloc V6 (.cells #[.int .i64 1] 2)
  generalize V6.alloc (.cells #[.int .i64 1] 2) = V7 at *
  rw [e6] at n7
  have e7 : V7.heap.size = W.heap.size + 1 + 1 + 1 + 1 + 1 + 1 + 1 := by rw [s7, e6]
  have B7 : Below W.heap.size W V7 := B6.trans (b7.mono B6.size)
  replace n2 := n2.below b7
  replace n3 := n3.below b7
  replace n6 := n6.below b7
  have n8 := isI_new V7 [2] (cs := #[.int .i64 2]) rfl rfl
  have b8 := below_box V7 (.cells #[.int .i64 2] 2)
  have s8 := World.size_alloc V7 (.cells #[.int .i64 2] 2)
  generalize V7.alloc (.cells #[.int .i64 2] 2) = V8 at *
  rw [e7] at n8
  have e8 : V8.heap.size = W.heap.size + 1 + 1 + 1 + 1 + 1 + 1 + 1 + 1 := by rw [s8, e7]
  have B8 : Below W.heap.size W V8 := B7.trans (b8.mono B7.size)
  replace n2 := n2.below b8
  replace n3 := n3.below b8
  replace n6 := n6.below b8
  replace n7 := n7.below b8
  have n9 := isI_new V8 [1, 1] (cs := #[.int .i64 1, .int .i64 1]) rfl rfl
  have b9 := below_box V8 (.cells #[.int .i64 1, .int .i64 1] 2)
  have s9 := World.size_alloc V8 (.cells #[.int .i64 1, .int .i64 1] 2)
  generalize V8.alloc (.cells #[.int .i64 1, .int .i64 1] 2) = V9 at *
  rw [e8] at n9
  have e9 : V9.heap.size = W.heap.size + 1 + 1 + 1 + 1 + 1 + 1 + 1 + 1 + 1 := by rw [s9, e8]
  have B9 : Below W.heap.size W V9 := B8.trans (b9.mono B8.size)
  replace n2 := n2.below b9
  replace n3 := n3.below b9
  replace n6 := n6.below b9
  replace n7 := n7.below b9
  replace n8 := n8.below b9
  have n10 := mat_new (w := V9) (T := 34) [[2], [1, 1]] [.slice (some ⟨W.heap.size + 1 + 1 + 1 + 1 + 1 + 1 + 1, 0, none⟩) 1 1, .slice (some ⟨W.heap.size + 1 + 1 + 1 + 1 + 1 + 1 + 1 + 1, 0, none⟩) 2 2] (n := 2) fun i hi => by match i, hi with | 0, _ => exact ⟨_, rfl, n8⟩ | 1, _ => exact ⟨_, rfl, n9⟩
  have b10 := below_box V9 (.cells #[.slice (some ⟨W.heap.size + 1 + 1 + 1 + 1 + 1 + 1 + 1, 0, none⟩) 1 1, .slice (some ⟨W.heap.size + 1 + 1 + 1 + 1 + 1 + 1 + 1 + 1, 0, none⟩) 2 2] 34)
  have s10 := World.size_alloc V9 (.cells #[.slice (some ⟨W.heap.size + 1 + 1 + 1 + 1 + 1 + 1 + 1, 0, none⟩) 1 1, .slice (some ⟨W.heap.size + 1 + 1 + 1 + 1 + 1 + 1 + 1 + 1, 0, none⟩) 2 2] 34)
  generalize V9.alloc (.cells #[.slice (some ⟨W.heap.size + 1 + 1 + 1 + 1 + 1 + 1 + 1, 0, none⟩) 1 1, .slice (some ⟨W.heap.size + 1 + 1 + 1 + 1 + 1 + 1 + 1 + 1, 0, none⟩) 2 2] 34) = V10 at *
  rw [e9] at n10
  have e10 : V10.heap.size = W.heap.size + 1 + 1 + 1 + 1 + 1 + 1 + 1 + 1 + 1 + 1 := by rw [s10, e9]
  have B10 : Below W.heap.size W V10 := B9.trans (b10.mono B9.size)
  replace n2 := n2.below b10
  replace n3 := n3.below b10
  replace n6 := n6.below b10
  replace n7 := n7.below b10
  replace n8 := n8.below b10
  replace n9 := n9.below b10
  have n11 := isI_new V10 [1, 0] (cs := #[.int .i64 1, .int .i64 0]) rfl rfl
  have b11 := below_box V10 (.cells #[.int .i64 1, .int .i64 0] 2)
  have s11 := World.size_alloc V10 (.cells #[.int .i64 1, .int .i64 0] 2)
  generalize V10.alloc (.cells #[.int .i64 1, .int .i64 0] 2) = V11 at *
  rw [e10] at n11
  have e11 : V11.heap.size = W.heap.size + 1 + 1 + 1 + 1 + 1 + 1 + 1 + 1 + 1 + 1 + 1 := by rw [s11, e10]
  have B11 : Below W.heap.size W V11 := B10.trans (b11.mono B10.size)
  replace n2 := n2.below b11
  replace n3 := n3.below b11
  replace n6 := n6.below b11
  replace n7 := n7.below b11
  replace n10 := n10.below b11
  have n12 := isI_new V11 [4] (cs := #[.int .i64 4]) rfl rfl
  have b12 := below_box V11 (.cells #[.int .i64 4] 2)
  have s12 := World.size_alloc V11 (.cells #[.int .i64 4] 2)
  generalize V11.alloc (.cells #[.int .i64 4] 2) = V12 at *
  rw [e11] at n12
  have e12 : V12.heap.size = W.heap.size + 1 + 1 + 1 + 1 + 1 + 1 + 1 + 1 + 1 + 1 + 1 + 1 := by rw [s12, e11]
  have B12 : Below W.heap.size W V12 := B11.trans (b12.mono B11.size)
  replace n2 := n2.below b12
  replace n3 := n3.below b12
  replace n6 := n6.below b12
  replace n7 := n7.below b12
  replace n10 := n10.below b12
  replace n11 := n11.below b12
  have n13 := isI_new V12 [1] (cs := #[.int .i64 1]) rfl rfl
  have b13 := below_box V12 (.cells #[.int .i64 1] 2)
  have s13 := World.size_alloc V12 (.cells #[.int .i64 1] 2)
  generalize V12.alloc (.cells #[.int .i64 1] 2) = V13 at *
  rw [e12] at n13
  have e13 : V13.heap.size = W.heap.size + 1 + 1 + 1 + 1 + 1 + 1 + 1 + 1 + 1 + 1 + 1 + 1 + 1 := by rw [s13, e12]
  have B13 : Below W.heap.size W V13 := B12.trans (b13.mono B12.size)
  replace n2 := n2.below b13
  replace n3 := n3.below b13
  replace n6 := n6.below b13
  replace n7 := n7.below b13
  replace n10 := n10.below b13
  replace n11 := n11.below b13
  replace n12 := n12.below b13
  have n14 := mat_new (w := V13) (T := 34) [[4], [1]] [.slice (some ⟨W.heap.size + 1 + 1 + 1 + 1 + 1 + 1 + 1 + 1 + 1 + 1 + 1, 0, none⟩) 1 1, .slice (some ⟨W.heap.size + 1 + 1 + 1 + 1 + 1 + 1 + 1 + 1 + 1 + 1 + 1 + 1, 0, none⟩) 1 1] (n := 2) fun i hi => by match i, hi with | 0, _ => exact ⟨_, rfl, n12⟩ | 1, _ => exact ⟨_, rfl, n13⟩
  have b14 := below_box V13 (.cells #[.slice (some ⟨W.heap.size + 1 + 1 + 1 + 1 + 1 + 1 + 1 + 1 + 1 + 1 + 1, 0, none⟩) 1 1, .slice (some ⟨W.heap.size + 1 + 1 + 1 + 1 + 1 + 1 + 1 + 1 + 1 + 1 + 1 + 1, 0, none⟩) 1 1] 34)
  have s14 := World.size_alloc V13 (.cells #[.slice (some ⟨W.heap.size + 1 + 1 + 1 + 1 + 1 + 1 + 1 + 1 + 1 + 1 + 1, 0, none⟩) 1 1, .slice (some ⟨W.heap.size + 1 + 1 + 1 + 1 + 1 + 1 + 1 + 1 + 1 + 1 + 1 + 1, 0, none⟩) 1 1] 34)
  generalize V13.alloc (.cells #[.slice (some ⟨W.heap.size + 1 + 1 + 1 + 1 + 1 + 1 + 1 + 1 + 1 + 1 + 1, 0, none⟩) 1 1, .slice (some ⟨W.heap.size + 1 + 1 + 1 + 1 + 1 + 1 + 1 + 1 + 1 + 1 + 1 + 1, 0, none⟩) 1 1] 34) = V14 at *
  rw [e13] at n14
  have e14 : V14.heap.size = W.heap.size + 1 + 1 + 1 + 1 + 1 + 1 + 1 + 1 + 1 + 1 + 1 + 1 + 1 + 1 := by rw [s14, e13]
  have B14 : Below W.heap.size W V14 := B13.trans (b14.mono B13.size)
  replace n2 := n2.below b14
  replace n3 := n3.below b14
  replace n6 := n6.below b14
  replace n7 := n7.below b14
  replace n10 := n10.below b14
  replace n11 := n11.below b14
  replace n12 := n12.below b14
  replace n13 := n13.below b14
  have n15 := isI_new V14 [1, 0] (cs := #[.int .i64 1, .int .i64 0]) rfl rfl
  have b15 := below_box V14 (.cells #[.int .i64 1, .int .i64 0] 2)
  have s15 := World.size_alloc V14 (.cells #[.int .i64 1, .int .i64 0] 2)
  generalize V14.alloc (.cells #[.int .i64 1, .int .i64 0] 2) = V15 at *
  rw [e14] at n15
  have e15 : V15.heap.size = W.heap.size + 1 + 1 + 1 + 1 + 1 + 1 + 1 + 1 + 1 + 1 + 1 + 1 + 1 + 1 + 1 := by rw [s15, e14]
  have B15 : Below W.heap.size W V15 := B14.trans (b15.mono B14.size)
  replace n2 := n2.below b15
  replace n3 := n3.below b15
  replace n6 := n6.below b15
  replace n7 := n7.below b15
  replace n10 := n10.below b15
  replace n11 := n11.below b15
  replace n14 := n14.below b15
  have n16 := isI_new V15 [2] (cs := #[.int .i64 2]) rfl rfl
  have b16 := below_box V15 (.cells #[.int .i64 2] 2)
  have s16 := World.size_alloc V15 (.cells #[.int .i64 2] 2)
  generalize V15.alloc (.cells #[.int .i64 2] 2) = V16 at *
  rw [e15] at n16
  have e16 : V16.heap.size = W.heap.size + 1 + 1 + 1 + 1 + 1 + 1 + 1 + 1 + 1 + 1 + 1 + 1 + 1 + 1 + 1 + 1 := by rw [s16, e15]
  have B16 : Below W.heap.size W V16 := B15.trans (b16.mono B15.size)
  replace n2 := n2.below b16
  replace n3 := n3.below b16
  replace n6 := n6.below b16
  replace n7 := n7.below b16
  replace n10 := n10.below b16
  replace n11 := n11.below b16
  replace n14 := n14.below b16
  replace n15 := n15.below b16
  have n17 := isI_new V16 [1] (cs := #[.int .i64 1]) rfl rfl
  have b17 := below_box V16 (.cells #[.int .i64 1] 2)
  have s17 := World.size_alloc V16 (.cells #[.int .i64 1] 2)
  generalize V16.alloc (.cells #[.int .i64 1] 2) = V17 at *
  rw [e16] at n17
  have e17 : V17.heap.size = W.heap.size + 1 + 1 + 1 + 1 + 1 + 1 + 1 + 1 + 1 + 1 + 1 + 1 + 1 + 1 + 1 + 1 + 1 := by rw [s17, e16]
  have B17 : Below W.heap.size W V17 := B16.trans (b17.mono B16.size)
  replace n2 := n2.below b17
  replace n3 := n3.below b17
  replace n6 := n6.below b17
  replace n7 := n7.below b17
  replace n10 := n10.below b17
  replace n11 := n11.below b17
  replace n14 := n14.below b17
  replace n15 := n15.below b17
  replace n16 := n16.below b17
  have n18 := mat_new (w := V17) (T := 34) [[2], [1]] [.slice (some ⟨W.heap.size + 1 + 1 + 1 + 1 + 1 + 1 + 1 + 1 + 1 + 1 + 1 + 1 + 1 + 1 + 1, 0, none⟩) 1 1, .slice (some ⟨W.heap.size + 1 + 1 + 1 + 1 + 1 + 1 + 1 + 1 + 1 + 1 + 1 + 1 + 1 + 1 + 1 + 1, 0, none⟩) 1 1] (n := 2) fun i hi => by match i, hi with | 0, _ => exact ⟨_, rfl, n16⟩ | 1, _ => exact ⟨_, rfl, n17⟩
  have b18 := below_box V17 (.cells #[.slice (some ⟨W.heap.size + 1 + 1 + 1 + 1 + 1 + 1 + 1 + 1 + 1 + 1 + 1 + 1 + 1 + 1 + 1, 0, none⟩) 1 1, .slice (some ⟨W.heap.size + 1 + 1 + 1 + 1 + 1 + 1 + 1 + 1 + 1 + 1 + 1 + 1 + 1 + 1 + 1 + 1, 0, none⟩) 1 1] 34)
  have s18 := World.size_alloc V17 (.cells #[.slice (some ⟨W.heap.size + 1 + 1 + 1 + 1 + 1 + 1 + 1 + 1 + 1 + 1 + 1 + 1 + 1 + 1 + 1, 0, none⟩) 1 1, .slice (some ⟨W.heap.size + 1 + 1 + 1 + 1 + 1 + 1 + 1 + 1 + 1 + 1 + 1 + 1 + 1 + 1 + 1 + 1, 0, none⟩) 1 1] 34)
  generalize V17.alloc (.cells #[.slice (some ⟨W.heap.size + 1 + 1 + 1 + 1 + 1 + 1 + 1 + 1 + 1 + 1 + 1 + 1 + 1 + 1 + 1, 0, none⟩) 1 1, .slice (some ⟨W.heap.size + 1 + 1 + 1 + 1 + 1 + 1 + 1 + 1 + 1 + 1 + 1 + 1 + 1 + 1 + 1 + 1, 0, none⟩) 1 1] 34) = V18 at *
  rw [e17] at n18
  have e18 : V18.heap.size = W.heap.size + 1 + 1 + 1 + 1 + 1 + 1 + 1 + 1 + 1 + 1 + 1 + 1 + 1 + 1 + 1 + 1 + 1 + 1 := by rw [s18, e17]
  have B18 : Below W.heap.size W V18 := B17.trans (b18.mono B17.size)
  replace n2 := n2.below b18
  replace n3 := n3.below b18
  replace n6 := n6.below b18
  replace n7 := n7.below b18
  replace n10 := n10.below b18
  replace n11 := n11.below b18
  replace n14 := n14.below b18
  replace n15 := n15.below b18
  replace n16 := n16.below b18
  replace n17 := n17.below b18
  have n19 := isI_new V18 [1, -4] (cs := #[.int .i64 1, .int .i64 (-4)]) rfl rfl
  have b19 := below_box V18 (.cells #[.int .i64 1, .int .i64 (-4)] 2)
  have s19 := World.size_alloc V18 (.cells #[.int .i64 1, .int .i64 (-4)] 2)
  generalize V18.alloc (.cells #[.int .i64 1, .int .i64 (-4)] 2) = V19 at *
  rw [e18] at n19
  have e19 : V19.heap.size = W.heap.size + 1 + 1 + 1 + 1 + 1 + 1 + 1 + 1 + 1 + 1 + 1 + 1 + 1 + 1 + 1 + 1 + 1 + 1 + 1 := by rw [s19, e18]
  have B19 : Below W.heap.size W V19 := B18.trans (b19.mono B18.size)
  replace n2 := n2.below b19
  replace n3 := n3.below b19
  replace n6 := n6.below b19
  replace n7 := n7.below b19
  replace n10 := n10.below b19
  replace n11 := n11.below b19
  replace n14 := n14.below b19
  replace n15 := n15.below b19
  replace n18 := n18.below b19
  have n20 := isI_new V19 [2] (cs := #[.int .i64 2]) rfl rfl
  have b20 := below_box V19 (.cells #[.int .i64 2] 2)
  have s20 := World.size_alloc V19 (.cells #[.int .i64 2] 2)
  generalize V19.alloc (.cells #[.int .i64 2] 2) = V20 at *
  rw [e19] at n20
  have e20 : V20.heap.size = W.heap.size + 1 + 1 + 1 + 1 + 1 + 1 + 1 + 1 + 1 + 1 + 1 + 1 + 1 + 1 + 1 + 1 + 1 + 1 + 1 + 1 := by rw [s20, e19]
  have B20 : Below W.heap.size W V20 := B19.trans (b20.mono B19.size)
  replace n2 := n2.below b20
  replace n3 := n3.below b20
  replace n6 := n6.below b20
  replace n7 := n7.below b20
  replace n10 := n10.below b20
  replace n11 := n11.below b20
  replace n14 := n14.below b20
  replace n15 := n15.below b20
  replace n18 := n18.below b20
  replace n19 := n19.below b20
  have n21 := isI_new V20 [-9223372036854775808] (cs := #[.int .i64 (-9223372036854775808)]) rfl rfl
  have b21 := below_box V20 (.cells #[.int .i64 (-9223372036854775808)] 2)
  have s21 := World.size_alloc V20 (.cells #[.int .i64 (-9223372036854775808)] 2)
  generalize V20.alloc (.cells #[.int .i64 (-9223372036854775808)] 2) = V21 at *
  rw [e20] at n21
  have e21 : V21.heap.size = W.heap.size + 1 + 1 + 1 + 1 + 1 + 1 + 1 + 1 + 1 + 1 + 1 + 1 + 1 + 1 + 1 + 1 + 1 + 1 + 1 + 1 + 1 := by rw [s21, e20]
  have B21 : Below W.heap.size W V21 := B20.trans (b21.mono B20.size)
  replace n2 := n2.below b21
  replace n3 := n3.below b21
  replace n6 := n6.below b21
  replace n7 := n7.below b21
  replace n10 := n10.below b21
  replace n11 := n11.below b21
  replace n14 := n14.below b21
  replace n15 := n15.below b21
  replace n18 := n18.below b21
  replace n19 := n19.below b21
  replace n20 := n20.below b21
  have n22 := mat_new (w := V21) (T := 34) [[2], [-9223372036854775808]] [.slice (some ⟨W.heap.size + 1 + 1 + 1 + 1 + 1 + 1 + 1 + 1 + 1 + 1 + 1 + 1 + 1 + 1 + 1 + 1 + 1 + 1 + 1, 0, none⟩) 1 1, .slice (some ⟨W.heap.size + 1 + 1 + 1 + 1 + 1 + 1 + 1 + 1 + 1 + 1 + 1 + 1 + 1 + 1 + 1 + 1 + 1 + 1 + 1 + 1, 0, none⟩) 1 1] (n := 2) fun i hi => by match i, hi with | 0, _ => exact ⟨_, rfl, n20⟩ | 1, _ => exact ⟨_, rfl, n21⟩
  have b22 := below_box V21 (.cells #[.slice (some ⟨W.heap.size + 1 + 1 + 1 + 1 + 1 + 1 + 1 + 1 + 1 + 1 + 1 + 1 + 1 + 1 + 1 + 1 + 1 + 1 + 1, 0, none⟩) 1 1, .slice (some ⟨W.heap.size + 1 + 1 + 1 + 1 + 1 + 1 + 1 + 1 + 1 + 1 + 1 + 1 + 1 + 1 + 1 + 1 + 1 + 1 + 1 + 1, 0, none⟩) 1 1] 34)
  have s22 := World.size_alloc V21 (.cells #[.slice (some ⟨W.heap.size + 1 + 1 + 1 + 1 + 1 + 1 + 1 + 1 + 1 + 1 + 1 + 1 + 1 + 1 + 1 + 1 + 1 + 1 + 1, 0, none⟩) 1 1, .slice (some ⟨W.heap.size + 1 + 1 + 1 + 1 + 1 + 1 + 1 + 1 + 1 + 1 + 1 + 1 + 1 + 1 + 1 + 1 + 1 + 1 + 1 + 1, 0, none⟩) 1 1] 34)
  generalize V21.alloc (.cells #[.slice (some ⟨W.heap.size + 1 + 1 + 1 + 1 + 1 + 1 + 1 + 1 + 1 + 1 + 1 + 1 + 1 + 1 + 1 + 1 + 1 + 1 + 1, 0, none⟩) 1 1, .slice (some ⟨W.heap.size + 1 + 1 + 1 + 1 + 1 + 1 + 1 + 1 + 1 + 1 + 1 + 1 + 1 + 1 + 1 + 1 + 1 + 1 + 1 + 1, 0, none⟩) 1 1] 34) = V22 at *
  rw [e21] at n22
  have e22 : V22.heap.size = W.heap.size + 1 + 1 + 1 + 1 + 1 + 1 + 1 + 1 + 1 + 1 + 1 + 1 + 1 + 1 + 1 + 1 + 1 + 1 + 1 + 1 + 1 + 1 := by rw [s22, e21]
  have B22 : Below W.heap.size W V22 := B21.trans (b22.mono B21.size)
  replace n2 := n2.below b22
  replace n3 := n3.below b22
  replace n6 := n6.below b22
  replace n7 := n7.below b22
  replace n10 := n10.below b22
  replace n11 := n11.below b22
  replace n14 := n14.below b22
  replace n15 := n15.below b22
  replace n18 := n18.below b22
  replace n19 := n19.below b22
  replace n20 := n20.below b22
  replace n21 := n21.below b22
  have n23 := isI_new V22 [1, 0] (cs := #[.int .i64 1, .int .i64 0]) rfl rfl
  have b23 := below_box V22 (.cells #[.int .i64 1, .int .i64 0] 2)
  have s23 := World.size_alloc V22 (.cells #[.int .i64 1, .int .i64 0] 2)
  generalize V22.alloc (.cells #[.int .i64 1, .int .i64 0] 2) = V23 at *
  rw [e22] at n23
  have e23 : V23.heap.size = W.heap.size + 1 + 1 + 1 + 1 + 1 + 1 + 1 + 1 + 1 + 1 + 1 + 1 + 1 + 1 + 1 + 1 + 1 + 1 + 1 + 1 + 1 + 1 + 1 := by rw [s23, e22]
  have B23 : Below W.heap.size W V23 := B22.trans (b23.mono B22.size)
  replace n2 := n2.below b23
  replace n3 := n3.below b23
  replace n6 := n6.below b23
  replace n7 := n7.below b23
  replace n10 := n10.below b23
  replace n11 := n11.below b23
  replace n14 := n14.below b23
  replace n15 := n15.below b23
  replace n18 := n18.below b23
  replace n19 := n19.below b23
  replace n22 := n22.below b23
  have b := below_box V23 (.cells #[.slice none 0 0, .slice none 0 0, .slice (some ⟨W.heap.size + 1, 0, none⟩) 1 1, .slice (some ⟨W.heap.size + 1 + 1, 0, none⟩) 2 2, .slice (some ⟨W.heap.size + 1 + 1 + 1 + 1 + 1, 0, none⟩) 2 2, .slice (some ⟨W.heap.size + 1 + 1 + 1 + 1 + 1 + 1, 0, none⟩) 1 1, .slice (some ⟨W.heap.size + 1 + 1 + 1 + 1 + 1 + 1 + 1 + 1 + 1, 0, none⟩) 2 2, .slice (some ⟨W.heap.size + 1 + 1 + 1 + 1 + 1 + 1 + 1 + 1 + 1 + 1, 0, none⟩) 2 2, .slice (some ⟨W.heap.size + 1 + 1 + 1 + 1 + 1 + 1 + 1 + 1 + 1 + 1 + 1 + 1 + 1, 0, none⟩) 2 2, .slice (some ⟨W.heap.size + 1 + 1 + 1 + 1 + 1 + 1 + 1 + 1 + 1 + 1 + 1 + 1 + 1 + 1, 0, none⟩) 2 2, .slice (some ⟨W.heap.size + 1 + 1 + 1 + 1 + 1 + 1 + 1 + 1 + 1 + 1 + 1 + 1 + 1 + 1 + 1 + 1 + 1, 0, none⟩) 2 2, .slice (some ⟨W.heap.size + 1 + 1 + 1 + 1 + 1 + 1 + 1 + 1 + 1 + 1 + 1 + 1 + 1 + 1 + 1 + 1 + 1 + 1, 0, none⟩) 2 2, .slice (some ⟨W.heap.size + 1 + 1 + 1 + 1 + 1 + 1 + 1 + 1 + 1 + 1 + 1 + 1 + 1 + 1 + 1 + 1 + 1 + 1 + 1 + 1 + 1, 0, none⟩) 2 2, .slice (some ⟨W.heap.size + 1 + 1 + 1 + 1 + 1 + 1 + 1 + 1 + 1 + 1 + 1 + 1 + 1 + 1 + 1 + 1 + 1 + 1 + 1 + 1 + 1 + 1, 0, none⟩) 2 2] T)
  have hh := heap_alloc_new V23 (.cells #[.slice none 0 0, .slice none 0 0, .slice (some ⟨W.heap.size + 1, 0, none⟩) 1 1, .slice (some ⟨W.heap.size + 1 + 1, 0, none⟩) 2 2, .slice (some ⟨W.heap.size + 1 + 1 + 1 + 1 + 1, 0, none⟩) 2 2, .slice (some ⟨W.heap.size + 1 + 1 + 1 + 1 + 1 + 1, 0, none⟩) 1 1, .slice (some ⟨W.heap.size + 1 + 1 + 1 + 1 + 1 + 1 + 1 + 1 + 1, 0, none⟩) 2 2, .slice (some ⟨W.heap.size + 1 + 1 + 1 + 1 + 1 + 1 + 1 + 1 + 1 + 1, 0, none⟩) 2 2, .slice (some ⟨W.heap.size + 1 + 1 + 1 + 1 + 1 + 1 + 1 + 1 + 1 + 1 + 1 + 1 + 1, 0, none⟩) 2 2, .slice (some ⟨W.heap.size + 1 + 1 + 1 + 1 + 1 + 1 + 1 + 1 + 1 + 1 + 1 + 1 + 1 + 1, 0, none⟩) 2 2, .slice (some ⟨W.heap.size + 1 + 1 + 1 + 1 + 1 + 1 + 1 + 1 + 1 + 1 + 1 + 1 + 1 + 1 + 1 + 1 + 1, 0, none⟩) 2 2, .slice (some ⟨W.heap.size + 1 + 1 + 1 + 1 + 1 + 1 + 1 + 1 + 1 + 1 + 1 + 1 + 1 + 1 + 1 + 1 + 1 + 1, 0, none⟩) 2 2, .slice (some ⟨W.heap.size + 1 + 1 + 1 + 1 + 1 + 1 + 1 + 1 + 1 + 1 + 1 + 1 + 1 + 1 + 1 + 1 + 1 + 1 + 1 + 1 + 1, 0, none⟩) 2 2, .slice (some ⟨W.heap.size + 1 + 1 + 1 + 1 + 1 + 1 + 1 + 1 + 1 + 1 + 1 + 1 + 1 + 1 + 1 + 1 + 1 + 1 + 1 + 1 + 1 + 1, 0, none⟩) 2 2] T)
  rw [e23] at hh
  refine ⟨_, rfl, fun k hk => ?_, B23.trans (b.mono B23.size)⟩
  have h : k = 0 ∨ k = 1 ∨ k = 2 ∨ k = 3 ∨ k = 4 ∨ k = 5 ∨ k = 6 := by omega
  clear hk
  rcases h with rfl | rfl | rfl | rfl | rfl | rfl | rfl
  · refine ⟨⟨none, 0, none, 0⟩, ⟨fun _ h => absurd h (Nat.not_lt_zero _), fun _ h => absurd h (Nat.not_lt_zero _), fun _ => ⟨rfl, rfl⟩, Nat.le_refl _⟩, fun j v hv => ?_⟩
    rw [cell_of_row _ _ _ _ _ _ hh]
    match j, hv with | 0, hv => exact hv | 1, hv => exact hv | j + 2, hv => cases hv
  · refine ⟨⟨some ⟨W.heap.size + 1, 0, none⟩, 1, some ⟨W.heap.size + 1 + 1, 0, none⟩, 2⟩, ⟨n2.below b, (let ⟨_, _, e, h⟩ := n3; by cases e; exact h.below b)⟩, fun j v hv => ?_⟩
    rw [cell_of_row _ _ _ _ _ _ hh]
    match j, hv with | 0, hv => exact hv | 1, hv => exact hv | j + 2, hv => cases hv
  · refine ⟨⟨some ⟨W.heap.size + 1 + 1 + 1 + 1 + 1, 0, none⟩, 2, some ⟨W.heap.size + 1 + 1 + 1 + 1 + 1 + 1, 0, none⟩, 1⟩, ⟨n6.below b, (let ⟨_, _, e, h⟩ := n7; by cases e; exact h.below b)⟩, fun j v hv => ?_⟩
    rw [cell_of_row _ _ _ _ _ _ hh]
    match j, hv with | 0, hv => exact hv | 1, hv => exact hv | j + 2, hv => cases hv
  · refine ⟨⟨some ⟨W.heap.size + 1 + 1 + 1 + 1 + 1 + 1 + 1 + 1 + 1, 0, none⟩, 2, some ⟨W.heap.size + 1 + 1 + 1 + 1 + 1 + 1 + 1 + 1 + 1 + 1, 0, none⟩, 2⟩, ⟨n10.below b, (let ⟨_, _, e, h⟩ := n11; by cases e; exact h.below b)⟩, fun j v hv => ?_⟩
    rw [cell_of_row _ _ _ _ _ _ hh]
    match j, hv with | 0, hv => exact hv | 1, hv => exact hv | j + 2, hv => cases hv
  · refine ⟨⟨some ⟨W.heap.size + 1 + 1 + 1 + 1 + 1 + 1 + 1 + 1 + 1 + 1 + 1 + 1 + 1, 0, none⟩, 2, some ⟨W.heap.size + 1 + 1 + 1 + 1 + 1 + 1 + 1 + 1 + 1 + 1 + 1 + 1 + 1 + 1, 0, none⟩, 2⟩, ⟨n14.below b, (let ⟨_, _, e, h⟩ := n15; by cases e; exact h.below b)⟩, fun j v hv => ?_⟩
    rw [cell_of_row _ _ _ _ _ _ hh]
    match j, hv with | 0, hv => exact hv | 1, hv => exact hv | j + 2, hv => cases hv
  · refine ⟨⟨some ⟨W.heap.size + 1 + 1 + 1 + 1 + 1 + 1 + 1 + 1 + 1 + 1 + 1 + 1 + 1 + 1 + 1 + 1 + 1, 0, none⟩, 2, some ⟨W.heap.size + 1 + 1 + 1 + 1 + 1 + 1 + 1 + 1 + 1 + 1 + 1 + 1 + 1 + 1 + 1 + 1 + 1 + 1, 0, none⟩, 2⟩, ⟨n18.below b, (let ⟨_, _, e, h⟩ := n19; by cases e; exact h.below b)⟩, fun j v hv => ?_⟩
    rw [cell_of_row _ _ _ _ _ _ hh]
    match j, hv with | 0, hv => exact hv | 1, hv => exact hv | j + 2, hv => cases hv
  · refine ⟨⟨some ⟨W.heap.size + 1 + 1 + 1 + 1 + 1 + 1 + 1 + 1 + 1 + 1 + 1 + 1 + 1 + 1 + 1 + 1 + 1 + 1 + 1 + 1 + 1, 0, none⟩, 2, some ⟨W.heap.size + 1 + 1 + 1 + 1 + 1 + 1 + 1 + 1 + 1 + 1 + 1 + 1 + 1 + 1 + 1 + 1 + 1 + 1 + 1 + 1 + 1 + 1, 0, none⟩, 2⟩, ⟨n22.below b, (let ⟨_, _, e, h⟩ := n23; by cases e; exact h.below b)⟩, fun j v hv => ?_⟩
    rw [cell_of_row _ _ _ _ _ _ hh]
    match j, hv with | 0, hv => exact hv | 1, hv => exact hv | j + 2, hv => cases hv
end M
end Go.Proofs.Ytnlkikcnjlkkdaa
/- The number of a whole number keeps sums and products; the way back. -/
namespace Go.Proofs.Ytnlkikcnjlkkdaa
namespace MM
theorem numU_of_emod {a b : Int} {q : Nat} (h : a % (q : Int) = b % (q : Int)) : numU a q = numU b q := by unfold numU; rw [h]
theorem numU_self {x q : Nat} (h : Good q) (hx : x < q) : numU (x : Int) q = x := by rw [numU_nat h, Nat.mod_eq_of_lt hx]
theorem numU_ltq {n : Int} {q : Nat} (h : Good q) : numU n q < q := by
  have h1 := numU_int (n := n) h
  have h2 := Int.emod_lt_of_pos n (show (0 : Int) < q by have := h.1; omega)
  omega
theorem numU_add {a b : Int} {q : Nat} (h : Good q) : addU (numU a q) (numU b q) q = numU (a + b) q := by
  rw [addU_of h]
  have e : (((numU a q + numU b q) % q : Nat) : Int) = ((numU (a + b) q : Nat) : Int) := by
    rw [Int.natCast_emod, Int.natCast_add, numU_int h, numU_int h, numU_int h]
    simp only [Int.emod_add_emod, Int.add_emod_emod]
  omega
theorem numU_mul {a b : Int} {q : Nat} (h : Good q) : mulU (numU a q) (numU b q) q = numU (a * b) q := by
  rw [mulU_of h]
  have e : ((numU a q * numU b q % q : Nat) : Int) = ((numU (a * b) q : Nat) : Int) := by
    rw [Int.natCast_emod, Int.natCast_mul, numU_int h, numU_int h, numU_int h, ← Int.mul_emod]
  omega
theorem numU_zero {q : Nat} (h : Good q) : numU 0 q = 0 := by
  have := numU_int (n := 0) h
  simp at this
  omega
theorem numU_neg {a : Int} {q : Nat} (h : Good q) : addU (numU a q) (numU (-a) q) q = 0 := by
  rw [numU_add h, show a + -a = 0 by omega, numU_zero h]
theorem numU_sub_q {a : Int} {q : Nat} : numU (a - q) q = numU a q := numU_of_emod (by rw [Int.sub_emod_right])
/-- Num of Int is the number. -/
theorem num_int {x q : Nat} (h : Good q) : numU (intU x q) q = x % q := by
  unfold intU
  rw [if_pos h]
  by_cases e : x % q ≤ (q - 1) / 2
  · rw [if_pos e, numU_self h (Nat.mod_lt _ h.1)]
  · rw [if_neg e, numU_sub_q, numU_self h (Nat.mod_lt _ h.1)]
/-- Int of Num is the whole number, near 0. -/
theorem int_num {n : Int} {q : Nat} (h : Good q) (h1 : -(((q - 1) / 2 : Nat) : Int) ≤ n) (h2 : n ≤ (((q - 1) / 2 : Nat) : Int)) : intU (numU n q) q = n := by
  have hlt := numU_ltq (n := n) h
  have hq := h.1
  unfold intU
  rw [if_pos h, Nat.mod_eq_of_lt hlt]
  obtain ⟨t, ht⟩ : ∃ t, (q - 1) / 2 = t := ⟨_, rfl⟩
  rw [ht] at h1 h2 ⊢
  have htq : 2 * t < q := by omega
  by_cases h0 : 0 ≤ n
  · have e : ((numU n q : Nat) : Int) = n := by rw [numU_int h]; exact Int.emod_eq_of_lt h0 (by omega)
    rw [if_pos (by omega), e]
  · have e : ((numU n q : Nat) : Int) = n + q := by
      rw [numU_int h, ← Int.add_emod_right]
      exact Int.emod_eq_of_lt (by omega) (by omega)
    rw [if_neg (by omega), e]
    omega
end MM
end Go.Proofs.Ytnlkikcnjlkkdaa

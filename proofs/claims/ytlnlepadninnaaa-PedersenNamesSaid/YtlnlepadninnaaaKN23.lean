/- The texts PedNames, one behind the other. -/
import Derived.Test.YtlnlepadninnaaaKN21
import Derived.Test.YtlnlepadninnaaaKN22
import Derived.Test.YtlnlepadninnaaaKN17
namespace Go.Proofs.Ytlnlepadninnaaa
open Go Go.RowKit Go.Lib
namespace PedersenNames
open M

/-- A cube of two by two lists of two, as it is built. -/
theorem cube_at (W : World) (a0 a1 b0 b1 c0 c1 d0 d1 : Nat) : ∃ W1 : World, ((((((W.alloc (.cells #[.int .u64 a0, .int .u64 a1] 23)).alloc (.cells #[.int .u64 b0, .int .u64 b1] 23)).alloc (.cells #[.slice (some ⟨W.heap.size, 0, none⟩) 2 2, .slice (some ⟨W.heap.size + 1, 0, none⟩) 2 2] 27)).alloc (.cells #[.int .u64 c0, .int .u64 c1] 23)).alloc (.cells #[.int .u64 d0, .int .u64 d1] 23)).alloc (.cells #[.slice (some ⟨W.heap.size + 1 + 1 + 1, 0, none⟩) 2 2, .slice (some ⟨W.heap.size + 1 + 1 + 1 + 1, 0, none⟩) 2 2] 27)).alloc (.cells #[.slice (some ⟨W.heap.size + 1 + 1, 0, none⟩) 2 2, .slice (some ⟨W.heap.size + 1 + 1 + 1 + 1 + 1, 0, none⟩) 2 2] 28) = W1 ∧
    Cub W1 (some ⟨W.heap.size + 1 + 1 + 1 + 1 + 1 + 1, 0, none⟩) 2 (MM.lenC [[[a0, a1], [b0, b1]], [[c0, c1], [d0, d1]]]) (MM.lenCL [[[a0, a1], [b0, b1]], [[c0, c1], [d0, d1]]]) (MM.nlC [[[a0, a1], [b0, b1]], [[c0, c1], [d0, d1]]]) ∧ Below W.heap.size W W1 := by
  have n1 := isR_new W [a0, a1] (cs := #[.int .u64 a0, .int .u64 a1]) rfl rfl
  have b1' := below_box W (.cells #[.int .u64 a0, .int .u64 a1] 23)
  have s1 := World.size_alloc W (.cells #[.int .u64 a0, .int .u64 a1] 23)
  generalize W.alloc (.cells #[.int .u64 a0, .int .u64 a1] 23) = V1 at *
  have n2 := isR_new V1 [b0, b1] (cs := #[.int .u64 b0, .int .u64 b1]) rfl rfl
  have b2 := below_box V1 (.cells #[.int .u64 b0, .int .u64 b1] 23)
  have s2 := World.size_alloc V1 (.cells #[.int .u64 b0, .int .u64 b1] 23)
  generalize V1.alloc (.cells #[.int .u64 b0, .int .u64 b1] 23) = V2 at *
  rw [s1] at n2
  have n3 := isM2 V2 [a0, a1] [b0, b1] (n1.below b2) n2
  have b3 := below_box V2 (.cells #[.slice (some ⟨W.heap.size, 0, none⟩) 2 2, .slice (some ⟨W.heap.size + 1, 0, none⟩) 2 2] 27)
  have s3 := World.size_alloc V2 (.cells #[.slice (some ⟨W.heap.size, 0, none⟩) 2 2, .slice (some ⟨W.heap.size + 1, 0, none⟩) 2 2] 27)
  generalize V2.alloc (.cells #[.slice (some ⟨W.heap.size, 0, none⟩) 2 2, .slice (some ⟨W.heap.size + 1, 0, none⟩) 2 2] 27) = V3 at *
  have n4 := isR_new V3 [c0, c1] (cs := #[.int .u64 c0, .int .u64 c1]) rfl rfl
  have b4 := below_box V3 (.cells #[.int .u64 c0, .int .u64 c1] 23)
  have s4 := World.size_alloc V3 (.cells #[.int .u64 c0, .int .u64 c1] 23)
  generalize V3.alloc (.cells #[.int .u64 c0, .int .u64 c1] 23) = V4 at *
  have n5 := isR_new V4 [d0, d1] (cs := #[.int .u64 d0, .int .u64 d1]) rfl rfl
  have b5 := below_box V4 (.cells #[.int .u64 d0, .int .u64 d1] 23)
  have s5 := World.size_alloc V4 (.cells #[.int .u64 d0, .int .u64 d1] 23)
  generalize V4.alloc (.cells #[.int .u64 d0, .int .u64 d1] 23) = V5 at *
  have e2 : V2.heap.size = W.heap.size + 1 + 1 := by rw [s2, s1]
  have e3 : V3.heap.size = W.heap.size + 1 + 1 + 1 := by rw [s3, e2]
  have e4 : V4.heap.size = W.heap.size + 1 + 1 + 1 + 1 := by rw [s4, e3]
  have e5 : V5.heap.size = W.heap.size + 1 + 1 + 1 + 1 + 1 := by rw [s5, e4]
  rw [e2] at n3
  rw [e3] at n4
  rw [e4] at n5
  have n6 := isM2 V5 [c0, c1] [d0, d1] (n4.below b5) n5
  have b6 := below_box V5 (.cells #[.slice (some ⟨W.heap.size + 1 + 1 + 1, 0, none⟩) 2 2, .slice (some ⟨W.heap.size + 1 + 1 + 1 + 1, 0, none⟩) 2 2] 27)
  have s6 := World.size_alloc V5 (.cells #[.slice (some ⟨W.heap.size + 1 + 1 + 1, 0, none⟩) 2 2, .slice (some ⟨W.heap.size + 1 + 1 + 1 + 1, 0, none⟩) 2 2] 27)
  generalize V5.alloc (.cells #[.slice (some ⟨W.heap.size + 1 + 1 + 1, 0, none⟩) 2 2, .slice (some ⟨W.heap.size + 1 + 1 + 1 + 1, 0, none⟩) 2 2] 27) = V6 at *
  rw [e5] at n6
  have e6 : V6.heap.size = W.heap.size + 1 + 1 + 1 + 1 + 1 + 1 := by rw [s6, e5]
  have n7 := cub_new V6 (n := 2) (K := MM.lenC [[[a0, a1], [b0, b1]], [[c0, c1], [d0, d1]]]) (L := MM.lenCL [[[a0, a1], [b0, b1]], [[c0, c1], [d0, d1]]]) (F := MM.nlC [[[a0, a1], [b0, b1]], [[c0, c1], [d0, d1]]]) [.slice (some ⟨W.heap.size + 1 + 1, 0, none⟩) 2 2, .slice (some ⟨W.heap.size + 1 + 1 + 1 + 1 + 1, 0, none⟩) 2 2] fun i hi => by
    match i, hi with
    | 0, _ => exact ⟨_, rfl, IsV.below (let ⟨bo, c, e, h⟩ := n3; ⟨bo, c, e, h, fun h0 => by rw [h0] at e; cases e⟩) (((b4.trans (b5.mono b4.size)).trans (b6.mono (by omega))))⟩
    | 1, _ => exact ⟨_, rfl, let ⟨bo, c, e, h⟩ := n6; ⟨bo, c, e, h, fun h0 => by rw [h0] at e; cases e⟩⟩
  have b7 := below_box V6 (.cells #[.slice (some ⟨W.heap.size + 1 + 1, 0, none⟩) 2 2, .slice (some ⟨W.heap.size + 1 + 1 + 1 + 1 + 1, 0, none⟩) 2 2] 28)
  rw [e6] at n7
  exact ⟨_, rfl, n7, (((((b1'.trans (b2.mono (by omega))).trans (b3.mono (by omega))).trans (b4.mono (by omega))).trans (b5.mono (by omega))).trans (b6.mono (by omega))).trans (b7.mono (by omega))⟩
/-- What an x that makes lists wrong does. -/
theorem bad_x : ∀ k, k < 5 → formB sm8 2 (MM.lenL [[13, MM.nl [0, 5, 22, 23, 24] k], [18, 9]]) (MM.nlR [[13, MM.nl [0, 5, 22, 23, 24] k], [18, 9]]) = false ∧ sqB sm8 2 (MM.lenC [[[13, 1], [2, MM.nl [0, 5, 22, 23, 24] k]], [[18, 4], [6, 8]]]) (MM.lenCL [[[13, 1], [2, MM.nl [0, 5, 22, 23, 24] k]], [[18, 4], [6, 8]]]) (MM.nlC [[[13, 1], [2, MM.nl [0, 5, 22, 23, 24] k]], [[18, 4], [6, 8]]]) = false ∧ MM.nl [0, 5, 22, 23, 24] k < 18446744073709551616 := by decide +kernel
theorem okm_x {x : Nat} (hx : x < 18446744073709551616) : Okm 2 (MM.lenL [[13, x], [18, 9]]) (MM.nlR [[13, x], [18, 9]]) := okm_of (by simp [hx]) ⟨by decide, fun s hs => by match s, hs with | 0, _ => exact (by decide : 2 ≤ 1000) | 1, _ => exact (by decide : 2 ≤ 1000)⟩
theorem okc_x {x : Nat} (hx : x < 18446744073709551616) : Okc 2 (MM.lenC [[[13, 1], [2, x]], [[18, 4], [6, 8]]]) (MM.lenCL [[[13, 1], [2, x]], [[18, 4], [6, 8]]]) (MM.nlC [[[13, 1], [2, x]], [[18, 4], [6, 8]]]) := okc_of (by simp [hx]) ⟨by decide, fun s hs => by match s, hs with | 0, _ => exact (by decide : 2 ≤ 1000) | 1, _ => exact (by decide : 2 ≤ 1000), fun s hs i hi => by
  match s, hs with
  | 0, _ => (match i, hi with | 0, _ => exact (by decide : 2 ≤ 1000) | 1, _ => exact (by decide : 2 ≤ 1000))
  | 1, _ => (match i, hi with | 0, _ => exact (by decide : 2 ≤ 1000) | 1, _ => exact (by decide : 2 ≤ 1000))⟩
theorem be3 {w u : World} {a b c : Obj} (h : Below (((w.alloc a).alloc b).alloc c).heap.size (((w.alloc a).alloc b).alloc c) u) : Below w.heap.size w u := by
  have x1 := (Below.refl w.heap.size w).alloc (Nat.le_refl _) a
  have x2 := x1.alloc x1.size b
  have x3 := x2.alloc x2.size c
  exact x3.trans (h.mono x3.size)
theorem cub8 {W : World} {ao : Option Addr} {n : Nat} {K : Nat → Nat} {L : Nat → Nat → Nat} {F : Nat → Nat → Nat → Nat} (h : Cub W ao n K L F) (o : Obj) : Cub (W.alloc o) ao n K L F := h.below (below_box _ _)
/-- The lists that are wrong, as they are built. -/
theorem bads_at (W : World) : ∃ W1 : World, (((((((((((W.alloc (.cells #[.int .u64 13, .int .u64 16, .int .u64 1] 23)).alloc (.cells #[.int .u64 18, .int .u64 9] 23)).alloc (.cells #[.slice (some ⟨W.heap.size, 0, none⟩) 3 3, .slice (some ⟨W.heap.size + 1, 0, none⟩) 2 2] 27)).alloc (.cells #[.int .u64 13] 23)).alloc (.cells #[.int .u64 18, .int .u64 9] 23)).alloc (.cells #[.slice (some ⟨W.heap.size + 1 + 1 + 1, 0, none⟩) 1 1, .slice (some ⟨W.heap.size + 1 + 1 + 1 + 1, 0, none⟩) 2 2] 27)).alloc (.cells #[.int .u64 13, .int .u64 16] 23)).alloc (.cells #[.int .u64 18, .int .u64 9] 23)).alloc (.cells #[.int .u64 1, .int .u64 1] 23)).alloc (.cells #[.slice (some ⟨W.heap.size + 1 + 1 + 1 + 1 + 1 + 1, 0, none⟩) 2 2, .slice (some ⟨W.heap.size + 1 + 1 + 1 + 1 + 1 + 1 + 1, 0, none⟩) 2 2, .slice (some ⟨W.heap.size + 1 + 1 + 1 + 1 + 1 + 1 + 1 + 1, 0, none⟩) 2 2] 27)).alloc (.cells #[.slice (some ⟨W.heap.size + 1 + 1, 0, none⟩) 2 2, .slice (some ⟨W.heap.size + 1 + 1 + 1 + 1 + 1, 0, none⟩) 2 2, .slice (some ⟨W.heap.size + 1 + 1 + 1 + 1 + 1 + 1 + 1 + 1 + 1, 0, none⟩) 3 3, .slice none 0 0] 28)) = W1 ∧ Cub W1 (some ⟨W.heap.size + 1 + 1 + 1 + 1 + 1 + 1 + 1 + 1 + 1 + 1, 0, none⟩) 4 (MM.lenC [[[13, 16, 1], [18, 9]], [[13], [18, 9]], [[13, 16], [18, 9], [1, 1]], []]) (MM.lenCL [[[13, 16, 1], [18, 9]], [[13], [18, 9]], [[13, 16], [18, 9], [1, 1]], []]) (MM.nlC [[[13, 16, 1], [18, 9]], [[13], [18, 9]], [[13, 16], [18, 9], [1, 1]], []]) ∧ Below W.heap.size W W1 := by
  have n1 := isR_new W [13, 16, 1] (cs := #[.int .u64 13, .int .u64 16, .int .u64 1]) rfl rfl
  have b1 := below_box W (.cells #[.int .u64 13, .int .u64 16, .int .u64 1] 23)
  have s1 := World.size_alloc W (.cells #[.int .u64 13, .int .u64 16, .int .u64 1] 23)
  generalize W.alloc (.cells #[.int .u64 13, .int .u64 16, .int .u64 1] 23) = V1 at *
  have e1 : V1.heap.size = W.heap.size + 1 := by rw [s1]
  have B1 : Below W.heap.size W V1 := b1
  have n2 := isR_new V1 [18, 9] (cs := #[.int .u64 18, .int .u64 9]) rfl rfl
  have b2 := below_box V1 (.cells #[.int .u64 18, .int .u64 9] 23)
  have s2 := World.size_alloc V1 (.cells #[.int .u64 18, .int .u64 9] 23)
  generalize V1.alloc (.cells #[.int .u64 18, .int .u64 9] 23) = V2 at *
  rw [e1] at n2
  have e2 : V2.heap.size = W.heap.size + 1 + 1 := by rw [s2, e1]
  have B2 : Below W.heap.size W V2 := B1.trans (b2.mono B1.size)
  replace n1 := n1.below b2
  have n3 := isV_new V2 [[13, 16, 1], [18, 9]] [.slice (some ⟨W.heap.size, 0, none⟩) 3 3, .slice (some ⟨W.heap.size + 1, 0, none⟩) 2 2] (n := 2) rfl fun i hi => by match i, hi with | 0, _ => exact ⟨_, rfl, n1⟩ | 1, _ => exact ⟨_, rfl, n2⟩
  have b3 := below_box V2 (.cells #[.slice (some ⟨W.heap.size, 0, none⟩) 3 3, .slice (some ⟨W.heap.size + 1, 0, none⟩) 2 2] 27)
  have s3 := World.size_alloc V2 (.cells #[.slice (some ⟨W.heap.size, 0, none⟩) 3 3, .slice (some ⟨W.heap.size + 1, 0, none⟩) 2 2] 27)
  generalize V2.alloc (.cells #[.slice (some ⟨W.heap.size, 0, none⟩) 3 3, .slice (some ⟨W.heap.size + 1, 0, none⟩) 2 2] 27) = V3 at *
  rw [e2] at n3
  have e3 : V3.heap.size = W.heap.size + 1 + 1 + 1 := by rw [s3, e2]
  have B3 : Below W.heap.size W V3 := B2.trans (b3.mono B2.size)
  replace n1 := n1.below b3
  replace n2 := n2.below b3
  have n4 := isR_new V3 [13] (cs := #[.int .u64 13]) rfl rfl
  have b4 := below_box V3 (.cells #[.int .u64 13] 23)
  have s4 := World.size_alloc V3 (.cells #[.int .u64 13] 23)
  generalize V3.alloc (.cells #[.int .u64 13] 23) = V4 at *
  rw [e3] at n4
  have e4 : V4.heap.size = W.heap.size + 1 + 1 + 1 + 1 := by rw [s4, e3]
  have B4 : Below W.heap.size W V4 := B3.trans (b4.mono B3.size)
  replace n3 := n3.below b4
  have n5 := isR_new V4 [18, 9] (cs := #[.int .u64 18, .int .u64 9]) rfl rfl
  have b5 := below_box V4 (.cells #[.int .u64 18, .int .u64 9] 23)
  have s5 := World.size_alloc V4 (.cells #[.int .u64 18, .int .u64 9] 23)
  generalize V4.alloc (.cells #[.int .u64 18, .int .u64 9] 23) = V5 at *
  rw [e4] at n5
  have e5 : V5.heap.size = W.heap.size + 1 + 1 + 1 + 1 + 1 := by rw [s5, e4]
  have B5 : Below W.heap.size W V5 := B4.trans (b5.mono B4.size)
  replace n3 := n3.below b5
  replace n4 := n4.below b5
  have n6 := isV_new V5 [[13], [18, 9]] [.slice (some ⟨W.heap.size + 1 + 1 + 1, 0, none⟩) 1 1, .slice (some ⟨W.heap.size + 1 + 1 + 1 + 1, 0, none⟩) 2 2] (n := 2) rfl fun i hi => by match i, hi with | 0, _ => exact ⟨_, rfl, n4⟩ | 1, _ => exact ⟨_, rfl, n5⟩
  have b6 := below_box V5 (.cells #[.slice (some ⟨W.heap.size + 1 + 1 + 1, 0, none⟩) 1 1, .slice (some ⟨W.heap.size + 1 + 1 + 1 + 1, 0, none⟩) 2 2] 27)
  have s6 := World.size_alloc V5 (.cells #[.slice (some ⟨W.heap.size + 1 + 1 + 1, 0, none⟩) 1 1, .slice (some ⟨W.heap.size + 1 + 1 + 1 + 1, 0, none⟩) 2 2] 27)
  generalize V5.alloc (.cells #[.slice (some ⟨W.heap.size + 1 + 1 + 1, 0, none⟩) 1 1, .slice (some ⟨W.heap.size + 1 + 1 + 1 + 1, 0, none⟩) 2 2] 27) = V6 at *
  rw [e5] at n6
  have e6 : V6.heap.size = W.heap.size + 1 + 1 + 1 + 1 + 1 + 1 := by rw [s6, e5]
  have B6 : Below W.heap.size W V6 := B5.trans (b6.mono B5.size)
  replace n3 := n3.below b6
  replace n4 := n4.below b6
  replace n5 := n5.below b6
  have n7 := isR_new V6 [13, 16] (cs := #[.int .u64 13, .int .u64 16]) rfl rfl
  have b7 := below_box V6 (.cells #[.int .u64 13, .int .u64 16] 23)
  have s7 := World.size_alloc V6 (.cells #[.int .u64 13, .int .u64 16] 23)
  generalize V6.alloc (.cells #[.int .u64 13, .int .u64 16] 23) = V7 at *
  rw [e6] at n7
  have e7 : V7.heap.size = W.heap.size + 1 + 1 + 1 + 1 + 1 + 1 + 1 := by rw [s7, e6]
  have B7 : Below W.heap.size W V7 := B6.trans (b7.mono B6.size)
  replace n3 := n3.below b7
  replace n6 := n6.below b7
  have n8 := isR_new V7 [18, 9] (cs := #[.int .u64 18, .int .u64 9]) rfl rfl
  have b8 := below_box V7 (.cells #[.int .u64 18, .int .u64 9] 23)
  have s8 := World.size_alloc V7 (.cells #[.int .u64 18, .int .u64 9] 23)
  generalize V7.alloc (.cells #[.int .u64 18, .int .u64 9] 23) = V8 at *
  rw [e7] at n8
  have e8 : V8.heap.size = W.heap.size + 1 + 1 + 1 + 1 + 1 + 1 + 1 + 1 := by rw [s8, e7]
  have B8 : Below W.heap.size W V8 := B7.trans (b8.mono B7.size)
  replace n3 := n3.below b8
  replace n6 := n6.below b8
  replace n7 := n7.below b8
  have n9 := isR_new V8 [1, 1] (cs := #[.int .u64 1, .int .u64 1]) rfl rfl
  have b9 := below_box V8 (.cells #[.int .u64 1, .int .u64 1] 23)
  have s9 := World.size_alloc V8 (.cells #[.int .u64 1, .int .u64 1] 23)
  generalize V8.alloc (.cells #[.int .u64 1, .int .u64 1] 23) = V9 at *
  rw [e8] at n9
  have e9 : V9.heap.size = W.heap.size + 1 + 1 + 1 + 1 + 1 + 1 + 1 + 1 + 1 := by rw [s9, e8]
  have B9 : Below W.heap.size W V9 := B8.trans (b9.mono B8.size)
  replace n3 := n3.below b9
  replace n6 := n6.below b9
  replace n7 := n7.below b9
  replace n8 := n8.below b9
  have n10 := isV_new V9 [[13, 16], [18, 9], [1, 1]] [.slice (some ⟨W.heap.size + 1 + 1 + 1 + 1 + 1 + 1, 0, none⟩) 2 2, .slice (some ⟨W.heap.size + 1 + 1 + 1 + 1 + 1 + 1 + 1, 0, none⟩) 2 2, .slice (some ⟨W.heap.size + 1 + 1 + 1 + 1 + 1 + 1 + 1 + 1, 0, none⟩) 2 2] (n := 3) rfl fun i hi => by match i, hi with | 0, _ => exact ⟨_, rfl, n7⟩ | 1, _ => exact ⟨_, rfl, n8⟩ | 2, _ => exact ⟨_, rfl, n9⟩
  have b10 := below_box V9 (.cells #[.slice (some ⟨W.heap.size + 1 + 1 + 1 + 1 + 1 + 1, 0, none⟩) 2 2, .slice (some ⟨W.heap.size + 1 + 1 + 1 + 1 + 1 + 1 + 1, 0, none⟩) 2 2, .slice (some ⟨W.heap.size + 1 + 1 + 1 + 1 + 1 + 1 + 1 + 1, 0, none⟩) 2 2] 27)
  have s10 := World.size_alloc V9 (.cells #[.slice (some ⟨W.heap.size + 1 + 1 + 1 + 1 + 1 + 1, 0, none⟩) 2 2, .slice (some ⟨W.heap.size + 1 + 1 + 1 + 1 + 1 + 1 + 1, 0, none⟩) 2 2, .slice (some ⟨W.heap.size + 1 + 1 + 1 + 1 + 1 + 1 + 1 + 1, 0, none⟩) 2 2] 27)
  generalize V9.alloc (.cells #[.slice (some ⟨W.heap.size + 1 + 1 + 1 + 1 + 1 + 1, 0, none⟩) 2 2, .slice (some ⟨W.heap.size + 1 + 1 + 1 + 1 + 1 + 1 + 1, 0, none⟩) 2 2, .slice (some ⟨W.heap.size + 1 + 1 + 1 + 1 + 1 + 1 + 1 + 1, 0, none⟩) 2 2] 27) = V10 at *
  rw [e9] at n10
  have e10 : V10.heap.size = W.heap.size + 1 + 1 + 1 + 1 + 1 + 1 + 1 + 1 + 1 + 1 := by rw [s10, e9]
  have B10 : Below W.heap.size W V10 := B9.trans (b10.mono B9.size)
  replace n3 := n3.below b10
  replace n6 := n6.below b10
  replace n7 := n7.below b10
  replace n8 := n8.below b10
  replace n9 := n9.below b10
  have N := cub_new V10 (n := 4) (K := MM.lenC [[[13, 16, 1], [18, 9]], [[13], [18, 9]], [[13, 16], [18, 9], [1, 1]], []]) (L := MM.lenCL [[[13, 16, 1], [18, 9]], [[13], [18, 9]], [[13, 16], [18, 9], [1, 1]], []]) (F := MM.nlC [[[13, 16, 1], [18, 9]], [[13], [18, 9]], [[13, 16], [18, 9], [1, 1]], []]) [.slice (some ⟨W.heap.size + 1 + 1, 0, none⟩) 2 2, .slice (some ⟨W.heap.size + 1 + 1 + 1 + 1 + 1, 0, none⟩) 2 2, .slice (some ⟨W.heap.size + 1 + 1 + 1 + 1 + 1 + 1 + 1 + 1 + 1, 0, none⟩) 3 3, .slice none 0 0] fun i hi => by
    match i, hi with
    | 0, _ => exact ⟨_, rfl, n3⟩
    | 1, _ => exact ⟨_, rfl, n6⟩
    | 2, _ => exact ⟨_, rfl, n10⟩
    | 3, _ => exact ⟨_, rfl, IsV.nil _⟩
  have b := below_box V10 (.cells #[.slice (some ⟨W.heap.size + 1 + 1, 0, none⟩) 2 2, .slice (some ⟨W.heap.size + 1 + 1 + 1 + 1 + 1, 0, none⟩) 2 2, .slice (some ⟨W.heap.size + 1 + 1 + 1 + 1 + 1 + 1 + 1 + 1 + 1, 0, none⟩) 3 3, .slice none 0 0] 28)
  rw [e10] at N
  exact ⟨_, rfl, N, B10.trans (b.mono B10.size)⟩
/-- What lists that are wrong do. -/
theorem bad_l : ∀ k, k < 4 → formB sm8 ([[[13, 16, 1], [18, 9]], [[13], [18, 9]], [[13, 16], [18, 9], [1, 1]], []].getD k []).length (MM.lenL ([[[13, 16, 1], [18, 9]], [[13], [18, 9]], [[13, 16], [18, 9], [1, 1]], []].getD k [])) (MM.nlR ([[[13, 16, 1], [18, 9]], [[13], [18, 9]], [[13, 16], [18, 9], [1, 1]], []].getD k [])) = false ∧ sqB sm8 2 (MM.lenC [[[[13, 16, 1], [18, 9]], [[13], [18, 9]], [[13, 16], [18, 9], [1, 1]], []].getD k [], [[18, 4], [6, 8]]]) (MM.lenCL [[[[13, 16, 1], [18, 9]], [[13], [18, 9]], [[13, 16], [18, 9], [1, 1]], []].getD k [], [[18, 4], [6, 8]]]) (MM.nlC [[[[13, 16, 1], [18, 9]], [[13], [18, 9]], [[13, 16], [18, 9], [1, 1]], []].getD k [], [[18, 4], [6, 8]]]) = false ∧ ([[[13, 16, 1], [18, 9]], [[13], [18, 9]], [[13, 16], [18, 9], [1, 1]], []].getD k []).length ≤ 1000 ∧ ([[[13, 16, 1], [18, 9]], [[13], [18, 9]], [[13, 16], [18, 9], [1, 1]], []].getD k []).all (fun l => l.all (· < 18446744073709551616)) = true ∧ (∀ s, s < ([[[13, 16, 1], [18, 9]], [[13], [18, 9]], [[13, 16], [18, 9], [1, 1]], []].getD k []).length → MM.lenL ([[[13, 16, 1], [18, 9]], [[13], [18, 9]], [[13, 16], [18, 9], [1, 1]], []].getD k []) s ≤ 1000) := by decide +kernel
theorem okm_l {r : List (List Nat)} (h1 : r.length ≤ 1000) (h2 : r.all (fun l => l.all (· < 18446744073709551616)) = true) (h3 : ∀ s, s < r.length → MM.lenL r s ≤ 1000) : Okm r.length (MM.lenL r) (MM.nlR r) := okm_of h2 ⟨h1, h3⟩
theorem okc_l {r : List (List Nat)} (h1 : r.length ≤ 1000) (h2 : r.all (fun l => l.all (· < 18446744073709551616)) = true) (h3 : ∀ s, s < r.length → MM.lenL r s ≤ 1000) : Okc 2 (MM.lenC [r, [[18, 4], [6, 8]]]) (MM.lenCL [r, [[18, 4], [6, 8]]]) (MM.nlC [r, [[18, 4], [6, 8]]]) := okc_of (by simp only [List.all_cons, List.all_nil, h2]; decide) ⟨by decide, fun s hs => by
  match s, hs with
  | 0, _ => exact h1
  | 1, _ => exact (by decide : 2 ≤ 1000), fun s hs i hi => by
  match s, hs with
  | 0, _ => exact h3 i hi
  | 1, _ => (match i, hi with | 0, _ => exact (by decide : 2 ≤ 1000) | 1, _ => exact (by decide : 2 ≤ 1000))⟩
/-- A list of lists, and one more behind it. -/
theorem pair_at (W : World) {r : List (List Nat)} {bo : Option Addr} {c : Nat} (h : MatV W (.slice bo r.length c) r.length (MM.lenL r) (MM.nlR r)) : Cub ((((W.alloc (.cells #[.int .u64 18, .int .u64 4] 23)).alloc (.cells #[.int .u64 6, .int .u64 8] 23)).alloc (.cells #[.slice (some ⟨W.heap.size, 0, none⟩) 2 2, .slice (some ⟨W.heap.size + 1, 0, none⟩) 2 2] 27)).alloc (.cells #[.slice bo r.length c, .slice (some ⟨W.heap.size + 1 + 1, 0, none⟩) 2 2] 28)) (some ⟨W.heap.size + 1 + 1 + 1, 0, none⟩) 2 (MM.lenC [r, [[18, 4], [6, 8]]]) (MM.lenCL [r, [[18, 4], [6, 8]]]) (MM.nlC [r, [[18, 4], [6, 8]]]) := by
  have hm := mat2 (W := (W.alloc (.cells (ua [18, 4]) 23)).alloc (.cells (ua [6, 8]) 23)) (b := W.heap.size + 1 + 1) (by simp) (Sl.row ((row_at [18, 4] (n := 2) rfl rfl).alloc _) rfl) (Sl.row (row_at [6, 8] (b := W.heap.size + 1) (n := 2) (by simp) rfl) rfl)
  have hr := ((MatV.below h (below_box W (.cells (ua [18, 4]) 23))).below (below_box _ (.cells (ua [6, 8]) 23))).below (below_box _ (.cells #[.slice (some ⟨W.heap.size, 0, none⟩) 2 2, .slice (some ⟨W.heap.size + 1, 0, none⟩) 2 2] 27))
  have hs : (((W.alloc (.cells (ua [18, 4]) 23)).alloc (.cells (ua [6, 8]) 23)).alloc (.cells #[.slice (some ⟨W.heap.size, 0, none⟩) 2 2, .slice (some ⟨W.heap.size + 1, 0, none⟩) 2 2] 27)).heap.size = W.heap.size + 1 + 1 + 1 := by simp
  have N := cub_new (((W.alloc (.cells (ua [18, 4]) 23)).alloc (.cells (ua [6, 8]) 23)).alloc (.cells #[.slice (some ⟨W.heap.size, 0, none⟩) 2 2, .slice (some ⟨W.heap.size + 1, 0, none⟩) 2 2] 27)) (n := 2) (K := MM.lenC [r, [[18, 4], [6, 8]]]) (L := MM.lenCL [r, [[18, 4], [6, 8]]]) (F := MM.nlC [r, [[18, 4], [6, 8]]]) [.slice bo r.length c, .slice (some ⟨W.heap.size + 1 + 1, 0, none⟩) 2 2] fun i hi => by
    match i, hi with
    | 0, _ => exact ⟨_, rfl, hr⟩
    | 1, _ => exact ⟨_, rfl, _, _, rfl, hm, fun h0 => by cases h0⟩
  rw [hs] at N
  exact N
theorem be4 {w u : World} {a b c d : Obj} (h : Below ((((w.alloc a).alloc b).alloc c).alloc d).heap.size ((((w.alloc a).alloc b).alloc c).alloc d) u) : Below w.heap.size w u := by
  have x1 := (Below.refl w.heap.size w).alloc (Nat.le_refl _) a
  have x2 := x1.alloc x1.size b
  have x3 := x2.alloc x2.size c
  have x4 := x3.alloc x3.size d
  exact x4.trans (h.mono x4.size)
/-- One list of lists, as it is built. -/
theorem one_at (W : World) : ∃ W1 : World, ((((W.alloc (.cells #[.int .u64 4] 23)).alloc (.cells #[.int .u64 1, .int .u64 9] 23)).alloc (.cells #[.slice (some ⟨W.heap.size, 0, none⟩) 1 1, .slice (some ⟨W.heap.size + 1, 0, none⟩) 2 2] 27)).alloc (.cells #[.slice (some ⟨W.heap.size + 1 + 1, 0, none⟩) 2 2] 28)) = W1 ∧ Cub W1 (some ⟨W.heap.size + 1 + 1 + 1, 0, none⟩) 1 (MM.lenC [[[4], [1, 9]]]) (MM.lenCL [[[4], [1, 9]]]) (MM.nlC [[[4], [1, 9]]]) ∧ Below W.heap.size W W1 := by
  have n1 := isR_new W [4] (cs := #[.int .u64 4]) rfl rfl
  have b1 := below_box W (.cells #[.int .u64 4] 23)
  have s1 := World.size_alloc W (.cells #[.int .u64 4] 23)
  generalize W.alloc (.cells #[.int .u64 4] 23) = V1 at *
  have e1 : V1.heap.size = W.heap.size + 1 := by rw [s1]
  have B1 : Below W.heap.size W V1 := b1
  have n2 := isR_new V1 [1, 9] (cs := #[.int .u64 1, .int .u64 9]) rfl rfl
  have b2 := below_box V1 (.cells #[.int .u64 1, .int .u64 9] 23)
  have s2 := World.size_alloc V1 (.cells #[.int .u64 1, .int .u64 9] 23)
  generalize V1.alloc (.cells #[.int .u64 1, .int .u64 9] 23) = V2 at *
  rw [e1] at n2
  have e2 : V2.heap.size = W.heap.size + 1 + 1 := by rw [s2, e1]
  have B2 : Below W.heap.size W V2 := B1.trans (b2.mono B1.size)
  replace n1 := n1.below b2
  have n3 := isV_new V2 [[4], [1, 9]] [.slice (some ⟨W.heap.size, 0, none⟩) 1 1, .slice (some ⟨W.heap.size + 1, 0, none⟩) 2 2] (n := 2) rfl fun i hi => by match i, hi with | 0, _ => exact ⟨_, rfl, n1⟩ | 1, _ => exact ⟨_, rfl, n2⟩
  have b3 := below_box V2 (.cells #[.slice (some ⟨W.heap.size, 0, none⟩) 1 1, .slice (some ⟨W.heap.size + 1, 0, none⟩) 2 2] 27)
  have s3 := World.size_alloc V2 (.cells #[.slice (some ⟨W.heap.size, 0, none⟩) 1 1, .slice (some ⟨W.heap.size + 1, 0, none⟩) 2 2] 27)
  generalize V2.alloc (.cells #[.slice (some ⟨W.heap.size, 0, none⟩) 1 1, .slice (some ⟨W.heap.size + 1, 0, none⟩) 2 2] 27) = V3 at *
  rw [e2] at n3
  have e3 : V3.heap.size = W.heap.size + 1 + 1 + 1 := by rw [s3, e2]
  have B3 : Below W.heap.size W V3 := B2.trans (b3.mono B2.size)
  replace n1 := n1.below b3
  replace n2 := n2.below b3
  have N := cub_new V3 (n := 1) (K := MM.lenC [[[4], [1, 9]]]) (L := MM.lenCL [[[4], [1, 9]]]) (F := MM.nlC [[[4], [1, 9]]]) [.slice (some ⟨W.heap.size + 1 + 1, 0, none⟩) 2 2] fun i hi => by
    match i, hi with
    | 0, _ => exact ⟨_, rfl, n3⟩
  have b := below_box V3 (.cells #[.slice (some ⟨W.heap.size + 1 + 1, 0, none⟩) 2 2] 28)
  rw [e3] at N
  exact ⟨_, rfl, N, B3.trans (b.mono B3.size)⟩
theorem cub0 (W : World) (K : Nat → Nat) (L : Nat → Nat → Nat) (F : Nat → Nat → Nat → Nat) : Cub W none 0 K L F := fun _ h => absurd h (by omega)
theorem matrix_nil (W : World) : Calls Try.prog 15 #[.agg sm8.cells, .slice none 0 0, .slice none 0 0] W fun e w' => ∃ bo c, e = .returned (.slice bo 0 c) ∧ Below W.heap.size W w' := by
  refine (matrix_any sm8 (by decide) (by decide) none none 0 0 0 0 (fun _ => 0) (fun _ => 0) (fun _ _ => 0) (fun _ _ => 0) (fun _ _ _ => 0) (fun _ _ _ => 0) (fun _ _ _ => by decide) (fun _ _ _ => by decide) (fun _ _ => by decide) (fun _ _ => by decide) (fun _ _ => by decide) (fun _ _ => by decide) (by decide) (by decide) W (cub0 _ _ _ _) (cub0 _ _ _ _)).mono ?_
  rintro e w' ⟨v, rfl, ⟨hv, _⟩, hb⟩
  obtain ⟨bo, c, rfl, _⟩ := hv.cub
  exact ⟨bo, c, rfl, hb⟩
theorem coms_nil (W : World) : Calls Try.prog 12 #[.agg sm8.cells, .slice none 0 0, .slice none 0 0] W fun e w' => ∃ bo c, e = .returned (.slice bo 0 c) ∧ Below W.heap.size W w' := by
  refine (coms_is [] [] [] 0 0 0 (by decide) (by decide) (by decide +kernel) (mat0 _ _) (mat0 _ _)).mono ?_
  rintro e w' ⟨v, rfl, ⟨hv, _⟩, hb⟩
  obtain ⟨bo, c, rfl, _⟩ := hv.matV
  exact ⟨bo, c, rfl, hb⟩
theorem share_nil (W : World) : Calls Try.prog 13 #[.agg sm8.cells, .slice none 0 0, .int .u64 1] W fun e w' => ∃ bo c, e = .returned (.slice bo 0 c) ∧ Below W.heap.size W w' := by
  refine (share_is [] [] 0 1 rfl (by decide) (by decide +kernel) (mat0 _ _)).mono ?_
  rintro e w' ⟨B, rfl, _, hb⟩
  exact ⟨_, _, rfl, hb⟩
theorem fits_nil (W : World) : Calls Try.prog 14 #[.agg sm8.cells, .slice none 0 0, .int .u64 1, .slice none 0 0] W fun e w' => e = .returned (.bool true) ∧ Below W.heap.size W w' :=
  fits_is [] [] [] 0 1 true rfl (by decide) (by decide) (by decide) (by decide +kernel) (mat0 _ _) (fun _ h => absurd h (by omega))
theorem rowcoms_nil (W : World) : Calls Try.prog 6 #[.agg sm8.cells, .slice none 0 0, .int .u64 1] W fun e w' => ∃ bo c, e = .returned (.slice bo 0 c) ∧ Below W.heap.size W w' := by
  refine (rowcoms_is [] [] 0 1 rfl (by decide) (by decide +kernel) (cub0 _ _ _ _)).mono ?_
  rintro e w' ⟨bo, c, rfl, _, hb⟩
  exact ⟨_, _, rfl, hb⟩
theorem colcoms_nil (W : World) : Calls Try.prog 7 #[.agg sm8.cells, .slice none 0 0, .int .u64 1] W fun e w' => ∃ bo c, e = .returned (.slice bo 0 c) ∧ Below W.heap.size W w' := by
  refine (colcoms_is [] [] 0 1 rfl (by decide) (by decide +kernel) (cub0 _ _ _ _)).mono ?_
  rintro e w' ⟨bo, c, rfl, _, hb⟩
  exact ⟨_, _, rfl, hb⟩
theorem formed_nil (W : World) : Calls Try.prog 11 #[.agg no8.cells, .slice none 0 0] W fun e w' => e = .returned (.bool true) ∧ Below W.heap.size W w' :=
  formed_at (b := true) no8_ok (okm_of (l := []) (by decide) (by decide)) (by decide +kernel) (mat0 _ _)
theorem bonded_nil (W : World) : Calls Try.prog 10 #[.agg no8.cells, .slice none 0 0, .slice none 0 0, .int .u64 1] W fun e w' => e = .returned (.bool true) ∧ Below W.heap.size W w' :=
  bonded_is (b := true) (x := 1) no8_ok rfl (by decide) (okc_of (l := []) (by decide) (by decide)) (okm_of (l := []) (by decide) (by decide)) (by decide +kernel) (cub0 _ _ _ _) (mat0 _ _)
theorem rowcoms_one (W : World) : ∀ W1 : World, ((((W.alloc (.cells #[.int .u64 4] 23)).alloc (.cells #[.int .u64 1, .int .u64 9] 23)).alloc (.cells #[.slice (some ⟨W.heap.size, 0, none⟩) 1 1, .slice (some ⟨W.heap.size + 1, 0, none⟩) 2 2] 27)).alloc (.cells #[.slice (some ⟨W.heap.size + 1 + 1, 0, none⟩) 2 2] 28)) = W1 → Calls Try.prog 6 #[.agg sm8.cells, .slice (some ⟨W.heap.size + 1 + 1 + 1, 0, none⟩) 1 1, .int .u64 1] W1 fun e w' => ∃ bo c, e = .returned (.slice bo 1 c) ∧ Mat w' bo 1 (MM.lenL [[4, 9]]) (MM.nlR [[4, 9]]) ∧ Below W.heap.size W w' := by
  rintro W1 h
  obtain ⟨W2, h2, hc, hb⟩ := one_at W
  obtain rfl := h.symm.trans h2
  refine (rowcoms_is [[[4], [1, 9]]] [[4, 9]] 1 1 rfl (by decide) (by decide +kernel) hc).mono ?_
  rintro e w' ⟨bo, c, rfl, hm, hb'⟩
  exact ⟨_, _, rfl, hm, hb.trans (hb'.mono hb.size)⟩
theorem be2 {w u : World} {a b : Obj} (h : Below ((w.alloc a).alloc b).heap.size ((w.alloc a).alloc b) u) : Below w.heap.size w u := by
  have x1 := (Below.refl w.heap.size w).alloc (Nat.le_refl _) a
  have x2 := x1.alloc x1.size b
  exact x2.trans (h.mono x2.size)
theorem be1 {w u : World} {a : Obj} (h : Below (w.alloc a).heap.size (w.alloc a) u) : Below w.heap.size w u := by
  have x1 := (Below.refl w.heap.size w).alloc (Nat.le_refl _) a
  exact x1.trans (h.mono x1.size)
set_option maxRecDepth 100000 in
set_option maxHeartbeats 32000000 in
theorem names_any (W : World) : Calls Try.prog 3 #[] W fun e w' => e = .returned (.bool true) ∧ Below W.heap.size W w' := by
  have HS := small8_any
  go_enter Try.func3, Try.ntmps3
  go_upto_region 4 with (first | (go_at_call 4; refine (works8_any _).mono ?_; rintro e w2 ⟨rfl, hb⟩; have HB := Lib.hid hb; clear hb) | (go_at_call 5; (with_reducible refine (HS.at _).mono ?_); rintro e w3 ⟨rfl, hb⟩; have HB3 := Lib.hid (HB.out.trans (hb.mono HB.out.size)); clear hb))
  have HI : Hid (St8 W w3.heap.size (w3.alloc (.cells sm8.cells 25))) := Lib.hid ⟨HB3.out.alloc HB3.out.size _, PBox.new w3 sm8⟩
  generalize w3.heap.size = g at *
  generalize w3.alloc (.cells _ 25) = w1 at *
  clear HB HB3 HS
  go_upto_region 5 with fail
  have HM1 := Lib.hid (mat2 (W := (w1.alloc (.cells (ua [13, 16]) 23)).alloc (.cells (ua [18, 9]) 23)) (b := w1.heap.size + 1 + 1) (by simp) (Sl.row ((row_at [13, 16] (n := 2) rfl rfl).alloc _) rfl) (Sl.row (row_at [18, 9] (b := w1.heap.size + 1) (n := 2) (by simp) rfl) rfl))
  have HI1 := Lib.hid (((HI.out.alloc (.cells (ua [13, 16]) 23)).alloc (.cells (ua [18, 9]) 23)).alloc (.cells #[.slice (some ⟨w1.heap.size, 0, none⟩) 2 2, .slice (some ⟨w1.heap.size + 1, 0, none⟩) 2 2] 27))
  obtain ⟨CB, hCB⟩ : ∃ CB, w1.heap.size + 1 + 1 = CB := ⟨_, rfl⟩
  obtain ⟨wa, hwa⟩ : ∃ wa, ((w1.alloc (.cells (ua [13, 16]) 23)).alloc (.cells (ua [18, 9]) 23)).alloc (.cells #[.slice (some ⟨w1.heap.size, 0, none⟩) 2 2, .slice (some ⟨w1.heap.size + 1, 0, none⟩) 2 2] 27) = wa := ⟨_, rfl⟩
  rw [hwa] at HM1 HI1
  rw [hCB] at HM1 ⊢
  change ((w1.alloc (.cells #[.int .u64 13, .int .u64 16] 23)).alloc (.cells #[.int .u64 18, .int .u64 9] 23)).alloc (.cells #[.slice (some ⟨w1.heap.size, 0, none⟩) 2 2, .slice (some ⟨w1.heap.size + 1, 0, none⟩) 2 2] 27) = wa at hwa
  rw [hwa]
  clear hwa hCB HI
  go_upto_region 6 with fail
  obtain ⟨wb, hwb, hcub, hbl⟩ := cube_at wa 13 1 2 3 18 4 6 8
  obtain ⟨MB, hMB⟩ : ∃ MB, wa.heap.size + 1 + 1 + 1 + 1 + 1 + 1 = MB := ⟨_, rfl⟩
  rw [hMB] at hcub ⊢
  have HC := Lib.hid hcub
  have HM := Lib.hid (HM1.out.below hbl)
  have HI2 := Lib.hid (HI1.out.step hbl)
  clear hcub hbl hMB HM1 HI1
  first | rw [hwb] | (change ((((((wa.alloc (.cells #[.int .u64 13, .int .u64 1] 23)).alloc (.cells #[.int .u64 2, .int .u64 3] 23)).alloc (.cells #[.slice (some ⟨wa.heap.size, 0, none⟩) 2 2, .slice (some ⟨wa.heap.size + 1, 0, none⟩) 2 2] 27)).alloc (.cells #[.int .u64 18, .int .u64 4] 23)).alloc (.cells #[.int .u64 6, .int .u64 8] 23)).alloc (.cells #[.slice (some ⟨wa.heap.size + 1 + 1 + 1, 0, none⟩) 2 2, .slice (some ⟨wa.heap.size + 1 + 1 + 1 + 1, 0, none⟩) 2 2] 27)).alloc (.cells #[.slice (some ⟨wa.heap.size + 1 + 1, 0, none⟩) 2 2, .slice (some ⟨wa.heap.size + 1 + 1 + 1 + 1 + 1, 0, none⟩) 2 2] 28) = wb at hwb; rw [hwb])
  clear hwb
  refine RK.region (fun u => PBox u g sm8) 100 (by kernel_rfl) ?_
  have hb0 : Below wb.heap.size wb wb.drew := below_drewN' wb 1 _
  have HS0 : PBox wb.drew g sm8 := HI2.out.box.below hb0
  refine RK.Any.take 0 27 (.agg sm8.cells) rfl rfl (by kernel_rfl) (by kernel_rfl) (by kernel_rfl) (by kernel_rfl) (fun _ _ _ h => h) (by rfl) (fun W' hb => load_pbox hb rfl rfl) HS0 ?_
  simp only [List.setIfInBounds_toArray, List.set_cons_zero, List.set_cons_succ]
  refine RK.Any.take 1 28 (.slice (some ⟨MB, 0, none⟩) 2 2) rfl rfl (by kernel_rfl) (by kernel_rfl) (by kernel_rfl) (by kernel_rfl) (fun _ _ _ h => h) (by rfl) (fun W' hb => ?_) HS0 ?_
  · go_simp
  simp only [List.setIfInBounds_toArray, List.set_cons_zero, List.set_cons_succ]
  refine RK.Any.take 3 30 (.agg sm8.cells) rfl rfl (by kernel_rfl) (by kernel_rfl) (by kernel_rfl) (by kernel_rfl) (fun _ _ _ h => h) (by rfl) (fun W' hb => load_pbox hb rfl rfl) HS0 ?_
  simp only [List.setIfInBounds_toArray, List.set_cons_zero, List.set_cons_succ]
  refine RK.Any.take 4 31 (.slice (some ⟨MB, 0, none⟩) 2 2) rfl rfl (by kernel_rfl) (by kernel_rfl) (by kernel_rfl) (by kernel_rfl) (fun _ _ _ h => h) (by rfl) (fun W' hb => ?_) HS0 ?_
  · go_simp
  simp only [List.setIfInBounds_toArray, List.set_cons_zero, List.set_cons_succ]
  refine RK.Any.call 2 29 6 #[.agg sm8.cells, .slice (some ⟨MB, 0, none⟩) 2 2, .int .u64 2] (by kernel_rfl) rfl rfl (by rfl) (by go_simp) (Calls.mono (rowcoms_is [[[13, 1], [2, 3]], [[18, 4], [6, 8]]] [[6, 9], [4, 3]] 2 2 rfl (by decide) (by decide +kernel) (HC.out.below hb0)) ?_)
  rintro E X1 ⟨bo1, c1, rfl, hm1, hb1⟩
  have HS1 : PBox X1 g sm8 := HS0.below hb1
  refine ⟨_, rfl, fun _ => HS1, ?_⟩
  simp only [List.setIfInBounds_toArray, List.set_cons_zero, List.set_cons_succ]
  refine RK.Any.call 5 32 7 #[.agg sm8.cells, .slice (some ⟨MB, 0, none⟩) 2 2, .int .u64 2] (by kernel_rfl) rfl rfl (by rfl) (by go_simp) (Calls.mono (colcoms_is [[[13, 1], [2, 3]], [[18, 4], [6, 8]]] [[13, 18], [12, 16]] 2 2 rfl (by decide) (by decide +kernel) ((HC.out.below hb0).below hb1)) ?_)
  rintro E X2 ⟨bo2, c2, rfl, hm2, hb2⟩
  have HS2 : PBox X2 g sm8 := HS1.below hb2
  refine ⟨_, rfl, fun _ => HS2, ?_⟩
  simp only [List.setIfInBounds_toArray, List.set_cons_zero, List.set_cons_succ]
  refine RK.Any.take 6 4 (.slice bo1 2 c1) rfl rfl (by kernel_rfl) (by kernel_rfl) (by kernel_rfl) (by kernel_rfl) (fun _ _ _ h => h) (by rfl) (fun W' hb => ?_) HS2 ?_
  · go_simp
  simp only [List.setIfInBounds_toArray, List.set_cons_zero, List.set_cons_succ]
  refine RK.Any.take 7 5 (.slice bo2 2 c2) rfl rfl (by kernel_rfl) (by kernel_rfl) (by kernel_rfl) (by kernel_rfl) (fun _ _ _ h => h) (by rfl) (fun W' hb => ?_) HS2 ?_
  · go_simp
  simp only [List.setIfInBounds_toArray, List.set_cons_zero, List.set_cons_succ]
  refine RK.Any.done (by kernel_rfl) ?_
  have HR1 := Lib.hid (Mat.below hm1 hb2)
  have HR2 := Lib.hid hm2
  have HM2 := Lib.hid (((HM.out.below hb0).below hb1).below hb2)
  have HC2 := Lib.hid (((HC.out.below hb0).below hb1).below hb2)
  have HI3 := Lib.hid (((HI2.out.step hb0).step hb1).step hb2)
  clear hb0 hb1 hb2 HS0 HS1 HS2 hm1 hm2 HM HC HI2
  go_wp2_with fail
  refine (lists8_is (L := MM.lenL [[6, 9], [4, 3]]) (F := MM.nlR [[6, 9], [4, 3]]) (by decide) (((HR1.out.alloc _).alloc _).alloc _) (mat2 (by simp) (Sl.row ((row_at [6, 9] rfl rfl).alloc _) rfl) (Sl.row (row_at [4, 3] (by simp) rfl) rfl))).mono ?_
  rintro e w4 ⟨rfl, hb⟩
  have HR3 := Lib.hid ((((HR2.out.alloc _).alloc _).alloc _).below hb)
  have HM3 := Lib.hid ((((HM2.out.alloc _).alloc _).alloc _).below hb)
  have HC3 := Lib.hid (Cub.below (cub8 (cub8 (cub8 HC2.out _) _) _) hb)
  have HI4 := Lib.hid ((((HI3.out.alloc _).alloc _).alloc _).step hb)
  clear hb HR1 HR2 HM2 HC2 HI3
  go_wp2_with fail
  refine (lists8_is (L := MM.lenL [[13, 18], [12, 16]]) (F := MM.nlR [[13, 18], [12, 16]]) (by decide) (((HR3.out.alloc _).alloc _).alloc _) (mat2 (by simp) (Sl.row ((row_at [13, 18] rfl rfl).alloc _) rfl) (Sl.row (row_at [12, 16] (by simp) rfl) rfl))).mono ?_
  rintro e w5 ⟨rfl, hb⟩
  have HM4 := Lib.hid ((((HM3.out.alloc _).alloc _).alloc _).below hb)
  have HC4 := Lib.hid (Cub.below (cub8 (cub8 (cub8 HC3.out _) _) _) hb)
  have HI5 := Lib.hid ((((HI4.out.alloc _).alloc _).alloc _).step hb)
  clear hb HR3 HM3 HC3 HI4
  go_upto_region 9 with fail
  refine RK.tame [none, none, none, none, none, none, none, none, none, none, none, none, none, none, none, none, none, none, none, none, none, none, none, none, none, none, none, none, none, none, none, none, none, none, none, none, none, none, none, none, none, none, none, none, none, none, none, some 0, some 1, some 2, some 3, some 4, some 5, some 6, some 7, some 8, some 9, some 10, some 11, some 12, some 13, some 14, some 15, some 16, some 17, some 18, some 19, some 20, some 21, some 22, some 23, some 24, some 25, some 26, some 27, some 28, some 29, none, none, none, none, none, none, none, none, none, none, none, none, none, none, none, none, none, none, none, none, none, none, none, none, none, none, none, none, none, none, none, none, none, none, none, none, none, none, none, none, none, none, none, none, none, none, none, none, none, none, none, none, none, none, none, none, none, none, none, none, none, none, none, none, none, none, none, none, none, none, none, none, none, none, none, none, none, none, none, none, none, none, none, none, none, none, none, none, none, none, none, none, none, none, none, none, none, none, none, none, none, none, none, none, none, none, none, none, none, none, none, none, none, none, none, none, none, none, none, none, none, none, none, none, none, none, none, none, none] [RK.Word.eq (.agg sm8.cells), RK.Word.eq (.slice (some ⟨MB, 0, none⟩) 2 2), RK.Word.eq (.bool true), RK.Word.eq (.bool false), RK.Word.eq (.bool false), RK.Word.eq (.agg sm8.cells), RK.Word.eq (.slice (some ⟨MB, 0, none⟩) 2 2), RK.Word.eq (.slice (some ⟨CB, 0, none⟩) 2 2), RK.Word.eq (.bool true), RK.Word.eq (.bool false), RK.Word.eq (.bool false), RK.Word.eq (.bool false), RK.Word.eq (.agg sm8.cells), RK.Word.eq (.slice (some ⟨MB, 0, none⟩) 2 2), RK.Word.eq (.slice (some ⟨CB, 0, none⟩) 2 2), RK.Word.eq (.bool false), RK.Word.eq (.bool false), RK.Word.eq (.bool false), RK.Word.eq (.agg sm8.cells), RK.Word.eq (.slice (some ⟨MB, 0, none⟩) 2 2), RK.Word.eq (.slice (some ⟨MB, 0, none⟩) 1 2), RK.Word.eq (.bool false), RK.Word.eq (.bool false), RK.Word.eq (.bool false), RK.Word.eq (.agg sm8.cells), RK.Word.eq (.slice (some ⟨MB, 0, none⟩) 2 2), RK.Word.eq (.slice (some ⟨CB, 0, none⟩) 2 2), RK.Word.eq (.slice (some ⟨CB, 0, none⟩) 1 2), RK.Word.eq (.bool false), RK.Word.eq (.bool false)] (fun u => PBox u g sm8 ∧ Cub u (some ⟨MB, 0, none⟩) 2 (MM.lenC [[[13, 1], [2, 3]], [[18, 4], [6, 8]]]) (MM.lenCL [[[13, 1], [2, 3]], [[18, 4], [6, 8]]]) (MM.nlC [[[13, 1], [2, 3]], [[18, 4], [6, 8]]]) ∧ Mat u (some ⟨CB, 0, none⟩) 2 (MM.lenL [[13, 16], [18, 9]]) (MM.nlR [[13, 16], [18, 9]]) ∧ St8 W g u) (by kernel_rfl) (by kernel_rfl) (by kernel_rfl) ⟨HI5.out.box, HC4.out, HM4.out, HI5.out⟩ (fun _ _ h hb => ⟨h.1.below hb, h.2.1.below hb, h.2.2.1.below hb, h.2.2.2.step hb⟩) (fun i hi a' val w' hF => ?_) (fun val w' hw hp => ?_)
  · have hi2 : i = 0 ∨ i = 1 ∨ i = 2 ∨ i = 3 ∨ i = 4 ∨ i = 5 ∨ i = 6 ∨ i = 7 ∨ i = 8 ∨ i = 9 ∨ i = 10 ∨ i = 11 ∨ i = 12 ∨ i = 13 ∨ i = 14 ∨ i = 15 ∨ i = 16 ∨ i = 17 ∨ i = 18 ∨ i = 19 ∨ i = 20 ∨ i = 21 ∨ i = 22 ∨ i = 23 ∨ i = 24 ∨ i = 25 ∨ i = 26 ∨ i = 27 ∨ i = 28 ∨ i = 29 := by
      have : i < 30 := hi
      omega
    clear hi
    rcases hi2 with rfl | rfl | rfl | rfl | rfl | rfl | rfl | rfl | rfl | rfl | rfl | rfl | rfl | rfl | rfl | rfl | rfl | rfl | rfl | rfl | rfl | rfl | rfl | rfl | rfl | rfl | rfl | rfl | rfl | rfl
    · have r1 : a'.eval (.tmp 1) = .pointer (some ⟨g, 0, none⟩) := (hF.old 1 (.inr rfl)).trans rfl
      refine RK.owes_exec (v := .agg sm8.cells) (w' := w') rfl (RK.wanted_any rfl) ?_ (Below.refl _ _) rfl
      exact load_pbox hF.S.1 rfl r1
    · have r3 : a'.eval (.tmp 3) = .slice (some ⟨MB, 0, none⟩) 2 2 := (hF.old 3 (.inr rfl)).trans rfl
      refine RK.owes_exec (v := .slice (some ⟨MB, 0, none⟩) 2 2) (w' := w') rfl (RK.wanted_any rfl) ?_ (Below.refl _ _) rfl
      have rk : ∀ c, a'.eval (.const c) = c := fun _ => rfl
      generalize a'.eval = ρ at *
      go_simp
    · have p0 : val 0 = .agg sm8.cells := hF.post 0 (by kernel_rfl)
      have r47 : a'.eval (.tmp 47) = .agg sm8.cells := (hF.ev 47 0 rfl (by kernel_rfl) (of_decide_eq_true (by kernel_rfl))).trans p0
      have p1 : val 1 = .slice (some ⟨MB, 0, none⟩) 2 2 := hF.post 1 (by kernel_rfl)
      have r48 : a'.eval (.tmp 48) = .slice (some ⟨MB, 0, none⟩) 2 2 := (hF.ev 48 1 rfl (by kernel_rfl) (of_decide_eq_true (by kernel_rfl))).trans p1
      refine RK.owes_call (g := 9) (args := #[.agg sm8.cells, .slice (some ⟨MB, 0, none⟩) 2 2]) rfl (RK.wanted_any rfl) ?_ ?_
      · have rk : ∀ c, a'.eval (.const c) = c := fun _ => rfl
        have rf : ∀ f, a'.eval (.func f) = .func (.func f) #[] #[] := fun _ => rfl
        generalize a'.eval = ρ at *
        go_simp
      · refine (square_is sm8_ok (okc_of (l := [[[13, 1], [2, 3]], [[18, 4], [6, 8]]]) (by decide) (by decide)) (b := true) (by decide +kernel) hF.S.2.1).mono ?_
        rintro e w2 ⟨rfl, hb⟩
        exact ⟨_, rfl, hb, rfl⟩
    · have p2 : val 2 = .bool true := hF.post 2 (by kernel_rfl)
      have r49 : a'.eval (.tmp 49) = .bool true := (hF.ev 49 2 rfl (by kernel_rfl) (of_decide_eq_true (by kernel_rfl))).trans p2
      refine RK.owes_exec (v := .bool false) (w' := w') rfl (RK.wanted_any rfl) ?_ (Below.refl _ _) rfl
      have rk : ∀ c, a'.eval (.const c) = c := fun _ => rfl
      generalize a'.eval = ρ at *
      go_simp
    · have p3 : val 3 = .bool false := hF.post 3 (by kernel_rfl)
      have r50 : a'.eval (.tmp 50) = .bool false := (hF.ev 50 3 rfl (by kernel_rfl) (of_decide_eq_true (by kernel_rfl))).trans p3
      refine RK.owes_exec (v := .bool false) (w' := w') rfl (RK.wanted_any rfl) ?_ (Below.refl _ _) rfl
      have rk : ∀ c, a'.eval (.const c) = c := fun _ => rfl
      generalize a'.eval = ρ at *
      go_simp
    · have r1 : a'.eval (.tmp 1) = .pointer (some ⟨g, 0, none⟩) := (hF.old 1 (.inr rfl)).trans rfl
      have hwn : ∀ o : Oper, o.guard = some (4, false) → Region.wanted o _ = true := fun o h => RK.wanted_if h (hF.yields rfl rfl rfl (by kernel_rfl) (of_decide_eq_true (by kernel_rfl)) (hF.post 4 (by kernel_rfl)))
      refine RK.owes_exec (v := .agg sm8.cells) (w' := w') rfl (hwn _ rfl) ?_ (Below.refl _ _) rfl
      exact load_pbox hF.S.1 rfl r1
    · have r3 : a'.eval (.tmp 3) = .slice (some ⟨MB, 0, none⟩) 2 2 := (hF.old 3 (.inr rfl)).trans rfl
      have hwn : ∀ o : Oper, o.guard = some (4, false) → Region.wanted o _ = true := fun o h => RK.wanted_if h (hF.yields rfl rfl rfl (by kernel_rfl) (of_decide_eq_true (by kernel_rfl)) (hF.post 4 (by kernel_rfl)))
      refine RK.owes_exec (v := .slice (some ⟨MB, 0, none⟩) 2 2) (w' := w') rfl (hwn _ rfl) ?_ (Below.refl _ _) rfl
      have rk : ∀ c, a'.eval (.const c) = c := fun _ => rfl
      generalize a'.eval = ρ at *
      go_simp
    · have r2 : a'.eval (.tmp 2) = .slice (some ⟨CB, 0, none⟩) 2 2 := (hF.old 2 (.inr rfl)).trans rfl
      have hwn : ∀ o : Oper, o.guard = some (4, false) → Region.wanted o _ = true := fun o h => RK.wanted_if h (hF.yields rfl rfl rfl (by kernel_rfl) (of_decide_eq_true (by kernel_rfl)) (hF.post 4 (by kernel_rfl)))
      refine RK.owes_exec (v := .slice (some ⟨CB, 0, none⟩) 2 2) (w' := w') rfl (hwn _ rfl) ?_ (Below.refl _ _) rfl
      have rk : ∀ c, a'.eval (.const c) = c := fun _ => rfl
      generalize a'.eval = ρ at *
      go_simp
    · have p5 : val 5 = .agg sm8.cells := hF.post 5 (by kernel_rfl)
      have r52 : a'.eval (.tmp 52) = .agg sm8.cells := (hF.ev 52 5 rfl (by kernel_rfl) (of_decide_eq_true (by kernel_rfl))).trans p5
      have p6 : val 6 = .slice (some ⟨MB, 0, none⟩) 2 2 := hF.post 6 (by kernel_rfl)
      have r53 : a'.eval (.tmp 53) = .slice (some ⟨MB, 0, none⟩) 2 2 := (hF.ev 53 6 rfl (by kernel_rfl) (of_decide_eq_true (by kernel_rfl))).trans p6
      have p7 : val 7 = .slice (some ⟨CB, 0, none⟩) 2 2 := hF.post 7 (by kernel_rfl)
      have r54 : a'.eval (.tmp 54) = .slice (some ⟨CB, 0, none⟩) 2 2 := (hF.ev 54 7 rfl (by kernel_rfl) (of_decide_eq_true (by kernel_rfl))).trans p7
      have hwn : ∀ o : Oper, o.guard = some (4, false) → Region.wanted o _ = true := fun o h => RK.wanted_if h (hF.yields rfl rfl rfl (by kernel_rfl) (of_decide_eq_true (by kernel_rfl)) (hF.post 4 (by kernel_rfl)))
      refine RK.owes_call (g := 10) (args := #[.agg sm8.cells, .slice (some ⟨MB, 0, none⟩) 2 2, .slice (some ⟨CB, 0, none⟩) 2 2, .int .u64 0]) rfl (hwn _ rfl) ?_ ?_
      · have rk : ∀ c, a'.eval (.const c) = c := fun _ => rfl
        have rf : ∀ f, a'.eval (.func f) = .func (.func f) #[] #[] := fun _ => rfl
        generalize a'.eval = ρ at *
        go_simp
      · refine (bonded_is (x := 0) sm8_ok rfl (by decide) (okc_of (l := [[[13, 1], [2, 3]], [[18, 4], [6, 8]]]) (by decide) (by decide)) (okm_of (l := [[13, 16], [18, 9]]) (by decide) (by decide)) (b := true) (by decide +kernel) hF.S.2.1 hF.S.2.2.1).mono ?_
        rintro e w2 ⟨rfl, hb⟩
        exact ⟨_, rfl, hb, rfl⟩
    · have p8 : val 8 = .bool true := hF.post 8 (by kernel_rfl)
      have r55 : a'.eval (.tmp 55) = .bool true := (hF.ev 55 8 rfl (by kernel_rfl) (of_decide_eq_true (by kernel_rfl))).trans p8
      have hwn : ∀ o : Oper, o.guard = some (4, false) → Region.wanted o _ = true := fun o h => RK.wanted_if h (hF.yields rfl rfl rfl (by kernel_rfl) (of_decide_eq_true (by kernel_rfl)) (hF.post 4 (by kernel_rfl)))
      refine RK.owes_exec (v := .bool false) (w' := w') rfl (hwn _ rfl) ?_ (Below.refl _ _) rfl
      have rk : ∀ c, a'.eval (.const c) = c := fun _ => rfl
      generalize a'.eval = ρ at *
      go_simp
    · have p4 : val 4 = .bool false := hF.post 4 (by kernel_rfl)
      have r51 : a'.eval (.tmp 51) = .bool false := (hF.ev 51 4 rfl (by kernel_rfl) (of_decide_eq_true (by kernel_rfl))).trans p4
      have p9 : val 9 = .bool false := hF.post 9 (by kernel_rfl)
      have r56 : a'.eval (.tmp 56) = .bool false := (hF.ev 56 9 rfl (by kernel_rfl) (of_decide_eq_true (by kernel_rfl))).trans p9
      refine RK.owes_exec (v := .bool false) (w' := w') rfl (RK.wanted_any rfl) ?_ (Below.refl _ _) rfl
      have rk : ∀ c, a'.eval (.const c) = c := fun _ => rfl
      generalize a'.eval = ρ at *
      go_simp
    · have p10 : val 10 = .bool false := hF.post 10 (by kernel_rfl)
      have r57 : a'.eval (.tmp 57) = .bool false := (hF.ev 57 10 rfl (by kernel_rfl) (of_decide_eq_true (by kernel_rfl))).trans p10
      refine RK.owes_exec (v := .bool false) (w' := w') rfl (RK.wanted_any rfl) ?_ (Below.refl _ _) rfl
      have rk : ∀ c, a'.eval (.const c) = c := fun _ => rfl
      generalize a'.eval = ρ at *
      go_simp
    · have r1 : a'.eval (.tmp 1) = .pointer (some ⟨g, 0, none⟩) := (hF.old 1 (.inr rfl)).trans rfl
      have hwn : ∀ o : Oper, o.guard = some (11, false) → Region.wanted o _ = true := fun o h => RK.wanted_if h (hF.yields rfl rfl rfl (by kernel_rfl) (of_decide_eq_true (by kernel_rfl)) (hF.post 11 (by kernel_rfl)))
      refine RK.owes_exec (v := .agg sm8.cells) (w' := w') rfl (hwn _ rfl) ?_ (Below.refl _ _) rfl
      exact load_pbox hF.S.1 rfl r1
    · have r3 : a'.eval (.tmp 3) = .slice (some ⟨MB, 0, none⟩) 2 2 := (hF.old 3 (.inr rfl)).trans rfl
      have hwn : ∀ o : Oper, o.guard = some (11, false) → Region.wanted o _ = true := fun o h => RK.wanted_if h (hF.yields rfl rfl rfl (by kernel_rfl) (of_decide_eq_true (by kernel_rfl)) (hF.post 11 (by kernel_rfl)))
      refine RK.owes_exec (v := .slice (some ⟨MB, 0, none⟩) 2 2) (w' := w') rfl (hwn _ rfl) ?_ (Below.refl _ _) rfl
      have rk : ∀ c, a'.eval (.const c) = c := fun _ => rfl
      generalize a'.eval = ρ at *
      go_simp
    · have r2 : a'.eval (.tmp 2) = .slice (some ⟨CB, 0, none⟩) 2 2 := (hF.old 2 (.inr rfl)).trans rfl
      have hwn : ∀ o : Oper, o.guard = some (11, false) → Region.wanted o _ = true := fun o h => RK.wanted_if h (hF.yields rfl rfl rfl (by kernel_rfl) (of_decide_eq_true (by kernel_rfl)) (hF.post 11 (by kernel_rfl)))
      refine RK.owes_exec (v := .slice (some ⟨CB, 0, none⟩) 2 2) (w' := w') rfl (hwn _ rfl) ?_ (Below.refl _ _) rfl
      have rk : ∀ c, a'.eval (.const c) = c := fun _ => rfl
      generalize a'.eval = ρ at *
      go_simp
    · have p12 : val 12 = .agg sm8.cells := hF.post 12 (by kernel_rfl)
      have r59 : a'.eval (.tmp 59) = .agg sm8.cells := (hF.ev 59 12 rfl (by kernel_rfl) (of_decide_eq_true (by kernel_rfl))).trans p12
      have p13 : val 13 = .slice (some ⟨MB, 0, none⟩) 2 2 := hF.post 13 (by kernel_rfl)
      have r60 : a'.eval (.tmp 60) = .slice (some ⟨MB, 0, none⟩) 2 2 := (hF.ev 60 13 rfl (by kernel_rfl) (of_decide_eq_true (by kernel_rfl))).trans p13
      have p14 : val 14 = .slice (some ⟨CB, 0, none⟩) 2 2 := hF.post 14 (by kernel_rfl)
      have r61 : a'.eval (.tmp 61) = .slice (some ⟨CB, 0, none⟩) 2 2 := (hF.ev 61 14 rfl (by kernel_rfl) (of_decide_eq_true (by kernel_rfl))).trans p14
      have hwn : ∀ o : Oper, o.guard = some (11, false) → Region.wanted o _ = true := fun o h => RK.wanted_if h (hF.yields rfl rfl rfl (by kernel_rfl) (of_decide_eq_true (by kernel_rfl)) (hF.post 11 (by kernel_rfl)))
      refine RK.owes_call (g := 10) (args := #[.agg sm8.cells, .slice (some ⟨MB, 0, none⟩) 2 2, .slice (some ⟨CB, 0, none⟩) 2 2, .int .u64 1]) rfl (hwn _ rfl) ?_ ?_
      · have rk : ∀ c, a'.eval (.const c) = c := fun _ => rfl
        have rf : ∀ f, a'.eval (.func f) = .func (.func f) #[] #[] := fun _ => rfl
        generalize a'.eval = ρ at *
        go_simp
      · refine (bonded_is (x := 1) sm8_ok rfl (by decide) (okc_of (l := [[[13, 1], [2, 3]], [[18, 4], [6, 8]]]) (by decide) (by decide)) (okm_of (l := [[13, 16], [18, 9]]) (by decide) (by decide)) (b := false) (by decide +kernel) hF.S.2.1 hF.S.2.2.1).mono ?_
        rintro e w2 ⟨rfl, hb⟩
        exact ⟨_, rfl, hb, rfl⟩
    · have p11 : val 11 = .bool false := hF.post 11 (by kernel_rfl)
      have r58 : a'.eval (.tmp 58) = .bool false := (hF.ev 58 11 rfl (by kernel_rfl) (of_decide_eq_true (by kernel_rfl))).trans p11
      have p15 : val 15 = .bool false := hF.post 15 (by kernel_rfl)
      have r62 : a'.eval (.tmp 62) = .bool false := (hF.ev 62 15 rfl (by kernel_rfl) (of_decide_eq_true (by kernel_rfl))).trans p15
      refine RK.owes_exec (v := .bool false) (w' := w') rfl (RK.wanted_any rfl) ?_ (Below.refl _ _) rfl
      have rk : ∀ c, a'.eval (.const c) = c := fun _ => rfl
      generalize a'.eval = ρ at *
      go_simp
    · have p16 : val 16 = .bool false := hF.post 16 (by kernel_rfl)
      have r63 : a'.eval (.tmp 63) = .bool false := (hF.ev 63 16 rfl (by kernel_rfl) (of_decide_eq_true (by kernel_rfl))).trans p16
      refine RK.owes_exec (v := .bool false) (w' := w') rfl (RK.wanted_any rfl) ?_ (Below.refl _ _) rfl
      have rk : ∀ c, a'.eval (.const c) = c := fun _ => rfl
      generalize a'.eval = ρ at *
      go_simp
    · have r1 : a'.eval (.tmp 1) = .pointer (some ⟨g, 0, none⟩) := (hF.old 1 (.inr rfl)).trans rfl
      have hwn : ∀ o : Oper, o.guard = some (17, false) → Region.wanted o _ = true := fun o h => RK.wanted_if h (hF.yields rfl rfl rfl (by kernel_rfl) (of_decide_eq_true (by kernel_rfl)) (hF.post 17 (by kernel_rfl)))
      refine RK.owes_exec (v := .agg sm8.cells) (w' := w') rfl (hwn _ rfl) ?_ (Below.refl _ _) rfl
      exact load_pbox hF.S.1 rfl r1
    · have r3 : a'.eval (.tmp 3) = .slice (some ⟨MB, 0, none⟩) 2 2 := (hF.old 3 (.inr rfl)).trans rfl
      have hwn : ∀ o : Oper, o.guard = some (17, false) → Region.wanted o _ = true := fun o h => RK.wanted_if h (hF.yields rfl rfl rfl (by kernel_rfl) (of_decide_eq_true (by kernel_rfl)) (hF.post 17 (by kernel_rfl)))
      refine RK.owes_exec (v := .slice (some ⟨MB, 0, none⟩) 2 2) (w' := w') rfl (hwn _ rfl) ?_ (Below.refl _ _) rfl
      have rk : ∀ c, a'.eval (.const c) = c := fun _ => rfl
      generalize a'.eval = ρ at *
      go_simp
    · have p19 : val 19 = .slice (some ⟨MB, 0, none⟩) 2 2 := hF.post 19 (by kernel_rfl)
      have r66 : a'.eval (.tmp 66) = .slice (some ⟨MB, 0, none⟩) 2 2 := (hF.ev 66 19 rfl (by kernel_rfl) (of_decide_eq_true (by kernel_rfl))).trans p19
      have hwn : ∀ o : Oper, o.guard = some (17, false) → Region.wanted o _ = true := fun o h => RK.wanted_if h (hF.yields rfl rfl rfl (by kernel_rfl) (of_decide_eq_true (by kernel_rfl)) (hF.post 17 (by kernel_rfl)))
      refine RK.owes_exec (v := .slice (some ⟨MB, 0, none⟩) 1 2) (w' := w') rfl (hwn _ rfl) ?_ (Below.refl _ _) rfl
      have rk : ∀ c, a'.eval (.const c) = c := fun _ => rfl
      generalize a'.eval = ρ at *
      go_simp
    · have p18 : val 18 = .agg sm8.cells := hF.post 18 (by kernel_rfl)
      have r65 : a'.eval (.tmp 65) = .agg sm8.cells := (hF.ev 65 18 rfl (by kernel_rfl) (of_decide_eq_true (by kernel_rfl))).trans p18
      have p20 : val 20 = .slice (some ⟨MB, 0, none⟩) 1 2 := hF.post 20 (by kernel_rfl)
      have r67 : a'.eval (.tmp 67) = .slice (some ⟨MB, 0, none⟩) 1 2 := (hF.ev 67 20 rfl (by kernel_rfl) (of_decide_eq_true (by kernel_rfl))).trans p20
      have hwn : ∀ o : Oper, o.guard = some (17, false) → Region.wanted o _ = true := fun o h => RK.wanted_if h (hF.yields rfl rfl rfl (by kernel_rfl) (of_decide_eq_true (by kernel_rfl)) (hF.post 17 (by kernel_rfl)))
      refine RK.owes_call (g := 9) (args := #[.agg sm8.cells, .slice (some ⟨MB, 0, none⟩) 1 2]) rfl (hwn _ rfl) ?_ ?_
      · have rk : ∀ c, a'.eval (.const c) = c := fun _ => rfl
        have rf : ∀ f, a'.eval (.func f) = .func (.func f) #[] #[] := fun _ => rfl
        generalize a'.eval = ρ at *
        go_simp
      · refine (square_is sm8_ok (okc_of (l := [[[13, 1], [2, 3]], [[18, 4], [6, 8]]]) (by decide) (by decide)) (b := false) (by decide +kernel) (Cub.cut hF.S.2.1 (by decide))).mono ?_
        rintro e w2 ⟨rfl, hb⟩
        exact ⟨_, rfl, hb, rfl⟩
    · have p17 : val 17 = .bool false := hF.post 17 (by kernel_rfl)
      have r64 : a'.eval (.tmp 64) = .bool false := (hF.ev 64 17 rfl (by kernel_rfl) (of_decide_eq_true (by kernel_rfl))).trans p17
      have p21 : val 21 = .bool false := hF.post 21 (by kernel_rfl)
      have r68 : a'.eval (.tmp 68) = .bool false := (hF.ev 68 21 rfl (by kernel_rfl) (of_decide_eq_true (by kernel_rfl))).trans p21
      refine RK.owes_exec (v := .bool false) (w' := w') rfl (RK.wanted_any rfl) ?_ (Below.refl _ _) rfl
      have rk : ∀ c, a'.eval (.const c) = c := fun _ => rfl
      generalize a'.eval = ρ at *
      go_simp
    · have p22 : val 22 = .bool false := hF.post 22 (by kernel_rfl)
      have r69 : a'.eval (.tmp 69) = .bool false := (hF.ev 69 22 rfl (by kernel_rfl) (of_decide_eq_true (by kernel_rfl))).trans p22
      refine RK.owes_exec (v := .bool false) (w' := w') rfl (RK.wanted_any rfl) ?_ (Below.refl _ _) rfl
      have rk : ∀ c, a'.eval (.const c) = c := fun _ => rfl
      generalize a'.eval = ρ at *
      go_simp
    · have r1 : a'.eval (.tmp 1) = .pointer (some ⟨g, 0, none⟩) := (hF.old 1 (.inr rfl)).trans rfl
      have hwn : ∀ o : Oper, o.guard = some (23, false) → Region.wanted o _ = true := fun o h => RK.wanted_if h (hF.yields rfl rfl rfl (by kernel_rfl) (of_decide_eq_true (by kernel_rfl)) (hF.post 23 (by kernel_rfl)))
      refine RK.owes_exec (v := .agg sm8.cells) (w' := w') rfl (hwn _ rfl) ?_ (Below.refl _ _) rfl
      exact load_pbox hF.S.1 rfl r1
    · have r3 : a'.eval (.tmp 3) = .slice (some ⟨MB, 0, none⟩) 2 2 := (hF.old 3 (.inr rfl)).trans rfl
      have hwn : ∀ o : Oper, o.guard = some (23, false) → Region.wanted o _ = true := fun o h => RK.wanted_if h (hF.yields rfl rfl rfl (by kernel_rfl) (of_decide_eq_true (by kernel_rfl)) (hF.post 23 (by kernel_rfl)))
      refine RK.owes_exec (v := .slice (some ⟨MB, 0, none⟩) 2 2) (w' := w') rfl (hwn _ rfl) ?_ (Below.refl _ _) rfl
      have rk : ∀ c, a'.eval (.const c) = c := fun _ => rfl
      generalize a'.eval = ρ at *
      go_simp
    · have r2 : a'.eval (.tmp 2) = .slice (some ⟨CB, 0, none⟩) 2 2 := (hF.old 2 (.inr rfl)).trans rfl
      have hwn : ∀ o : Oper, o.guard = some (23, false) → Region.wanted o _ = true := fun o h => RK.wanted_if h (hF.yields rfl rfl rfl (by kernel_rfl) (of_decide_eq_true (by kernel_rfl)) (hF.post 23 (by kernel_rfl)))
      refine RK.owes_exec (v := .slice (some ⟨CB, 0, none⟩) 2 2) (w' := w') rfl (hwn _ rfl) ?_ (Below.refl _ _) rfl
      have rk : ∀ c, a'.eval (.const c) = c := fun _ => rfl
      generalize a'.eval = ρ at *
      go_simp
    · have p26 : val 26 = .slice (some ⟨CB, 0, none⟩) 2 2 := hF.post 26 (by kernel_rfl)
      have r73 : a'.eval (.tmp 73) = .slice (some ⟨CB, 0, none⟩) 2 2 := (hF.ev 73 26 rfl (by kernel_rfl) (of_decide_eq_true (by kernel_rfl))).trans p26
      have hwn : ∀ o : Oper, o.guard = some (23, false) → Region.wanted o _ = true := fun o h => RK.wanted_if h (hF.yields rfl rfl rfl (by kernel_rfl) (of_decide_eq_true (by kernel_rfl)) (hF.post 23 (by kernel_rfl)))
      refine RK.owes_exec (v := .slice (some ⟨CB, 0, none⟩) 1 2) (w' := w') rfl (hwn _ rfl) ?_ (Below.refl _ _) rfl
      have rk : ∀ c, a'.eval (.const c) = c := fun _ => rfl
      generalize a'.eval = ρ at *
      go_simp
    · have p24 : val 24 = .agg sm8.cells := hF.post 24 (by kernel_rfl)
      have r71 : a'.eval (.tmp 71) = .agg sm8.cells := (hF.ev 71 24 rfl (by kernel_rfl) (of_decide_eq_true (by kernel_rfl))).trans p24
      have p25 : val 25 = .slice (some ⟨MB, 0, none⟩) 2 2 := hF.post 25 (by kernel_rfl)
      have r72 : a'.eval (.tmp 72) = .slice (some ⟨MB, 0, none⟩) 2 2 := (hF.ev 72 25 rfl (by kernel_rfl) (of_decide_eq_true (by kernel_rfl))).trans p25
      have p27 : val 27 = .slice (some ⟨CB, 0, none⟩) 1 2 := hF.post 27 (by kernel_rfl)
      have r74 : a'.eval (.tmp 74) = .slice (some ⟨CB, 0, none⟩) 1 2 := (hF.ev 74 27 rfl (by kernel_rfl) (of_decide_eq_true (by kernel_rfl))).trans p27
      have hwn : ∀ o : Oper, o.guard = some (23, false) → Region.wanted o _ = true := fun o h => RK.wanted_if h (hF.yields rfl rfl rfl (by kernel_rfl) (of_decide_eq_true (by kernel_rfl)) (hF.post 23 (by kernel_rfl)))
      refine RK.owes_call (g := 10) (args := #[.agg sm8.cells, .slice (some ⟨MB, 0, none⟩) 2 2, .slice (some ⟨CB, 0, none⟩) 1 2, .int .u64 0]) rfl (hwn _ rfl) ?_ ?_
      · have rk : ∀ c, a'.eval (.const c) = c := fun _ => rfl
        have rf : ∀ f, a'.eval (.func f) = .func (.func f) #[] #[] := fun _ => rfl
        generalize a'.eval = ρ at *
        go_simp
      · refine (bonded_not (x := 0) sm8_ok rfl (okc_of (l := [[[13, 1], [2, 3]], [[18, 4], [6, 8]]]) (by decide) (by decide)) (okm_of (l := [[13, 16], [18, 9]]) (by decide) (by decide)) (by decide +kernel) hF.S.2.1 (MatV.cut hF.S.2.2.1 (by decide))).mono ?_
        rintro e w2 ⟨rfl, hb⟩
        exact ⟨_, rfl, hb, rfl⟩
    · have p23 : val 23 = .bool false := hF.post 23 (by kernel_rfl)
      have r70 : a'.eval (.tmp 70) = .bool false := (hF.ev 70 23 rfl (by kernel_rfl) (of_decide_eq_true (by kernel_rfl))).trans p23
      have p28 : val 28 = .bool false := hF.post 28 (by kernel_rfl)
      have r75 : a'.eval (.tmp 75) = .bool false := (hF.ev 75 28 rfl (by kernel_rfl) (of_decide_eq_true (by kernel_rfl))).trans p28
      refine RK.owes_exec (v := .bool false) (w' := w') rfl (RK.wanted_any rfl) ?_ (Below.refl _ _) rfl
      have rk : ∀ c, a'.eval (.const c) = c := fun _ => rfl
      generalize a'.eval = ρ at *
      go_simp
  have hz : val 29 = .bool false := hp 29 (of_decide_eq_true (by kernel_rfl))
  simp only [RK.slotsL, if_true, hz]
  obtain ⟨wc, hwc⟩ : ∃ wc, wc = w' := ⟨_, rfl⟩
  subst hwc
  have HI6 := Lib.hid hw.2.2.2
  have HC6 := Lib.hid hw.2.1
  have HM6 := Lib.hid hw.2.2.1
  clear hp hw hz HI5 HC4 HM4
  go_wp2_with fail
  have HX := Lib.hid (row_at (W := wc) [0, 5, 22, 23, 24] (b := wc.heap.size) (n := 5) rfl rfl)
  have HI7 := Lib.hid (HI6.out.alloc (.cells (ua [0, 5, 22, 23, 24]) 23))
  have HC7 := Lib.hid (cub8 HC6.out (.cells (ua [0, 5, 22, 23, 24]) 23))
  have HM7 := Lib.hid (HM6.out.alloc (.cells (ua [0, 5, 22, 23, 24]) 23))
  obtain ⟨D, hD⟩ : ∃ D, wc.heap.size = D := ⟨_, rfl⟩
  obtain ⟨wd, hwd⟩ : ∃ wd, wc.alloc (.cells (ua [0, 5, 22, 23, 24]) 23) = wd := ⟨_, rfl⟩
  rw [hwd] at HX HI7 HC7 HM7
  rw [hD] at HX ⊢
  change wc.alloc (.cells #[.int .u64 0, .int .u64 5, .int .u64 22, .int .u64 23, .int .u64 24] 23) = wd at hwd
  rw [hwd]
  clear hwd hD HI6 HC6 HM6
  go_loopw [79] (fun s79 wx => ∃ k : Nat, k ≤ 5 ∧ s79 = .int .i64 (k : Int) ∧ Hid (Below wd.heap.size wd wx)) (fun s79 _ => 5 - (RowKit.intOf s79).toNat)
  case atStart => exact ⟨0, Nat.zero_le _, rfl, Lib.hid (Below.refl _ _)⟩
  case round =>
    obtain ⟨k, hk, rfl, HBX⟩ := hrel
    have hk0 : (0 : Int) ≤ (k : Int) := Int.natCast_nonneg _
    by_cases hlt : k < 5
    · have hk1 : (k : Int) < 5 := by omega
      have hcell := Row.below HX.out HBX.out k hlt
      rw [add_zero'] at hcell
      obtain ⟨hf, hs, hx⟩ := bad_x k hlt
      generalize MM.nl [0, 5, 22, 23, 24] k = x at *
      have HF := Lib.hid hf
      have HS := Lib.hid hs
      have HXL := Lib.hid hx
      have HIa := Lib.hid (HI7.out.step HBX.out)
      have HCa := Lib.hid (Cub.below HC7.out HBX.out)
      have HMa := Lib.hid (Mat.below HM7.out HBX.out)
      clear hf hs hx
      go_upto_region 14 with fail
      go_upto_region 15 with fail
      obtain ⟨wq, hwq, hcub, hbl⟩ := cube_at wr 13 1 2 x 18 4 6 8
      obtain ⟨QB, hQB⟩ : ∃ QB, wr.heap.size + 1 + 1 + 1 + 1 + 1 + 1 = QB := ⟨_, rfl⟩
      rw [hQB] at hcub ⊢
      have HQ := Lib.hid hcub
      have HMb := Lib.hid (Mat.below HMa.out hbl)
      have HCb := Lib.hid (Cub.below HCa.out hbl)
      have HIb := Lib.hid (HIa.out.step hbl)
      have HBb := Lib.hid (HBX.out.trans (hbl.mono HBX.out.size))
      clear hcub hbl hQB HMa HCa HIa hcell
      change ((((((wr.alloc (.cells #[.int .u64 13, .int .u64 1] 23)).alloc (.cells #[.int .u64 2, .int .u64 x] 23)).alloc (.cells #[.slice (some ⟨wr.heap.size, 0, none⟩) 2 2, .slice (some ⟨wr.heap.size + 1, 0, none⟩) 2 2] 27)).alloc (.cells #[.int .u64 18, .int .u64 4] 23)).alloc (.cells #[.int .u64 6, .int .u64 8] 23)).alloc (.cells #[.slice (some ⟨wr.heap.size + 1 + 1 + 1, 0, none⟩) 2 2, .slice (some ⟨wr.heap.size + 1 + 1 + 1 + 1, 0, none⟩) 2 2] 27)).alloc (.cells #[.slice (some ⟨wr.heap.size + 1 + 1, 0, none⟩) 2 2, .slice (some ⟨wr.heap.size + 1 + 1 + 1 + 1 + 1, 0, none⟩) 2 2] 28) = wq at hwq
      rw [hwq]
      clear hwq HBX
      go_wp2_with (refine wpList_row_if ?_ 25 _ rfl g rfl 25 sm8.cells (0, 0) _ HIb.out.box Try.underlying25 rfl (by kernel_rfl) ?_; first | rfl | (simp [Region.wanted, yielded]; done))
      refine (formed_at (L' := MM.lenL [[13, x], [18, 9]]) (F' := MM.nlR [[13, x], [18, 9]]) sm8_ok (okm_x HXL.out) HF.out (mat2 (by simp) (Sl.row ((row_at [13, x] rfl rfl).alloc _) rfl) (Sl.row (row_at [18, 9] (by simp) rfl) rfl))).mono ?_
      rintro e v1 ⟨rfl, hb⟩
      have H1 := Lib.hid (be3 hb)
      have HL1 := Lib.hid (HIb.out.step H1.out)
      clear hb
      go_wp2_with (refine wpList_row_if ?_ 25 _ rfl g rfl 25 sm8.cells (0, 0) _ HL1.out.box Try.underlying25 rfl (by kernel_rfl) ?_; first | rfl | (simp [Region.wanted, yielded]; done))
      refine (square_is sm8_ok (okc_x HXL.out) HS.out (Cub.below HQ.out H1.out)).mono ?_
      rintro e v2 ⟨rfl, hb⟩
      have H2 := Lib.hid (H1.out.trans (hb.mono H1.out.size))
      have HL2 := Lib.hid (HIb.out.step H2.out)
      clear hb H1 HL1
      go_wp2_with (refine wpList_row_if ?_ 25 _ rfl g rfl 25 sm8.cells (0, 0) _ HL2.out.box Try.underlying25 rfl (by kernel_rfl) ?_; first | rfl | (simp [Region.wanted, yielded]; done))
      refine (bonded_not (x := 0) sm8_ok rfl (okc_x HXL.out) (okm_of (l := [[13, 16], [18, 9]]) (by decide) (by decide)) (by rw [HS.out]; rfl) (Cub.below HQ.out H2.out) (Mat.below HMb.out H2.out)).mono ?_
      rintro e v3 ⟨rfl, hb⟩
      have H3 := Lib.hid (H2.out.trans (hb.mono H2.out.size))
      have HL3 := Lib.hid (HIb.out.step H3.out)
      clear hb H2 HL2
      go_wp2_with (refine wpList_row_if ?_ 25 _ rfl g rfl 25 sm8.cells (0, 0) _ HL3.out.box Try.underlying25 rfl (by kernel_rfl) ?_; first | rfl | (simp [Region.wanted, yielded]; done))
      refine (bonded_not (x := 0) (L' := MM.lenL [[13, x], [18, 9]]) (F' := MM.nlR [[13, x], [18, 9]]) sm8_ok rfl (okc_of (l := [[[13, 1], [2, 3]], [[18, 4], [6, 8]]]) (by decide) (by decide)) (okm_x HXL.out) (by rw [HF.out, Bool.and_false]) (cub8 (cub8 (cub8 (Cub.below HCb.out H3.out) _) _) _) (mat2 (by simp) (Sl.row ((row_at [13, x] rfl rfl).alloc _) rfl) (Sl.row (row_at [18, 9] (by simp) rfl) rfl))).mono ?_
      rintro e v4 ⟨rfl, hb⟩
      have H4 := Lib.hid (H3.out.trans ((be3 hb).mono H3.out.size))
      clear hb H3 HL3
      go_wp2_with fail
      go_roundw
      case rel => exact ⟨k + 1, by omega, by go_num, Lib.hid (HBb.out.trans (H4.out.mono HBb.out.size))⟩
      case measure => simp [RowKit.intOf]; omega
    · have hk5 : ¬ ((k : Int) < 5) := by omega
      have HIc := Lib.hid (HI7.out.step HBX.out)
      have HCc := Lib.hid (Cub.below HC7.out HBX.out)
      clear HBX HI7 HC7 HM7 HX hlt hk hk0
      obtain ⟨kk, hkk⟩ : ∃ kk, (k : Int) = kk := ⟨_, rfl⟩
      rw [hkk] at hk5 ⊢
      clear hkk
      go_upto_region 18 with fail
      go_wp2_with fail
      obtain ⟨we, hwe, hcub, hbl⟩ := bads_at wr
      obtain ⟨E, hE⟩ : ∃ E, wr.heap.size + 1 + 1 + 1 + 1 + 1 + 1 + 1 + 1 + 1 + 1 = E := ⟨_, rfl⟩
      rw [hE] at hcub ⊢
      have HE := Lib.hid hcub
      have HId := Lib.hid (HIc.out.step hbl)
      clear hcub hbl hE HIc HCc
      rw [hwe]
      clear hwe
      go_loopw [130] (fun s130 wx => ∃ k : Nat, k ≤ 4 ∧ s130 = .int .i64 (k : Int) ∧ Hid (Below we.heap.size we wx)) (fun s130 _ => 4 - (RowKit.intOf s130).toNat)
      case atStart => exact ⟨0, Nat.zero_le _, rfl, Lib.hid (Below.refl _ _)⟩
      case round =>
        obtain ⟨k, hk, rfl, HBX⟩ := hrel
        have hk0 : (0 : Int) ≤ (k : Int) := Int.natCast_nonneg _
        by_cases hlt : k < 4
        · have hk1 : (k : Int) < 4 := by omega
          obtain ⟨ad, v, hao, hcell, hv⟩ := Cub.below HE.out HBX.out k hlt
          cases hao
          rw [add_zero'] at hcell
          obtain ⟨hf, hs, hx1, hx2, hx3⟩ := bad_l k hlt
          change MatV _ v ([[[13, 16, 1], [18, 9]], [[13], [18, 9]], [[13, 16], [18, 9], [1, 1]], []].getD k []).length (MM.lenL ([[[13, 16, 1], [18, 9]], [[13], [18, 9]], [[13, 16], [18, 9], [1, 1]], []].getD k [])) (MM.nlR ([[[13, 16, 1], [18, 9]], [[13], [18, 9]], [[13, 16], [18, 9], [1, 1]], []].getD k [])) at hv
          generalize [[[13, 16, 1], [18, 9]], [[13], [18, 9]], [[13, 16], [18, 9], [1, 1]], []].getD k [] = r at *
          obtain ⟨bo, c, rfl, hm, hn⟩ := hv
          have HV : Hid (MatV _ (.slice bo r.length c) r.length (MM.lenL r) (MM.nlR r)) := Lib.hid ⟨bo, c, rfl, hm, hn⟩
          have HF := Lib.hid hf
          have HS := Lib.hid hs
          have HO := Lib.hid (okm_l hx1 hx2 hx3)
          have HP := Lib.hid (okc_l hx1 hx2 hx3)
          have HIe := Lib.hid (HId.out.step HBX.out)
          clear hf hs hx1 hx2 hx3 hm hn
          go_wp2_with (refine wpList_row_if ?_ 25 _ rfl g rfl 25 sm8.cells (0, 0) _ HIe.out.box Try.underlying25 rfl (by kernel_rfl) ?_; first | rfl | (simp [Region.wanted, yielded]; done))
          refine (formed_at sm8_ok HO.out HF.out (let ⟨_, _, e, h, _⟩ := HV.out; by cases e; exact h)).mono ?_
          rintro e v1 ⟨rfl, hb⟩
          have H1 := Lib.hid hb
          have HL1 := Lib.hid (HIe.out.step hb)
          clear hb
          go_wp2_with (refine wpList_row_if ?_ 25 _ rfl g rfl 25 sm8.cells (0, 0) _ HL1.out.box Try.underlying25 rfl (by kernel_rfl) ?_; first | rfl | (simp [Region.wanted, yielded]; done))
          refine (square_is sm8_ok HP.out HS.out (pair_at _ (HV.out.below H1.out))).mono ?_
          rintro e v2 ⟨rfl, hb⟩
          have H2 := Lib.hid (H1.out.trans ((be4 hb).mono H1.out.size))
          clear hb H1 HL1
          go_wp2_with fail
          go_roundw
          case rel => exact ⟨k + 1, by omega, by go_num, Lib.hid (HBX.out.trans (H2.out.mono HBX.out.size))⟩
          case measure => simp [RowKit.intOf]; omega
        · have hk4 : ¬ ((k : Int) < 4) := by omega
          have HIf := Lib.hid (HId.out.step HBX.out)
          clear HBX HId HE hlt hk hk0
          obtain ⟨kj, hkj⟩ : ∃ kj, (k : Int) = kj := ⟨_, rfl⟩
          rw [hkj] at hk4 ⊢
          clear hkj
          go_upto_region 25 with fail
          have HIg := Lib.hid (HIf.out.alloc (.cells #[.int .u64 0, .int .u64 0, .int .u64 0, .int .u64 0, .int .i64 0, .int .i64 0, .int .i64 (-1), .int .i64 0, .int .i64 0, .int .i64 0, .int .i64 0, .int .i64 0] 25))
          have HN := Lib.hid (PBox.new wr no8)
          obtain ⟨g2, hg2⟩ : ∃ g2, wr.heap.size = g2 := ⟨_, rfl⟩
          obtain ⟨wf, hwf⟩ : ∃ wf, wr.alloc (.cells #[.int .u64 0, .int .u64 0, .int .u64 0, .int .u64 0, .int .i64 0, .int .i64 0, .int .i64 (-1), .int .i64 0, .int .i64 0, .int .i64 0, .int .i64 0, .int .i64 0] 25) = wf := ⟨_, rfl⟩
          rw [hwf] at HIg
          change Hid (PBox (wr.alloc (.cells #[.int .u64 0, .int .u64 0, .int .u64 0, .int .u64 0, .int .i64 0, .int .i64 0, .int .i64 (-1), .int .i64 0, .int .i64 0, .int .i64 0, .int .i64 0, .int .i64 0] 25)) wr.heap.size no8) at HN
          rw [hwf] at HN
          rw [hg2] at HN ⊢
          rw [hwf]
          clear hwf hg2 HIf
          have H0 := Lib.hid (Below.refl wf.heap.size wf)
          go_wp2_with (refine wpList_row_if ?_ 25 _ rfl g rfl 25 sm8.cells (0, 0) _ (HIg.out.step H0.out).box Try.underlying25 rfl (by kernel_rfl) ?_; first | rfl | (simp [Region.wanted, yielded]; done))
          refine (coms_nil _).mono ?_
          rintro e x1 ⟨p0, q0, rfl, hb⟩
          have H1 := Lib.hid (H0.out.trans ((hb).mono H0.out.size))
          clear hb H0
          go_wp2_with (refine wpList_row_if ?_ 25 _ rfl g rfl 25 sm8.cells (0, 0) _ (HIg.out.step H1.out).box Try.underlying25 rfl (by kernel_rfl) ?_; first | rfl | (simp [Region.wanted, yielded]; done))
          refine (share_nil _).mono ?_
          rintro e x2 ⟨p1, q1, rfl, hb⟩
          have H2 := Lib.hid (H1.out.trans ((hb).mono H1.out.size))
          clear hb H1
          go_wp2_with (refine wpList_row_if ?_ 25 _ rfl g rfl 25 sm8.cells (0, 0) _ (HIg.out.step H2.out).box Try.underlying25 rfl (by kernel_rfl) ?_; first | rfl | (simp [Region.wanted, yielded]; done))
          refine (fits_nil _).mono ?_
          rintro e x3 ⟨rfl, hb⟩
          have H3 := Lib.hid (H2.out.trans ((hb).mono H2.out.size))
          clear hb H2
          go_wp2_with (refine wpList_row_if ?_ 25 _ rfl g rfl 25 sm8.cells (0, 0) _ (HIg.out.step H3.out).box Try.underlying25 rfl (by kernel_rfl) ?_; first | rfl | (simp [Region.wanted, yielded]; done))
          refine (matrix_nil _).mono ?_
          rintro e x4 ⟨p3, q3, rfl, hb⟩
          have H4 := Lib.hid (H3.out.trans ((hb).mono H3.out.size))
          clear hb H3
          go_wp2_with (refine wpList_row_if ?_ 25 _ rfl g rfl 25 sm8.cells (0, 0) _ (HIg.out.step H4.out).box Try.underlying25 rfl (by kernel_rfl) ?_; first | rfl | (simp [Region.wanted, yielded]; done))
          refine (rowcoms_nil _).mono ?_
          rintro e x5 ⟨p4, q4, rfl, hb⟩
          have H5 := Lib.hid (H4.out.trans ((hb).mono H4.out.size))
          clear hb H4
          go_wp2_with (refine wpList_row_if ?_ 25 _ rfl g rfl 25 sm8.cells (0, 0) _ (HIg.out.step H5.out).box Try.underlying25 rfl (by kernel_rfl) ?_; first | rfl | (simp [Region.wanted, yielded]; done))
          refine (colcoms_nil _).mono ?_
          rintro e x6 ⟨p5, q5, rfl, hb⟩
          have H6 := Lib.hid (H5.out.trans ((hb).mono H5.out.size))
          clear hb H5
          go_wp2_with (first | (refine wpList_row_if ?_ 25 _ rfl g rfl 25 sm8.cells (0, 0) _ (HIg.out.step H6.out).box Try.underlying25 rfl (by kernel_rfl) ?_; first | rfl | (simp [Region.wanted, yielded]; done)) | (refine wpList_row_if ?_ 25 _ rfl g2 rfl 25 no8.cells (0, 0) _ (HN.out.below H6.out) Try.underlying25 rfl (by kernel_rfl) ?_; first | rfl | (simp [Region.wanted, yielded]; done)))
          refine (formed_nil _).mono ?_
          rintro e x7 ⟨rfl, hb⟩
          have H7 := Lib.hid (H6.out.trans ((hb).mono H6.out.size))
          clear hb H6
          go_wp2_with (first | (refine wpList_row_if ?_ 25 _ rfl g rfl 25 sm8.cells (0, 0) _ (HIg.out.step H7.out).box Try.underlying25 rfl (by kernel_rfl) ?_; first | rfl | (simp [Region.wanted, yielded]; done)) | (refine wpList_row_if ?_ 25 _ rfl g2 rfl 25 no8.cells (0, 0) _ (HN.out.below H7.out) Try.underlying25 rfl (by kernel_rfl) ?_; first | rfl | (simp [Region.wanted, yielded]; done)))
          refine (bonded_nil _).mono ?_
          rintro e x8 ⟨rfl, hb⟩
          have H8 := Lib.hid (H7.out.trans ((hb).mono H7.out.size))
          clear hb H7
          go_wp2_with (refine wpList_row_if ?_ 25 _ rfl g rfl 25 sm8.cells (0, 0) _ (HIg.out.step H8.out).box Try.underlying25 rfl (by kernel_rfl) ?_; first | rfl | (simp [Region.wanted, yielded]; done))
          refine (rowcoms_one _ _ rfl).mono ?_
          rintro e x9 ⟨p8, q8, rfl, hm, hb⟩
          have H9 := Lib.hid (H8.out.trans ((hb).mono H8.out.size))
          have HR := Lib.hid hm
          clear hm
          clear hb H8
          go_wp2_with (refine wpList_row_if ?_ 25 _ rfl g rfl 25 sm8.cells (0, 0) _ (HIg.out.step H9.out).box Try.underlying25 rfl (by kernel_rfl) ?_; first | rfl | (simp [Region.wanted, yielded]; done))
          refine (lists8_is (L := MM.lenL [[4, 9]]) (F := MM.nlR [[4, 9]]) (by decide) ((HR.out.alloc _).alloc _) (mat1 (by simp) (Sl.row (row_at [4, 9] rfl rfl) rfl))).mono ?_
          rintro e x10 ⟨rfl, hb⟩
          have H10 := Lib.hid (H9.out.trans ((be2 hb).mono H9.out.size))
          clear hb H9
          go_wp2_with (refine wpList_row_if ?_ 25 _ rfl g rfl 25 sm8.cells (0, 0) _ (HIg.out.step H10.out).box Try.underlying25 rfl (by kernel_rfl) ?_; first | rfl | (simp [Region.wanted, yielded]; done))
          refine (coms_is [[]] [] [[]] 1 0 1 (by decide) (by decide) (by decide +kernel) (mat1 (by simp) (Sl.nil _)) (mat0 _ _)).mono ?_
          rintro e x11 ⟨v, rfl, ⟨hv, hcap⟩, hb⟩
          have H11 := Lib.hid (H10.out.trans ((be1 hb).mono H10.out.size))
          obtain ⟨p10, q10, rfl, hm, _⟩ := hv.matV
          have HR2 := Lib.hid hm
          clear hm hv hcap
          clear hb H10
          go_wp2_with (refine wpList_row_if ?_ 25 _ rfl g rfl 25 sm8.cells (0, 0) _ (HIg.out.step H11.out).box Try.underlying25 rfl (by kernel_rfl) ?_; first | rfl | (simp [Region.wanted, yielded]; done))
          refine (lists8_is (L := MM.lenL [[]]) (F := MM.nlR [[]]) (by decide) (HR2.out.alloc _) (mat1 (by simp) (Sl.nil _))).mono ?_
          rintro e x12 ⟨rfl, hb⟩
          have H12 := Lib.hid (H11.out.trans ((be1 hb).mono H11.out.size))
          clear hb H11
          go_wp2_with fail
          go_ret
          exact ⟨rfl, (HIg.out.step H12.out).below⟩
theorem walk (w : World) : Calls Try.prog 3 #[] w fun e w' => e = .returned (.bool true) ∧ Below w.heap.size w w' := names_any w
end PedersenNames
end Go.Proofs.Ytlnlepadninnaaa

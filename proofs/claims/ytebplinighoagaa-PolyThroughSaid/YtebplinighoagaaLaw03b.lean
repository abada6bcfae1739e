/- The examples together: they are as the chapter has them, in whatever world. -/
import Derived.Test.YtebplinighoagaaLaw03a
namespace Go.Proofs.Ytebplinighoagaa
open Go Go.RowKit Go.Lib
namespace M
theorem nr (W : World) : Row (W.alloc (.cells #[.int .u64 1, .int .u64 2, .int .u64 3] 23)) ⟨W.heap.size, 0, none⟩ 3 z123 := new_row W [1, 2, 3] _ (fun k hk => match k, hk with | 0, _ => rfl | 1, _ => rfl | 2, _ => rfl)
theorem nr607 (W : World) : Row (W.alloc (.cells #[.int .u64 6, .int .u64 0, .int .u64 7] 23)) ⟨W.heap.size, 0, none⟩ 3 y607 := new_row W [6, 0, 7] _ (fun k hk => match k, hk with | 0, _ => rfl | 1, _ => rfl | 2, _ => rfl)
theorem nr321 (W : World) : Row (W.alloc (.cells #[.int .u64 3, .int .u64 2, .int .u64 1] 23)) ⟨W.heap.size, 0, none⟩ 3 (MM.ofL [3, 2, 1]) := new_row W [3, 2, 1] _ (fun k hk => match k, hk with | 0, _ => rfl | 1, _ => rfl | 2, _ => rfl)
theorem nr381 (W : World) : Row (W.alloc (.cells #[.int .u64 3, .int .u64 8, .int .u64 1] 23)) ⟨W.heap.size, 0, none⟩ 3 (MM.ofL [3, 8, 1]) := new_row W [3, 8, 1] _ (fun k hk => match k, hk with | 0, _ => rfl | 1, _ => rfl | 2, _ => rfl)
theorem nr1010 (W : World) : Row (W.alloc (.cells #[.int .u64 1, .int .u64 0, .int .u64 10] 23)) ⟨W.heap.size, 0, none⟩ 3 (MM.ofL [1, 0, 10]) := new_row W [1, 0, 10] _ (fun k hk => match k, hk with | 0, _ => rfl | 1, _ => rfl | 2, _ => rfl)
theorem nr3210 (W : World) : Row (W.alloc (.cells #[.int .u64 3, .int .u64 2, .int .u64 1, .int .u64 0] 23)) ⟨W.heap.size, 0, none⟩ 4 (MM.ofL [3, 2, 1, 0]) := new_row W [3, 2, 1, 0] _ (fun k hk => match k, hk with | 0, _ => rfl | 1, _ => rfl | 2, _ => rfl | 3, _ => rfl)
theorem nr11 (W : World) : Row (W.alloc (.cells #[.int .u64 1, .int .u64 1] 23)) ⟨W.heap.size, 0, none⟩ 2 (MM.ofL [1, 1]) := new_row W [1, 1] _ (fun k hk => match k, hk with | 0, _ => rfl | 1, _ => rfl)
theorem nr110 (W : World) : Row (W.alloc (.cells #[.int .u64 1, .int .u64 10] 23)) ⟨W.heap.size, 0, none⟩ 2 (MM.ofL [1, 10]) := new_row W [1, 10] _ (fun k hk => match k, hk with | 0, _ => rfl | 1, _ => rfl)
theorem two_new {W : World} {cs ds : Array Value} {n m : Nat} {z y : Nat → Nat} (h1 : Row (W.alloc (.cells cs 23)) ⟨W.heap.size, 0, none⟩ n z) (h2 : ∀ W : World, Row (W.alloc (.cells ds 23)) ⟨W.heap.size, 0, none⟩ m y) :
    Row ((W.alloc (.cells cs 23)).alloc (.cells ds 23)) ⟨W.heap.size, 0, none⟩ n z ∧ Row ((W.alloc (.cells cs 23)).alloc (.cells ds 23)) ⟨W.heap.size + 1, 0, none⟩ m y :=
  ⟨h1.below (below_box _ _), by have := h2 (W.alloc (.cells cs 23)); rwa [World.size_alloc] at this⟩
theorem box2 (W : World) (o p : Obj) : Below W.heap.size W ((W.alloc o).alloc p) := (below_box W o).trans ((below_box _ p).mono (by simp))
theorem Below.then {B : Nat} {W0 W W' : World} (h : Below B W0 W) (hb : Below W.heap.size W W') (hs : B ≤ W.heap.size) : Below B W0 W' := h.trans (hb.mono hs)
theorem Below.tr {W0 W W' : World} (h : Below W0.heap.size W0 W) (hb : Below W.heap.size W W') : Below W0.heap.size W0 W' := h.trans (hb.mono h.size)

set_option maxHeartbeats 4000000 in
theorem awake_any (w : World) : Calls Try.prog 6 #[] w fun e w' => e = .returned (.bool true) ∧ Below w.heap.size w w' := by
  go_enter Try.func6, Try.ntmps6
  go_wp2_with fail
  refine (ex_weights _ _ (nr w)).mono ?_
  rintro e w1 ⟨B1, rfl, hr1, hb1⟩
  have HR1 := Lib.hid hr1
  have HB1 := Lib.hid (Below.tr (below_box _ _) hb1)
  clear hr1 hb1
  go_wp2_with fail
  refine (ex_through _ _ _ (two_new (nr w1) nr607).1 (two_new (nr w1) nr607).2).mono ?_
  rintro e w2 ⟨B2, rfl, hr2, hb2⟩
  have hb2 := Below.tr (box2 _ _ _) hb2
  have HR2 := Lib.hid (And.intro (HR1.out.below hb2) hr2)
  have HB2 := Lib.hid (Below.tr HB1.out hb2)
  clear hr2 hb2 HR1 HB1
  go_wp2_with fail
  refine (ex_eval _ _ (nr321 w2)).mono ?_
  rintro e w3 ⟨rfl, hb3⟩
  have hb3 := Below.tr (below_box _ _) hb3
  have HR3 := Lib.hid (And.intro (HR2.out.1.below hb3) (HR2.out.2.below hb3))
  have HB3 := Lib.hid (Below.tr HB2.out hb3)
  clear hb3 HR2 HB2
  go_wp2_with fail
  refine (ex_degree _ _ (nr3210 w3)).mono ?_
  rintro e w4 ⟨rfl, hb4⟩
  have hb4 := Below.tr (below_box _ _) hb4
  have HR4 := Lib.hid (And.intro (HR3.out.1.below hb4) (HR3.out.2.below hb4))
  have HB4 := Lib.hid (Below.tr HB3.out hb4)
  clear hb4 HR3 HB3
  go_wp2_with fail
  refine (ex_times _ _ _ (two_new (nr11 w4) nr110).1 (two_new (nr11 w4) nr110).2).mono ?_
  rintro e w5 ⟨B5, rfl, hr5, hb5⟩
  have hb5 := Below.tr (box2 _ _ _) hb5
  have HR5 := Lib.hid (And.intro (HR4.out.1.below hb5) (And.intro (HR4.out.2.below hb5) hr5))
  have HB5 := Lib.hid (Below.tr HB4.out hb5)
  clear hb5 hr5 HR4 HB4
  go_wp2_with fail
  refine (ex_numbers _ _ _ 3 (MM.ofL [1, 0, 10]) (by decide) (HR5.out.2.2.below (below_box _ _)) (nr1010 w5)).mono ?_
  rintro e w6 ⟨rfl, hb6⟩
  have hb6 := Below.tr (below_box _ _) hb6
  have HR6 := Lib.hid (And.intro (HR5.out.1.below hb6) (HR5.out.2.1.below hb6))
  have HB6 := Lib.hid (Below.tr HB5.out hb6)
  clear hb6 HR5 HB5
  go_wp2_with fail
  refine (ex_numbers _ _ _ 3 (MM.ofL [3, 8, 1]) (by decide) (HR6.out.1.below (below_box _ _)) (nr381 w6)).mono ?_
  rintro e w7 ⟨rfl, hb7⟩
  have hb7 := Below.tr (below_box _ _) hb7
  have HR7 := Lib.hid (HR6.out.2.below hb7)
  have HB7 := Lib.hid (Below.tr HB6.out hb7)
  clear hb7 HR6 HB6
  go_wp2_with fail
  refine (ex_numbers _ _ _ 3 (MM.ofL [3, 2, 1]) (by decide) (HR7.out.below (below_box _ _)) (nr321 w7)).mono ?_
  rintro e w8 ⟨rfl, hb8⟩
  have HB8 := Lib.hid (Below.tr HB7.out (Below.tr (below_box _ _) hb8))
  clear hb8 HR7 HB7
  go_wp2_with fail
  go_ret
  exact ⟨rfl, HB8.out⟩
end M
end Go.Proofs.Ytebplinighoagaa

/- What each call of package mod answers at whatever modulus; the walks of group.Power, Times, Is, generates, between. -/
import Derived.Test.YtmeaiindbkkkiaaDoorPm
import Derived.Test.YtmeaiindbkkkiaaDoorInn
import Derived.Test.YtmeaiindbkkkiaaDoorGrpMath
import Derived.LoopTactic
import Derived.LoopN
import Derived.Deep.QuietTactic
import Derived.BigQuiet
namespace Go.Proofs.YtmeaiindbkkkiaaDoor
open Go Go.RowKit Go.Lib
namespace M
theorem ret_addU (a b m : Nat) : Ret 19 #[.int .u64 (a : Int), .int .u64 (b : Int), .int .u64 (m : Int)] (.int .u64 ((MM.addU a b m : Nat) : Int)) := by
  unfold MM.addU
  by_cases h : MM.Good m
  · rw [if_pos h]; exact ret_add a b m _ h.1 h.2 rfl
  · rw [if_neg h]; exact ret_no_add a b m (MM.good_not h)
theorem ret_mulU (a b m : Nat) (ha : a < 18446744073709551616) (hb : b < 18446744073709551616) : Ret 20 #[.int .u64 (a : Int), .int .u64 (b : Int), .int .u64 (m : Int)] (.int .u64 ((MM.mulU a b m : Nat) : Int)) := by
  unfold MM.mulU
  by_cases h : MM.Good m
  · rw [if_pos h]; exact ret_mul a b m _ h.1 h.2 ha hb rfl
  · rw [if_neg h]; exact ret_no_mul a b m (MM.good_not h)
theorem ret_powU (a e m : Nat) (ha : a < 18446744073709551616) (he : e < 18446744073709551616) : Ret 24 #[.int .u64 (a : Int), .int .u64 (e : Int), .int .u64 (m : Int)] (.int .u64 ((MM.powU a e m : Nat) : Int)) := by
  unfold MM.powU
  by_cases h : MM.Good m
  · rw [if_pos h]; exact ret_pow a e m _ h.1 h.2 ha he rfl
  · rw [if_neg h]; exact ret_no_pow a e m (MM.good_not h)

/-- The world behind the parameters' box. -/
theorem boxed (w : World) (p : Pm) : Box (w.alloc (.cells p.cells 25)) w.heap.size p := Box.new w p
theorem below_box (w : World) (o : Obj) : Below w.heap.size w (w.alloc o) := (Below.refl _ _).alloc (Nat.le_refl _) _
theorem Below.drawn {B : Nat} {w w' : World} (h : Below B w w') (n : Nat) : Below B w (w'.drewN n) := h.trans (below_drewN' w' n _)

set_option maxHeartbeats 400000 in
theorem power_core (p : Pm) (x e r : Nat) (H : Ret 24 #[.int .u64 (x : Int), .int .u64 (e : Int), .int .u64 (p.P : Int)] (.int .u64 (r : Int))) :
    RetB 13 #[.agg p.cells, .int .u64 (x : Int), .int .u64 (e : Int)] (.int .u64 (r : Int)) := by
  intro w
  have HB := Lib.hid (below_box w (.cells p.cells 25))
  go_enter Tryd.func13, Tryd.ntmps13
  go_wp2_with (go_at_call 24; (with_reducible refine (H.at _).mono ?_); rintro e w' ⟨rfl, nd, rfl⟩)
  go_ret
  exact ⟨rfl, Below.drawn HB.out _⟩
theorem power_any (p : Pm) (x e : Nat) (hx : x < 18446744073709551616) (he : e < 18446744073709551616) : RetB 13 #[.agg p.cells, .int .u64 (x : Int), .int .u64 (e : Int)] (.int .u64 ((MM.powU x e p.P : Nat) : Int)) :=
  power_core p x e _ (ret_powU x e p.P hx he)

/-- A row of numbers that a slice reads. -/
def Row (W : World) (a : Addr) (n : Nat) (z : Nat → Nat) : Prop := ∀ t, t < n → W.cell? (a.add t) = some (.int .u64 (z t : Int))
theorem Row.below {W W' : World} {a : Addr} {n : Nat} {z : Nat → Nat} (h : Row W a n z) (hb : Below W.heap.size W W') : Row W' a n z := fun t ht => by
  have h1 := h t ht
  have hs : (a.add t).block < W.heap.size := World.block_lt_of_cell? W _ h1
  rw [hb.cell hs]; exact h1
theorem Row.of_block {W : World} {b : Nat} {cs : Array Value} {t : TypeId} {n : Nat} {z : Nat → Nat} (h : W.heap[b]? = some (.cells cs t (0, 0))) (hz : ∀ k, k < n → cs[k]? = some (.int .u64 (z k : Int))) : Row W ⟨b, 0, none⟩ n z := fun k hk => by
  have e : (⟨b, 0, none⟩ : Addr).add k = ⟨b, k, none⟩ := by
    unfold Addr.add
    by_cases h0 : k = 0
    · subst h0; rfl
    · rw [if_neg h0]; simp
  rw [e, cell_of_row W b k _ _ _ h, hz k hk]

/-- What a walk over parameters carries along: their block, that nothing old has changed. -/
structure In1 (w0 : World) (g : Nat) (p : Pm) (w : World) : Prop where
  box : Box w g p
  below : Below w0.heap.size w0 w
theorem In1.step {w0 w w' : World} {g : Nat} {p : Pm} (h : In1 w0 g p w) (hb : Below w.heap.size w w') : In1 w0 g p w' :=
  ⟨h.box.below hb, h.below.trans (hb.mono h.below.size)⟩
theorem In1.new (w : World) (p : Pm) : In1 w w.heap.size p (w.alloc (.cells p.cells 25)) := ⟨Box.new w p, below_box _ _⟩
set_option maxHeartbeats 1000000 in
theorem times_core (p : Pm) (a : Addr) (n cap : Nat) (z f : Nat → Nat) (hn : n ≤ 9223372036854775807) (W : World) (hc : Row W a n z)
    (H0 : Ret 19 #[.int .u64 0, .int .u64 1, .int .u64 (p.P : Int)] (.int .u64 ((f 0 : Nat) : Int)))
    (HM : ∀ k, k < n → Ret 20 #[.int .u64 ((f k : Nat) : Int), .int .u64 ((z k : Nat) : Int), .int .u64 (p.P : Int)] (.int .u64 ((f (k + 1) : Nat) : Int))) :
    Calls Tryd.prog 15 #[.agg p.cells, .slice (some a) n cap] W fun e w' => e = .returned (.int .u64 ((f n : Nat) : Int)) ∧ Below W.heap.size W w' := by
  have HB := Lib.hid (below_box W (.cells p.cells 25))
  have HR := Lib.hid (hc.below HB.out)
  have HX := Lib.hid (boxed W p)
  have HMM := Lib.hid HM
  clear hc HM
  go_enter Tryd.func15, Tryd.ntmps15
  go_upto_region 1 with fail
  generalize hg : W.heap.size = g at HB HX ⊢
  have HE := Lib.hid hg
  clear hg
  generalize W.alloc (.cells p.cells 25) = w1 at *
  have q0 : w1.cell? ⟨g, 0, none⟩ = some (.int .u64 (p.P : Int)) := HX.out.cell 0
  go_wp2_with (go_at_call 19; (with_reducible refine (H0.at _).mono ?_); rintro e w' ⟨rfl, nd, rfl⟩)
  go_loopw [5, 13] (fun s5 s13 wx => ∃ k m : Nat, k ≤ n ∧ s13 = .int .i64 (k : Int) ∧ s5 = .int .u64 ((f k : Nat) : Int) ∧ wx = w1.drewN m) (fun _ s13 _ => n - (RowKit.intOf s13).toNat)
  case atStart => exact ⟨0, _, Nat.zero_le _, rfl, rfl, rfl⟩
  case round =>
    obtain ⟨k, m, hk, rfl, rfl, rfl⟩ := hrel
    by_cases hlt : k < n
    · have hcell : w1.cell? (a.add k) = some (.int .u64 ((z k : Nat) : Int)) := HR.out k hlt
      have H1 := HMM.out k hlt
      go_wp2_with (go_at_call 20; (with_reducible refine (H1.at _).mono ?_); rintro e w' ⟨rfl, nd, rfl⟩)
      go_roundw
      case rel => exact ⟨k + 1, _, by omega, by go_num, rfl, rfl⟩
      case measure => simp [RowKit.intOf]; omega
    · obtain rfl : k = n := by omega
      go_wp2_with fail
      go_ret
      exact ⟨rfl, by first | exact Below.drawn HB.out _ | (rw [HE.out]; exact Below.drawn HB.out _)⟩
theorem times_any (p : Pm) (a : Addr) (n cap : Nat) (z : Nat → Nat) (hz : ∀ k, k < n → z k < 18446744073709551616) (hn : n ≤ 9223372036854775807) (W : World) (hc : Row W a n z) :
    Calls Tryd.prog 15 #[.agg p.cells, .slice (some a) n cap] W fun e w' => e = .returned (.int .u64 ((MM.timesN p.P z n : Nat) : Int)) ∧ Below W.heap.size W w' :=
  times_core p a n cap z (MM.timesN p.P z) hn W hc (ret_addU 0 1 p.P) (fun k hk => ret_mulU _ _ _ (MM.timesN_lt _ _ _) (hz k hk))
set_option maxHeartbeats 400000 in
theorem times_nil (p : Pm) : RetB 15 #[.agg p.cells, .slice none 0 0] (.int .u64 ((MM.addU 0 1 p.P : Nat) : Int)) := by
  intro w
  have HB := Lib.hid (below_box w (.cells p.cells 25))
  have H0 : Ret 19 #[.int .u64 0, .int .u64 1, .int .u64 (p.P : Int)] (.int .u64 ((MM.addU 0 1 p.P : Nat) : Int)) := ret_addU 0 1 p.P
  go_enter Tryd.func15, Tryd.ntmps15
  go_wp2_with (go_at_call 19; (with_reducible refine (H0.at _).mono ?_); rintro e w' ⟨rfl, nd, rfl⟩)
  refine wp_loop_rounds 1 ?_
  rw [rounds_succ]
  go_wp2_with fail
  go_ret
  exact ⟨rfl, Below.drawn HB.out _⟩
theorem two_lt {x y k : Nat} (hx : x < 18446744073709551616) (hy : y < 18446744073709551616) : MM.two x y k < 18446744073709551616 := by
  match k with
  | 0 => exact hx
  | _ + 1 => exact hy
theorem row_two {W : World} {b : Nat} {t : TypeId} (x y : Nat) (h : W.heap[b]? = some (.cells #[.int .u64 (x : Int), .int .u64 (y : Int)] t (0, 0))) : Row W ⟨b, 0, none⟩ 2 (MM.two x y) :=
  Row.of_block h fun k hk => by
    match k, hk with
    | 0, _ => rfl
    | 1, _ => rfl
    | k + 2, h => exact absurd h (by omega)
/-- A product of two numbers that were put into a row of their own. -/
theorem times_two (p : Pm) (x y r : Nat) (hx : x < 18446744073709551616) (hy : y < 18446744073709551616) (hr : MM.times2U x y p.P = r) (W : World) (b : Nat) (h : W.heap[b]? = some (.cells #[.int .u64 (x : Int), .int .u64 (y : Int)] 23 (0, 0))) :
    Calls Tryd.prog 15 #[.agg p.cells, .slice (some ⟨b, 0, none⟩) 2 2] W fun e w' => e = .returned (.int .u64 (r : Int)) ∧ Below W.heap.size W w' := by
  rw [← hr]
  exact times_any p ⟨b, 0, none⟩ 2 2 (MM.two x y) (fun k _ => two_lt hx hy) (by omega) W (row_two x y h)

/-- Whether a number is of the group. -/
def isB (p : Pm) (x : Nat) : Bool := decide (0 < x) && decide (x < p.P) && (MM.powU x p.Q p.P == 1)
theorem isB_true {p : Pm} {x : Nat} (h0 : 0 < x) (h1 : x < p.P) (h2 : MM.powU x p.Q p.P = 1) : isB p x = true := by simp [isB, h0, h1, h2]
theorem isB_zero {p : Pm} {x : Nat} (h0 : ¬ 0 < x) : isB p x = false := by simp [isB, h0]
theorem isB_big {p : Pm} {x : Nat} (h0 : ¬ x < p.P) : isB p x = false := by simp [isB, h0]
theorem isB_no {p : Pm} {x : Nat} (h0 : ¬ MM.powU x p.Q p.P = 1) : isB p x = false := by simp [isB, h0]
set_option maxHeartbeats 1000000 in
theorem is_any (p : Pm) (x : Nat) (hx : x < 18446744073709551616) (hq : p.Q < 18446744073709551616) : RetB 14 #[.agg p.cells, .int .u64 (x : Int)] (.bool (isB p x)) := by
  intro w
  have HB0 : Hid (In1 w w.heap.size p (w.alloc (.cells p.cells 25))) := Lib.hid (In1.new w p)
  have HP := power_any p x p.Q hx hq
  clear hx hq
  obtain ⟨y, hy⟩ : ∃ y, MM.powU x p.Q p.P = y := ⟨_, rfl⟩
  rw [hy] at HP
  have HY := Lib.hid hy
  clear hy
  generalize hg : w.heap.size = g at HB0
  have HE := Lib.hid hg
  clear hg
  by_cases h0 : 0 < x
  · by_cases h1 : x < p.P
    · by_cases h2 : y = 1
      · subst h2
        have HT := Lib.hid (isB_true h0 h1 HY.out)
        rw [HT.out]
        go_enter Tryd.func14, Tryd.ntmps14
        go_upto_region 1 with fail
        rw [HE.out]
        generalize w.alloc (.cells p.cells 25) = w1 at *
        have HB := HB0; clear HB0
        have q0 := HB.out.box.cell 0
        have q1 := HB.out.box.cell 1
        go_wp2_with (first | (refine wpList_row_if ?_ 25 _ rfl g rfl 25 p.cells (0, 0) _ HB.out.box Tryd.underlying25 rfl (by kernel_rfl) ?_; first | rfl | (simp [Region.wanted, yielded]; done)) | (go_at_call 13; (with_reducible refine (HP.at _).mono ?_); rintro e w1 ⟨rfl, hb⟩; replace HB := Lib.hid (HB.out.step hb); clear hb))
        go_ret
        exact ⟨rfl, HE.out ▸ HB.out.below⟩
      · have hy2 : ((y : Int) == 1) = false := by simp; omega
        have HT := Lib.hid (isB_no (p := p) (x := x) (by rw [HY.out]; exact h2))
        clear h2
        rw [HT.out]
        go_enter Tryd.func14, Tryd.ntmps14
        go_upto_region 1 with fail
        rw [HE.out]
        generalize w.alloc (.cells p.cells 25) = w1 at *
        have HB := HB0; clear HB0
        have q0 := HB.out.box.cell 0
        have q1 := HB.out.box.cell 1
        go_wp2_with (first | (refine wpList_row_if ?_ 25 _ rfl g rfl 25 p.cells (0, 0) _ HB.out.box Tryd.underlying25 rfl (by kernel_rfl) ?_; first | rfl | (simp [Region.wanted, yielded]; done)) | (go_at_call 13; (with_reducible refine (HP.at _).mono ?_); rintro e w1 ⟨rfl, hb⟩; replace HB := Lib.hid (HB.out.step hb); clear hb))
        go_ret
        exact ⟨rfl, HE.out ▸ HB.out.below⟩
    · have HT := Lib.hid (isB_big h1)
      rw [HT.out]
      go_enter Tryd.func14, Tryd.ntmps14
      go_upto_region 1 with fail
      rw [HE.out]
      generalize w.alloc (.cells p.cells 25) = w1 at *
      have HB := HB0; clear HB0
      have q0 := HB.out.box.cell 0
      have q1 := HB.out.box.cell 1
      go_wp2_with (first | (refine wpList_row_if ?_ 25 _ rfl g rfl 25 p.cells (0, 0) _ HB.out.box Tryd.underlying25 rfl (by kernel_rfl) ?_; first | rfl | (simp [Region.wanted, yielded]; done)) | (go_at_call 13; (with_reducible refine (HP.at _).mono ?_); rintro e w1 ⟨rfl, hb⟩; replace HB := Lib.hid (HB.out.step hb); clear hb))
      go_ret
      exact ⟨rfl, HE.out ▸ HB.out.below⟩
  · have HT := Lib.hid (isB_zero (p := p) h0)
    rw [HT.out]
    go_enter Tryd.func14, Tryd.ntmps14
    go_upto_region 1 with fail
    rw [HE.out]
    generalize w.alloc (.cells p.cells 25) = w1 at *
    have HB := HB0; clear HB0
    have q0 := HB.out.box.cell 0
    have q1 := HB.out.box.cell 1
    go_wp2_with (first | (refine wpList_row_if ?_ 25 _ rfl g rfl 25 p.cells (0, 0) _ HB.out.box Tryd.underlying25 rfl (by kernel_rfl) ?_; first | rfl | (simp [Region.wanted, yielded]; done)) | (go_at_call 13; (with_reducible refine (HP.at _).mono ?_); rintro e w1 ⟨rfl, hb⟩; replace HB := Lib.hid (HB.out.step hb); clear hb))
    go_ret
    exact ⟨rfl, HE.out ▸ HB.out.below⟩
end M
end Go.Proofs.YtmeaiindbkkkiaaDoor

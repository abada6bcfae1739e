/- The texts GrpW1, GrpW3, PolyEq, one behind the other. -/
import Derived.Test.YtlnlepadninnaaaKN7
import Derived.Test.YtlnlepadninnaaaKN8
import Derived.Test.YtlnlepadninnaaaKN2
import Derived.LoopTactic
import Derived.LoopN
import Derived.Deep.QuietTactic
import Derived.BigQuiet
import Derived.Deep.Cut
import Derived.Deep.DeepCutAuto
import Derived.Deep.RegionHeld3
import Derived.Test.YtlnlepadninnaaaKN5
/- What each call of package mod answers at whatever modulus; the walks of group.Power, Times, Is, generates, between. -/
namespace Go.Proofs.Ytlnlepadninnaaa
open Go Go.RowKit Go.Lib
namespace M
/-- The world behind the parameters' box. -/
theorem boxed (w : World) (p : Pm) : PBox (w.alloc (.cells p.cells 25)) w.heap.size p := PBox.new w p
set_option maxHeartbeats 400000 in
theorem power_core (p : Pm) (x e r : Nat) (H : Ret 30 #[.int .u64 (x : Int), .int .u64 (e : Int), .int .u64 (p.P : Int)] (.int .u64 (r : Int))) :
    RetB 31 #[.agg p.cells, .int .u64 (x : Int), .int .u64 (e : Int)] (.int .u64 (r : Int)) := by
  intro w
  have HB := Lib.hid (below_box w (.cells p.cells 25))
  go_enter Try.func31, Try.ntmps31
  go_wp2_with (go_at_call 30; (with_reducible refine (H.at _).mono ?_); rintro e w' ⟨rfl, nd, rfl⟩)
  go_ret
  exact ⟨rfl, Below.drawn HB.out _⟩
theorem power_any (p : Pm) (x e : Nat) (hx : x < 18446744073709551616) (he : e < 18446744073709551616) : RetB 31 #[.agg p.cells, .int .u64 (x : Int), .int .u64 (e : Int)] (.int .u64 ((MM.powU x e p.P : Nat) : Int)) :=
  power_core p x e _ (ret_powU x e p.P hx he)

/-- What a walk over parameters carries along: their block, that nothing old has changed. -/
structure In1 (w0 : World) (g : Nat) (p : Pm) (w : World) : Prop where
  box : PBox w g p
  below : Below w0.heap.size w0 w
theorem In1.step {w0 w w' : World} {g : Nat} {p : Pm} (h : In1 w0 g p w) (hb : Below w.heap.size w w') : In1 w0 g p w' :=
  ⟨h.box.below hb, h.below.trans (hb.mono h.below.size)⟩
theorem In1.new (w : World) (p : Pm) : In1 w w.heap.size p (w.alloc (.cells p.cells 25)) := ⟨PBox.new w p, below_box _ _⟩
set_option maxHeartbeats 1000000 in
theorem times_core (p : Pm) (a : Addr) (n cap : Nat) (z f : Nat → Nat) (hn : n ≤ 9223372036854775807) (W : World) (hc : Row W a n z)
    (H0 : Ret 40 #[.int .u64 0, .int .u64 1, .int .u64 (p.P : Int)] (.int .u64 ((f 0 : Nat) : Int)))
    (HM : ∀ k, k < n → Ret 41 #[.int .u64 ((f k : Nat) : Int), .int .u64 ((z k : Nat) : Int), .int .u64 (p.P : Int)] (.int .u64 ((f (k + 1) : Nat) : Int))) :
    Calls Try.prog 29 #[.agg p.cells, .slice (some a) n cap] W fun e w' => e = .returned (.int .u64 ((f n : Nat) : Int)) ∧ Below W.heap.size W w' := by
  have HB := Lib.hid (below_box W (.cells p.cells 25))
  have HR := Lib.hid (hc.below HB.out)
  have HX := Lib.hid (boxed W p)
  have HMM := Lib.hid HM
  clear hc HM
  go_enter Try.func29, Try.ntmps29
  go_upto_region 1 with fail
  generalize hg : W.heap.size = g at HB HX ⊢
  have HE := Lib.hid hg
  clear hg
  generalize W.alloc (.cells p.cells 25) = w1 at *
  have q0 : w1.cell? ⟨g, 0, none⟩ = some (.int .u64 (p.P : Int)) := HX.out.cell 0
  go_wp2_with (go_at_call 40; (with_reducible refine (H0.at _).mono ?_); rintro e w' ⟨rfl, nd, rfl⟩)
  go_loopw [5, 13] (fun s5 s13 wx => ∃ k m : Nat, k ≤ n ∧ s13 = .int .i64 (k : Int) ∧ s5 = .int .u64 ((f k : Nat) : Int) ∧ wx = w1.drewN m) (fun _ s13 _ => n - (RowKit.intOf s13).toNat)
  case atStart => exact ⟨0, _, Nat.zero_le _, rfl, rfl, rfl⟩
  case round =>
    obtain ⟨k, m, hk, rfl, rfl, rfl⟩ := hrel
    by_cases hlt : k < n
    · have hcell : w1.cell? (a.add k) = some (.int .u64 ((z k : Nat) : Int)) := HR.out k hlt
      have H1 := HMM.out k hlt
      go_wp2_with (go_at_call 41; (with_reducible refine (H1.at _).mono ?_); rintro e w' ⟨rfl, nd, rfl⟩)
      go_roundw
      case rel => exact ⟨k + 1, _, by omega, by go_num, rfl, rfl⟩
      case measure => simp [RowKit.intOf]; omega
    · obtain rfl : k = n := by omega
      go_wp2_with fail
      go_ret
      exact ⟨rfl, by first | exact Below.drawn HB.out _ | (rw [HE.out]; exact Below.drawn HB.out _)⟩
theorem times_any (p : Pm) (a : Addr) (n cap : Nat) (z : Nat → Nat) (hz : ∀ k, k < n → z k < 18446744073709551616) (hn : n ≤ 9223372036854775807) (W : World) (hc : Row W a n z) :
    Calls Try.prog 29 #[.agg p.cells, .slice (some a) n cap] W fun e w' => e = .returned (.int .u64 ((MM.timesN p.P z n : Nat) : Int)) ∧ Below W.heap.size W w' :=
  times_core p a n cap z (MM.timesN p.P z) hn W hc (ret_addU 0 1 p.P) (fun k hk => ret_mulU _ _ _ (MM.timesN_lt _ _ _) (hz k hk))
set_option maxHeartbeats 400000 in
theorem times_nil (p : Pm) : RetB 29 #[.agg p.cells, .slice none 0 0] (.int .u64 ((MM.addU 0 1 p.P : Nat) : Int)) := by
  intro w
  have HB := Lib.hid (below_box w (.cells p.cells 25))
  have H0 : Ret 40 #[.int .u64 0, .int .u64 1, .int .u64 (p.P : Int)] (.int .u64 ((MM.addU 0 1 p.P : Nat) : Int)) := ret_addU 0 1 p.P
  go_enter Try.func29, Try.ntmps29
  go_wp2_with (go_at_call 40; (with_reducible refine (H0.at _).mono ?_); rintro e w' ⟨rfl, nd, rfl⟩)
  refine wp_loop_rounds 1 ?_
  rw [rounds_succ]
  go_wp2_with fail
  go_ret
  exact ⟨rfl, Below.drawn HB.out _⟩
theorem two_lt {x y k : Nat} (hx : x < 18446744073709551616) (hy : y < 18446744073709551616) : MM.two x y k < 18446744073709551616 := by
  match k with
  | 0 => exact hx
  | _ + 1 => exact hy
theorem row_two {W : World} {b : Nat} {t : TypeId} (x y : Nat) (h : W.heap[b]? = some (.cells #[.int .u64 (x : Int), .int .u64 (y : Int)] t (0, 0))) : Row W ⟨b, 0, none⟩ 2 (MM.two x y) :=
  Row.of_block h fun k hk => by
    match k, hk with
    | 0, _ => rfl
    | 1, _ => rfl
    | k + 2, h => exact absurd h (by omega)
/-- A product of two numbers that were put into a row of their own. -/
theorem times_two (p : Pm) (x y r : Nat) (hx : x < 18446744073709551616) (hy : y < 18446744073709551616) (hr : MM.times2U x y p.P = r) (W : World) (b : Nat) (h : W.heap[b]? = some (.cells #[.int .u64 (x : Int), .int .u64 (y : Int)] 23 (0, 0))) :
    Calls Try.prog 29 #[.agg p.cells, .slice (some ⟨b, 0, none⟩) 2 2] W fun e w' => e = .returned (.int .u64 (r : Int)) ∧ Below W.heap.size W w' := by
  rw [← hr]
  exact times_any p ⟨b, 0, none⟩ 2 2 (MM.two x y) (fun k _ => two_lt hx hy) (by omega) W (row_two x y h)

/-- Whether a number is of the group. -/
def isB (p : Pm) (x : Nat) : Bool := decide (0 < x) && decide (x < p.P) && (MM.powU x p.Q p.P == 1)
theorem isB_true {p : Pm} {x : Nat} (h0 : 0 < x) (h1 : x < p.P) (h2 : MM.powU x p.Q p.P = 1) : isB p x = true := by simp [isB, h0, h1, h2]
theorem isB_zero {p : Pm} {x : Nat} (h0 : ¬ 0 < x) : isB p x = false := by simp [isB, h0]
theorem isB_big {p : Pm} {x : Nat} (h0 : ¬ x < p.P) : isB p x = false := by simp [isB, h0]
theorem isB_no {p : Pm} {x : Nat} (h0 : ¬ MM.powU x p.Q p.P = 1) : isB p x = false := by simp [isB, h0]
set_option maxHeartbeats 1000000 in
theorem is_any (p : Pm) (x : Nat) (hx : x < 18446744073709551616) (hq : p.Q < 18446744073709551616) : RetB 32 #[.agg p.cells, .int .u64 (x : Int)] (.bool (isB p x)) := by
  intro w
  have HB0 : Hid (In1 w w.heap.size p (w.alloc (.cells p.cells 25))) := Lib.hid (In1.new w p)
  have HP := power_any p x p.Q hx hq
  clear hx hq
  obtain ⟨y, hy⟩ : ∃ y, MM.powU x p.Q p.P = y := ⟨_, rfl⟩
  rw [hy] at HP
  have HY := Lib.hid hy
  clear hy
  generalize hg : w.heap.size = g at HB0
  have HE := Lib.hid hg
  clear hg
  by_cases h0 : 0 < x
  · by_cases h1 : x < p.P
    · by_cases h2 : y = 1
      · subst h2
        have HT := Lib.hid (isB_true h0 h1 HY.out)
        rw [HT.out]
        go_enter Try.func32, Try.ntmps32
        go_upto_region 1 with fail
        rw [HE.out]
        generalize w.alloc (.cells p.cells 25) = w1 at *
        have HB := HB0; clear HB0
        have q0 := HB.out.box.cell 0
        have q1 := HB.out.box.cell 1
        go_wp2_with (first | (refine wpList_row_if ?_ 25 _ rfl g rfl 25 p.cells (0, 0) _ HB.out.box Try.underlying25 rfl (by kernel_rfl) ?_; first | rfl | (simp [Region.wanted, yielded]; done)) | (go_at_call 31; (with_reducible refine (HP.at _).mono ?_); rintro e w1 ⟨rfl, hb⟩; replace HB := Lib.hid (HB.out.step hb); clear hb))
        go_ret
        exact ⟨rfl, HE.out ▸ HB.out.below⟩
      · have hy2 : ((y : Int) == 1) = false := by simp; omega
        have HT := Lib.hid (isB_no (p := p) (x := x) (by rw [HY.out]; exact h2))
        clear h2
        rw [HT.out]
        go_enter Try.func32, Try.ntmps32
        go_upto_region 1 with fail
        rw [HE.out]
        generalize w.alloc (.cells p.cells 25) = w1 at *
        have HB := HB0; clear HB0
        have q0 := HB.out.box.cell 0
        have q1 := HB.out.box.cell 1
        go_wp2_with (first | (refine wpList_row_if ?_ 25 _ rfl g rfl 25 p.cells (0, 0) _ HB.out.box Try.underlying25 rfl (by kernel_rfl) ?_; first | rfl | (simp [Region.wanted, yielded]; done)) | (go_at_call 31; (with_reducible refine (HP.at _).mono ?_); rintro e w1 ⟨rfl, hb⟩; replace HB := Lib.hid (HB.out.step hb); clear hb))
        go_ret
        exact ⟨rfl, HE.out ▸ HB.out.below⟩
    · have HT := Lib.hid (isB_big h1)
      rw [HT.out]
      go_enter Try.func32, Try.ntmps32
      go_upto_region 1 with fail
      rw [HE.out]
      generalize w.alloc (.cells p.cells 25) = w1 at *
      have HB := HB0; clear HB0
      have q0 := HB.out.box.cell 0
      have q1 := HB.out.box.cell 1
      go_wp2_with (first | (refine wpList_row_if ?_ 25 _ rfl g rfl 25 p.cells (0, 0) _ HB.out.box Try.underlying25 rfl (by kernel_rfl) ?_; first | rfl | (simp [Region.wanted, yielded]; done)) | (go_at_call 31; (with_reducible refine (HP.at _).mono ?_); rintro e w1 ⟨rfl, hb⟩; replace HB := Lib.hid (HB.out.step hb); clear hb))
      go_ret
      exact ⟨rfl, HE.out ▸ HB.out.below⟩
  · have HT := Lib.hid (isB_zero (p := p) h0)
    rw [HT.out]
    go_enter Try.func32, Try.ntmps32
    go_upto_region 1 with fail
    rw [HE.out]
    generalize w.alloc (.cells p.cells 25) = w1 at *
    have HB := HB0; clear HB0
    have q0 := HB.out.box.cell 0
    have q1 := HB.out.box.cell 1
    go_wp2_with (first | (refine wpList_row_if ?_ 25 _ rfl g rfl 25 p.cells (0, 0) _ HB.out.box Try.underlying25 rfl (by kernel_rfl) ?_; first | rfl | (simp [Region.wanted, yielded]; done)) | (go_at_call 31; (with_reducible refine (HP.at _).mono ?_); rintro e w1 ⟨rfl, hb⟩; replace HB := Lib.hid (HB.out.step hb); clear hb))
    go_ret
    exact ⟨rfl, HE.out ▸ HB.out.below⟩
end M
end Go.Proofs.Ytlnlepadninnaaa
/- The walks of group.Commit and group.At: what each answers. -/
namespace Go.Proofs.Ytlnlepadninnaaa
open Go Go.RowKit Go.Lib
namespace M
/-- Rows that lie as they were laid; nothing old has changed. -/
structure Inr (w0 : World) (rows : List (Nat × Array Value × TypeId)) (w : World) : Prop where
  rows : ∀ r ∈ rows, w.heap[r.1]? = some (.cells r.2.1 r.2.2 (0, 0))
  below : Below w0.heap.size w0 w
theorem Inr.new (w : World) : Inr w [] w := ⟨fun _ h => by simp at h, Below.refl _ _⟩
theorem Inr.step {w0 w w' : World} {rows : List (Nat × Array Value × TypeId)} (h : Inr w0 rows w) (hb : Below w.heap.size w w') : Inr w0 rows w' :=
  ⟨fun r hr => (hb.block _ (row_lt (h.rows r hr))).trans (h.rows r hr), h.below.trans (hb.mono h.below.size)⟩
theorem Inr.drew {w0 w : World} {rows : List (Nat × Array Value × TypeId)} (h : Inr w0 rows w) : Inr w0 rows w.drew := ⟨h.rows, h.below.drew⟩
theorem Inr.alloc {w0 w : World} {rows : List (Nat × Array Value × TypeId)} (h : Inr w0 rows w) (o : Obj) : Inr w0 rows (w.alloc o) := h.step ((Below.refl _ _).alloc (Nat.le_refl _) _)
theorem Inr.drewN {w0 w : World} {rows : List (Nat × Array Value × TypeId)} (h : Inr w0 rows w) (n : Nat) : Inr w0 rows (w.drewN n) := ⟨h.rows, h.below.trans (below_drewN' w n _)⟩
theorem Inr.add {w0 w : World} {rows : List (Nat × Array Value × TypeId)} (h : Inr w0 rows w) (b : Nat) (cs : Array Value) (t : TypeId) (hb : w.heap[b]? = some (.cells cs t (0, 0))) : Inr w0 ((b, cs, t) :: rows) w :=
  ⟨fun r hr => by rcases List.mem_cons.1 hr with e | hr; · subst e; exact hb
                  · exact h.rows r hr, h.below⟩
theorem Inr.put {w0 w : World} {rows : List (Nat × Array Value × TypeId)} (h : Inr w0 rows w) (cs : Array Value) (t : TypeId) : Inr w0 ((w.heap.size, cs, t) :: rows) (w.alloc (.cells cs t)) := (h.alloc _).add _ _ _ (heap_alloc_new _ _)
theorem Inr.cell {w0 w : World} {rows : List (Nat × Array Value × TypeId)} (h : Inr w0 rows w) {b : Nat} {cs : Array Value} {t : TypeId} (hm : (b, cs, t) ∈ rows) (j : Nat) : w.cell? ⟨b, j, none⟩ = cs[j]? := cell_of_row w b j _ _ _ (h.rows _ hm)
attribute [local go_sem] setCell_drewN alloc_drewN

set_option maxHeartbeats 4000000 in
set_option maxRecDepth 100000 in
theorem commit_core (p : Pm) (s b x y r : Nat)
    (H1 : RetB 31 #[.agg p.cells, .int .u64 (p.G : Int), .int .u64 (s : Int)] (.int .u64 (x : Int)))
    (H2 : RetB 31 #[.agg p.cells, .int .u64 (p.H : Int), .int .u64 (b : Int)] (.int .u64 (y : Int)))
    (HT : ∀ (W : World) (b : Nat), W.heap[b]? = some (.cells #[.int .u64 (x : Int), .int .u64 (y : Int)] 23 (0, 0)) → Calls Try.prog 29 #[.agg p.cells, .slice (some ⟨b, 0, none⟩) 2 2] W fun e w' => e = .returned (.int .u64 (r : Int)) ∧ Below W.heap.size W w') :
    RetB 27 #[.agg p.cells, .agg (pair s b)] (.int .u64 (r : Int)) := by
  intro w
  have HI1 : Hid (Inr w [(w.heap.size + 1, pair s b, 41), (w.heap.size, p.cells, 25)] ((w.alloc (.cells p.cells 25)).alloc (.cells (pair s b) 41))) := Lib.hid (((Inr.new w).put p.cells 25).put (pair s b) 41 |> fun h => by simpa using h)
  go_enter Try.func27, Try.ntmps27
  go_upto_region 1 with fail
  generalize hg1 : w.heap.size + 1 = g1 at *
  generalize hg0 : w.heap.size = g0 at HI1
  generalize (w.alloc (.cells p.cells 25)).alloc (.cells (pair s b) 41) = w1 at *
  have HJ := HI1.out
  clear HI1 hg0 hg1
  have kS1 : ∀ {w' : World}, Inr w [(g1, pair s b, 41), (g0, p.cells, 25)] w' → Inr w [(g1, pair s b, 41), (g0, p.cells, 25)] w' ∧ w'.cell? ⟨g1, 0, none⟩ = some (.int .u64 (s : Int)) ∧ w'.cell? ⟨g1, 1, none⟩ = some (.int .u64 (b : Int)) ∧ w'.cell? ⟨g0, 0, none⟩ = some (.int .u64 (p.P : Int)) ∧ w'.cell? ⟨g0, 1, none⟩ = some (.int .u64 (p.Q : Int)) ∧ w'.cell? ⟨g0, 2, none⟩ = some (.int .u64 (p.G : Int)) ∧ w'.cell? ⟨g0, 3, none⟩ = some (.int .u64 (p.H : Int)) ∧ w'.cell? ⟨g0, 4, none⟩ = some (.int .i64 p.Nodes) ∧ w'.cell? ⟨g0, 5, none⟩ = some (.int .i64 p.N) ∧ w'.cell? ⟨g0, 6, none⟩ = some (.int .i64 p.T) ∧ w'.cell? ⟨g0, 7, none⟩ = some (.int .i64 p.K) ∧ w'.cell? ⟨g0, 8, none⟩ = some (.int .i64 p.D) ∧ w'.cell? ⟨g0, 9, none⟩ = some (.int .i64 p.R) ∧ w'.cell? ⟨g0, 10, none⟩ = some (.int .i64 p.M) ∧ w'.cell? ⟨g0, 11, none⟩ = some (.int .i64 p.X) := fun h => ⟨h, h.cell (b := g1) (cs := pair s b) (t := 41) (by simp) 0, h.cell (b := g1) (cs := pair s b) (t := 41) (by simp) 1, h.cell (b := g0) (cs := p.cells) (t := 25) (by simp) 0, h.cell (b := g0) (cs := p.cells) (t := 25) (by simp) 1, h.cell (b := g0) (cs := p.cells) (t := 25) (by simp) 2, h.cell (b := g0) (cs := p.cells) (t := 25) (by simp) 3, h.cell (b := g0) (cs := p.cells) (t := 25) (by simp) 4, h.cell (b := g0) (cs := p.cells) (t := 25) (by simp) 5, h.cell (b := g0) (cs := p.cells) (t := 25) (by simp) 6, h.cell (b := g0) (cs := p.cells) (t := 25) (by simp) 7, h.cell (b := g0) (cs := p.cells) (t := 25) (by simp) 8, h.cell (b := g0) (cs := p.cells) (t := 25) (by simp) 9, h.cell (b := g0) (cs := p.cells) (t := 25) (by simp) 10, h.cell (b := g0) (cs := p.cells) (t := 25) (by simp) 11⟩
  obtain ⟨_, y0, y1, y2, y3, y4, y5, y6, y7, y8, y9, y10, y11, y12, y13⟩ := kS1 HJ
  go_region_held3 (fun w' => Inr w [(g1, pair s b, 41), (g0, p.cells, 25)] w' ∧ w'.cell? ⟨g1, 0, none⟩ = some (.int .u64 (s : Int)) ∧ w'.cell? ⟨g1, 1, none⟩ = some (.int .u64 (b : Int)) ∧ w'.cell? ⟨g0, 0, none⟩ = some (.int .u64 (p.P : Int)) ∧ w'.cell? ⟨g0, 1, none⟩ = some (.int .u64 (p.Q : Int)) ∧ w'.cell? ⟨g0, 2, none⟩ = some (.int .u64 (p.G : Int)) ∧ w'.cell? ⟨g0, 3, none⟩ = some (.int .u64 (p.H : Int)) ∧ w'.cell? ⟨g0, 4, none⟩ = some (.int .i64 p.Nodes) ∧ w'.cell? ⟨g0, 5, none⟩ = some (.int .i64 p.N) ∧ w'.cell? ⟨g0, 6, none⟩ = some (.int .i64 p.T) ∧ w'.cell? ⟨g0, 7, none⟩ = some (.int .i64 p.K) ∧ w'.cell? ⟨g0, 8, none⟩ = some (.int .i64 p.D) ∧ w'.cell? ⟨g0, 9, none⟩ = some (.int .i64 p.R) ∧ w'.cell? ⟨g0, 10, none⟩ = some (.int .i64 p.M) ∧ w'.cell? ⟨g0, 11, none⟩ = some (.int .i64 p.X)) (first | exact kS1 HJ | exact kS1 (Inr.drew HJ) | exact kS1 (Inr.drewN HJ _) | exact kS1 (Inr.alloc HJ _) | exact kS1 (Inr.alloc (Inr.drew HJ) _) | exact kS1 (Inr.alloc (Inr.drewN HJ _) _) | exact kS1 (Inr.drew (Inr.alloc HJ _)) | exact kS1 (Inr.drewN (Inr.alloc HJ _) _))
    (first | (go_at_call 31; (first | (with_reducible refine (H1.at _).mono ?_) | (with_reducible refine (H2.at _).mono ?_)); rintro e w1 ⟨rfl, hb⟩; (first | (have HJ := Inr.step HJ hb) | (have HJ := Inr.step (Inr.drew HJ) hb) | (have HJ := Inr.step (Inr.drewN HJ _) hb) | (have HJ := Inr.step (Inr.alloc HJ _) hb) | (have HJ := Inr.step (Inr.alloc (Inr.drew HJ) _) hb) | (have HJ := Inr.step (Inr.alloc (Inr.drewN HJ _) _) hb) | (have HJ := Inr.step (Inr.drew (Inr.alloc HJ _)) hb) | (have HJ := Inr.step (Inr.drewN (Inr.alloc HJ _) _) hb)); clear hb) | (go_at_call 29; (refine (HT _ _ (heap_alloc_new _ _)).mono ?_); rintro e w1 ⟨rfl, hb⟩; (first | (have HJ := Inr.step HJ hb) | (have HJ := Inr.step (Inr.drew HJ) hb) | (have HJ := Inr.step (Inr.drewN HJ _) hb) | (have HJ := Inr.step (Inr.alloc HJ _) hb) | (have HJ := Inr.step (Inr.alloc (Inr.drew HJ) _) hb) | (have HJ := Inr.step (Inr.alloc (Inr.drewN HJ _) _) hb) | (have HJ := Inr.step (Inr.drew (Inr.alloc HJ _)) hb) | (have HJ := Inr.step (Inr.drewN (Inr.alloc HJ _) _) hb)); clear hb))
  go_wp2_with fail
  go_ret
  exact ⟨rfl, HJ.below⟩
theorem commit_any (p : Pm) (s b : Nat) (hs : s < 18446744073709551616) (hb : b < 18446744073709551616) (hG : p.G < 18446744073709551616) (hH : p.H < 18446744073709551616) :
    RetB 27 #[.agg p.cells, .agg (pair s b)] (.int .u64 ((MM.comU p.P p.G p.H s b : Nat) : Int)) :=
  commit_core p s b _ _ _ (power_any p p.G s hG hs) (power_any p p.H b hH hb) (times_two p _ _ _ (MM.powU_lt _ _ _) (MM.powU_lt _ _ _) rfl)

set_option maxHeartbeats 4000000 in
set_option maxRecDepth 100000 in
/-- One round of At: the product so far times the number to its power. -/
theorem at_core (p : Pm) (a : Addr) (n cap i : Nat) (z u f : Nat → Nat) (hn : n ≤ 9223372036854775807) (W : World) (hc : Row W a n z)
    (H0 : RetB 29 #[.agg p.cells, .slice none 0 0] (.int .u64 ((f 0 : Nat) : Int)))
    (H1 : ∀ k, k < n → Ret 30 #[.int .u64 (i : Int), .int .u64 (k : Int), .int .u64 (p.Q : Int)] (.int .u64 ((u k : Nat) : Int)))
    (H2 : ∀ k, k < n → ∃ y : Nat, RetB 31 #[.agg p.cells, .int .u64 ((z k : Nat) : Int), .int .u64 ((u k : Nat) : Int)] (.int .u64 (y : Int)) ∧
      ∀ (W : World) (b : Nat), W.heap[b]? = some (.cells #[.int .u64 ((f k : Nat) : Int), .int .u64 (y : Int)] 23 (0, 0)) → Calls Try.prog 29 #[.agg p.cells, .slice (some ⟨b, 0, none⟩) 2 2] W fun e w' => e = .returned (.int .u64 ((f (k + 1) : Nat) : Int)) ∧ Below W.heap.size W w') :
    Calls Try.prog 25 #[.agg p.cells, .slice (some a) n cap, .int .u64 (i : Int)] W fun e w' => e = .returned (.int .u64 ((f n : Nat) : Int)) ∧ Below W.heap.size W w' := by
  have HI1 : Hid (Inr W [(W.heap.size, p.cells, 25)] (W.alloc (.cells p.cells 25))) := Lib.hid ((Inr.new W).put p.cells 25)
  have HR := Lib.hid hc
  have HH1 := Lib.hid H1
  have HH2 := Lib.hid H2
  clear hc H1 H2
  go_enter Try.func25, Try.ntmps25
  go_upto_region 1 with fail
  generalize hg0 : W.heap.size = g0 at HI1 ⊢
  have HE := Lib.hid hg0
  clear hg0
  generalize W.alloc (.cells p.cells 25) = w1 at *
  go_wp2_with (first | (refine wpList_row_if ?_ 25 _ rfl g0 rfl 25 p.cells (0, 0) _ (HI1.out.rows (g0, p.cells, 25) (by simp)) Try.underlying25 rfl (by kernel_rfl) ?_; first | rfl | (simp [Region.wanted, yielded]; done)) | (go_at_call 29; (with_reducible refine (H0.at _).mono ?_); rintro e w1 ⟨rfl, hb⟩; replace HI1 := Lib.hid (HI1.out.step hb); clear hb))
  go_loopw [7, 14] (fun s7 s14 wx => ∃ k : Nat, k ≤ n ∧ s14 = .int .i64 (k : Int) ∧ s7 = .int .u64 ((f k : Nat) : Int) ∧ Hid (Inr W [(g0, p.cells, 25)] wx)) (fun _ s14 _ => n - (RowKit.intOf s14).toNat)
  case atStart => exact ⟨0, Nat.zero_le _, rfl, rfl, HI1⟩
  case round =>
    obtain ⟨k, hk, rfl, rfl, HJ0⟩ := hrel
    rename_i wr
    by_cases hlt : k < n
    · obtain ⟨y, H2, HT⟩ := HH2.out k hlt
      have H1 := HH1.out k hlt
      clear HI1 HH1 HH2
      have hcell : wr.cell? (a.add k) = some (.int .u64 ((z k : Nat) : Int)) := (HR.out.below HJ0.out.below) k hlt
      have HJ := HJ0.out
      go_upto_region 5 with fail
      clear hcell
      have hwk : IntKind.u64.wrap (k : Int) = (k : Int) := wrapN _ (by omega)
      have kS2 : ∀ {w' : World}, Inr W [(g0, p.cells, 25)] w' → Inr W [(g0, p.cells, 25)] w' ∧ w'.cell? ⟨g0, 0, none⟩ = some (.int .u64 (p.P : Int)) ∧ w'.cell? ⟨g0, 1, none⟩ = some (.int .u64 (p.Q : Int)) ∧ w'.cell? ⟨g0, 2, none⟩ = some (.int .u64 (p.G : Int)) ∧ w'.cell? ⟨g0, 3, none⟩ = some (.int .u64 (p.H : Int)) ∧ w'.cell? ⟨g0, 4, none⟩ = some (.int .i64 p.Nodes) ∧ w'.cell? ⟨g0, 5, none⟩ = some (.int .i64 p.N) ∧ w'.cell? ⟨g0, 6, none⟩ = some (.int .i64 p.T) ∧ w'.cell? ⟨g0, 7, none⟩ = some (.int .i64 p.K) ∧ w'.cell? ⟨g0, 8, none⟩ = some (.int .i64 p.D) ∧ w'.cell? ⟨g0, 9, none⟩ = some (.int .i64 p.R) ∧ w'.cell? ⟨g0, 10, none⟩ = some (.int .i64 p.M) ∧ w'.cell? ⟨g0, 11, none⟩ = some (.int .i64 p.X) := fun h => ⟨h, h.cell (b := g0) (cs := p.cells) (t := 25) (by simp) 0, h.cell (b := g0) (cs := p.cells) (t := 25) (by simp) 1, h.cell (b := g0) (cs := p.cells) (t := 25) (by simp) 2, h.cell (b := g0) (cs := p.cells) (t := 25) (by simp) 3, h.cell (b := g0) (cs := p.cells) (t := 25) (by simp) 4, h.cell (b := g0) (cs := p.cells) (t := 25) (by simp) 5, h.cell (b := g0) (cs := p.cells) (t := 25) (by simp) 6, h.cell (b := g0) (cs := p.cells) (t := 25) (by simp) 7, h.cell (b := g0) (cs := p.cells) (t := 25) (by simp) 8, h.cell (b := g0) (cs := p.cells) (t := 25) (by simp) 9, h.cell (b := g0) (cs := p.cells) (t := 25) (by simp) 10, h.cell (b := g0) (cs := p.cells) (t := 25) (by simp) 11⟩
      obtain ⟨_, y0, y1, y2, y3, y4, y5, y6, y7, y8, y9, y10, y11⟩ := kS2 HJ
      go_region_held3 (fun w' => Inr W [(g0, p.cells, 25)] w' ∧ w'.cell? ⟨g0, 0, none⟩ = some (.int .u64 (p.P : Int)) ∧ w'.cell? ⟨g0, 1, none⟩ = some (.int .u64 (p.Q : Int)) ∧ w'.cell? ⟨g0, 2, none⟩ = some (.int .u64 (p.G : Int)) ∧ w'.cell? ⟨g0, 3, none⟩ = some (.int .u64 (p.H : Int)) ∧ w'.cell? ⟨g0, 4, none⟩ = some (.int .i64 p.Nodes) ∧ w'.cell? ⟨g0, 5, none⟩ = some (.int .i64 p.N) ∧ w'.cell? ⟨g0, 6, none⟩ = some (.int .i64 p.T) ∧ w'.cell? ⟨g0, 7, none⟩ = some (.int .i64 p.K) ∧ w'.cell? ⟨g0, 8, none⟩ = some (.int .i64 p.D) ∧ w'.cell? ⟨g0, 9, none⟩ = some (.int .i64 p.R) ∧ w'.cell? ⟨g0, 10, none⟩ = some (.int .i64 p.M) ∧ w'.cell? ⟨g0, 11, none⟩ = some (.int .i64 p.X)) (first | exact kS2 HJ | exact kS2 (Inr.drew HJ) | exact kS2 (Inr.drewN HJ _) | exact kS2 (Inr.alloc HJ _) | exact kS2 (Inr.alloc (Inr.drew HJ) _) | exact kS2 (Inr.alloc (Inr.drewN HJ _) _) | exact kS2 (Inr.drew (Inr.alloc HJ _)) | exact kS2 (Inr.drewN (Inr.alloc HJ _) _))
        (first | (go_at_call 30; (with_reducible refine (H1.at _).mono ?_); rintro e w1 ⟨rfl, nd, rfl⟩) | (go_at_call 31; (with_reducible refine (H2.at _).mono ?_); rintro e w1 ⟨rfl, hb⟩; (first | (have HJ := Inr.step HJ hb) | (have HJ := Inr.step (Inr.drew HJ) hb) | (have HJ := Inr.step (Inr.drewN HJ _) hb) | (have HJ := Inr.step (Inr.alloc HJ _) hb) | (have HJ := Inr.step (Inr.alloc (Inr.drew HJ) _) hb) | (have HJ := Inr.step (Inr.alloc (Inr.drewN HJ _) _) hb) | (have HJ := Inr.step (Inr.drew (Inr.alloc HJ _)) hb) | (have HJ := Inr.step (Inr.drewN (Inr.alloc HJ _) _) hb)); clear hb) | (go_at_call 29; (refine (HT _ _ (heap_alloc_new _ _)).mono ?_); rintro e w1 ⟨rfl, hb⟩; (first | (have HJ := Inr.step HJ hb) | (have HJ := Inr.step (Inr.drew HJ) hb) | (have HJ := Inr.step (Inr.drewN HJ _) hb) | (have HJ := Inr.step (Inr.alloc HJ _) hb) | (have HJ := Inr.step (Inr.alloc (Inr.drew HJ) _) hb) | (have HJ := Inr.step (Inr.alloc (Inr.drewN HJ _) _) hb) | (have HJ := Inr.step (Inr.drew (Inr.alloc HJ _)) hb) | (have HJ := Inr.step (Inr.drewN (Inr.alloc HJ _) _) hb)); clear hb))
      clear hwk kS2
      go_wp2_with fail
      go_roundw
      case rel => exact ⟨k + 1, by omega, by go_num, rfl, HJ⟩
      case measure => simp [RowKit.intOf]; omega
    · obtain rfl : k = n := by omega
      go_wp2_with fail
      go_ret
      exact ⟨rfl, by first | exact HJ0.out.below | (rw [HE.out]; exact HJ0.out.below) | exact HE.out ▸ HJ0.out.below⟩

theorem gat_any (p : Pm) (a : Addr) (n cap i : Nat) (z : Nat → Nat) (hz : ∀ k, k < n → z k < 18446744073709551616) (hi : i < 18446744073709551616) (hn : n ≤ 9223372036854775807) (W : World) (hc : Row W a n z) :
    Calls Try.prog 25 #[.agg p.cells, .slice (some a) n cap, .int .u64 (i : Int)] W fun e w' => e = .returned (.int .u64 ((MM.atN p.P p.Q i z n : Nat) : Int)) ∧ Below W.heap.size W w' :=
  at_core p a n cap i z (fun k => MM.powU i k p.Q) (MM.atN p.P p.Q i z) hn W hc (times_nil p) (fun k hk => ret_powU i k p.Q hi (by omega))
    (fun k hk => ⟨_, power_any p (z k) (MM.powU i k p.Q) (hz k hk) (MM.powU_lt _ _ _), times_two p _ _ _ (MM.atN_lt _ _ _ _ _) (MM.powU_lt _ _ _) rfl⟩)
set_option maxHeartbeats 400000 in
theorem at_nil (p : Pm) (i : Nat) : RetB 25 #[.agg p.cells, .slice none 0 0, .int .u64 (i : Int)] (.int .u64 ((MM.addU 0 1 p.P : Nat) : Int)) := by
  intro w
  have HI : Hid (In1 w w.heap.size p (w.alloc (.cells p.cells 25))) := Lib.hid (In1.new w p)
  have H0 := times_nil p
  generalize hg : w.heap.size = g at HI
  have HE := Lib.hid hg
  clear hg
  go_enter Try.func25, Try.ntmps25
  go_upto_region 1 with fail
  rw [HE.out]
  generalize w.alloc (.cells p.cells 25) = w1 at *
  go_wp2_with (first | (refine wpList_row_if ?_ 25 _ rfl g rfl 25 p.cells (0, 0) _ HI.out.box Try.underlying25 rfl (by kernel_rfl) ?_; first | rfl | (simp [Region.wanted, yielded]; done)) | (go_at_call 29; (with_reducible refine (H0.at _).mono ?_); rintro e w1 ⟨rfl, hb⟩; replace HI := Lib.hid (HI.out.step hb); clear hb))
  refine wp_loop_rounds 1 ?_
  rw [rounds_succ]
  go_wp2_with fail
  go_ret
  exact ⟨rfl, HE.out ▸ HI.out.below⟩

end M
end Go.Proofs.Ytlnlepadninnaaa
/- Plain facts: a polynomial's value reckoned from the last coefficient on, and from the first one on, are the same. -/
namespace Go.Proofs.Ytlnlepadninnaaa
namespace MM
theorem hornL_bad {z : Nat → Nat} {x q : Nat} (hq : ¬ Good q) (l : List Nat) : hornL z x q l = 0 := by
  rcases List.eq_nil_or_concat l with rfl | ⟨l', i, rfl⟩
  · rfl
  · rw [List.concat_eq_append, hornL_snoc]; unfold addU; rw [if_neg hq]
theorem evalU_bad {z : Nat → Nat} {x q : Nat} (hq : ¬ Good q) : ∀ n, evalU z x q n = 0
  | 0 => rfl
  | n + 1 => by unfold evalU addU; rw [if_neg hq]
theorem add_mul_mod (a b c q : Nat) : (a + b % q * c) % q = (a + b * c) % q := by rw [Nat.add_mod, mul_mod_left', ← Nat.add_mod]
theorem horn_part {z : Nat → Nat} {x q n : Nat} (hq : Good q) : ∀ j m, m + j = n → (evalU z x q m + hornL z x q (M.down n m) * x ^ m) % q = evalU z x q n % q
  | 0, m, h => by
    obtain rfl : m = n := by omega
    rw [M.down_self]; simp [hornL]
  | j + 1, m, h => by
    have ih := horn_part (z := z) (x := x) (n := n) hq j (m + 1) (by omega)
    have hd := M.down_succ (n := n) (m := m) (by omega)
    rw [← ih, hd, hornL_snoc, evalU, addU_of hq, mulU_of hq, addU_of hq, mulU_of hq, powU_of hq]
    generalize hornL z x q (M.down n (m + 1)) = H
    generalize evalU z x q m = E
    have e1 : (E + (H * x % q + z m) % q * x ^ m) % q = (E + z m * x ^ m + H * x * x ^ m) % q := by
      rw [add_mul_mod, Nat.add_mul, show E + (H * x % q * x ^ m + z m * x ^ m) = E + z m * x ^ m + H * x % q * x ^ m by omega, add_mul_mod]
    have e2 : ((E + z m * (x ^ m % q) % q) % q + H * x ^ (m + 1)) % q = (E + z m * x ^ m + H * x ^ (m + 1)) % q := by
      rw [Nat.mod_add_mod, show E + z m * (x ^ m % q) % q + H * x ^ (m + 1) = E + H * x ^ (m + 1) + z m * (x ^ m % q) % q by omega, Nat.add_mod_mod, Nat.mul_comm (z m), add_mul_mod,
        show E + H * x ^ (m + 1) + x ^ m * z m = E + x ^ m * z m + H * x ^ (m + 1) by omega, Nat.mul_comm (x ^ m)]
    rw [e1, e2, Nat.pow_succ, Nat.mul_assoc H x, Nat.mul_comm x]
theorem evalU_mod {z : Nat → Nat} {x q : Nat} (hq : Good q) : ∀ n, evalU z x q n % q = evalU z x q n
  | 0 => Nat.zero_mod _
  | n + 1 => by unfold evalU; rw [addU_of hq, Nat.mod_mod]
theorem hornL_mod {z : Nat → Nat} {x q : Nat} (hq : Good q) (l : List Nat) : hornL z x q l % q = hornL z x q l := by
  rcases List.eq_nil_or_concat l with rfl | ⟨l', i, rfl⟩
  · exact Nat.zero_mod _
  · rw [List.concat_eq_append, hornL_snoc, addU_of hq, Nat.mod_mod]
theorem horn_eval (z : Nat → Nat) (x q n : Nat) : hornL z x q (M.down n 0) = evalU z x q n := by
  by_cases hq : Good q
  · have h := horn_part (z := z) (x := x) hq n 0 (Nat.zero_add n)
    rw [show evalU z x q 0 = 0 from rfl, Nat.zero_add, Nat.pow_zero, Nat.mul_one, hornL_mod hq, evalU_mod hq] at h
    exact h
  · rw [hornL_bad hq, evalU_bad hq]
end MM
end Go.Proofs.Ytlnlepadninnaaa

/- The walks of the document's own Times, Power, Commit, Is (consistoryref02): what each answers. -/
import Derived.Test.YtmeaiindbkkkiaaGrpW3
import Derived.Test.YtmeaiindbkkkiaaModR1
namespace Go.Proofs.Ytmeaiindbkkkiaa
open Go Go.RowKit Go.Lib
namespace M
attribute [local go_sem] setCell_drewN alloc_drewN
theorem rmulU (a b m : Nat) (hb : b < 18446744073709551616) : Ret 16 #[.int .u64 (a : Int), .int .u64 (b : Int), .int .u64 (m : Int)] (.int .u64 ((MM.mulU a b m : Nat) : Int)) := by
  unfold MM.mulU
  by_cases h : MM.Good m
  · rw [if_pos h]; exact rmul a b m _ h.1 h.2 hb rfl
  · rw [if_neg h]; exact rmul_no a b m (MM.good_not h) hb
set_option maxHeartbeats 400000 in
theorem rtimes_zero (p : Pm) (v : Value) (h : p.P = 0 ∨ 2305843009213693952 < p.P) : RetB 7 #[.agg p.cells, v] (.int .u64 0) := by
  intro w
  have HB := Lib.hid (In1.new w p)
  generalize hg : w.heap.size = g at HB
  have HE := Lib.hid hg
  clear hg
  rcases h with h | h
  · have e0 : ((p.P : Int) == 0) = true := by simp; omega
    go_enter Try.func7, Try.ntmps7
    go_upto_region 1 with fail
    rw [HE.out]
    generalize w.alloc (.cells p.cells 24) = w1 at *
    have q0 : w1.cell? ⟨g, 0, none⟩ = some (.int .u64 (p.P : Int)) := HB.out.box.cell 0
    clear h
    go_wp2_with fail
    go_ret
    exact ⟨rfl, HE.out ▸ HB.out.below⟩
  · have e0 : ((p.P : Int) == 0) = false := by simp; omega
    have e1 : decide ((2305843009213693952 : Int) < (p.P : Int)) = true := decide_eq_true (by omega)
    go_enter Try.func7, Try.ntmps7
    go_upto_region 1 with fail
    rw [HE.out]
    generalize w.alloc (.cells p.cells 24) = w1 at *
    have q0 : w1.cell? ⟨g, 0, none⟩ = some (.int .u64 (p.P : Int)) := HB.out.box.cell 0
    go_wp2_with fail
    go_ret
    exact ⟨rfl, HE.out ▸ HB.out.below⟩
set_option maxHeartbeats 1000000 in
theorem rtimes_good (p : Pm) (a : Addr) (n cap : Nat) (z f : Nat → Nat) (hn : n ≤ 9223372036854775807) (W : World) (hc : Row W a n z) (h0 : p.P ≠ 0) (h1 : p.P ≤ 2305843009213693952)
    (hf : (1 : Int) % (p.P : Int) = ((f 0 : Nat) : Int))
    (HM : ∀ k, k < n → Ret 16 #[.int .u64 ((f k : Nat) : Int), .int .u64 ((z k : Nat) : Int), .int .u64 (p.P : Int)] (.int .u64 ((f (k + 1) : Nat) : Int))) :
    Calls Try.prog 7 #[.agg p.cells, .slice (some a) n cap] W fun e w' => e = .returned (.int .u64 ((f n : Nat) : Int)) ∧ Below W.heap.size W w' := by
  have HB := Lib.hid (below_box W (.cells p.cells 24))
  have HR := Lib.hid (hc.below HB.out)
  have HX := Lib.hid (boxed W p)
  have HMM := Lib.hid HM
  have e0 : ((p.P : Int) == 0) = false := by simp; omega
  have e1 : decide ((2305843009213693952 : Int) < (p.P : Int)) = false := decide_eq_false (by omega)
  have h2 : (0 : Int) < (p.P : Int) := by omega
  have HF := Lib.hid hf
  clear hc HM hf
  go_enter Try.func7, Try.ntmps7
  go_upto_region 1 with fail
  generalize hg : W.heap.size = g at HB HX ⊢
  have HE := Lib.hid hg
  clear hg
  generalize W.alloc (.cells p.cells 24) = w1 at *
  have q0 : w1.cell? ⟨g, 0, none⟩ = some (.int .u64 (p.P : Int)) := HX.out.cell 0
  go_wp2_with fail
  clear e0 e1
  go_loopw [5, 6] (fun s5 s6 wx => ∃ k m : Nat, k ≤ n ∧ s6 = .int .i64 (k : Int) ∧ s5 = .int .u64 ((f k : Nat) : Int) ∧ wx = w1.drewN m) (fun _ s6 _ => n - (RowKit.intOf s6).toNat)
  case atStart => exact ⟨0, 0, Nat.zero_le _, rfl, congrArg (Value.int .u64) HF.out, rfl⟩
  case round =>
    obtain ⟨k, m, hk, rfl, rfl, rfl⟩ := hrel
    by_cases hlt : k < n
    · have hcell : w1.cell? (a.add k) = some (.int .u64 ((z k : Nat) : Int)) := HR.out k hlt
      have H1 := HMM.out k hlt
      go_upto_region 7 with fail
      generalize hwr : w1.drewN m = wr
      have hcell : wr.cell? (a.add k) = some (.int .u64 ((z k : Nat) : Int)) := by rw [← hwr]; exact hcell
      have q0 : wr.cell? ⟨g, 0, none⟩ = some (.int .u64 (p.P : Int)) := by rw [← hwr]; exact q0
      have HWR := Lib.hid hwr
      clear hwr
      go_quiet ((go_at_call 16; exact (H1).quiet))
      go_wp2_with fail
      go_roundw
      case rel => exact ⟨k + 1, _, by omega, by go_num, rfl, by rw [← HWR.out]; exact World.drewN_drewN _ _ _⟩
      case measure => simp [RowKit.intOf]; omega
    · obtain rfl : k = n := by omega
      go_wp2_with fail
      go_ret
      exact ⟨rfl, by first | exact Below.drawn HB.out _ | (rw [HE.out]; exact Below.drawn HB.out _)⟩
theorem rtimes_any (p : Pm) (a : Addr) (n cap : Nat) (z : Nat → Nat) (hz : ∀ k, k < n → z k < 18446744073709551616) (hn : n ≤ 9223372036854775807) (W : World) (hc : Row W a n z) :
    Calls Try.prog 7 #[.agg p.cells, .slice (some a) n cap] W fun e w' => e = .returned (.int .u64 ((MM.timesN p.P z n : Nat) : Int)) ∧ Below W.heap.size W w' := by
  by_cases h : MM.Good p.P
  · exact rtimes_good p a n cap z (MM.timesN p.P z) hn W hc (by have := h.1; omega) h.2 (by rw [MM.times0 h]; rfl) (fun k hk => rmulU _ _ _ (hz k hk))
  · rw [MM.timesN_bad h]; exact rtimes_zero p _ (MM.good_not h) W
set_option maxHeartbeats 400000 in
theorem rtimes_nil_good (p : Pm) (r : Nat) (h0 : p.P ≠ 0) (h1 : p.P ≤ 2305843009213693952) (hf : (1 : Int) % (p.P : Int) = (r : Int)) : RetB 7 #[.agg p.cells, .slice none 0 0] (.int .u64 (r : Int)) := by
  intro w
  have HB := Lib.hid (In1.new w p)
  generalize hg : w.heap.size = g at HB
  have HE := Lib.hid hg
  clear hg
  have e0 : ((p.P : Int) == 0) = false := by simp; omega
  have e1 : decide ((2305843009213693952 : Int) < (p.P : Int)) = false := decide_eq_false (by omega)
  have h2 : (0 : Int) < (p.P : Int) := by omega
  have HF := Lib.hid hf
  clear hf
  go_enter Try.func7, Try.ntmps7
  go_upto_region 1 with fail
  rw [HE.out]
  generalize w.alloc (.cells p.cells 24) = w1 at *
  have q0 : w1.cell? ⟨g, 0, none⟩ = some (.int .u64 (p.P : Int)) := HB.out.box.cell 0
  go_wp2_with fail
  refine wp_loop_rounds 1 ?_
  rw [rounds_succ]
  go_wp2_with fail
  go_ret
  exact ⟨congrArg (fun n => Ending.returned (Value.int .u64 n)) HF.out, HE.out ▸ HB.out.below⟩
theorem rtimes_nil (p : Pm) : RetB 7 #[.agg p.cells, .slice none 0 0] (.int .u64 ((MM.addU 0 1 p.P : Nat) : Int)) := by
  by_cases h : MM.Good p.P
  · exact rtimes_nil_good p _ (by have := h.1; omega) h.2 (by rw [MM.addU_of h]; rfl)
  · unfold MM.addU; rw [if_neg h]; exact rtimes_zero p _ (MM.good_not h)
theorem rtimes_two (p : Pm) (x y r : Nat) (hx : x < 18446744073709551616) (hy : y < 18446744073709551616) (hr : MM.times2U x y p.P = r) (W : World) (b : Nat) (h : W.heap[b]? = some (.cells #[.int .u64 (x : Int), .int .u64 (y : Int)] 22 (0, 0))) :
    Calls Try.prog 7 #[.agg p.cells, .slice (some ⟨b, 0, none⟩) 2 2] W fun e w' => e = .returned (.int .u64 (r : Int)) ∧ Below W.heap.size W w' := by
  rw [← hr]
  exact rtimes_any p ⟨b, 0, none⟩ 2 2 (MM.two x y) (fun k _ => two_lt hx hy) (by omega) W (row_two x y h)
theorem three_lt {x y v k : Nat} (hx : x < 18446744073709551616) (hy : y < 18446744073709551616) (hv : v < 18446744073709551616) : MM.three x y v k < 18446744073709551616 := by
  match k with
  | 0 => exact hx
  | 1 => exact hy
  | _ + 2 => exact hv
theorem rtimes_three (p : Pm) (x y v r : Nat) (hx : x < 18446744073709551616) (hy : y < 18446744073709551616) (hv : v < 18446744073709551616) (hr : MM.timesN p.P (MM.three x y v) 3 = r) (W : World) (b : Nat)
    (h : W.heap[b]? = some (.cells #[.int .u64 (x : Int), .int .u64 (y : Int), .int .u64 (v : Int)] 22 (0, 0))) :
    Calls Try.prog 7 #[.agg p.cells, .slice (some ⟨b, 0, none⟩) 3 3] W fun e w' => e = .returned (.int .u64 (r : Int)) ∧ Below W.heap.size W w' := by
  rw [← hr]
  exact rtimes_any p ⟨b, 0, none⟩ 3 3 (MM.three x y v) (fun k _ => three_lt hx hy hv) (by omega) W (Row.of_block h fun k hk => by
    match k, hk with
    | 0, _ => rfl
    | 1, _ => rfl
    | 2, _ => rfl
    | k + 3, h => exact absurd h (by omega))

set_option maxHeartbeats 1000000 in
/-- One step of the document's power: its half, and what comes of it. -/
theorem rpower_step (p : Pm) (x e e2 h r : Nat) (he : (e : Int) / 2 = (e2 : Int)) (hpos : e ≠ 0) (hlt : e < 18446744073709551616)
    (IH : RetB 9 #[.agg p.cells, .int .u64 (x : Int), .int .u64 (e2 : Int)] (.int .u64 (h : Int)))
    (H2 : e % 2 = 0 → ∀ (W : World) (b : Nat), W.heap[b]? = some (.cells #[.int .u64 (h : Int), .int .u64 (h : Int)] 22 (0, 0)) → Calls Try.prog 7 #[.agg p.cells, .slice (some ⟨b, 0, none⟩) 2 2] W fun e w' => e = .returned (.int .u64 (r : Int)) ∧ Below W.heap.size W w')
    (H3 : e % 2 = 1 → ∀ (W : World) (b : Nat), W.heap[b]? = some (.cells #[.int .u64 (h : Int), .int .u64 (h : Int), .int .u64 (x : Int)] 22 (0, 0)) → Calls Try.prog 7 #[.agg p.cells, .slice (some ⟨b, 0, none⟩) 3 3] W fun e w' => e = .returned (.int .u64 (r : Int)) ∧ Below W.heap.size W w') :
    RetB 9 #[.agg p.cells, .int .u64 (x : Int), .int .u64 (e : Int)] (.int .u64 (r : Int)) := by
  intro w
  have HB := Lib.hid (In1.new w p)
  generalize hg : w.heap.size = g at HB
  have HE := Lib.hid hg
  clear hg
  have e0 : ((e : Int) == 0) = false := by simp; omega
  have p0 : (0 : Int) ≤ (e : Int) := by omega
  rcases Nat.mod_two_eq_zero_or_one e with h2 | h2
  · have HT := Lib.hid (H2 h2)
    have e1 : ((e : Int) % 2 == 1) = false := by simp; omega
    clear H2 H3 h2 hpos
    go_enter Try.func9, Try.ntmps9
    go_upto_region 1 with fail
    rw [HE.out]
    generalize w.alloc (.cells p.cells 24) = w1 at *
    go_wp2_with (first | (refine wpList_row_if ?_ 24 _ rfl g rfl 24 p.cells (0, 0) _ HB.out.box Try.underlying24 rfl (by kernel_rfl) ?_; first | rfl | (simp [Region.wanted, yielded]; done)) | (go_at_call 9; (with_reducible refine (IH.at _).mono ?_); rintro e w1 ⟨rfl, hb⟩; replace HB := Lib.hid (HB.out.step hb); clear hb) | (go_at_call 7; (refine (HT.out _ _ (heap_alloc_new _ _)).mono ?_); rintro e w1 ⟨rfl, hb⟩; replace HB := Lib.hid ((HB.out.step (below_box _ _)).step hb); clear hb))
    go_ret
    exact ⟨rfl, HE.out ▸ HB.out.below⟩
  · have HT := Lib.hid (H3 h2)
    have e1 : ((e : Int) % 2 == 1) = true := by simp; omega
    clear H2 H3 h2 hpos
    go_enter Try.func9, Try.ntmps9
    go_upto_region 1 with fail
    rw [HE.out]
    generalize w.alloc (.cells p.cells 24) = w1 at *
    go_wp2_with (first | (refine wpList_row_if ?_ 24 _ rfl g rfl 24 p.cells (0, 0) _ HB.out.box Try.underlying24 rfl (by kernel_rfl) ?_; first | rfl | (simp [Region.wanted, yielded]; done)) | (go_at_call 9; (with_reducible refine (IH.at _).mono ?_); rintro e w1 ⟨rfl, hb⟩; replace HB := Lib.hid (HB.out.step hb); clear hb) | (go_at_call 7; (refine (HT.out _ _ (heap_alloc_new _ _)).mono ?_); rintro e w1 ⟨rfl, hb⟩; replace HB := Lib.hid ((HB.out.step (below_box _ _)).step hb); clear hb))
    go_ret
    exact ⟨rfl, HE.out ▸ HB.out.below⟩
set_option maxHeartbeats 400000 in
theorem rpower_zero (p : Pm) (x r : Nat) (HN : RetB 7 #[.agg p.cells, .slice none 0 0] (.int .u64 (r : Int))) : RetB 9 #[.agg p.cells, .int .u64 (x : Int), .int .u64 0] (.int .u64 (r : Int)) := by
  intro w
  have HB := Lib.hid (In1.new w p)
  generalize hg : w.heap.size = g at HB
  have HE := Lib.hid hg
  clear hg
  go_enter Try.func9, Try.ntmps9
  go_upto_region 1 with fail
  rw [HE.out]
  generalize w.alloc (.cells p.cells 24) = w1 at *
  go_wp2_with (first | (refine wpList_row_if ?_ 24 _ rfl g rfl 24 p.cells (0, 0) _ HB.out.box Try.underlying24 rfl (by kernel_rfl) ?_; first | rfl | (simp [Region.wanted, yielded]; done)) | (go_at_call 7; (with_reducible refine (HN.at _).mono ?_); rintro e w1 ⟨rfl, hb⟩; replace HB := Lib.hid (HB.out.step hb); clear hb))
  go_ret
  exact ⟨rfl, HE.out ▸ HB.out.below⟩
theorem rpower_any (p : Pm) (x : Nat) (hx : x < 18446744073709551616) : ∀ e : Nat, e < 18446744073709551616 → RetB 9 #[.agg p.cells, .int .u64 (x : Int), .int .u64 (e : Int)] (.int .u64 ((MM.powU x e p.P : Nat) : Int)) := by
  intro e
  induction e using Nat.strongRecOn with
  | _ e ih =>
    intro he
    by_cases h0 : e = 0
    · subst h0
      refine rpower_zero p x _ ?_
      rw [← MM.pow_zero x p.P (fun _ => 0)]
      exact rtimes_nil p
    · refine rpower_step p x e (e / 2) (MM.powU x (e / 2) p.P) _ (by omega) h0 he (ih (e / 2) (by omega) (by omega)) (fun h2 => ?_) (fun h2 => ?_)
      · exact rtimes_two p _ _ _ (MM.powU_lt _ _ _) (MM.powU_lt _ _ _) (MM.pow_even x e p.P h2)
      · exact rtimes_three p _ _ _ _ (MM.powU_lt _ _ _) (MM.powU_lt _ _ _) hx (MM.pow_odd x e p.P h2)

end M
end Go.Proofs.Ytmeaiindbkkkiaa

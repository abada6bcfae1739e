/- The walks of the document's own Commit, At, Is (consistoryref02): what each answers. -/
import Derived.Test.YtmeaiindbkkkiaaGrpR1
namespace Go.Proofs.Ytmeaiindbkkkiaa
open Go Go.RowKit Go.Lib
namespace M
attribute [local go_sem] setCell_drewN alloc_drewN

set_option maxHeartbeats 4000000 in
set_option maxRecDepth 100000 in
theorem rcommit_core (p : Pm) (s b x y r : Nat)
    (H1 : RetB 9 #[.agg p.cells, .int .u64 (p.G : Int), .int .u64 (s : Int)] (.int .u64 (x : Int)))
    (H2 : RetB 9 #[.agg p.cells, .int .u64 (p.H : Int), .int .u64 (b : Int)] (.int .u64 (y : Int)))
    (HT : ∀ (W : World) (b : Nat), W.heap[b]? = some (.cells #[.int .u64 (x : Int), .int .u64 (y : Int)] 22 (0, 0)) → Calls Try.prog 7 #[.agg p.cells, .slice (some ⟨b, 0, none⟩) 2 2] W fun e w' => e = .returned (.int .u64 (r : Int)) ∧ Below W.heap.size W w') :
    RetB 11 #[.agg p.cells, .agg (pair s b)] (.int .u64 (r : Int)) := by
  intro w
  have HI1 : Hid (Inr w [(w.heap.size + 1, pair s b, 27), (w.heap.size, p.cells, 24)] ((w.alloc (.cells p.cells 24)).alloc (.cells (pair s b) 27))) := Lib.hid (((Inr.new w).put p.cells 24).put (pair s b) 27 |> fun h => by simpa using h)
  go_enter Try.func11, Try.ntmps11
  go_upto_region 1 with fail
  generalize hg1 : w.heap.size + 1 = g1 at *
  generalize hg0 : w.heap.size = g0 at HI1
  generalize (w.alloc (.cells p.cells 24)).alloc (.cells (pair s b) 27) = w1 at *
  have HJ := HI1.out
  clear HI1 hg0 hg1
  have kS1 : ∀ {w' : World}, Inr w [(g1, pair s b, 27), (g0, p.cells, 24)] w' → Inr w [(g1, pair s b, 27), (g0, p.cells, 24)] w' ∧ w'.cell? ⟨g1, 0, none⟩ = some (.int .u64 (s : Int)) ∧ w'.cell? ⟨g1, 1, none⟩ = some (.int .u64 (b : Int)) ∧ w'.cell? ⟨g0, 0, none⟩ = some (.int .u64 (p.P : Int)) ∧ w'.cell? ⟨g0, 1, none⟩ = some (.int .u64 (p.Q : Int)) ∧ w'.cell? ⟨g0, 2, none⟩ = some (.int .u64 (p.G : Int)) ∧ w'.cell? ⟨g0, 3, none⟩ = some (.int .u64 (p.H : Int)) ∧ w'.cell? ⟨g0, 4, none⟩ = some (.int .i64 p.Nodes) ∧ w'.cell? ⟨g0, 5, none⟩ = some (.int .i64 p.N) ∧ w'.cell? ⟨g0, 6, none⟩ = some (.int .i64 p.T) ∧ w'.cell? ⟨g0, 7, none⟩ = some (.int .i64 p.K) ∧ w'.cell? ⟨g0, 8, none⟩ = some (.int .i64 p.D) ∧ w'.cell? ⟨g0, 9, none⟩ = some (.int .i64 p.R) ∧ w'.cell? ⟨g0, 10, none⟩ = some (.int .i64 p.M) ∧ w'.cell? ⟨g0, 11, none⟩ = some (.int .i64 p.X) := fun h => ⟨h, h.cell (b := g1) (cs := pair s b) (t := 27) (by simp) 0, h.cell (b := g1) (cs := pair s b) (t := 27) (by simp) 1, h.cell (b := g0) (cs := p.cells) (t := 24) (by simp) 0, h.cell (b := g0) (cs := p.cells) (t := 24) (by simp) 1, h.cell (b := g0) (cs := p.cells) (t := 24) (by simp) 2, h.cell (b := g0) (cs := p.cells) (t := 24) (by simp) 3, h.cell (b := g0) (cs := p.cells) (t := 24) (by simp) 4, h.cell (b := g0) (cs := p.cells) (t := 24) (by simp) 5, h.cell (b := g0) (cs := p.cells) (t := 24) (by simp) 6, h.cell (b := g0) (cs := p.cells) (t := 24) (by simp) 7, h.cell (b := g0) (cs := p.cells) (t := 24) (by simp) 8, h.cell (b := g0) (cs := p.cells) (t := 24) (by simp) 9, h.cell (b := g0) (cs := p.cells) (t := 24) (by simp) 10, h.cell (b := g0) (cs := p.cells) (t := 24) (by simp) 11⟩
  obtain ⟨_, y0, y1, y2, y3, y4, y5, y6, y7, y8, y9, y10, y11, y12, y13⟩ := kS1 HJ
  go_region_held3 (fun w' => Inr w [(g1, pair s b, 27), (g0, p.cells, 24)] w' ∧ w'.cell? ⟨g1, 0, none⟩ = some (.int .u64 (s : Int)) ∧ w'.cell? ⟨g1, 1, none⟩ = some (.int .u64 (b : Int)) ∧ w'.cell? ⟨g0, 0, none⟩ = some (.int .u64 (p.P : Int)) ∧ w'.cell? ⟨g0, 1, none⟩ = some (.int .u64 (p.Q : Int)) ∧ w'.cell? ⟨g0, 2, none⟩ = some (.int .u64 (p.G : Int)) ∧ w'.cell? ⟨g0, 3, none⟩ = some (.int .u64 (p.H : Int)) ∧ w'.cell? ⟨g0, 4, none⟩ = some (.int .i64 p.Nodes) ∧ w'.cell? ⟨g0, 5, none⟩ = some (.int .i64 p.N) ∧ w'.cell? ⟨g0, 6, none⟩ = some (.int .i64 p.T) ∧ w'.cell? ⟨g0, 7, none⟩ = some (.int .i64 p.K) ∧ w'.cell? ⟨g0, 8, none⟩ = some (.int .i64 p.D) ∧ w'.cell? ⟨g0, 9, none⟩ = some (.int .i64 p.R) ∧ w'.cell? ⟨g0, 10, none⟩ = some (.int .i64 p.M) ∧ w'.cell? ⟨g0, 11, none⟩ = some (.int .i64 p.X)) (first | exact kS1 HJ | exact kS1 (Inr.drew HJ) | exact kS1 (Inr.drewN HJ _) | exact kS1 (Inr.alloc HJ _) | exact kS1 (Inr.alloc (Inr.drew HJ) _) | exact kS1 (Inr.alloc (Inr.drewN HJ _) _) | exact kS1 (Inr.drew (Inr.alloc HJ _)) | exact kS1 (Inr.drewN (Inr.alloc HJ _) _))
    (first | (go_at_call 9; (first | (with_reducible refine (H1.at _).mono ?_) | (with_reducible refine (H2.at _).mono ?_)); rintro e w1 ⟨rfl, hb⟩; (first | (have HJ := Inr.step HJ hb) | (have HJ := Inr.step (Inr.drew HJ) hb) | (have HJ := Inr.step (Inr.drewN HJ _) hb) | (have HJ := Inr.step (Inr.alloc HJ _) hb) | (have HJ := Inr.step (Inr.alloc (Inr.drew HJ) _) hb) | (have HJ := Inr.step (Inr.alloc (Inr.drewN HJ _) _) hb) | (have HJ := Inr.step (Inr.drew (Inr.alloc HJ _)) hb) | (have HJ := Inr.step (Inr.drewN (Inr.alloc HJ _) _) hb)); clear hb) | (go_at_call 7; (refine (HT _ _ (heap_alloc_new _ _)).mono ?_); rintro e w1 ⟨rfl, hb⟩; (first | (have HJ := Inr.step HJ hb) | (have HJ := Inr.step (Inr.drew HJ) hb) | (have HJ := Inr.step (Inr.drewN HJ _) hb) | (have HJ := Inr.step (Inr.alloc HJ _) hb) | (have HJ := Inr.step (Inr.alloc (Inr.drew HJ) _) hb) | (have HJ := Inr.step (Inr.alloc (Inr.drewN HJ _) _) hb) | (have HJ := Inr.step (Inr.drew (Inr.alloc HJ _)) hb) | (have HJ := Inr.step (Inr.drewN (Inr.alloc HJ _) _) hb)); clear hb))
  go_wp2_with fail
  go_ret
  exact ⟨rfl, HJ.below⟩
theorem rcommit_any (p : Pm) (s b : Nat) (hs : s < 18446744073709551616) (hb : b < 18446744073709551616) (hG : p.G < 18446744073709551616) (hH : p.H < 18446744073709551616) :
    RetB 11 #[.agg p.cells, .agg (pair s b)] (.int .u64 ((MM.comU p.P p.G p.H s b : Nat) : Int)) :=
  rcommit_core p s b _ _ _ (rpower_any p p.G hG s hs) (rpower_any p p.H hH b hb) (rtimes_two p _ _ _ (MM.powU_lt _ _ _) (MM.powU_lt _ _ _) rfl)

theorem isB_bad {p : Pm} {x : Nat} (h : ¬ p.P ≤ 2305843009213693952) : isB p x = false := by
  have e : MM.powU x p.Q p.P = 0 := by unfold MM.powU; rw [if_neg fun g => h g.2]
  simp [isB, e]
set_option maxHeartbeats 1000000 in
theorem ris_any (p : Pm) (x : Nat) (hx : x < 18446744073709551616) (hq : p.Q < 18446744073709551616) : RetB 5 #[.agg p.cells, .int .u64 (x : Int)] (.bool (isB p x)) := by
  intro w
  have HB := Lib.hid (In1.new w p)
  have HP := rpower_any p x hx p.Q hq
  clear hx hq
  obtain ⟨y, hy⟩ : ∃ y, MM.powU x p.Q p.P = y := ⟨_, rfl⟩
  rw [hy] at HP
  have HY := Lib.hid hy
  clear hy
  generalize hg : w.heap.size = g at HB
  have HE := Lib.hid hg
  clear hg
  by_cases hb : p.P ≤ 2305843009213693952
  · have db : decide ((p.P : Int) ≤ 2305843009213693952) = true := decide_eq_true (by omega)
    by_cases h0 : 0 < x
    · have d0 : decide ((1 : Int) ≤ (x : Int)) = true := decide_eq_true (by omega)
      by_cases h1 : x < p.P
      · by_cases h2 : y = 1
        · subst h2
          have HT := Lib.hid (isB_true h0 h1 HY.out)
          rw [HT.out]
          go_enter Try.func5, Try.ntmps5
          go_upto_region 1 with fail
          rw [HE.out]
          generalize w.alloc (.cells p.cells 24) = w1 at *
          have q0 := HB.out.box.cell 0
          have q1 := HB.out.box.cell 1
          go_wp2_with (first | (refine wpList_row_if ?_ 24 _ rfl g rfl 24 p.cells (0, 0) _ HB.out.box Try.underlying24 rfl (by kernel_rfl) ?_; first | rfl | (simp [Region.wanted, yielded]; done)) | (go_at_call 9; (with_reducible refine (HP.at _).mono ?_); rintro e w1 ⟨rfl, hb⟩; replace HB := Lib.hid (HB.out.step hb); clear hb))
          go_ret
          exact ⟨rfl, HE.out ▸ HB.out.below⟩
        · have hy2 : ((y : Int) == 1) = false := by simp; omega
          have HT := Lib.hid (isB_no (p := p) (x := x) (by rw [HY.out]; exact h2))
          clear h2
          rw [HT.out]
          go_enter Try.func5, Try.ntmps5
          go_upto_region 1 with fail
          rw [HE.out]
          generalize w.alloc (.cells p.cells 24) = w1 at *
          have q0 := HB.out.box.cell 0
          have q1 := HB.out.box.cell 1
          go_wp2_with (first | (refine wpList_row_if ?_ 24 _ rfl g rfl 24 p.cells (0, 0) _ HB.out.box Try.underlying24 rfl (by kernel_rfl) ?_; first | rfl | (simp [Region.wanted, yielded]; done)) | (go_at_call 9; (with_reducible refine (HP.at _).mono ?_); rintro e w1 ⟨rfl, hb⟩; replace HB := Lib.hid (HB.out.step hb); clear hb))
          go_ret
          exact ⟨rfl, HE.out ▸ HB.out.below⟩
      · have HT := Lib.hid (isB_big h1)
        rw [HT.out]
        go_enter Try.func5, Try.ntmps5
        go_upto_region 1 with fail
        rw [HE.out]
        generalize w.alloc (.cells p.cells 24) = w1 at *
        have q0 := HB.out.box.cell 0
        have q1 := HB.out.box.cell 1
        go_wp2_with (first | (refine wpList_row_if ?_ 24 _ rfl g rfl 24 p.cells (0, 0) _ HB.out.box Try.underlying24 rfl (by kernel_rfl) ?_; first | rfl | (simp [Region.wanted, yielded]; done)) | (go_at_call 9; (with_reducible refine (HP.at _).mono ?_); rintro e w1 ⟨rfl, hb⟩; replace HB := Lib.hid (HB.out.step hb); clear hb))
        go_ret
        exact ⟨rfl, HE.out ▸ HB.out.below⟩
    · have d0 : decide ((1 : Int) ≤ (x : Int)) = false := decide_eq_false (by omega)
      have HT := Lib.hid (isB_zero (p := p) h0)
      rw [HT.out]
      go_enter Try.func5, Try.ntmps5
      go_upto_region 1 with fail
      rw [HE.out]
      generalize w.alloc (.cells p.cells 24) = w1 at *
      have q0 := HB.out.box.cell 0
      have q1 := HB.out.box.cell 1
      go_wp2_with (first | (refine wpList_row_if ?_ 24 _ rfl g rfl 24 p.cells (0, 0) _ HB.out.box Try.underlying24 rfl (by kernel_rfl) ?_; first | rfl | (simp [Region.wanted, yielded]; done)) | (go_at_call 9; (with_reducible refine (HP.at _).mono ?_); rintro e w1 ⟨rfl, hb⟩; replace HB := Lib.hid (HB.out.step hb); clear hb))
      go_ret
      exact ⟨rfl, HE.out ▸ HB.out.below⟩
  · have db : decide ((p.P : Int) ≤ 2305843009213693952) = false := decide_eq_false (by omega)
    have HT := Lib.hid (isB_bad (x := x) hb)
    clear hb
    rw [HT.out]
    go_enter Try.func5, Try.ntmps5
    go_upto_region 1 with fail
    rw [HE.out]
    generalize w.alloc (.cells p.cells 24) = w1 at *
    have q0 := HB.out.box.cell 0
    have q1 := HB.out.box.cell 1
    go_wp2_with (first | (refine wpList_row_if ?_ 24 _ rfl g rfl 24 p.cells (0, 0) _ HB.out.box Try.underlying24 rfl (by kernel_rfl) ?_; first | rfl | (simp [Region.wanted, yielded]; done)) | (go_at_call 9; (with_reducible refine (HP.at _).mono ?_); rintro e w1 ⟨rfl, hb⟩; replace HB := Lib.hid (HB.out.step hb); clear hb))
    go_ret
    exact ⟨rfl, HE.out ▸ HB.out.below⟩

set_option maxHeartbeats 4000000 in
set_option maxRecDepth 100000 in
theorem rat_bad_core (p : Pm) (a : Addr) (n cap i : Nat) (z f : Nat → Nat) (hn : n ≤ 9223372036854775807) (W : World) (hc : Row W a n z)
    (H0 : RetB 7 #[.agg p.cells, .slice none 0 0] (.int .u64 ((f 0 : Nat) : Int))) (hbad : p.Q = 0 ∨ 2305843009213693952 < p.Q)
    (H2 : ∀ k, k < n → ∃ y : Nat, RetB 9 #[.agg p.cells, .int .u64 ((z k : Nat) : Int), .int .u64 0] (.int .u64 (y : Int)) ∧
      ∀ (W : World) (b : Nat), W.heap[b]? = some (.cells #[.int .u64 ((f k : Nat) : Int), .int .u64 (y : Int)] 22 (0, 0)) → Calls Try.prog 7 #[.agg p.cells, .slice (some ⟨b, 0, none⟩) 2 2] W fun e w' => e = .returned (.int .u64 ((f (k + 1) : Nat) : Int)) ∧ Below W.heap.size W w') :
    Calls Try.prog 13 #[.agg p.cells, .slice (some a) n cap, .int .u64 (i : Int)] W fun e w' => e = .returned (.int .u64 ((f n : Nat) : Int)) ∧ Below W.heap.size W w' := by
  have HI1 : Hid (Inr W [(W.heap.size, p.cells, 24)] (W.alloc (.cells p.cells 24))) := Lib.hid ((Inr.new W).put p.cells 24)
  have HR := Lib.hid hc
  have HH2 := Lib.hid H2
  clear hc H2
  go_enter Try.func13, Try.ntmps13
  go_upto_region 1 with fail
  generalize hg0 : W.heap.size = g0 at HI1 ⊢
  have HE := Lib.hid hg0
  clear hg0
  generalize W.alloc (.cells p.cells 24) = w1 at *
  go_upto_region 2 with (first | (refine wpList_row_if ?_ 24 _ rfl g0 rfl 24 p.cells (0, 0) _ (HI1.out.rows (g0, p.cells, 24) (by simp)) Try.underlying24 rfl (by kernel_rfl) ?_; first | rfl | (simp [Region.wanted, yielded]; done)) | (go_at_call 7; (with_reducible refine (H0.at _).mono ?_); rintro e w1 ⟨rfl, hb⟩; replace HI1 := Lib.hid (HI1.out.step hb); clear hb))
  have q1 : w1.cell? ⟨g0, 1, none⟩ = some (.int .u64 (p.Q : Int)) := HI1.out.cell (b := g0) (cs := p.cells) (t := 24) (by simp) 1
  rcases hbad with h | h
  · have e0 : ((p.Q : Int) == 0) = true := by simp; omega
    clear h
    go_wp2_with fail
    clear e0 q1
    go_loopw [7, 8] (fun s7 s8 wx => ∃ k : Nat, k ≤ n ∧ s8 = .int .i64 (k : Int) ∧ s7 = .int .u64 ((f k : Nat) : Int) ∧ Hid (Inr W [(g0, p.cells, 24)] wx)) (fun _ s8 _ => n - (RowKit.intOf s8).toNat)
    case atStart => exact ⟨0, Nat.zero_le _, rfl, rfl, HI1⟩
    case round =>
      obtain ⟨k, hk, rfl, rfl, HJ0⟩ := hrel
      rename_i wr
      by_cases hlt : k < n
      · obtain ⟨y, H2, HT⟩ := HH2.out k hlt
        clear HI1 HH2
        have HJ := HJ0.out
        go_upto_region 6 with fail
        have kS3 : ∀ {w' : World}, Inr W [(g0, p.cells, 24)] w' → Inr W [(g0, p.cells, 24)] w' ∧ w'.cell? (a.add k) = some (.int .u64 ((z k : Nat) : Int)) ∧ w'.cell? ⟨g0, 0, none⟩ = some (.int .u64 (p.P : Int)) ∧ w'.cell? ⟨g0, 1, none⟩ = some (.int .u64 (p.Q : Int)) ∧ w'.cell? ⟨g0, 2, none⟩ = some (.int .u64 (p.G : Int)) ∧ w'.cell? ⟨g0, 3, none⟩ = some (.int .u64 (p.H : Int)) ∧ w'.cell? ⟨g0, 4, none⟩ = some (.int .i64 p.Nodes) ∧ w'.cell? ⟨g0, 5, none⟩ = some (.int .i64 p.N) ∧ w'.cell? ⟨g0, 6, none⟩ = some (.int .i64 p.T) ∧ w'.cell? ⟨g0, 7, none⟩ = some (.int .i64 p.K) ∧ w'.cell? ⟨g0, 8, none⟩ = some (.int .i64 p.D) ∧ w'.cell? ⟨g0, 9, none⟩ = some (.int .i64 p.R) ∧ w'.cell? ⟨g0, 10, none⟩ = some (.int .i64 p.M) ∧ w'.cell? ⟨g0, 11, none⟩ = some (.int .i64 p.X) := fun h => ⟨h, (HR.out.below h.below) k hlt, h.cell (b := g0) (cs := p.cells) (t := 24) (by simp) 0, h.cell (b := g0) (cs := p.cells) (t := 24) (by simp) 1, h.cell (b := g0) (cs := p.cells) (t := 24) (by simp) 2, h.cell (b := g0) (cs := p.cells) (t := 24) (by simp) 3, h.cell (b := g0) (cs := p.cells) (t := 24) (by simp) 4, h.cell (b := g0) (cs := p.cells) (t := 24) (by simp) 5, h.cell (b := g0) (cs := p.cells) (t := 24) (by simp) 6, h.cell (b := g0) (cs := p.cells) (t := 24) (by simp) 7, h.cell (b := g0) (cs := p.cells) (t := 24) (by simp) 8, h.cell (b := g0) (cs := p.cells) (t := 24) (by simp) 9, h.cell (b := g0) (cs := p.cells) (t := 24) (by simp) 10, h.cell (b := g0) (cs := p.cells) (t := 24) (by simp) 11⟩
        obtain ⟨_, y0, y1, y2, y3, y4, y5, y6, y7, y8, y9, y10, y11, y12⟩ := kS3 HJ
        go_region_held3 (fun w' => Inr W [(g0, p.cells, 24)] w' ∧ w'.cell? (a.add k) = some (.int .u64 ((z k : Nat) : Int)) ∧ w'.cell? ⟨g0, 0, none⟩ = some (.int .u64 (p.P : Int)) ∧ w'.cell? ⟨g0, 1, none⟩ = some (.int .u64 (p.Q : Int)) ∧ w'.cell? ⟨g0, 2, none⟩ = some (.int .u64 (p.G : Int)) ∧ w'.cell? ⟨g0, 3, none⟩ = some (.int .u64 (p.H : Int)) ∧ w'.cell? ⟨g0, 4, none⟩ = some (.int .i64 p.Nodes) ∧ w'.cell? ⟨g0, 5, none⟩ = some (.int .i64 p.N) ∧ w'.cell? ⟨g0, 6, none⟩ = some (.int .i64 p.T) ∧ w'.cell? ⟨g0, 7, none⟩ = some (.int .i64 p.K) ∧ w'.cell? ⟨g0, 8, none⟩ = some (.int .i64 p.D) ∧ w'.cell? ⟨g0, 9, none⟩ = some (.int .i64 p.R) ∧ w'.cell? ⟨g0, 10, none⟩ = some (.int .i64 p.M) ∧ w'.cell? ⟨g0, 11, none⟩ = some (.int .i64 p.X)) (first | exact kS3 HJ | exact kS3 (Inr.drew HJ) | exact kS3 (Inr.drewN HJ _) | exact kS3 (Inr.alloc HJ _) | exact kS3 (Inr.alloc (Inr.drew HJ) _) | exact kS3 (Inr.alloc (Inr.drewN HJ _) _) | exact kS3 (Inr.drew (Inr.alloc HJ _)) | exact kS3 (Inr.drewN (Inr.alloc HJ _) _))
          (first | (go_at_call 9; (with_reducible refine (H2.at _).mono ?_); rintro e w1 ⟨rfl, hb⟩; (first | (have HJ := Inr.step HJ hb) | (have HJ := Inr.step (Inr.drew HJ) hb) | (have HJ := Inr.step (Inr.drewN HJ _) hb) | (have HJ := Inr.step (Inr.alloc HJ _) hb) | (have HJ := Inr.step (Inr.alloc (Inr.drew HJ) _) hb) | (have HJ := Inr.step (Inr.alloc (Inr.drewN HJ _) _) hb) | (have HJ := Inr.step (Inr.drew (Inr.alloc HJ _)) hb) | (have HJ := Inr.step (Inr.drewN (Inr.alloc HJ _) _) hb)); clear hb) | (go_at_call 7; (refine (HT _ _ (heap_alloc_new _ _)).mono ?_); rintro e w1 ⟨rfl, hb⟩; (first | (have HJ := Inr.step HJ hb) | (have HJ := Inr.step (Inr.drew HJ) hb) | (have HJ := Inr.step (Inr.drewN HJ _) hb) | (have HJ := Inr.step (Inr.alloc HJ _) hb) | (have HJ := Inr.step (Inr.alloc (Inr.drew HJ) _) hb) | (have HJ := Inr.step (Inr.alloc (Inr.drewN HJ _) _) hb) | (have HJ := Inr.step (Inr.drew (Inr.alloc HJ _)) hb) | (have HJ := Inr.step (Inr.drewN (Inr.alloc HJ _) _) hb)); clear hb))
        clear kS3
        go_wp2_with fail
        go_roundw
        case rel => exact ⟨k + 1, by omega, by go_num, rfl, HJ⟩
        case measure => simp [RowKit.intOf]; omega
      · obtain rfl : k = n := by omega
        go_wp2_with fail
        go_ret
        exact ⟨rfl, by first | exact HJ0.out.below | (rw [HE.out]; exact HJ0.out.below) | exact HE.out ▸ HJ0.out.below⟩
  · have e0 : ((p.Q : Int) == 0) = false := by simp; omega
    have e1 : decide ((2305843009213693952 : Int) < (p.Q : Int)) = true := decide_eq_true (by omega)
    clear h
    go_wp2_with fail
    clear e0 e1 q1
    go_loopw [7, 8] (fun s7 s8 wx => ∃ k : Nat, k ≤ n ∧ s8 = .int .i64 (k : Int) ∧ s7 = .int .u64 ((f k : Nat) : Int) ∧ Hid (Inr W [(g0, p.cells, 24)] wx)) (fun _ s8 _ => n - (RowKit.intOf s8).toNat)
    case atStart => exact ⟨0, Nat.zero_le _, rfl, rfl, HI1⟩
    case round =>
      obtain ⟨k, hk, rfl, rfl, HJ0⟩ := hrel
      rename_i wr
      by_cases hlt : k < n
      · obtain ⟨y, H2, HT⟩ := HH2.out k hlt
        clear HI1 HH2
        have HJ := HJ0.out
        go_upto_region 6 with fail
        have kS3 : ∀ {w' : World}, Inr W [(g0, p.cells, 24)] w' → Inr W [(g0, p.cells, 24)] w' ∧ w'.cell? (a.add k) = some (.int .u64 ((z k : Nat) : Int)) ∧ w'.cell? ⟨g0, 0, none⟩ = some (.int .u64 (p.P : Int)) ∧ w'.cell? ⟨g0, 1, none⟩ = some (.int .u64 (p.Q : Int)) ∧ w'.cell? ⟨g0, 2, none⟩ = some (.int .u64 (p.G : Int)) ∧ w'.cell? ⟨g0, 3, none⟩ = some (.int .u64 (p.H : Int)) ∧ w'.cell? ⟨g0, 4, none⟩ = some (.int .i64 p.Nodes) ∧ w'.cell? ⟨g0, 5, none⟩ = some (.int .i64 p.N) ∧ w'.cell? ⟨g0, 6, none⟩ = some (.int .i64 p.T) ∧ w'.cell? ⟨g0, 7, none⟩ = some (.int .i64 p.K) ∧ w'.cell? ⟨g0, 8, none⟩ = some (.int .i64 p.D) ∧ w'.cell? ⟨g0, 9, none⟩ = some (.int .i64 p.R) ∧ w'.cell? ⟨g0, 10, none⟩ = some (.int .i64 p.M) ∧ w'.cell? ⟨g0, 11, none⟩ = some (.int .i64 p.X) := fun h => ⟨h, (HR.out.below h.below) k hlt, h.cell (b := g0) (cs := p.cells) (t := 24) (by simp) 0, h.cell (b := g0) (cs := p.cells) (t := 24) (by simp) 1, h.cell (b := g0) (cs := p.cells) (t := 24) (by simp) 2, h.cell (b := g0) (cs := p.cells) (t := 24) (by simp) 3, h.cell (b := g0) (cs := p.cells) (t := 24) (by simp) 4, h.cell (b := g0) (cs := p.cells) (t := 24) (by simp) 5, h.cell (b := g0) (cs := p.cells) (t := 24) (by simp) 6, h.cell (b := g0) (cs := p.cells) (t := 24) (by simp) 7, h.cell (b := g0) (cs := p.cells) (t := 24) (by simp) 8, h.cell (b := g0) (cs := p.cells) (t := 24) (by simp) 9, h.cell (b := g0) (cs := p.cells) (t := 24) (by simp) 10, h.cell (b := g0) (cs := p.cells) (t := 24) (by simp) 11⟩
        obtain ⟨_, y0, y1, y2, y3, y4, y5, y6, y7, y8, y9, y10, y11, y12⟩ := kS3 HJ
        go_region_held3 (fun w' => Inr W [(g0, p.cells, 24)] w' ∧ w'.cell? (a.add k) = some (.int .u64 ((z k : Nat) : Int)) ∧ w'.cell? ⟨g0, 0, none⟩ = some (.int .u64 (p.P : Int)) ∧ w'.cell? ⟨g0, 1, none⟩ = some (.int .u64 (p.Q : Int)) ∧ w'.cell? ⟨g0, 2, none⟩ = some (.int .u64 (p.G : Int)) ∧ w'.cell? ⟨g0, 3, none⟩ = some (.int .u64 (p.H : Int)) ∧ w'.cell? ⟨g0, 4, none⟩ = some (.int .i64 p.Nodes) ∧ w'.cell? ⟨g0, 5, none⟩ = some (.int .i64 p.N) ∧ w'.cell? ⟨g0, 6, none⟩ = some (.int .i64 p.T) ∧ w'.cell? ⟨g0, 7, none⟩ = some (.int .i64 p.K) ∧ w'.cell? ⟨g0, 8, none⟩ = some (.int .i64 p.D) ∧ w'.cell? ⟨g0, 9, none⟩ = some (.int .i64 p.R) ∧ w'.cell? ⟨g0, 10, none⟩ = some (.int .i64 p.M) ∧ w'.cell? ⟨g0, 11, none⟩ = some (.int .i64 p.X)) (first | exact kS3 HJ | exact kS3 (Inr.drew HJ) | exact kS3 (Inr.drewN HJ _) | exact kS3 (Inr.alloc HJ _) | exact kS3 (Inr.alloc (Inr.drew HJ) _) | exact kS3 (Inr.alloc (Inr.drewN HJ _) _) | exact kS3 (Inr.drew (Inr.alloc HJ _)) | exact kS3 (Inr.drewN (Inr.alloc HJ _) _))
          (first | (go_at_call 9; (with_reducible refine (H2.at _).mono ?_); rintro e w1 ⟨rfl, hb⟩; (first | (have HJ := Inr.step HJ hb) | (have HJ := Inr.step (Inr.drew HJ) hb) | (have HJ := Inr.step (Inr.drewN HJ _) hb) | (have HJ := Inr.step (Inr.alloc HJ _) hb) | (have HJ := Inr.step (Inr.alloc (Inr.drew HJ) _) hb) | (have HJ := Inr.step (Inr.alloc (Inr.drewN HJ _) _) hb) | (have HJ := Inr.step (Inr.drew (Inr.alloc HJ _)) hb) | (have HJ := Inr.step (Inr.drewN (Inr.alloc HJ _) _) hb)); clear hb) | (go_at_call 7; (refine (HT _ _ (heap_alloc_new _ _)).mono ?_); rintro e w1 ⟨rfl, hb⟩; (first | (have HJ := Inr.step HJ hb) | (have HJ := Inr.step (Inr.drew HJ) hb) | (have HJ := Inr.step (Inr.drewN HJ _) hb) | (have HJ := Inr.step (Inr.alloc HJ _) hb) | (have HJ := Inr.step (Inr.alloc (Inr.drew HJ) _) hb) | (have HJ := Inr.step (Inr.alloc (Inr.drewN HJ _) _) hb) | (have HJ := Inr.step (Inr.drew (Inr.alloc HJ _)) hb) | (have HJ := Inr.step (Inr.drewN (Inr.alloc HJ _) _) hb)); clear hb))
        clear kS3
        go_wp2_with fail
        go_roundw
        case rel => exact ⟨k + 1, by omega, by go_num, rfl, HJ⟩
        case measure => simp [RowKit.intOf]; omega
      · obtain rfl : k = n := by omega
        go_wp2_with fail
        go_ret
        exact ⟨rfl, by first | exact HJ0.out.below | (rw [HE.out]; exact HJ0.out.below) | exact HE.out ▸ HJ0.out.below⟩

set_option maxHeartbeats 4000000 in
set_option maxRecDepth 100000 in
theorem rat_good_core (p : Pm) (a : Addr) (n cap i : Nat) (z f u : Nat → Nat) (hn : n ≤ 9223372036854775807) (W : World) (hc : Row W a n z)
    (H0 : RetB 7 #[.agg p.cells, .slice none 0 0] (.int .u64 ((f 0 : Nat) : Int))) (h0 : p.Q ≠ 0) (h1 : p.Q ≤ 2305843009213693952)
    (hu : (1 : Int) % (p.Q : Int) = ((u 0 : Nat) : Int))
    (HM : ∀ k, k < n → Ret 16 #[.int .u64 ((u k : Nat) : Int), .int .u64 (i : Int), .int .u64 (p.Q : Int)] (.int .u64 ((u (k + 1) : Nat) : Int)))
    (H2 : ∀ k, k < n → ∃ y : Nat, RetB 9 #[.agg p.cells, .int .u64 ((z k : Nat) : Int), .int .u64 ((u k : Nat) : Int)] (.int .u64 (y : Int)) ∧
      ∀ (W : World) (b : Nat), W.heap[b]? = some (.cells #[.int .u64 ((f k : Nat) : Int), .int .u64 (y : Int)] 22 (0, 0)) → Calls Try.prog 7 #[.agg p.cells, .slice (some ⟨b, 0, none⟩) 2 2] W fun e w' => e = .returned (.int .u64 ((f (k + 1) : Nat) : Int)) ∧ Below W.heap.size W w') :
    Calls Try.prog 13 #[.agg p.cells, .slice (some a) n cap, .int .u64 (i : Int)] W fun e w' => e = .returned (.int .u64 ((f n : Nat) : Int)) ∧ Below W.heap.size W w' := by
  have HI1 : Hid (Inr W [(W.heap.size, p.cells, 24)] (W.alloc (.cells p.cells 24))) := Lib.hid ((Inr.new W).put p.cells 24)
  have HR := Lib.hid hc
  have HH2 := Lib.hid H2
  have HMM := Lib.hid HM
  have HU := Lib.hid hu
  have e0 : ((p.Q : Int) == 0) = false := by simp; omega
  have e1 : decide ((2305843009213693952 : Int) < (p.Q : Int)) = false := decide_eq_false (by omega)
  have h2 : (0 : Int) < (p.Q : Int) := by omega
  clear hc H2 HM hu h0
  go_enter Try.func13, Try.ntmps13
  go_upto_region 1 with fail
  generalize hg0 : W.heap.size = g0 at HI1 ⊢
  have HE := Lib.hid hg0
  clear hg0
  generalize W.alloc (.cells p.cells 24) = w1 at *
  go_upto_region 2 with (first | (refine wpList_row_if ?_ 24 _ rfl g0 rfl 24 p.cells (0, 0) _ (HI1.out.rows (g0, p.cells, 24) (by simp)) Try.underlying24 rfl (by kernel_rfl) ?_; first | rfl | (simp [Region.wanted, yielded]; done)) | (go_at_call 7; (with_reducible refine (H0.at _).mono ?_); rintro e w1 ⟨rfl, hb⟩; replace HI1 := Lib.hid (HI1.out.step hb); clear hb))
  have q1 : w1.cell? ⟨g0, 1, none⟩ = some (.int .u64 (p.Q : Int)) := HI1.out.cell (b := g0) (cs := p.cells) (t := 24) (by simp) 1
  go_wp2_with fail
  clear e0 e1 q1 h1
  go_loopw [7, 9, 10] (fun s7 s9 s10 wx => ∃ k : Nat, k ≤ n ∧ s10 = .int .i64 (k : Int) ∧ s7 = .int .u64 ((f k : Nat) : Int) ∧ s9 = .int .u64 ((u k : Nat) : Int) ∧ Hid (Inr W [(g0, p.cells, 24)] wx)) (fun _ _ s10 _ => n - (RowKit.intOf s10).toNat)
  case atStart => exact ⟨0, Nat.zero_le _, rfl, rfl, congrArg (Value.int .u64) HU.out, HI1⟩
  case round =>
    obtain ⟨k, hk, rfl, rfl, rfl, HJ0⟩ := hrel
    rename_i wr
    by_cases hlt : k < n
    · obtain ⟨y, H2, HT⟩ := HH2.out k hlt
      have H1 := HMM.out k hlt
      clear HI1 HH2 HMM
      have HJ := HJ0.out
      go_upto_region 12 with fail
      have kS3 : ∀ {w' : World}, Inr W [(g0, p.cells, 24)] w' → Inr W [(g0, p.cells, 24)] w' ∧ w'.cell? (a.add k) = some (.int .u64 ((z k : Nat) : Int)) ∧ w'.cell? ⟨g0, 0, none⟩ = some (.int .u64 (p.P : Int)) ∧ w'.cell? ⟨g0, 1, none⟩ = some (.int .u64 (p.Q : Int)) ∧ w'.cell? ⟨g0, 2, none⟩ = some (.int .u64 (p.G : Int)) ∧ w'.cell? ⟨g0, 3, none⟩ = some (.int .u64 (p.H : Int)) ∧ w'.cell? ⟨g0, 4, none⟩ = some (.int .i64 p.Nodes) ∧ w'.cell? ⟨g0, 5, none⟩ = some (.int .i64 p.N) ∧ w'.cell? ⟨g0, 6, none⟩ = some (.int .i64 p.T) ∧ w'.cell? ⟨g0, 7, none⟩ = some (.int .i64 p.K) ∧ w'.cell? ⟨g0, 8, none⟩ = some (.int .i64 p.D) ∧ w'.cell? ⟨g0, 9, none⟩ = some (.int .i64 p.R) ∧ w'.cell? ⟨g0, 10, none⟩ = some (.int .i64 p.M) ∧ w'.cell? ⟨g0, 11, none⟩ = some (.int .i64 p.X) := fun h => ⟨h, (HR.out.below h.below) k hlt, h.cell (b := g0) (cs := p.cells) (t := 24) (by simp) 0, h.cell (b := g0) (cs := p.cells) (t := 24) (by simp) 1, h.cell (b := g0) (cs := p.cells) (t := 24) (by simp) 2, h.cell (b := g0) (cs := p.cells) (t := 24) (by simp) 3, h.cell (b := g0) (cs := p.cells) (t := 24) (by simp) 4, h.cell (b := g0) (cs := p.cells) (t := 24) (by simp) 5, h.cell (b := g0) (cs := p.cells) (t := 24) (by simp) 6, h.cell (b := g0) (cs := p.cells) (t := 24) (by simp) 7, h.cell (b := g0) (cs := p.cells) (t := 24) (by simp) 8, h.cell (b := g0) (cs := p.cells) (t := 24) (by simp) 9, h.cell (b := g0) (cs := p.cells) (t := 24) (by simp) 10, h.cell (b := g0) (cs := p.cells) (t := 24) (by simp) 11⟩
      obtain ⟨_, y0, y1, y2, y3, y4, y5, y6, y7, y8, y9, y10, y11, y12⟩ := kS3 HJ
      go_region_held3 (fun w' => Inr W [(g0, p.cells, 24)] w' ∧ w'.cell? (a.add k) = some (.int .u64 ((z k : Nat) : Int)) ∧ w'.cell? ⟨g0, 0, none⟩ = some (.int .u64 (p.P : Int)) ∧ w'.cell? ⟨g0, 1, none⟩ = some (.int .u64 (p.Q : Int)) ∧ w'.cell? ⟨g0, 2, none⟩ = some (.int .u64 (p.G : Int)) ∧ w'.cell? ⟨g0, 3, none⟩ = some (.int .u64 (p.H : Int)) ∧ w'.cell? ⟨g0, 4, none⟩ = some (.int .i64 p.Nodes) ∧ w'.cell? ⟨g0, 5, none⟩ = some (.int .i64 p.N) ∧ w'.cell? ⟨g0, 6, none⟩ = some (.int .i64 p.T) ∧ w'.cell? ⟨g0, 7, none⟩ = some (.int .i64 p.K) ∧ w'.cell? ⟨g0, 8, none⟩ = some (.int .i64 p.D) ∧ w'.cell? ⟨g0, 9, none⟩ = some (.int .i64 p.R) ∧ w'.cell? ⟨g0, 10, none⟩ = some (.int .i64 p.M) ∧ w'.cell? ⟨g0, 11, none⟩ = some (.int .i64 p.X)) (first | exact kS3 HJ | exact kS3 (Inr.drew HJ) | exact kS3 (Inr.drewN HJ _) | exact kS3 (Inr.alloc HJ _) | exact kS3 (Inr.alloc (Inr.drew HJ) _) | exact kS3 (Inr.alloc (Inr.drewN HJ _) _) | exact kS3 (Inr.drew (Inr.alloc HJ _)) | exact kS3 (Inr.drewN (Inr.alloc HJ _) _))
        (first | (go_at_call 9; (with_reducible refine (H2.at _).mono ?_); rintro e w1 ⟨rfl, hb⟩; (first | (have HJ := Inr.step HJ hb) | (have HJ := Inr.step (Inr.drew HJ) hb) | (have HJ := Inr.step (Inr.drewN HJ _) hb) | (have HJ := Inr.step (Inr.alloc HJ _) hb) | (have HJ := Inr.step (Inr.alloc (Inr.drew HJ) _) hb) | (have HJ := Inr.step (Inr.alloc (Inr.drewN HJ _) _) hb) | (have HJ := Inr.step (Inr.drew (Inr.alloc HJ _)) hb) | (have HJ := Inr.step (Inr.drewN (Inr.alloc HJ _) _) hb)); clear hb) | (go_at_call 7; (refine (HT _ _ (heap_alloc_new _ _)).mono ?_); rintro e w1 ⟨rfl, hb⟩; (first | (have HJ := Inr.step HJ hb) | (have HJ := Inr.step (Inr.drew HJ) hb) | (have HJ := Inr.step (Inr.drewN HJ _) hb) | (have HJ := Inr.step (Inr.alloc HJ _) hb) | (have HJ := Inr.step (Inr.alloc (Inr.drew HJ) _) hb) | (have HJ := Inr.step (Inr.alloc (Inr.drewN HJ _) _) hb) | (have HJ := Inr.step (Inr.drew (Inr.alloc HJ _)) hb) | (have HJ := Inr.step (Inr.drewN (Inr.alloc HJ _) _) hb)); clear hb))
      rename_i wz _ _ _ _ _ _ _ _ _ _ _ _ _
      clear kS3
      go_wp2_with (go_at_call 16; (with_reducible refine (H1.at _).mono ?_); rintro e w1 ⟨rfl, nd, rfl⟩)
      go_roundw
      case rel => exact ⟨k + 1, by omega, by go_num, rfl, rfl, HJ.drewN _⟩
      case measure => simp [RowKit.intOf]; omega
    · obtain rfl : k = n := by omega
      go_wp2_with fail
      go_ret
      exact ⟨rfl, by first | exact HJ0.out.below | (rw [HE.out]; exact HJ0.out.below) | exact HE.out ▸ HJ0.out.below⟩

theorem rat_any (p : Pm) (a : Addr) (n cap i : Nat) (z : Nat → Nat) (hz : ∀ k, k < n → z k < 18446744073709551616) (hi : i < 18446744073709551616) (hn : n ≤ 9223372036854775807) (W : World) (hc : Row W a n z) :
    Calls Try.prog 13 #[.agg p.cells, .slice (some a) n cap, .int .u64 (i : Int)] W fun e w' => e = .returned (.int .u64 ((MM.atN p.P p.Q i z n : Nat) : Int)) ∧ Below W.heap.size W w' := by
  by_cases h : MM.Good p.Q
  · exact rat_good_core p a n cap i z (MM.atN p.P p.Q i z) (fun k => MM.powU i k p.Q) hn W hc (rtimes_nil p) (by have := h.1; omega) h.2 (by show _ = ((MM.powU i 0 p.Q : Nat) : Int); rw [MM.powU_of h, Nat.pow_zero]; rfl)
      (fun k _ => by
        have e : MM.powU i (k + 1) p.Q = MM.mulU (MM.powU i k p.Q) i p.Q := by rw [MM.powU_of h, MM.powU_of h, MM.mulU_of h, MM.mul_mod_left', Nat.pow_succ]
        show Ret _ _ (.int .u64 ((MM.powU i (k + 1) p.Q : Nat) : Int))
        rw [e]; exact rmulU _ _ _ hi)
      (fun k hk => ⟨_, rpower_any p (z k) (hz k hk) (MM.powU i k p.Q) (MM.powU_lt _ _ _), rtimes_two p _ _ _ (MM.atN_lt _ _ _ _ _) (MM.powU_lt _ _ _) rfl⟩)
  · have e : ∀ k, MM.powU i k p.Q = 0 := fun k => by unfold MM.powU; rw [if_neg h]
    exact rat_bad_core p a n cap i z (MM.atN p.P p.Q i z) hn W hc (rtimes_nil p) (MM.good_not h)
      (fun k hk => ⟨_, rpower_any p (z k) (hz k hk) 0 (by omega), rtimes_two p _ _ _ (MM.atN_lt _ _ _ _ _) (MM.powU_lt _ _ _) (by
        show _ = MM.times2U (MM.atN p.P p.Q i z k) (MM.powU (z k) (MM.powU i k p.Q) p.P) p.P
        rw [e])⟩)

set_option maxHeartbeats 1000000 in
theorem rat_nil (p : Pm) (i : Nat) : RetB 13 #[.agg p.cells, .slice none 0 0, .int .u64 (i : Int)] (.int .u64 ((MM.addU 0 1 p.P : Nat) : Int)) := by
  intro w
  have HB := Lib.hid (In1.new w p)
  have H0 := rtimes_nil p
  generalize hg : w.heap.size = g at HB
  have HE := Lib.hid hg
  clear hg
  by_cases h : p.Q = 0
  · have e0 : ((p.Q : Int) == 0) = true := by simp; omega
    clear h
    go_enter Try.func13, Try.ntmps13
    go_upto_region 1 with fail
    rw [HE.out]
    generalize w.alloc (.cells p.cells 24) = w1 at *
    go_upto_region 2 with (first | (refine wpList_row_if ?_ 24 _ rfl g rfl 24 p.cells (0, 0) _ HB.out.box Try.underlying24 rfl (by kernel_rfl) ?_; first | rfl | (simp [Region.wanted, yielded]; done)) | (go_at_call 7; (with_reducible refine (H0.at _).mono ?_); rintro e w1 ⟨rfl, hb⟩; replace HB := Lib.hid (HB.out.step hb); clear hb))
    have q1 : w1.cell? ⟨g, 1, none⟩ = some (.int .u64 (p.Q : Int)) := HB.out.box.cell 1
    go_wp2_with fail
    refine wp_loop_rounds 1 ?_
    rw [rounds_succ]
    go_wp2_with fail
    go_ret
    exact ⟨rfl, HE.out ▸ HB.out.below⟩
  · by_cases h2 : 2305843009213693952 < p.Q
    · have e0 : ((p.Q : Int) == 0) = false := by simp; omega
      have e1 : decide ((2305843009213693952 : Int) < (p.Q : Int)) = true := decide_eq_true (by omega)
      go_enter Try.func13, Try.ntmps13
      go_upto_region 1 with fail
      rw [HE.out]
      generalize w.alloc (.cells p.cells 24) = w1 at *
      go_upto_region 2 with (first | (refine wpList_row_if ?_ 24 _ rfl g rfl 24 p.cells (0, 0) _ HB.out.box Try.underlying24 rfl (by kernel_rfl) ?_; first | rfl | (simp [Region.wanted, yielded]; done)) | (go_at_call 7; (with_reducible refine (H0.at _).mono ?_); rintro e w1 ⟨rfl, hb⟩; replace HB := Lib.hid (HB.out.step hb); clear hb))
      have q1 : w1.cell? ⟨g, 1, none⟩ = some (.int .u64 (p.Q : Int)) := HB.out.box.cell 1
      go_wp2_with fail
      refine wp_loop_rounds 1 ?_
      rw [rounds_succ]
      go_wp2_with fail
      go_ret
      exact ⟨rfl, HE.out ▸ HB.out.below⟩
    · have e0 : ((p.Q : Int) == 0) = false := by simp; omega
      have e1 : decide ((2305843009213693952 : Int) < (p.Q : Int)) = false := decide_eq_false (by omega)
      have hp : (0 : Int) < (p.Q : Int) := by omega
      go_enter Try.func13, Try.ntmps13
      go_upto_region 1 with fail
      rw [HE.out]
      generalize w.alloc (.cells p.cells 24) = w1 at *
      go_upto_region 2 with (first | (refine wpList_row_if ?_ 24 _ rfl g rfl 24 p.cells (0, 0) _ HB.out.box Try.underlying24 rfl (by kernel_rfl) ?_; first | rfl | (simp [Region.wanted, yielded]; done)) | (go_at_call 7; (with_reducible refine (H0.at _).mono ?_); rintro e w1 ⟨rfl, hb⟩; replace HB := Lib.hid (HB.out.step hb); clear hb))
      have q1 : w1.cell? ⟨g, 1, none⟩ = some (.int .u64 (p.Q : Int)) := HB.out.box.cell 1
      go_wp2_with fail
      refine wp_loop_rounds 1 ?_
      rw [rounds_succ]
      go_wp2_with fail
      go_ret
      exact ⟨rfl, HE.out ▸ HB.out.below⟩

end M
end Go.Proofs.Ytmeaiindbkkkiaa

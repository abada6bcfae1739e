/- The walks of the program's polynomials: sums, degrees, and whether two are the same. -/
import Derived.Test.YtaogdhpiiclejaaDoorPolyW1
import Derived.IntWalk
namespace Go.Proofs.YtaogdhpiiclejaaDoor
open Go Go.RowKit Go.Lib
namespace MM
/-- A coefficient as the program reads it, modulo any number. -/
def cofU (n q : Nat) (z : Nat → Nat) (i : Nat) : Nat := if i < n then addU (z i) 0 q else 0
theorem cofU_good {n q : Nat} {z : Nat → Nat} (hq : Good q) (i : Nat) : cofU n q z i = atU n q z i := by
  unfold cofU atU; by_cases h : i < n
  · rw [if_pos h, if_pos h, addU_of hq, Nat.add_zero]
  · rw [if_neg h, if_neg h]
theorem cofU_bad {n q : Nat} {z : Nat → Nat} (hq : ¬ Good q) (i : Nat) : cofU n q z i = 0 := by
  unfold cofU addU; rw [if_neg hq]; by_cases h : i < n
  · rw [if_pos h]
  · rw [if_neg h]
def degC (z : Nat → Nat) (q : Nat) : Nat → Int
  | 0 => -1
  | n + 1 => if addU (z n) 0 q = 0 then degC z q n else n
theorem degC_good {z : Nat → Nat} {q : Nat} (hq : Good q) : ∀ n, degC z q n = degU z q n
  | 0 => rfl
  | n + 1 => by unfold degC degU; rw [degC_good hq n, addU_of hq, Nat.add_zero]
theorem degC_bad {z : Nat → Nat} {q : Nat} (hq : ¬ Good q) : ∀ n, degC z q n = -1
  | 0 => rfl
  | n + 1 => by unfold degC; rw [if_pos (by unfold addU; rw [if_neg hq]), degC_bad hq n]
def sameC (la lb q : Nat) (a b : Nat → Nat) : Nat → Bool
  | 0 => true
  | n + 1 => sameC la lb q a b n && (cofU la q a n == cofU lb q b n)
theorem sameC_good {la lb q : Nat} {a b : Nat → Nat} (hq : Good q) : ∀ n, sameC la lb q a b n = sameU la lb q a b n
  | 0 => rfl
  | n + 1 => by unfold sameC sameU; rw [sameC_good hq n, cofU_good hq, cofU_good hq]
theorem sameC_bad {la lb q : Nat} {a b : Nat → Nat} (hq : ¬ Good q) : ∀ n, sameC la lb q a b n = true
  | 0 => rfl
  | n + 1 => by unfold sameC; rw [sameC_bad hq n, cofU_bad hq, cofU_bad hq]; rfl
theorem sameC_no {la lb q : Nat} {a b : Nat → Nat} {k : Nat} (h : cofU la q a k ≠ cofU lb q b k) : ∀ n, k < n → sameC la lb q a b n = false
  | 0, hk => absurd hk (by omega)
  | n + 1, hk => by
    unfold sameC
    rcases Nat.lt_or_ge k n with h1 | h1
    · rw [sameC_no h n h1, Bool.false_and]
    · obtain rfl : k = n := by omega
      rw [show (cofU la q a k == cofU lb q b k) = false by simpa using h, Bool.and_false]
theorem sameC_succ {la lb q : Nat} {a b : Nat → Nat} {k : Nat} (h0 : sameC la lb q a b k = true) (h : cofU la q a k = cofU lb q b k) : sameC la lb q a b (k + 1) = true := by
  rw [sameC, h0, h]; simp
end MM
namespace M
theorem scale_bad (ao : Option Addr) (n cap f q : Nat) (hq : ¬ MM.Good q) (W : World) :
    Calls Tryd.prog 31 #[.slice ao n cap, .int .u64 (f : Int), .int .u64 (q : Int)] W fun e w' => e = .returned (.slice none 0 0) ∧ W = w' := by
  have HY := Lib.hid (allow_no q hq)
  clear hq
  go_enter Tryd.func31, Tryd.ntmps31
  go_wp2_with (go_at_call 39; (with_reducible refine (HY.out _).mono ?_); rintro e w' ⟨rfl, rfl⟩)
  go_ret
  exact ⟨rfl, rfl⟩
theorem cof_any (ao : Option Addr) (n cap q i P Q : Nat) (z : Nat → Nat) (w : World) (hP : Box w P 22 (.slice ao n cap)) (hQ : Box w Q 23 (.int .u64 (q : Int))) (hr : Rd w ao n z) :
    Calls Tryd.prog 43 #[.int .i64 (i : Int), .pointer (some ⟨P, 0, none⟩), .pointer (some ⟨Q, 0, none⟩)] w fun e w' => e = .returned (.int .u64 ((MM.cofU n q z i : Nat) : Int)) ∧ ∃ m, w' = w.drewN m := by
  by_cases hi : i < n
  · have e : MM.cofU n q z i = MM.addU (z i) 0 q := by unfold MM.cofU; rw [if_pos hi]
    rw [e]; exact coef_in ao n cap q i P Q z hi w hP hQ hr
  · have e : MM.cofU n q z i = 0 := by unfold MM.cofU; rw [if_neg hi]
    rw [e]; exact coef_out ao n cap i P Q (by omega) w hP

set_option maxHeartbeats 2000000 in
theorem degree_any (ao : Option Addr) (n cap q : Nat) (z : Nat → Nat) (hn : n ≤ 1000000) (W : World) (hr : Rd W ao n z) :
    Calls Tryd.prog 16 #[.slice ao n cap, .int .u64 (q : Int)] W fun e w' => e = .returned (.int .i64 (MM.degC z q n)) ∧ Below W.heap.size W w' := by
  have hB1 := (below_box W (.cells #[.slice ao n cap] 22)).trans ((below_box (W.alloc (.cells #[.slice ao n cap] 22)) (.cells #[.int .u64 (q : Int)] 23)).mono (by simp))
  have HCF := Lib.hid (coefs_any ao n cap q W)
  obtain ⟨P, hP⟩ : ∃ P, W.heap.size = P := ⟨_, rfl⟩
  have hBP : Box ((W.alloc (.cells #[.slice ao n cap] 22)).alloc (.cells #[.int .u64 (q : Int)] 23)) P 22 (.slice ao n cap) := by
    rw [← hP]; exact (Box.new W _ _).below (below_box _ _)
  have hBQ : Box ((W.alloc (.cells #[.slice ao n cap] 22)).alloc (.cells #[.int .u64 (q : Int)] 23)) (P + 1) 23 (.int .u64 (q : Int)) := by
    have := Box.new (W.alloc (.cells #[.slice ao n cap] 22)) 23 (.int .u64 (q : Int))
    rw [World.size_alloc, hP] at this; exact this
  have hR := hr.below hB1
  obtain ⟨W2, hW2⟩ : ∃ W2, (W.alloc (.cells #[.slice ao n cap] 22)).alloc (.cells #[.int .u64 (q : Int)] 23) = W2 := ⟨_, rfl⟩
  rw [hW2] at hB1 hBP hBQ hR HCF
  rw [hP] at HCF
  have HB1 := Lib.hid hB1
  have HC : Hid (∀ (i : Nat) (w : World), Below W2.heap.size W2 w → Calls Tryd.prog 43 #[.int .i64 (i : Int), .pointer (some ⟨P, 0, none⟩), .pointer (some ⟨P + 1, 0, none⟩)] w fun e w' => e = .returned (.int .u64 ((MM.cofU n q z i : Nat) : Int)) ∧ ∃ m, w' = w.drewN m) :=
    Lib.hid fun i w hb => cof_any ao n cap q i P (P + 1) z w (hBP.below hb) (hBQ.below hb) (hR.below hb)
  clear hB1 hBP hBQ hR hr hP hW2
  go_enter Tryd.func16, Tryd.ntmps16
  go_wp2_with (go_at_call 33; (with_reducible refine HCF.out.mono ?_); rintro e w' ⟨rfl, rfl⟩)
  go_loopw [6] (fun s6 wx => ∃ (k : Nat) (d : Int), k ≤ n ∧ s6 = .int .i64 d ∧ d = (k : Int) - 1 ∧ Hid (MM.degC z q n = MM.degC z q k) ∧ Hid (Below W2.heap.size W2 wx)) (fun s6 _ => (RowKit.intOf s6 + 1).toNat)
  case atStart => exact ⟨n, _, Nat.le_refl _, rfl, rfl, Lib.hid rfl, Lib.hid (Below.refl _ _)⟩
  case round =>
    clear HCF
    obtain ⟨k, d, hk, rfl, hd, HD, HJ⟩ := hrel
    rename_i wr
    cases k with
    | zero =>
      obtain rfl : d = -1 := by omega
      clear hd
      go_wp2_with fail
      go_ret
      exact ⟨by rw [HD.out]; rfl, HB1.out.trans (HJ.out.mono HB1.out.size)⟩
    | succ j =>
      obtain rfl : d = (j : Int) := by omega
      clear hd
      have hC := HC.out j wr HJ.out
      have HE : Hid (MM.cofU n q z j = MM.addU (z j) 0 q) := Lib.hid (by unfold MM.cofU; rw [if_pos (by omega)])
      have hj0 : (0 : Int) ≤ (j : Int) := Int.natCast_nonneg _
      rw [HE.out] at hC
      by_cases h0 : MM.addU (z j) 0 q = 0
      · have HD2 : Hid (MM.degC z q n = MM.degC z q j) := Lib.hid (by rw [HD.out]; show (if _ then _ else _) = _; rw [if_pos h0])
        rw [h0] at hC
        clear h0
        have HCC := Lib.hid hC
        clear hC
        go_wp2_with (go_at_call 43; (with_reducible refine HCC.out.mono ?_); rintro e w' ⟨rfl, nd, rfl⟩)
        go_roundw
        case rel => exact ⟨j, _, by omega, rfl, rfl, HD2, Lib.hid (HJ.out.trans (below_drewN' _ _ _))⟩
        case measure => simp [RowKit.intOf]
      · have HD2 : Hid (MM.degC z q n = j) := Lib.hid (by rw [HD.out]; show (if _ then _ else _) = _; rw [if_neg h0])
        generalize MM.addU (z j) 0 q = x at *
        have hx : ((x : Int) == 0) = false := by simp; omega
        clear h0
        have HCC := Lib.hid hC
        clear hC
        go_wp2_with (go_at_call 43; (with_reducible refine HCC.out.mono ?_); rintro e w' ⟨rfl, nd, rfl⟩)
        go_ret
        refine ⟨?_, HB1.out.trans ((HJ.out.trans (below_drewN' _ _ _)).mono HB1.out.size)⟩
        rw [HD2.out]
        try rfl

set_option maxHeartbeats 400000 in
theorem sum_bad (ao bo : Option Addr) (la ca lb cb q : Nat) (hq : ¬ MM.Good q) (W : World) :
    Calls Tryd.prog 30 #[.slice ao la ca, .slice bo lb cb, .int .u64 (q : Int)] W fun e w' => e = .returned (.slice none 0 0) ∧ W = w' := by
  have HY := Lib.hid (allow_no q hq)
  clear hq
  go_enter Tryd.func30, Tryd.ntmps30
  go_wp2_with (go_at_call 39; (with_reducible refine (HY.out _).mono ?_); rintro e w' ⟨rfl, rfl⟩)
  go_ret
  exact ⟨rfl, rfl⟩
/-- Two readers of coefficients, laid one behind the other. -/
theorem coefs_two (ao bo : Option Addr) (la ca lb cb q : Nat) (W : World) :
    ∃ W2, (((W.alloc (.cells #[.slice ao la ca] 22)).alloc (.cells #[.int .u64 (q : Int)] 23)).alloc (.cells #[.slice bo lb cb] 22)).alloc (.cells #[.int .u64 (q : Int)] 23) = W2 ∧ Below W.heap.size W W2 ∧
      Box W2 W.heap.size 22 (.slice ao la ca) ∧ Box W2 (W.heap.size + 1) 23 (.int .u64 (q : Int)) ∧ Box W2 (W.heap.size + 1 + 1) 22 (.slice bo lb cb) ∧ Box W2 (W.heap.size + 1 + 1 + 1) 23 (.int .u64 (q : Int)) := by
  obtain ⟨W1, h1⟩ : ∃ W1, W.alloc (.cells #[.slice ao la ca] 22) = W1 := ⟨_, rfl⟩
  obtain ⟨W2, h2⟩ : ∃ W2, W1.alloc (.cells #[.int .u64 (q : Int)] 23) = W2 := ⟨_, rfl⟩
  obtain ⟨W3, h3⟩ : ∃ W3, W2.alloc (.cells #[.slice bo lb cb] 22) = W3 := ⟨_, rfl⟩
  obtain ⟨W4, h4⟩ : ∃ W4, W3.alloc (.cells #[.int .u64 (q : Int)] 23) = W4 := ⟨_, rfl⟩
  have b1 : Below W.heap.size W W1 := h1 ▸ below_box _ _
  have b2 : Below W1.heap.size W1 W2 := h2 ▸ below_box _ _
  have b3 : Below W2.heap.size W2 W3 := h3 ▸ below_box _ _
  have b4 : Below W3.heap.size W3 W4 := h4 ▸ below_box _ _
  have s1 : W1.heap.size = W.heap.size + 1 := by rw [← h1, World.size_alloc]
  have s2 : W2.heap.size = W.heap.size + 1 + 1 := by rw [← h2, World.size_alloc, s1]
  have s3 : W3.heap.size = W.heap.size + 1 + 1 + 1 := by rw [← h3, World.size_alloc, s2]
  have b24 : Below W2.heap.size W2 W4 := b3.trans (b4.mono b3.size)
  have b14 : Below W1.heap.size W1 W4 := b2.trans (b24.mono b2.size)
  have b04 : Below W.heap.size W W4 := b1.trans (b14.mono b1.size)
  have x1 : Box W4 W.heap.size 22 (.slice ao la ca) := Box.below (W := W1) (by rw [← h1]; exact Box.new _ _ _) b14
  have x2 : Box W4 (W.heap.size + 1) 23 (.int .u64 (q : Int)) := Box.below (W := W2) (by rw [← h2, ← s1]; exact Box.new _ _ _) b24
  have x3 : Box W4 (W.heap.size + 1 + 1) 22 (.slice bo lb cb) := Box.below (W := W3) (by rw [← h3, ← s2]; exact Box.new _ _ _) b4
  have x4 : Box W4 (W.heap.size + 1 + 1 + 1) 23 (.int .u64 (q : Int)) := by rw [← h4, ← s3]; exact Box.new _ _ _
  exact ⟨W4, by rw [h1, h2, h3, h4], b04, x1, x2, x3, x4⟩

set_option maxHeartbeats 4000000 in
theorem sum_good (ao bo : Option Addr) (la ca lb cb q : Nat) (a b : Nat → Nat) (hla : la ≤ 1000000) (hlb : lb ≤ 1000000) (hq : MM.Good q) (W : World) (ha : Rd W ao la a) (hb : Rd W bo lb b) :
    Calls Tryd.prog 30 #[.slice ao la ca, .slice bo lb cb, .int .u64 (q : Int)] W fun e w' => e = .returned (.slice (some ⟨W.heap.size, 0, none⟩) (max la lb) (max la lb)) ∧ Mine W W.heap.size (max la lb) (MM.sumU la lb q a b) w' := by
  have HY := Lib.hid (allow_yes q hq)
  obtain ⟨N, hN⟩ : ∃ N, max la lb = N := ⟨_, rfl⟩
  have hNa : la ≤ N := by omega
  have hNb : lb ≤ N := by omega
  have hNo : N ≤ la ∨ N ≤ lb := by omega
  rw [hN]
  have hNI : max (la : Int) (lb : Int) = (N : Int) := by omega
  have HM0 := Mine.made W N
  have hmk := run_made N (by omega)
  obtain ⟨W1, hW1⟩ : ∃ W1, W.alloc (.cells (madeCells (Value.int .u64 0).cells (N * 1)) 23) = W1 := ⟨_, rfl⟩
  obtain ⟨B, hB⟩ : ∃ B, W.heap.size = B := ⟨_, rfl⟩
  rw [hW1] at HM0
  rw [hB] at HM0 ⊢
  have hmk0 : (Instr.makeSlice 22 (.int .i64 (N : Int)) (.int .i64 (N : Int))).run Tryd.prog W = .ok (.slice (some ⟨B, 0, none⟩) N N) W1 := by rw [hmk, hW1, hB]
  have HC1 := Lib.hid (coefs_any ao la ca q W1)
  have HC2 := Lib.hid (coefs_any bo lb cb q ((W1.alloc (.cells #[.slice ao la ca] 22)).alloc (.cells #[.int .u64 (q : Int)] 23)))
  have hWW : Below W.heap.size W W1 := hB ▸ HM0.below
  obtain ⟨W2, hW2, hB2, x1, x2, x3, x4⟩ := coefs_two ao bo la ca lb cb q W1
  have hlt1 := HM0.lt
  have hCA := fun i w (h : Kept B W2 w) (hm : Below W.heap.size W w) => cof_any ao la ca q i _ _ a w (x1.kept h (by omega)) (x2.kept h (by omega)) (ha.below hm)
  have hCB := fun i w (h : Kept B W2 w) (hm : Below W.heap.size W w) => cof_any bo lb cb q i _ _ b w (x3.kept h (by omega)) (x4.kept h (by omega)) (hb.below hm)
  clear x1 x2 x3 x4 hlt1
  rw [hW2] at HC2
  simp only [World.size_alloc] at HC2
  obtain ⟨P, hP⟩ : ∃ P, W1.heap.size = P := ⟨_, rfl⟩
  have HM1 : Hid (Mine W B N (fun _ => 0) W2) := Lib.hid (HM0.step hB2)
  rw [hP] at HC1 HC2 hCA hCB
  have HCA := Lib.hid hCA
  have HCB := Lib.hid hCB
  have HQ := Lib.hid hq
  clear hP hW2 hB2 hCA hCB ha hb hN HM0 hmk hW1 hB hq hWW
  go_enter Tryd.func30, Tryd.ntmps30
  go_wp2_with (first | (go_at_call 39; (with_reducible refine (HY.out _).mono ?_); rintro e w' ⟨rfl, rfl⟩) | (go_at_call 33; (first | (with_reducible refine HC1.out.mono ?_) | (with_reducible refine HC2.out.mono ?_)); rintro e w' ⟨rfl, rfl⟩))
  go_loopw [28] (fun s28 wx => ∃ k : Nat, k ≤ N ∧ s28 = .int .i64 (k : Int) ∧ Hid (Kept B W2 wx) ∧ Hid (Mine W B N (fun j => if j < k then MM.sumU la lb q a b j else 0) wx)) (fun s28 _ => N - (RowKit.intOf s28).toNat)
  case atStart => exact ⟨0, Nat.zero_le _, rfl, Lib.hid (Kept.refl _ _), Lib.hid (HM1.out.congr fun k _ => by simp)⟩
  case round =>
    clear HM1 hmk0 HC1 HC2
    obtain ⟨k, hk, rfl, HK, HJ⟩ := hrel
    rename_i wr
    by_cases hlt : k < N
    · have hA := HCA.out k
      have hB := HCB.out k
      have HA := ret_addU (MM.cofU la q a k) (MM.cofU lb q b k) q
      have hcl : ∀ m, (wr.drewN m).cell? ⟨B, k, none⟩ = some (.int .u64 (0 : Int)) := fun m => by have := (HJ.out.drewN m).cell hlt; simpa using this
      have hfr : ∀ m, (wr.drewN m).frozen? ⟨B, k, none⟩ = false := fun m => (HJ.out.drewN m).free k
      have HCF := Lib.hid (And.intro hcl hfr)
      have HN : ∀ m, Hid (Mine W B N (fun j => if j < k + 1 then MM.sumU la lb q a b j else 0) ((wr.drewN m).setCell ⟨B, k, none⟩ (.int .u64 ((MM.addU (MM.cofU la q a k) (MM.cofU lb q b k) q : Nat) : Int)))) := fun m => Lib.hid ((HJ.out.drewN m).set k _ fun j hj => by
        by_cases e : j = k
        · subst e; rw [if_pos (by omega), if_pos rfl, MM.cofU_good HQ.out, MM.cofU_good HQ.out]; rfl
        · rw [if_neg e]; by_cases h : j < k
          · rw [if_pos (by omega), if_pos h]
          · rw [if_neg (by omega), if_neg h])
      have HNN := Lib.hid HN
      clear HN hcl hfr
      generalize MM.addU (MM.cofU la q a k) (MM.cofU lb q b k) q = x at *
      generalize MM.cofU la q a k = xa at *
      generalize MM.cofU lb q b k = xb at *
      have hHA := Lib.hid hA
      have hHB := Lib.hid hB
      clear hA hB
      have hj0 : (0 : Int) ≤ (k : Int) := Int.natCast_nonneg _
      go_wp2_with (first | (go_at_call 43; (first | ((with_reducible refine (hHA.out wr HK.out HJ.out.below).mono ?_); rintro e w' ⟨rfl, nd, rfl⟩) | ((with_reducible refine (hHB.out _ (HK.out.drewN _) (HJ.out.drewN _).below).mono ?_); rintro e w' ⟨rfl, nd, rfl⟩))) | (go_at_call 35; (with_reducible refine (HA.at _).mono ?_); rintro e w' ⟨rfl, nd, rfl⟩; have hcl1 := HCF.out.1; have hfr1 := HCF.out.2))
      go_roundw
      case rel => exact ⟨k + 1, by omega, by go_num, Lib.hid ((HK.out.drewN _).setCell _ _), HNN.out _⟩
      case measure => simp [RowKit.intOf]; omega
    · obtain rfl : k = N := by omega
      go_wp2_with fail
      go_ret
      exact ⟨rfl, HJ.out.congr fun j hj => by rw [if_pos hj]⟩
end M
end Go.Proofs.YtaogdhpiiclejaaDoor

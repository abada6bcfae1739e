/- The walks of the program's polynomials: what is allowed, a coefficient behind the end, and multiples. -/
import Derived.Test.YtaogdhpiiclejaaDoorMine
import Derived.Test.YtaogdhpiiclejaaDoorPolyMath
namespace Go.Proofs.YtaogdhpiiclejaaDoor
open Go Go.RowKit Go.Lib
namespace M
theorem ret_subU (a b m : Nat) : Ret 29 #[.int .u64 (a : Int), .int .u64 (b : Int), .int .u64 (m : Int)] (.int .u64 ((MM.subU a b m : Nat) : Int)) := by
  unfold MM.subU
  by_cases h : MM.Good m
  · rw [if_pos h]; exact ret_sub a b m _ h.1 h.2 rfl
  · rw [if_neg h]; exact ret_no_sub a b m (MM.good_not h)
theorem ret_invU (a m : Nat) : Ret 28 #[.int .u64 (a : Int), .int .u64 (m : Int)] (.tuple #[.int .u64 ((MM.invU a m : Nat) : Int), .int .i64 (MM.invC a m)]) := by
  unfold MM.invU MM.invC
  by_cases h : MM.Good m
  · by_cases hg : Nat.gcd a m = 1
    · obtain ⟨x, hx⟩ := MM.exists_inv h.1 hg
      rw [if_pos ⟨h, hg⟩, if_pos h, if_pos hg, MM.invm_eq hx]
      exact ret_inv a m x h.1 h.2 hx
    · rw [if_neg (fun h' => hg h'.2), if_pos h, if_neg hg]
      exact ret_inv_none a m h.1 h.2 hg
  · rw [if_neg (fun h' => h h'.1), if_neg h]
    exact ret_inv_no a m (MM.good_not h)

theorem allow_yes (q : Nat) (h : MM.Good q) (w : World) : Calls Tryd.prog 39 #[.int .u64 (q : Int)] w fun e w' => e = .returned (.bool true) ∧ w = w' := by
  have h1 : (0 : Int) < (q : Int) := by have := h.1; omega
  have h2 : decide ((q : Int) ≤ 2305843009213693952) = true := decide_eq_true (by have := h.2; omega)
  clear h
  go_enter Tryd.func39, Tryd.ntmps39
  go_wp2_with fail
  go_ret
  exact ⟨rfl, rfl⟩
theorem allow_no (q : Nat) (h : ¬ MM.Good q) (w : World) : Calls Tryd.prog 39 #[.int .u64 (q : Int)] w fun e w' => e = .returned (.bool false) ∧ w = w' := by
  rcases MM.good_not h with h0 | h0
  · have h1 : ¬ (0 : Int) < (q : Int) := by omega
    clear h h0
    go_enter Tryd.func39, Tryd.ntmps39
    go_wp2_with fail
    go_ret
    exact ⟨rfl, rfl⟩
  · have h1 : (0 : Int) < (q : Int) := by omega
    have h2 : decide ((q : Int) ≤ 2305843009213693952) = false := decide_eq_false (by omega)
    clear h h0
    go_enter Tryd.func39, Tryd.ntmps39
    go_wp2_with fail
    go_ret
    exact ⟨rfl, rfl⟩

/-- The coefficients' reader: a closure over two boxes. -/
def Box (W : World) (B : Nat) (t : TypeId) (v : Value) : Prop := W.heap[B]? = some (.cells #[v] t (0, 0))
theorem Box.below {W W' : World} {B : Nat} {t : TypeId} {v : Value} (h : Box W B t v) (hb : Below W.heap.size W W') : Box W' B t v := (hb.block B (row_lt h)).trans h
theorem Box.kept {W w : World} {B P : Nat} {t : TypeId} {v : Value} (h : Box W P t v) (hk : Kept B W w) (hne : P ≠ B) : Box w P t v := (hk P (row_lt h) hne).trans h
theorem Box.cell {W : World} {B : Nat} {t : TypeId} {v : Value} (h : Box W B t v) : W.cell? ⟨B, 0, none⟩ = some v := by rw [cell_of_row W B 0 _ _ _ h]; rfl
theorem Box.free {W : World} {B : Nat} {t : TypeId} {v : Value} (h : Box W B t v) : W.frozen? ⟨B, 0, none⟩ = false := by simp [World.frozen?, show W.heap[B]? = _ from h]
theorem Box.new (W : World) (t : TypeId) (v : Value) : Box (W.alloc (.cells #[v] t)) W.heap.size t v := heap_alloc_new _ _

theorem coefs_any (ao : Option Addr) (n cap q : Nat) (w : World) :
    Calls Tryd.prog 33 #[.slice ao n cap, .int .u64 (q : Int)] w fun e w' =>
      e = .returned (.func (.func 43) #[] #[.pointer (some ⟨w.heap.size, 0, none⟩), .pointer (some ⟨w.heap.size + 1, 0, none⟩)]) ∧ (w.alloc (.cells #[.slice ao n cap] 22)).alloc (.cells #[.int .u64 (q : Int)] 23) = w' := by
  go_enter Tryd.func33, Tryd.ntmps33
  go_wp2_with fail
  go_ret
  exact ⟨rfl, rfl⟩
theorem addU_zero (x q : Nat) (hq : MM.Good q) : MM.addU x 0 q = x % q := by rw [MM.addU_of hq, Nat.add_zero]
set_option maxHeartbeats 1000000 in
/-- A coefficient, where there are numbers; behind the end always 0. -/
theorem coef_in (ao : Option Addr) (n cap q i P Q : Nat) (z : Nat → Nat) (hi : i < n) (w : World) (hP : Box w P 22 (.slice ao n cap)) (hQ : Box w Q 23 (.int .u64 (q : Int))) (hr : Rd w ao n z) :
    Calls Tryd.prog 43 #[.int .i64 (i : Int), .pointer (some ⟨P, 0, none⟩), .pointer (some ⟨Q, 0, none⟩)] w fun e w' => e = .returned (.int .u64 ((MM.addU (z i) 0 q : Nat) : Int)) ∧ ∃ m, w' = w.drewN m := by
  obtain ⟨ad, rfl, hc⟩ := hr.at_ hi
  have hp := hP.cell
  have hq := hQ.cell
  have hle : ¬ ((n : Int) ≤ (i : Int)) := by omega
  have h0 : (0 : Int) ≤ (i : Int) := Int.natCast_nonneg _
  have h1 : (i : Int) < (n : Int) := by omega
  have HA := ret_addU (z i) 0 q
  generalize MM.addU (z i) 0 q = r at *
  clear hP hQ hr
  go_enter Tryd.func43, Tryd.ntmps43
  go_upto_region 3 with fail
  go_quiet ((go_at_call 35; exact HA.quiet))
  go_wp2_with fail
  go_ret
  exact ⟨rfl, _, rfl⟩
theorem coef_out (ao : Option Addr) (n cap i P Q : Nat) (hi : n ≤ i) (w : World) (hP : Box w P 22 (.slice ao n cap)) :
    Calls Tryd.prog 43 #[.int .i64 (i : Int), .pointer (some ⟨P, 0, none⟩), .pointer (some ⟨Q, 0, none⟩)] w fun e w' => e = .returned (.int .u64 0) ∧ ∃ m, w' = w.drewN m := by
  have hp := hP.cell
  have hle : (n : Int) ≤ (i : Int) := by omega
  clear hP
  go_enter Tryd.func43, Tryd.ntmps43
  go_wp2_with fail
  go_ret
  exact ⟨rfl, 0, rfl⟩
/-- The coefficient at a place, where there are numbers modulo q. -/
theorem coef_any (ao : Option Addr) (n cap q i P Q : Nat) (z : Nat → Nat) (hq : MM.Good q) (w : World) (hP : Box w P 22 (.slice ao n cap)) (hQ : Box w Q 23 (.int .u64 (q : Int))) (hr : Rd w ao n z) :
    Calls Tryd.prog 43 #[.int .i64 (i : Int), .pointer (some ⟨P, 0, none⟩), .pointer (some ⟨Q, 0, none⟩)] w fun e w' => e = .returned (.int .u64 ((MM.atU n q z i : Nat) : Int)) ∧ ∃ m, w' = w.drewN m := by
  by_cases hi : i < n
  · have e : MM.atU n q z i = MM.addU (z i) 0 q := by unfold MM.atU; rw [if_pos hi, addU_zero _ _ hq]
    rw [e]; exact coef_in ao n cap q i P Q z hi w hP hQ hr
  · have e : MM.atU n q z i = 0 := by unfold MM.atU; rw [if_neg hi]
    rw [e]; exact coef_out ao n cap i P Q (by omega) w hP

set_option maxHeartbeats 2000000 in
theorem scale_good (ao : Option Addr) (n cap f q : Nat) (z : Nat → Nat) (hn : n ≤ 1000000) (hz : ∀ k, z k < 18446744073709551616) (hf : f < 18446744073709551616) (hq : MM.Good q) (W : World) (hr : Rd W ao n z) :
    Calls Tryd.prog 31 #[.slice ao n cap, .int .u64 (f : Int), .int .u64 (q : Int)] W fun e w' => e = .returned (.slice (some ⟨W.heap.size, 0, none⟩) n n) ∧ Mine W W.heap.size n (MM.scaleU f q z) w' := by
  have HR := Lib.hid hr
  have HZ := Lib.hid hz
  have HY := Lib.hid (allow_yes q hq)
  have HM0 := Mine.made W n
  have hmk := run_made n (by omega)
  obtain ⟨W1, hW1⟩ : ∃ W1, W.alloc (.cells (madeCells (Value.int .u64 0).cells (n * 1)) 23) = W1 := ⟨_, rfl⟩
  obtain ⟨B, hB⟩ : ∃ B, W.heap.size = B := ⟨_, rfl⟩
  rw [hW1] at HM0
  rw [hB] at HM0 ⊢
  have hmk0 : (Instr.makeSlice 22 (.int .i64 (n : Int)) (.int .i64 (n : Int))).run Tryd.prog W = .ok (.slice (some ⟨B, 0, none⟩) n n) W1 := by rw [hmk, hW1, hB]
  have HM1 : Hid (Mine W B n (fun _ => 0) W1) := Lib.hid HM0
  clear hr hq hz HM0 hmk hW1 hB
  go_enter Tryd.func31, Tryd.ntmps31
  go_wp2_with (go_at_call 39; (with_reducible refine (HY.out _).mono ?_); rintro e w' ⟨rfl, rfl⟩)
  go_loopw [18] (fun s18 wx => ∃ k : Nat, k ≤ n ∧ s18 = .int .i64 (k : Int) ∧ Hid (Mine W B n (fun j => if j < k then MM.scaleU f q z j else 0) wx)) (fun s18 _ => n - (RowKit.intOf s18).toNat)
  case atStart => exact ⟨0, Nat.zero_le _, rfl, Lib.hid (HM1.out.congr fun k _ => by simp)⟩
  case round =>
    clear HM1 hmk0
    obtain ⟨k, hk, rfl, HJ⟩ := hrel
    rename_i wr
    by_cases hlt : k < n
    · obtain ⟨ad, rfl, hc⟩ := (HR.out.below HJ.out.below).at_ hlt
      have HM := ret_mulU (z k) f q (HZ.out k) hf
      have hcl : ∀ m, (wr.drewN m).cell? ⟨B, k, none⟩ = some (.int .u64 (0 : Int)) := fun m => by have := (HJ.out.drewN m).cell hlt; simpa using this
      have hfr : ∀ m, (wr.drewN m).frozen? ⟨B, k, none⟩ = false := fun m => (HJ.out.drewN m).free k
      have HN : ∀ m, Hid (Mine W B n (fun j => if j < k + 1 then MM.scaleU f q z j else 0) ((wr.drewN m).setCell ⟨B, k, none⟩ (.int .u64 ((MM.mulU (z k) f q : Nat) : Int)))) := fun m => Lib.hid ((HJ.out.drewN m).set k _ fun j hj => by
        by_cases e : j = k
        · subst e; rw [if_pos (by omega), if_pos rfl]; rfl
        · rw [if_neg e]; by_cases h : j < k
          · rw [if_pos (by omega), if_pos h]
          · rw [if_neg (by omega), if_neg h])
      have HNN := Lib.hid HN
      clear HN
      generalize MM.mulU (z k) f q = x at *
      go_wp2_with (go_at_call 23; (with_reducible refine (HM.at _).mono ?_); rintro e w' ⟨rfl, nd, rfl⟩; have hcl1 := hcl nd; have hfr1 := hfr nd; clear hcl hfr)
      go_roundw
      case rel => exact ⟨k + 1, by omega, by go_num, HNN.out _⟩
      case measure => simp [RowKit.intOf]; omega
    · obtain rfl : k = n := by omega
      go_wp2_with fail
      go_ret
      exact ⟨rfl, HJ.out.congr fun j hj => by rw [if_pos hj]⟩
end M
end Go.Proofs.YtaogdhpiiclejaaDoor

/- The walk of the points that a polynomial misses. -/
import Derived.Test.YtaogdhpiiclejaaDoorRobW2
namespace Go.Proofs.YtaogdhpiiclejaaDoor
open Go Go.RowKit Go.Lib Go.Shelf
namespace MM
def missL (q m n : Nat) (z y c : Nat → Nat) : List Nat := (List.range n).filter fun i => evalU c (z i) q m != y i % q
theorem missL_succ (q m n : Nat) (z y c : Nat → Nat) : missL q m (n + 1) z y c = if evalU c (z n) q m = y n % q then missL q m n z y c else missL q m n z y c ++ [n] := by
  unfold missL
  rw [List.range_succ, List.filter_append]
  by_cases h : evalU c (z n) q m = y n % q
  · simp [h]
  · simp [h]
theorem missL_len (q m n : Nat) (z y c : Nat → Nat) : (missL q m n z y c).length ≤ n := by
  have := (List.range n).length_filter_le fun i => evalU c (z i) q m != y i % q
  unfold missL; simpa using this
end MM
namespace M
attribute [local go_sem] Oper.semAt_some
set_option maxRecDepth 100000 in
set_option maxHeartbeats 4000000 in
theorem missed_any (co xo yo : Option Addr) (m n cc cx cy q : Nat) (c z y : Nat → Nat) (hm : m ≤ 1000) (hn : n ≤ 1000) (hq : 0 < q) (hz : ∀ k, z k < 18446744073709551616) (hy : ∀ k, y k < 18446744073709551616) (w : World) (hc : Rd w co m c) (hr : Rd w xo n z) (hs : Rd w yo n y) :
    Calls Tryd.prog 17 #[.slice co m cc, .slice xo n cx, .slice yo n cy, .int .u64 (q : Int)] w fun e w' => ∃ v, e = .returned v ∧ OwnI w w.heap.size v (MM.missL q m n z y c) w' := by
  have HC := Lib.hid hc
  have HR := Lib.hid hr
  have HS := Lib.hid hs
  have HZ := Lib.hid hz
  have HY := Lib.hid hy
  have hq2 : q ≠ 0 := by omega
  clear hc hr hs hz hy
  go_enter Tryd.func17, Tryd.ntmps17
  go_upto_region 3 with fail
  go_loopw [9, 14] (fun v i wr => ∃ k : Nat, k ≤ n ∧ i = .int .i64 (k : Int) ∧ Hid (OwnI w w.heap.size v (MM.missL q m k z y c) wr)) (fun _ i _ => n - (RowKit.intOf i).toNat)
  case atStart => exact ⟨0, Nat.zero_le _, rfl, Lib.hid (OwnI.start w)⟩
  case round =>
    obtain ⟨k, hk, rfl, HJ⟩ := hrel
    by_cases hlt : k < n
    · obtain ⟨adx, rfl, hcx⟩ := (HR.out.below HJ.out.below).at_ hlt
      obtain ⟨ady, rfl, hcy⟩ := (HS.out.below HJ.out.below).at_ hlt
      have hcw := HC.out.below HJ.out.below
      have HEV : Hid (∀ W', Below wr.heap.size wr W' → Calls Tryd.prog 18 #[.slice co m cc, .int .u64 ((z k : Nat) : Int), .int .u64 (q : Int)] W' fun e w' => e = .returned (.int .u64 ((MM.evalU c (z k) q m : Nat) : Int)) ∧ Below W'.heap.size W' w') :=
        Lib.hid fun W' hb => by have := eval_any co m cc (z k) q c (by omega) (HZ.out k) W' (hcw.below hb); rwa [MM.horn_eval] at this
      have HSU := Lib.hid (MM.missL_succ q m k z y c)
      have HLE := Lib.hid (MM.missL_len q m k z y c)
      have hy0 := HY.out k
      have hk0 : (0 : Int) ≤ (k : Int) := Int.natCast_nonneg _
      have hk1 : (k : Int) < (n : Int) := by omega
      generalize MM.missL q m k z y c = l at *
      generalize MM.evalU c (z k) q m = ev at *
      clear hcw
      go_upto_region 5 with fail
      refine RK.region (Below wr.heap.size wr) 100 (by kernel_rfl) ?_
      have HS0 : Below wr.heap.size wr wr.drew := below_drewN' wr 1 _
      refine RK.Any.take 0 19 (.slice co m cc) rfl rfl (by kernel_rfl) (by kernel_rfl) (by kernel_rfl) (by kernel_rfl) (fun _ _ _ h => h) (by rfl) (fun W' hb => ?_) HS0 ?_
      · go_simp
      simp only [List.setIfInBounds_toArray, List.set_cons_zero, List.set_cons_succ]
      refine RK.Any.take 1 20 (.int .u64 ((z k : Nat) : Int)) rfl rfl (by kernel_rfl) (by kernel_rfl) (by kernel_rfl) (by kernel_rfl) (fun _ _ _ h => h) (by rfl) (fun W' hb => ?_) HS0 ?_
      · go_simp
      simp only [List.setIfInBounds_toArray, List.set_cons_zero, List.set_cons_succ]
      refine RK.Any.take 2 21 (.int .u64 (q : Int)) rfl rfl (by kernel_rfl) (by kernel_rfl) (by kernel_rfl) (by kernel_rfl) (fun _ _ _ h => h) (by rfl) (fun W' hb => ?_) HS0 ?_
      · go_simp
      simp only [List.setIfInBounds_toArray, List.set_cons_zero, List.set_cons_succ]
      refine RK.Any.take 4 23 (.slice (some ady) n cy) rfl rfl (by kernel_rfl) (by kernel_rfl) (by kernel_rfl) (by kernel_rfl) (fun _ _ _ h => h) (by rfl) (fun W' hb => ?_) HS0 ?_
      · go_simp
      simp only [List.setIfInBounds_toArray, List.set_cons_zero, List.set_cons_succ]
      refine RK.Any.take 5 24 (.int .i64 (k : Int)) rfl rfl (by kernel_rfl) (by kernel_rfl) (by kernel_rfl) (by kernel_rfl) (fun _ _ _ h => h) (by rfl) (fun W' hb => ?_) HS0 ?_
      · go_simp
      simp only [List.setIfInBounds_toArray, List.set_cons_zero, List.set_cons_succ]
      refine RK.Any.take 6 25 (.pointer (some (ady.add k))) rfl rfl (by kernel_rfl) (by kernel_rfl) (by kernel_rfl) (by kernel_rfl) (fun _ _ _ h => h) (by rfl) (fun W' hb => ?_) HS0 ?_
      · go_simp
      simp only [List.setIfInBounds_toArray, List.set_cons_zero, List.set_cons_succ]
      refine RK.Any.take 7 26 (.int .u64 ((y k : Nat) : Int)) rfl rfl (by kernel_rfl) (by kernel_rfl) (by kernel_rfl) (by kernel_rfl) (fun _ _ _ h => h) (by rfl) (fun W' hb => ?_) HS0 ?_
      · have c : W'.cell? (ady.add k) = some (.int .u64 ((y k : Nat) : Int)) := (hb.cell (World.block_lt_of_cell? wr _ hcy)).trans hcy
        go_simp
      simp only [List.setIfInBounds_toArray, List.set_cons_zero, List.set_cons_succ]
      refine RK.Any.take 8 27 (.int .u64 (q : Int)) rfl rfl (by kernel_rfl) (by kernel_rfl) (by kernel_rfl) (by kernel_rfl) (fun _ _ _ h => h) (by rfl) (fun W' hb => ?_) HS0 ?_
      · go_simp
      simp only [List.setIfInBounds_toArray, List.set_cons_zero, List.set_cons_succ]
      refine RK.Any.take 9 28 (.int .u64 ((y k % q : Nat) : Int)) rfl rfl (by kernel_rfl) (by kernel_rfl) (by kernel_rfl) (by kernel_rfl) (fun _ _ _ h => h) (by rfl) (fun W' hb => ?_) HS0 ?_
      · go_simp
        exact (Int.tmod_eq_emod_of_nonneg (Int.natCast_nonneg _)).trans rfl
      simp only [List.setIfInBounds_toArray, List.set_cons_zero, List.set_cons_succ]
      refine RK.Any.call 3 22 18 #[.slice co m cc, .int .u64 ((z k : Nat) : Int), .int .u64 (q : Int)] (by kernel_rfl) rfl rfl (by rfl) (by go_simp) (Calls.mono (HEV.out _ HS0) ?_)
      rintro e w1 ⟨rfl, hb1⟩
      have HS1 : Below wr.heap.size wr w1 := HS0.trans (hb1.mono HS0.size)
      refine ⟨_, rfl, fun _ => HS1, ?_⟩
      simp only [List.setIfInBounds_toArray, List.set_cons_zero, List.set_cons_succ]
      refine RK.Any.take 10 29 (.bool ((ev : Int) != ((y k % q : Nat) : Int))) rfl rfl (by kernel_rfl) (by kernel_rfl) (by kernel_rfl) (by kernel_rfl) (fun _ _ _ h => h) (by rfl) (fun W' hb => ?_) HS1 ?_
      · go_simp
      simp only [List.setIfInBounds_toArray, List.set_cons_zero, List.set_cons_succ]
      refine RK.Any.done (by kernel_rfl) ?_
      have HJ1 := Lib.hid (HJ.out.step HS1)
      clear HEV HS1 HS0 HJ hb1 hcx hcy hy0
      by_cases he : ev = y k % q
      · rw [if_pos he] at HSU
        have e1 : ((ev : Int) != ((y k % q : Nat) : Int)) = false := by rw [he]; simp
        rw [e1]
        clear he e1
        go_wp2_with fail
        go_roundw
        case rel => exact ⟨k + 1, by omega, by go_num, by rw [HSU.out]; exact HJ1⟩
        case measure => simp [RowKit.intOf]; omega
      · rw [if_neg he] at HSU
        have e1 : ((ev : Int) != ((y k % q : Nat) : Int)) = true := by simp; omega
        rw [e1]
        obtain ⟨v2, w2, hr2, ho2⟩ := (HJ1.out.alloc (.cells #[.int .i64 (k : Int)] 3)).more 1 (one_set w1 k) (by have := HLE.out; simp; omega)
        have HO := Lib.hid ho2
        clear he e1 ho2
        go_wp2_with (at_builtin; refine Lib.wpList_append_run _ rfl _ _ _ _ rfl _ _ rfl rfl _ _ hr2 ?_)
        go_roundw
        case rel => exact ⟨k + 1, by omega, by go_num, by rw [HSU.out]; exact HO⟩
        case measure => simp [RowKit.intOf]; omega
    · obtain rfl : k = n := by omega
      go_wp2_with fail
      go_ret
      exact ⟨_, rfl, HJ.out⟩
end M
end Go.Proofs.YtaogdhpiiclejaaDoor

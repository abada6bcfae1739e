/- The closed statement of layer 4, call by call. -/
import Derived.Test.YtflkmjihgfjofaaDoorLaw04b
namespace Go.Proofs.YtflkmjihgfjofaaDoor
open Go Go.RowKit Go.Lib
namespace MM
def badQ : List Nat := [0, 1, 4, 9, 91, 2305843009213693952, 2305843009213693953, 18446744073709551557]
theorem badQ_not : ∀ k, k < 8 → primeF (badQ.getD k 0) = false := by decide +kernel
theorem sol_great : solE 2305843009213693951 [1] [[3]] = [1537228672809129301] := by decide +kernel
theorem some_great : ((eqsE 2305843009213693951 [1] [[3]]).2 (widU [[3]])).isNone = true := by decide +kernel
end MM
namespace M
/-- Two rows of nothing. -/
theorem nrows00 (W : World) (ao : Option Addr) (c b : Nat) (hb : W.heap.size = b) : NRows (W.alloc (.cells #[.slice ao 0 c, .slice none 0 0] 25)) (some ⟨b, 0, none⟩) [[], []] := fun j hj => by
  subst hb
  have hc := fun j => cell_of_row _ W.heap.size j _ _ _ (heap_alloc_new W (.cells #[.slice ao 0 c, .slice none 0 0] 25))
  match j, hj with
  | 0, _ => exact ⟨_, ao, c, rfl, hc 0, rd_none _ _ _⟩
  | 1, _ => exact ⟨_, none, 0, rfl, hc 1, rd_none _ _ _⟩
theorem badQ_row (W : World) : Row (W.alloc (.cells #[.int .u64 0, .int .u64 1, .int .u64 4, .int .u64 9, .int .u64 91, .int .u64 2305843009213693952, .int .u64 2305843009213693953, .int .u64 18446744073709551557] 24)) ⟨W.heap.size, 0, none⟩ 8 (MM.ofL MM.badQ) := row_at MM.badQ rfl rfl
set_option maxHeartbeats 16000000 in
set_option maxRecDepth 100000 in
theorem names_any (w : World) (hl : Laid w) : Calls Tryd.prog 3 #[] w fun e w' => e = .returned (.bool true) ∧ Below w.heap.size w w' := by
  have HS := Lib.hid (St.mk (Below.refl _ w) hl)
  clear hl
  go_enter Tryd.func3, Tryd.ntmps3
  go_wp2_with fail
  refine (works_any _ HS.out.laid).mono ?_
  rintro e w1 ⟨rfl, hb⟩
  have HS1 := Lib.hid (HS.out.step hb)
  clear hb HS
  go_wp2_with fail
  refine (rank_is [] 7 0 (by decide +kernel) (by decide +kernel) (by decide +kernel) _ _ _ _ rfl HS1.out.laid (nrows_nil _ _)).mono ?_
  rintro e w2 ⟨rfl, hb⟩
  have HS2 := Lib.hid (HS1.out.step hb)
  clear hb HS1
  go_wp2_with fail
  refine (rank_is [[], []] 7 0 (by decide +kernel) (by decide +kernel) (by decide +kernel) _ _ _ _ rfl ((HS2.out.alloc _).alloc _).laid (nrows00 _ _ _ _ (by simp))).mono ?_
  rintro e w3 ⟨rfl, hb⟩
  have HS3 := Lib.hid (((HS2.out.alloc _).alloc _).step hb)
  clear hb HS2
  go_wp2_with fail
  refine (rank_is [[7, 14]] 7 0 (by decide +kernel) (by decide +kernel) (by decide +kernel) _ _ _ _ rfl ((HS3.out.alloc _).alloc _).laid (nrows1 (row_at [7, 14] rfl rfl) rfl (by simp))).mono ?_
  rintro e w4 ⟨rfl, hb⟩
  have HS4 := Lib.hid (((HS3.out.alloc _).alloc _).step hb)
  clear hb HS3
  go_wp2_with fail
  refine (rank_is [[1], [0, 1], [0, 0, 1]] 2 3 (by decide +kernel) (by decide +kernel) (by decide +kernel) _ _ _ _ rfl ((((HS4.out.alloc _).alloc _).alloc _).alloc _).laid (nrows3 (((row_at [1] rfl rfl).alloc _).alloc _) ((row_at [0, 1] (by simp) rfl).alloc _) (row_at [0, 0, 1] (by simp) rfl) rfl rfl rfl (by simp))).mono ?_
  rintro e w5 ⟨rfl, hb⟩
  have HS5 := Lib.hid (((((HS4.out.alloc _).alloc _).alloc _).alloc _).step hb)
  clear hb HS4
  go_wp2_with fail
  refine (rank_is [[1, 1], [1, 2305843009213693953]] 3 2 (by decide +kernel) (by decide +kernel) (by decide +kernel) _ _ _ _ rfl (((HS5.out.alloc _).alloc _).alloc _).laid (nrows2 ((row_at [1, 1] rfl rfl).alloc _) (row_at [1, 2305843009213693953] (by simp) rfl) rfl rfl (by simp))).mono ?_
  rintro e w6 ⟨rfl, hb⟩
  have HS6 := Lib.hid ((((HS5.out.alloc _).alloc _).alloc _).step hb)
  have HQ6 := Lib.hid (badQ_row w6)
  have HQS := Lib.hid (HS6.out.alloc (.cells #[.int .u64 0, .int .u64 1, .int .u64 4, .int .u64 9, .int .u64 91, .int .u64 2305843009213693952, .int .u64 2305843009213693953, .int .u64 18446744073709551557] 24))
  clear hb HS5
  go_wp2_with fail
  generalize w6.alloc (Obj.cells #[.int .u64 0, .int .u64 1, .int .u64 4, .int .u64 9, .int .u64 91, .int .u64 2305843009213693952, .int .u64 2305843009213693953, .int .u64 18446744073709551557] 24) = W7 at *
  generalize w6.heap.size = Q at *
  clear HS6
  have HJ0 := Lib.hid (And.intro HQS.out HQ6.out)
  clear HQS HQ6
  go_loopw [54] (fun s54 wx => ∃ k : Nat, k ≤ 8 ∧ s54 = .int .i64 (k : Int) ∧ Hid (St w wx ∧ Row wx ⟨Q, 0, none⟩ 8 (MM.ofL MM.badQ))) (fun s54 _ => 8 - (RowKit.intOf s54).toNat)
  case atStart => exact ⟨0, by omega, rfl, HJ0⟩
  case round =>
    clear HJ0
    obtain ⟨k, hk, rfl, HJ⟩ := hrel
    obtain ⟨wo, hwo⟩ : ∃ wo : World, wo = wr := ⟨_, rfl⟩
    subst hwo
    by_cases hlt : k < 8
    · have hkI : (k : Int) < 8 := by omega
      have hk0 : (0 : Int) ≤ (k : Int) := Int.natCast_nonneg _
      have hcq := row_cell HJ.out.2 hlt
      have HP := Lib.hid (MM.prime_is (MM.badQ_not k hlt))
      have HS0 := Lib.hid HJ.out.1
      have HQ0 := Lib.hid HJ.out.2
      change wo.cell? ⟨Q, k, none⟩ = some (.int .u64 ((MM.badQ.getD k 0 : Nat) : Int)) at hcq
      clear HJ
      generalize MM.badQ.getD k 0 = q at *
      go_wp2_with fail
      refine (solve_no _ _ _ _ _ _ q HP.out _ (((HS0.out.alloc _).alloc _).alloc _).laid).mono ?_
      rintro e u1 ⟨rfl, hb⟩
      have HS1 := Lib.hid ((((HS0.out.alloc _).alloc _).alloc _).step hb)
      have HQ1 := Lib.hid ((((HQ0.out.alloc _).alloc _).alloc _).below hb)
      clear hb HS0 HQ0 hcq
      go_wp2_with fail
      refine (rank_no _ _ _ q HP.out _ ((HS1.out.alloc _).alloc _).laid).mono ?_
      rintro e u2 ⟨rfl, hb⟩
      have HS2 := Lib.hid (((HS1.out.alloc _).alloc _).step hb)
      have HQ2 := Lib.hid (((HQ1.out.alloc _).alloc _).below hb)
      clear hb HS1 HQ1
      go_wp2_with fail
      refine (hangs_no _ _ _ _ _ _ q HP.out _ (((HS2.out.alloc _).alloc _).alloc _).laid).mono ?_
      rintro e u3 ⟨rfl, hb⟩
      have HS3 := Lib.hid ((((HS2.out.alloc _).alloc _).alloc _).step hb)
      have HQ3 := Lib.hid ((((HQ2.out.alloc _).alloc _).alloc _).below hb)
      clear hb HS2 HQ2
      go_wp2_with fail
      refine (hangs_no _ _ _ _ _ _ q HP.out _ HS3.out.laid).mono ?_
      rintro e u4 ⟨rfl, hb⟩
      have HJ := Lib.hid (And.intro (HS3.out.step hb) (HQ3.out.below hb))
      clear hb HS3 HQ3 HP
      go_wp2_with fail
      go_roundw
      case rel => exact ⟨k + 1, by omega, by go_num, HJ⟩
      case measure => simp [RowKit.intOf]; omega
    · have hkI : ¬ (k : Int) < 8 := by omega
      have HS0 := Lib.hid HJ.out.1
      clear HJ
      go_wp2_with fail
      refine (solve_is [] [] [] 5 (by decide +kernel) (by decide +kernel) (by decide) (by decide +kernel) (by decide +kernel) _ _ _ _ _ _ _ 0 rfl rfl (by decide +kernel) HS0.out.laid (nrows_nil _ _) (rd_none _ _ _)).mono ?_
      rintro e u1 ⟨X, rfl, _, hb⟩
      have HS1 := Lib.hid (HS0.out.step hb)
      clear hb HS0
      go_wp2_with fail
      refine (solve_many _ _ _ _ _ _ 5 (by decide) _ (HS1.out.alloc _).laid).mono ?_
      rintro e u2 ⟨rfl, hb⟩
      have HS2 := Lib.hid ((HS1.out.alloc _).step hb)
      clear hb HS1
      go_wp2_with fail
      refine (solve_is [[1, 1, 0], [0, 0, 2]] [4] [4, 0, 0] 5 (by decide +kernel) (by decide +kernel) (by decide) (by decide +kernel) (by decide +kernel) _ _ _ _ _ _ _ 3 rfl rfl (by decide +kernel) ((((HS2.out.alloc _).alloc _).alloc _).alloc _).laid ((nrows2 ((row_at [1, 1, 0] rfl rfl).alloc _) (row_at [0, 0, 2] (by simp) rfl) rfl rfl (by simp)).alloc _) (rd_at [4] (by simp) rfl)).mono ?_
      rintro e u3 ⟨Y, rfl, hy, hb⟩
      have HS3 := Lib.hid (((((HS2.out.alloc _).alloc _).alloc _).alloc _).step hb)
      have HY3 := Lib.hid hy
      clear hb HS2 hy
      go_wp2_with fail
      refine (solve_none [[0, 0]] [1] 5 (by decide +kernel) (by decide +kernel) (by decide) (by decide +kernel) _ _ _ _ _ _ _ rfl rfl (((HS3.out.alloc _).alloc _).alloc _).laid ((nrows1 (row_at [0, 0] rfl rfl) rfl (by simp)).alloc _) (rd_at [1] (by simp) rfl)).mono ?_
      rintro e u4 ⟨rfl, hb⟩
      have HS4 := Lib.hid ((((HS3.out.alloc _).alloc _).alloc _).step hb)
      have HY4 := Lib.hid ((((HY3.out.alloc _).alloc _).alloc _).below hb)
      clear hb HS3 HY3
      go_wp2_with fail
      refine (solve_is [[3]] [1] [1537228672809129301] 2305843009213693951 (by decide +kernel) (by decide +kernel) (by decide) MM.some_great MM.sol_great _ _ _ _ _ _ _ 1 rfl rfl (by decide +kernel) (((HS4.out.alloc _).alloc _).alloc _).laid ((nrows1 (row_at [3] rfl rfl) rfl (by simp)).alloc _) (rd_at [1] (by simp) rfl)).mono ?_
      rintro e u5 ⟨Z, rfl, hz, hb⟩
      have HS5 := Lib.hid ((((HS4.out.alloc _).alloc _).alloc _).step hb)
      have HY5 := Lib.hid ((((HY4.out.alloc _).alloc _).alloc _).below hb)
      have HZ5 := Lib.hid hz
      clear hb HS4 HY4 hz
      go_wp2_with fail
      refine (nums_yes _ _ _ _ _ (MM.ofL [4, 0, 0]) (by decide) _ (row_rd (HY5.out.alloc _)) (rd_at [4, 0, 0] rfl rfl)).mono ?_
      rintro e u6 ⟨rfl, hb⟩
      have HS6 := Lib.hid ((HS5.out.alloc _).step hb)
      have hz6 := row_cell ((HZ5.out.alloc _).below hb) (k := 0) (by decide)
      change u6.cell? ⟨Z, 0, none⟩ = some (.int .u64 1537228672809129301) at hz6
      have HM : Ret 16 #[.int .u64 1537228672809129301, .int .u64 3, .int .u64 2305843009213693951] (.int .u64 1) := ret_mul 1537228672809129301 3 2305843009213693951 1 (by omega) (by omega) (by omega) (by omega) (by decide +kernel)
      clear hb HS5 HY5 HZ5
      go_wp2_with (go_at_call 16; (with_reducible refine (HM.at _).mono ?_); rintro e w' ⟨rfl, n, rfl⟩)
      go_ret
      exact ⟨rfl, Below.tr HS6.out.below (below_drewN' _ _ _)⟩
end M
end Go.Proofs.YtflkmjihgfjofaaDoor

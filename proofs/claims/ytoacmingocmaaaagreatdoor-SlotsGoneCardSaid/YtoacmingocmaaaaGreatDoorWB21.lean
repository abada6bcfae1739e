/- The texts SlotsGoneW, one behind the other. -/
import Derived.Test.YtoacmingocmaaaaGreatDoorWB20
import Derived.Test.YtoacmingocmaaaaGreatDoorWB3
/- The walk of SlotsGone. -/
namespace Go.Proofs.YtoacmingocmaaaaGreatDoor
open Go Go.RowKit Go.Lib Go.Deep
namespace M
open MM
set_option maxHeartbeats 16000000 in
set_option maxRecDepth 100000 in
theorem walkSlotsGone (v : Value) (t : List UInt8) (tw : Bool) (_ht : t.length ≤ 9223372036854775807) (W : World) (hv : ∃ (ao : Option Addr) (n c : Nat) (f : Nat → Sx), v = .slice ao n c ∧ n ≤ 9223372036854775807 ∧ StxAt W ao n f ∧ StxSm n f) :
    Calls Tryz.prog 4 #[v, .string ⟨t.toArray⟩, .bool tw] W fun e w' => e = .returned (.bool true) ∧ Below W.heap.size W w' := by
  obtain ⟨ao, n, c, f, rfl, hn, hf, hs⟩ := hv
  have HMY := Lib.hid (long11_any ao n c f hn W hf hs)
  have AW := Lib.hid (fun w => awake_go w)
  have HF := Lib.hid hf
  clear hf hs
  by_cases hl : 5000 < t.length
  · have hli : (5000 : Int) < (t.length : Int) := by omega
    clear HF
    go_enter Tryz.func4, Tryz.ntmps4
    go_wp2_with (first
        | (go_at_call 5; (with_reducible refine HMY.out.mono ?_); rintro e w1 ⟨r, rfl, hsm, hb⟩; have HB := Lib.hid hb; have HSM := Lib.hid hsm; clear hb hsm; cases r)
        | (go_at_call 6; (with_reducible refine (AW.out _).mono ?_); rintro e w2 ⟨rfl, hb⟩; replace HB := Lib.hid (bnext HB.out hb); clear hb))
    · go_ret
      exact ⟨rfl, HB.out⟩
    · go_ret
      exact ⟨rfl, HB.out⟩
  · have hli : ¬ (5000 : Int) < (t.length : Int) := by omega
    go_enter Tryz.func4, Tryz.ntmps4
    go_upto_region 3 with (first
        | (go_at_call 5; (with_reducible refine HMY.out.mono ?_); rintro e w1 ⟨r, rfl, hsm, hb⟩; have HB := Lib.hid hb; have HSM := Lib.hid hsm; clear hb hsm; cases r)
        | (go_at_call 6; (with_reducible refine (AW.out _).mono ?_); rintro e w2 ⟨rfl, hb⟩; replace HB := Lib.hid (bnext HB.out hb); clear hb))
    · have hn60 := long_few (HSM.out trivial)
      clear HSM HMY
      go_upto_region 4 with (go_at_call 7; (with_reducible refine (Ds.new (Ds.start W HB.out)).mono ?_); rintro e w3 ⟨B, rfl, h⟩; have HD : Hid (Ds W [(B, 131072 + 0, run11 f 0)] (fun _ => True) w3) := Lib.hid (Ds.up (i := 0) h rfl (by omega) (by omega)); clear h)
      clear HB
      go_wp2_with fail
      go_loopw [8, 36, 45, 54, 63, 77, 81] (fun s8 _ _ _ _ _ _ wx => ∃ i : Nat, i ≤ n ∧ s8 = .int .i64 (i : Int) ∧ Hid (Ds W [(B, 131072 + i, run11 f i)] (fun _ => True) wx)) (fun s8 _ _ _ _ _ _ _ => n - (RowKit.intOf s8).toNat)
      case atStart => exact ⟨0, Nat.zero_le _, rfl, HD⟩
      case round =>
        clear HD
        obtain ⟨i, hi, rfl, HD⟩ := hrel
        by_cases hlt : i < n
        · obtain ⟨hok, hbl, ta, rfl, hcl⟩ := HF.out i hlt
          obtain ⟨TB, TO, hadr, hr1⟩ := sx_range hcl
          have hlti : (i : Int) < (n : Int) := by omega
          have hi0 : (0 : Int) ≤ (i : Int) := Int.natCast_nonneg _
          have hrun : run11 f (i + 1) = (run11 f i).does11 (f i) := rfl
          generalize f i = x at *
          obtain ⟨k, xs, xn, ko, kc, kl, xa⟩ := x
          have hrg := range_below hr1 HD.out.below
          have c0 : wr.cell? ⟨TB, TO, none⟩ = some (.int .u8 (k : Int)) := hrg 0 _ rfl
          have c1 : wr.cell? ⟨TB, TO + 1, none⟩ = some (.string ⟨xs.toArray⟩) := hrg 1 _ rfl
          have c2 : wr.cell? ⟨TB, TO + 2, none⟩ = some (.int .i64 xn) := hrg 2 _ rfl
          have c3 : wr.cell? ⟨TB, TO + 3, none⟩ = some (.slice ko kl.length kc) := hrg 3 _ rfl
          have c4 : wr.cell? ⟨TB, TO + 4, none⟩ = some (.int .i64 xa) := hrg 4 _ rfl
          have HCK : Hid (∀ u, Below W.heap.size W u → u.rangeAt TB TO [.int .u8 (k : Int), .string ⟨xs.toArray⟩, .int .i64 xn, .slice ko kl.length kc, .int .i64 xa]) := Lib.hid fun u hu => range_below hr1 hu
          have HBL : Hid (∀ u, Below W.heap.size W u → BoolsAt u ko kl) := Lib.hid fun u hu => hbl.step hu
          have hxn : xn ≤ 9223372036854775807 := hok.n
          clear hrg hr1 hcl hok hbl
          unfold Dsk.does11 at hrun
          dsimp only at hrun
          rcases Nat.decEq k 0 with k0 | e0
          · rcases Nat.decEq k 1 with k1 | e1
            · rcases Nat.decEq k 2 with k2 | e2
              · rcases Nat.decEq k 3 with k3 | e3
                · rcases Nat.decEq k 4 with k4 | e4
                  · rcases Nat.decEq k 5 with k5 | e5
                    · have i0 : ¬ (k : Int) = 0 := by omega
                      have i1 : ¬ (k : Int) = 1 := by omega
                      have i2 : ¬ (k : Int) = 2 := by omega
                      have i3 : ¬ (k : Int) = 3 := by omega
                      have i4 : ¬ (k : Int) = 4 := by omega
                      have i5 : ¬ (k : Int) = 5 := by omega
                      have HW : Hid (∀ u, Ds W [(B, 131072 + i, run11 f i)] (fun _ => True) u → Calls Tryz.prog 23 #[ptr B] u fun e w' => (∃ r, e = .returned (.int .i64 r)) ∧ Ds W [(B, 131072 + (i + 1), run11 f (i + 1))] (fun _ => True) w') := Lib.hid fun u hu => by
                        rw [hrun, if_neg k0, if_neg k1, if_neg k2, if_neg k3, if_neg k4, if_neg k5]
                        exact (Ds.sync hu (i := 0) rfl (by omega)).mono fun e w' ⟨a, b⟩ => ⟨⟨_, a⟩, Ds.up (i := 0) b rfl (by omega) (by omega)⟩
                      clear hrun HBL HF
                      go_wp2_with (go_at_call 23; (with_reducible refine (HW.out _ HD.out).mono ?_); rintro e w' ⟨⟨_, rfl⟩, h⟩; have HDN := Lib.hid h; clear h)
                      go_roundw
                      case rel => exact ⟨i + 1, by omega, by go_num, HDN⟩
                      case measure => simp [RowKit.intOf]; omega
                    · subst e5
                      have HW : Hid (∀ u, Ds W [(B, 131072 + i, run11 f i)] (fun _ => True) u → Calls Tryz.prog 22 #[ptr B, .int .i64 xa, .string ⟨xs.toArray⟩] u fun e w' => (∃ r, e = .returned (.int .i64 r)) ∧ Ds W [(B, 131072 + (i + 1), run11 f (i + 1))] (fun _ => True) w') := Lib.hid fun u hu => by
                        rw [hrun, if_neg (by omega), if_neg (by omega), if_neg (by omega), if_neg (by omega), if_neg (by omega), if_pos rfl]
                        exact (Ds.write hu (i := 0) rfl (by omega) xa xs).mono fun e w' ⟨a, b⟩ => ⟨⟨_, a⟩, Ds.up (i := 0) b rfl (by omega) (by omega)⟩
                      clear hrun HBL HF
                      go_upto_region 20 with fail
                      refine RK.region (fun u => u.cell? ⟨TB, TO + 4, none⟩ = some (.int .i64 xa) ∧ u.cell? ⟨TB, TO + 1, none⟩ = some (.string ⟨xs.toArray⟩)) 12 (by kernel_rfl) ?_
                      have HS0 : wr.drew.cell? ⟨TB, TO + 4, none⟩ = some (.int .i64 xa) ∧ wr.drew.cell? ⟨TB, TO + 1, none⟩ = some (.string ⟨xs.toArray⟩) := ⟨c4, c1⟩
                      have HDW := Lib.hid (show Ds W [(B, 131072 + i, run11 f i)] (fun _ => True) wr.drew from HD.out.step (below_drewN wr 1))
                      generalize wr.drew = we at *
                      refine RK.Any.take 0 83 (ptr B) rfl rfl (by kernel_rfl) (by kernel_rfl) (by kernel_rfl) (by kernel_rfl) (fun _ _ _ h => h) (by rfl) (fun W' hb => ?_) HS0 ?_
                      · go_simp
                      try simp only [List.setIfInBounds_toArray, List.set_cons_zero, List.set_cons_succ]
                      refine RK.Any.take 1 84 (.slice (some ta) n c) rfl rfl (by kernel_rfl) (by kernel_rfl) (by kernel_rfl) (by kernel_rfl) (fun _ _ _ h => h) (by rfl) (fun W' hb => ?_) HS0 ?_
                      · go_simp
                      try simp only [List.setIfInBounds_toArray, List.set_cons_zero, List.set_cons_succ]
                      refine RK.Any.take 2 85 (.int .i64 (i : Int)) rfl rfl (by kernel_rfl) (by kernel_rfl) (by kernel_rfl) (by kernel_rfl) (fun _ _ _ h => h) (by rfl) (fun W' hb => ?_) HS0 ?_
                      · go_simp
                      try simp only [List.setIfInBounds_toArray, List.set_cons_zero, List.set_cons_succ]
                      refine RK.Any.take 3 86 (.pointer (some ⟨TB, TO, none⟩)) rfl rfl (by kernel_rfl) (by kernel_rfl) (by kernel_rfl) (by kernel_rfl) (fun _ _ _ h => h) (by rfl) (fun W' hb => ?_) HS0 ?_
                      · go_simp
                      try simp only [List.setIfInBounds_toArray, List.set_cons_zero, List.set_cons_succ]
                      refine RK.Any.take 4 87 (.pointer (some ⟨TB, TO + 4, none⟩)) rfl rfl (by kernel_rfl) (by kernel_rfl) (by kernel_rfl) (by kernel_rfl) (fun _ _ _ h => h) (by rfl) (fun W' hb => ?_) HS0 ?_
                      · go_simp
                      try simp only [List.setIfInBounds_toArray, List.set_cons_zero, List.set_cons_succ]
                      refine RK.Any.take 5 88 (.int .i64 xa) rfl rfl (by kernel_rfl) (by kernel_rfl) (by kernel_rfl) (by kernel_rfl) (fun _ _ _ h => h) (by rfl) (fun W' hb => ?_) HS0 ?_
                      · obtain ⟨h3, h4⟩ := hb; go_simp
                      try simp only [List.setIfInBounds_toArray, List.set_cons_zero, List.set_cons_succ]
                      refine RK.Any.take 6 89 (.slice (some ta) n c) rfl rfl (by kernel_rfl) (by kernel_rfl) (by kernel_rfl) (by kernel_rfl) (fun _ _ _ h => h) (by rfl) (fun W' hb => ?_) HS0 ?_
                      · go_simp
                      try simp only [List.setIfInBounds_toArray, List.set_cons_zero, List.set_cons_succ]
                      refine RK.Any.take 7 90 (.int .i64 (i : Int)) rfl rfl (by kernel_rfl) (by kernel_rfl) (by kernel_rfl) (by kernel_rfl) (fun _ _ _ h => h) (by rfl) (fun W' hb => ?_) HS0 ?_
                      · go_simp
                      try simp only [List.setIfInBounds_toArray, List.set_cons_zero, List.set_cons_succ]
                      refine RK.Any.take 8 91 (.pointer (some ⟨TB, TO, none⟩)) rfl rfl (by kernel_rfl) (by kernel_rfl) (by kernel_rfl) (by kernel_rfl) (fun _ _ _ h => h) (by rfl) (fun W' hb => ?_) HS0 ?_
                      · go_simp
                      try simp only [List.setIfInBounds_toArray, List.set_cons_zero, List.set_cons_succ]
                      refine RK.Any.take 9 92 (.pointer (some ⟨TB, TO + 1, none⟩)) rfl rfl (by kernel_rfl) (by kernel_rfl) (by kernel_rfl) (by kernel_rfl) (fun _ _ _ h => h) (by rfl) (fun W' hb => ?_) HS0 ?_
                      · go_simp
                      try simp only [List.setIfInBounds_toArray, List.set_cons_zero, List.set_cons_succ]
                      refine RK.Any.take 10 93 (.string ⟨xs.toArray⟩) rfl rfl (by kernel_rfl) (by kernel_rfl) (by kernel_rfl) (by kernel_rfl) (fun _ _ _ h => h) (by rfl) (fun W' hb => ?_) HS0 ?_
                      · obtain ⟨h3, h4⟩ := hb; go_simp
                      try simp only [List.setIfInBounds_toArray, List.set_cons_zero, List.set_cons_succ]
                      refine RK.Any.call 11 94 22 #[ptr B, .int .i64 xa, .string ⟨xs.toArray⟩] (by kernel_rfl) rfl rfl (by rfl) (by go_simp) (Calls.mono ((HW.out _ HDW.out)) ?_)
                      rintro e wf ⟨⟨_, rfl⟩, h⟩
                      have HDN := Lib.hid h
                      clear h
                      refine ⟨_, rfl, fun _ => ⟨HCK.out wf HDN.out.below 4 _ rfl, HCK.out wf HDN.out.below 1 _ rfl⟩, ?_⟩
                      try simp only [List.setIfInBounds_toArray, List.set_cons_zero, List.set_cons_succ]
                      refine RK.Any.done (by kernel_rfl) ?_
                      clear HS0 c0 c1 c2 c3 c4 HCK HW HDW HD
                      go_wp2_with fail
                      go_roundw
                      case rel => exact ⟨i + 1, by omega, by go_num, HDN⟩
                      case measure => simp [RowKit.intOf]; omega
                  · subst e4
                    have HW : Hid (∀ u, Ds W [(B, 131072 + i, run11 f i)] (fun _ => True) u → Calls Tryz.prog 21 #[ptr B] u fun e w' => e = .returned (.tuple #[]) ∧ Ds W [(B, 131072 + (i + 1), run11 f (i + 1))] (fun _ => True) w') := Lib.hid fun u hu => by
                      rw [hrun, if_neg (by omega), if_neg (by omega), if_neg (by omega), if_neg (by omega), if_pos rfl]
                      exact (Ds.boot hu (i := 0) rfl).mono fun e w' ⟨a, b⟩ => ⟨a, Ds.up (i := 0) b rfl (by omega) (by omega)⟩
                    clear hrun HBL HF
                    go_wp2_with (go_at_call 21; (with_reducible refine (HW.out _ HD.out).mono ?_); rintro e w' ⟨rfl, h⟩; have HDN := Lib.hid h; clear h)
                    go_roundw
                    case rel => exact ⟨i + 1, by omega, by go_num, HDN⟩
                    case measure => simp [RowKit.intOf]; omega
                · subst e3
                  have HW : Hid (∀ u, Ds W [(B, 131072 + i, run11 f i)] (fun _ => True) u → Calls Tryz.prog 20 #[ptr B, .slice ko kl.length kc, .int .i64 xa] u fun e w' => e = .returned (.tuple #[]) ∧ Ds W [(B, 131072 + (i + 1), run11 f (i + 1))] (fun _ => True) w') := Lib.hid fun u hu => by
                    rw [hrun, if_neg (by omega), if_neg (by omega), if_neg (by omega), if_pos rfl]
                    exact (Ds.crash hu (i := 0) rfl (by omega) kl ko kc xa fun u hu _ => HBL.out u hu).mono fun e w' ⟨a, b⟩ => ⟨a, Ds.up (i := 0) b rfl (by omega) (by omega)⟩
                  clear hrun HBL HF
                  go_upto_region 16 with fail
                  refine RK.region (fun u => u.cell? ⟨TB, TO + 3, none⟩ = some (.slice ko kl.length kc) ∧ u.cell? ⟨TB, TO + 4, none⟩ = some (.int .i64 xa)) 12 (by kernel_rfl) ?_
                  have HS0 : wr.drew.cell? ⟨TB, TO + 3, none⟩ = some (.slice ko kl.length kc) ∧ wr.drew.cell? ⟨TB, TO + 4, none⟩ = some (.int .i64 xa) := ⟨c3, c4⟩
                  have HDW := Lib.hid (show Ds W [(B, 131072 + i, run11 f i)] (fun _ => True) wr.drew from HD.out.step (below_drewN wr 1))
                  generalize wr.drew = we at *
                  refine RK.Any.take 0 65 (ptr B) rfl rfl (by kernel_rfl) (by kernel_rfl) (by kernel_rfl) (by kernel_rfl) (fun _ _ _ h => h) (by rfl) (fun W' hb => ?_) HS0 ?_
                  · go_simp
                  try simp only [List.setIfInBounds_toArray, List.set_cons_zero, List.set_cons_succ]
                  refine RK.Any.take 1 66 (.slice (some ta) n c) rfl rfl (by kernel_rfl) (by kernel_rfl) (by kernel_rfl) (by kernel_rfl) (fun _ _ _ h => h) (by rfl) (fun W' hb => ?_) HS0 ?_
                  · go_simp
                  try simp only [List.setIfInBounds_toArray, List.set_cons_zero, List.set_cons_succ]
                  refine RK.Any.take 2 67 (.int .i64 (i : Int)) rfl rfl (by kernel_rfl) (by kernel_rfl) (by kernel_rfl) (by kernel_rfl) (fun _ _ _ h => h) (by rfl) (fun W' hb => ?_) HS0 ?_
                  · go_simp
                  try simp only [List.setIfInBounds_toArray, List.set_cons_zero, List.set_cons_succ]
                  refine RK.Any.take 3 68 (.pointer (some ⟨TB, TO, none⟩)) rfl rfl (by kernel_rfl) (by kernel_rfl) (by kernel_rfl) (by kernel_rfl) (fun _ _ _ h => h) (by rfl) (fun W' hb => ?_) HS0 ?_
                  · go_simp
                  try simp only [List.setIfInBounds_toArray, List.set_cons_zero, List.set_cons_succ]
                  refine RK.Any.take 4 69 (.pointer (some ⟨TB, TO + 3, none⟩)) rfl rfl (by kernel_rfl) (by kernel_rfl) (by kernel_rfl) (by kernel_rfl) (fun _ _ _ h => h) (by rfl) (fun W' hb => ?_) HS0 ?_
                  · go_simp
                  try simp only [List.setIfInBounds_toArray, List.set_cons_zero, List.set_cons_succ]
                  refine RK.Any.take 5 70 (.slice ko kl.length kc) rfl rfl (by kernel_rfl) (by kernel_rfl) (by kernel_rfl) (by kernel_rfl) (fun _ _ _ h => h) (by rfl) (fun W' hb => ?_) HS0 ?_
                  · obtain ⟨h3, h4⟩ := hb; go_simp
                  try simp only [List.setIfInBounds_toArray, List.set_cons_zero, List.set_cons_succ]
                  refine RK.Any.take 6 71 (.slice (some ta) n c) rfl rfl (by kernel_rfl) (by kernel_rfl) (by kernel_rfl) (by kernel_rfl) (fun _ _ _ h => h) (by rfl) (fun W' hb => ?_) HS0 ?_
                  · go_simp
                  try simp only [List.setIfInBounds_toArray, List.set_cons_zero, List.set_cons_succ]
                  refine RK.Any.take 7 72 (.int .i64 (i : Int)) rfl rfl (by kernel_rfl) (by kernel_rfl) (by kernel_rfl) (by kernel_rfl) (fun _ _ _ h => h) (by rfl) (fun W' hb => ?_) HS0 ?_
                  · go_simp
                  try simp only [List.setIfInBounds_toArray, List.set_cons_zero, List.set_cons_succ]
                  refine RK.Any.take 8 73 (.pointer (some ⟨TB, TO, none⟩)) rfl rfl (by kernel_rfl) (by kernel_rfl) (by kernel_rfl) (by kernel_rfl) (fun _ _ _ h => h) (by rfl) (fun W' hb => ?_) HS0 ?_
                  · go_simp
                  try simp only [List.setIfInBounds_toArray, List.set_cons_zero, List.set_cons_succ]
                  refine RK.Any.take 9 74 (.pointer (some ⟨TB, TO + 4, none⟩)) rfl rfl (by kernel_rfl) (by kernel_rfl) (by kernel_rfl) (by kernel_rfl) (fun _ _ _ h => h) (by rfl) (fun W' hb => ?_) HS0 ?_
                  · go_simp
                  try simp only [List.setIfInBounds_toArray, List.set_cons_zero, List.set_cons_succ]
                  refine RK.Any.take 10 75 (.int .i64 xa) rfl rfl (by kernel_rfl) (by kernel_rfl) (by kernel_rfl) (by kernel_rfl) (fun _ _ _ h => h) (by rfl) (fun W' hb => ?_) HS0 ?_
                  · obtain ⟨h3, h4⟩ := hb; go_simp
                  try simp only [List.setIfInBounds_toArray, List.set_cons_zero, List.set_cons_succ]
                  refine RK.Any.call 11 76 20 #[ptr B, .slice ko kl.length kc, .int .i64 xa] (by kernel_rfl) rfl rfl (by rfl) (by go_simp) (Calls.mono ((HW.out _ HDW.out)) ?_)
                  rintro e wf ⟨rfl, h⟩
                  have HDN := Lib.hid h
                  clear h
                  refine ⟨_, rfl, fun _ => ⟨HCK.out wf HDN.out.below 3 _ rfl, HCK.out wf HDN.out.below 4 _ rfl⟩, ?_⟩
                  try simp only [List.setIfInBounds_toArray, List.set_cons_zero, List.set_cons_succ]
                  refine RK.Any.done (by kernel_rfl) ?_
                  clear HS0 c0 c1 c2 c3 c4 HCK HW HDW HD
                  go_wp2_with fail
                  go_roundw
                  case rel => exact ⟨i + 1, by omega, by go_num, HDN⟩
                  case measure => simp [RowKit.intOf]; omega
              · subst e2
                have HW : Hid (∀ u, Ds W [(B, 131072 + i, run11 f i)] (fun _ => True) u → Calls Tryz.prog 19 #[ptr B, .int .i64 xn] u fun e w' => e = .returned (.tuple #[]) ∧ Ds W [(B, 131072 + (i + 1), run11 f (i + 1))] (fun _ => True) w') := Lib.hid fun u hu => by
                  rw [hrun, if_neg (by omega), if_neg (by omega), if_pos rfl]
                  exact (Ds.fuse hu (i := 0) rfl xn hxn).mono fun e w' ⟨a, b⟩ => ⟨a, Ds.up (i := 0) b rfl (by omega) (by omega)⟩
                clear hrun HBL HF
                go_wp2_with (go_at_call 19; (with_reducible refine (HW.out _ HD.out).mono ?_); rintro e w' ⟨rfl, h⟩; have HDN := Lib.hid h; clear h)
                go_roundw
                case rel => exact ⟨i + 1, by omega, by go_num, HDN⟩
                case measure => simp [RowKit.intOf]; omega
            · subst e1
              have HW : Hid (∀ u, Ds W [(B, 131072 + i, run11 f i)] (fun _ => True) u → Calls Tryz.prog 18 #[ptr B, .string ⟨xs.toArray⟩] u fun e w' => (∃ r, e = .returned (.int .i64 r)) ∧ Ds W [(B, 131072 + (i + 1), run11 f (i + 1))] (fun _ => True) w') := Lib.hid fun u hu => by
                rw [hrun, if_neg (by omega), if_pos rfl]
                exact (Ds.twice hu (i := 0) rfl (by omega) xs).mono fun e w' ⟨a, b⟩ => ⟨⟨_, a⟩, Ds.up (i := 0) b rfl (by omega) (by omega)⟩
              clear hrun HBL HF
              go_wp2_with (go_at_call 18; (with_reducible refine (HW.out _ HD.out).mono ?_); rintro e w' ⟨⟨_, rfl⟩, h⟩; have HDN := Lib.hid h; clear h)
              go_roundw
              case rel => exact ⟨i + 1, by omega, by go_num, HDN⟩
              case measure => simp [RowKit.intOf]; omega
          · subst e0
            have HW : Hid (∀ u, Ds W [(B, 131072 + i, run11 f i)] (fun _ => True) u → Calls Tryz.prog 17 #[ptr B, .string ⟨xs.toArray⟩] u fun e w' => (∃ r, e = .returned (.int .i64 r)) ∧ Ds W [(B, 131072 + (i + 1), run11 f (i + 1))] (fun _ => True) w') := Lib.hid fun u hu => by
              rw [hrun, if_pos rfl]
              exact (Ds.save hu (i := 0) rfl (by omega) xs).mono fun e w' ⟨a, b⟩ => ⟨⟨_, a⟩, Ds.up (i := 0) b rfl (by omega) (by omega)⟩
            clear hrun HBL HF
            go_wp2_with (go_at_call 17; (with_reducible refine (HW.out _ HD.out).mono ?_); rintro e w' ⟨⟨_, rfl⟩, h⟩; have HDN := Lib.hid h; clear h)
            go_roundw
            case rel => exact ⟨i + 1, by omega, by go_num, HDN⟩
            case measure => simp [RowKit.intOf]; omega
        · obtain rfl : n = i := by omega
          have hz0 := Live.boot (run11 f n)
          obtain ⟨s, hs⟩ : ∃ s, (run11 f n).start = s := ⟨_, rfl⟩
          have HST : Hid (Calls Tryz.prog 21 #[ptr B] wr fun e w' => e = .returned (.tuple #[]) ∧ Ds W [(B, 131072 + n, s)] (fun _ => True) w') := Lib.hid (hs ▸ Ds.boot HD.out (i := 0) rfl)
          rw [hs] at hz0
          clear hs HD HF
          obtain ⟨A, hA⟩ : ∃ A, ageV s.read = A := ⟨_, rfl⟩
          have hAle : A ≤ top := hA ▸ ageV_le s.read
          have ht : t.length ≤ most := by unfold most; omega
          have htop : top = 1099511627776 := rfl
          have HAG : Hid (∀ u, Ds W [(B, 131072 + n, s)] (fun _ => True) u → Calls Tryz.prog 12 #[ptr B] u fun e w' => e = .returned (.int .i64 (A : Int)) ∧ Ds W [(B, 131072 + n, s)] (fun _ => True) w') := Lib.hid fun u hu => by
            have := Ds.age hu (i := 0) rfl
            rwa [hA] at this
          obtain ⟨B1, hB1⟩ : ∃ B1 : Nat, B1 = A + 1 := ⟨_, rfl⟩
          obtain ⟨B2, hB2⟩ : ∃ B2 : Nat, B2 = A + 2 := ⟨_, rfl⟩
          have hw1 : IntKind.i64.wrap ((A : Int) + 1) = (B1 : Int) := by simp [IntKind.wrap, IntKind.bits, IntKind.signed]; omega
          have hw2 : IntKind.i64.wrap ((A : Int) + 2) = (B2 : Int) := by simp [IntKind.wrap, IntKind.bits, IntKind.signed]; omega
          have hlit : ¬ (n : Int) < (n : Int) := by omega
          cases tw with
          | false =>
            by_cases ha : A = top
            · have hfu := (gone_full hz0 ht (hA.trans ha)).1
              have HWR : Hid (∀ u, Ds W [(B, 131072 + n, s)] (fun _ => True) u → Calls Tryz.prog 17 #[ptr B, .string ⟨t.toArray⟩] u fun e w' => e = .returned (.int .i64 41) ∧ Ds W [(B, max (131072 + n) 131072, s)] (fun _ => True) w') := Lib.hid fun u hu => by
                have := Ds.save hu (i := 0) rfl (by omega) t
                rw [hfu] at this
                exact this
              have hai : (A : Int) = 1099511627776 := by omega
              clear ha hfu
              clear hz0 hAle ht htop hA hB1 hB2 hn60 hl
              go_wp2_with (first
                | (go_at_call 21; (with_reducible refine HST.out.mono ?_); rintro e wx ⟨rfl, h⟩; have HD := Lib.hid h; clear h)
                | (go_at_call 12; (with_reducible refine (HAG.out _ HD.out).mono ?_); rintro e wx ⟨rfl, h⟩; replace HD := Lib.hid h; clear h)
                | (go_at_call 17; (with_reducible refine (HWR.out _ HD.out).mono ?_); rintro e wx ⟨rfl, h⟩; replace HD := Lib.hid h; clear h))
              go_ret
              exact ⟨rfl, HD.out.below⟩
            · obtain ⟨z, e1, hz, hzc, htd⟩ := gone_one hz0 ht (by omega)
              rw [hA, ← hB1] at hz htd
              have HWR : Hid (∀ u, Ds W [(B, 131072 + n, s)] (fun _ => True) u → Calls Tryz.prog 17 #[ptr B, .string ⟨t.toArray⟩] u fun e w' => e = .returned (.int .i64 0) ∧ Ds W [(B, max (131072 + n) 131072, z)] (fun _ => True) w') := Lib.hid fun u hu => by
                have := Ds.save hu (i := 0) rfl (by omega) t
                rw [e1] at this
                exact this
              have HHS : Hid (∀ u, Ds W [(B, max (131072 + n) 131072, z)] (fun _ => True) u → Calls Tryz.prog 24 #[ptr B, .string ⟨t.toArray⟩, .int .i64 (B1 : Int)] u fun e w' => e = .returned (.bool true) ∧ Ds W [(B, max (131072 + n) 131072, z)] (fun _ => True) w') := Lib.hid fun u hu => by
                exact Ds.has hu (i := 0) rfl hz.text hz.age
              have HWA : Hid (∀ u, Ds W [(B, max (131072 + n) 131072, z)] (fun _ => True) u → Calls Tryz.prog 16 #[ptr B] u fun e w' => e = .returned (.int .i64 0) ∧ Ds W [(B, max (131072 + n) 131072, z)] (fun _ => True) w') := Lib.hid fun u hu => by
                have := Ds.waits hu (i := 0) rfl
                rw [hzc] at this
                exact this.mono fun e w' ⟨a, b⟩ => ⟨a, b ▸ hu⟩
              rcases htd with td | ⟨tn, td⟩
              · have HC0 : Hid (∀ u, Ds W [(B, max (131072 + n) 131072, z)] (fun _ => True) u → Calls Tryz.prog 25 #[ptr B, .int .i64 0, .int .i64 (B1 : Int), .string ⟨t.toArray⟩] u fun e w' => e = .returned (.bool true) ∧ Ds W [(B, max (131072 + n) 131072, z)] (fun _ => True) w') := Lib.hid fun u hu => by
                  exact (clean_yes hu (i := 0) rfl 0 (.inl rfl) B1 (by omega) t ht td).mono fun e w' ⟨a, b⟩ => ⟨a, hu.step b⟩
                clear td hz hzc e1 ha
                clear hz0 hAle ht htop hA hB1 hB2 hn60 hl
                go_wp2_with (first
                  | (go_at_call 21; (with_reducible refine HST.out.mono ?_); rintro e wx ⟨rfl, h⟩; have HD := Lib.hid h; clear h)
                  | (go_at_call 12; (with_reducible refine (HAG.out _ HD.out).mono ?_); rintro e wx ⟨rfl, h⟩; replace HD := Lib.hid h; clear h)
                  | (go_at_call 17; (with_reducible refine (HWR.out _ HD.out).mono ?_); rintro e wx ⟨rfl, h⟩; replace HD := Lib.hid h; clear h)
                  | (go_at_call 24; (with_reducible refine (HHS.out _ HD.out).mono ?_); rintro e wx ⟨rfl, h⟩; replace HD := Lib.hid h; clear h)
                  | (go_at_call 25; (with_reducible refine (HC0.out _ HD.out).mono ?_); rintro e wx ⟨rfl, h⟩; replace HD := Lib.hid h; clear h)
                  | (go_at_call 16; (with_reducible refine (HWA.out _ HD.out).mono ?_); rintro e wx ⟨rfl, h⟩; replace HD := Lib.hid h; clear h))
                go_ret
                exact ⟨rfl, HD.out.below⟩
              · have HC0 : Hid (∀ u, Ds W [(B, max (131072 + n) 131072, z)] (fun _ => True) u → Calls Tryz.prog 25 #[ptr B, .int .i64 0, .int .i64 (B1 : Int), .string ⟨t.toArray⟩] u fun e w' => e = .returned (.bool false) ∧ Ds W [(B, max (131072 + n) 131072, z)] (fun _ => True) w') := Lib.hid fun u hu => by
                  exact (clean_no hu (i := 0) rfl 0 B1 (by omega) t ht tn).mono fun e w' ⟨a, b⟩ => ⟨a, hu.step b⟩
                have HC1 : Hid (∀ u, Ds W [(B, max (131072 + n) 131072, z)] (fun _ => True) u → Calls Tryz.prog 25 #[ptr B, .int .i64 32768, .int .i64 (B1 : Int), .string ⟨t.toArray⟩] u fun e w' => e = .returned (.bool true) ∧ Ds W [(B, max (131072 + n) 131072, z)] (fun _ => True) w') := Lib.hid fun u hu => by
                  exact (clean_yes hu (i := 0) rfl half (.inr rfl) B1 (by omega) t ht td).mono fun e w' ⟨a, b⟩ => ⟨a, hu.step b⟩
                clear td tn hz hzc e1 ha
                clear hz0 hAle ht htop hA hB1 hB2 hn60 hl
                go_wp2_with (first
                  | (go_at_call 21; (with_reducible refine HST.out.mono ?_); rintro e wx ⟨rfl, h⟩; have HD := Lib.hid h; clear h)
                  | (go_at_call 12; (with_reducible refine (HAG.out _ HD.out).mono ?_); rintro e wx ⟨rfl, h⟩; replace HD := Lib.hid h; clear h)
                  | (go_at_call 17; (with_reducible refine (HWR.out _ HD.out).mono ?_); rintro e wx ⟨rfl, h⟩; replace HD := Lib.hid h; clear h)
                  | (go_at_call 24; (with_reducible refine (HHS.out _ HD.out).mono ?_); rintro e wx ⟨rfl, h⟩; replace HD := Lib.hid h; clear h)
                  | (go_at_call 25; (with_reducible refine (HC0.out _ HD.out).mono ?_); rintro e wx ⟨rfl, h⟩; replace HD := Lib.hid h; clear h)
                  | (go_at_call 25; (with_reducible refine (HC1.out _ HD.out).mono ?_); rintro e wx ⟨rfl, h⟩; replace HD := Lib.hid h; clear h)
                  | (go_at_call 16; (with_reducible refine (HWA.out _ HD.out).mono ?_); rintro e wx ⟨rfl, h⟩; replace HD := Lib.hid h; clear h))
                go_ret
                exact ⟨rfl, HD.out.below⟩
          | true =>
            by_cases ha : A = top
            · have hfu := (gone_full hz0 ht (hA.trans ha)).2
              have HWR : Hid (∀ u, Ds W [(B, 131072 + n, s)] (fun _ => True) u → Calls Tryz.prog 18 #[ptr B, .string ⟨t.toArray⟩] u fun e w' => e = .returned (.int .i64 41) ∧ Ds W [(B, max (131072 + n) 131072, s)] (fun _ => True) w') := Lib.hid fun u hu => by
                have := Ds.twice hu (i := 0) rfl (by omega) t
                rw [hfu] at this
                exact this
              have hai : (1099511627774 : Int) < (A : Int) := by omega
              clear ha hfu
              clear hz0 hAle ht htop hA hB1 hB2 hn60 hl
              go_wp2_with (first
                | (go_at_call 21; (with_reducible refine HST.out.mono ?_); rintro e wx ⟨rfl, h⟩; have HD := Lib.hid h; clear h)
                | (go_at_call 12; (with_reducible refine (HAG.out _ HD.out).mono ?_); rintro e wx ⟨rfl, h⟩; replace HD := Lib.hid h; clear h)
                | (go_at_call 18; (with_reducible refine (HWR.out _ HD.out).mono ?_); rintro e wx ⟨rfl, h⟩; replace HD := Lib.hid h; clear h))
              go_ret
              exact ⟨rfl, HD.out.below⟩
            · by_cases ha1 : A + 1 = top
              · have hfu := pair_eq (gone_last hz0 ht (by rw [hA]; exact ha1))
                obtain ⟨z, hzz⟩ : ∃ z, (s.twice t).2 = z := ⟨_, rfl⟩
                rw [hzz] at hfu
                have HWR : Hid (∀ u, Ds W [(B, 131072 + n, s)] (fun _ => True) u → Calls Tryz.prog 18 #[ptr B, .string ⟨t.toArray⟩] u fun e w' => e = .returned (.int .i64 41) ∧ Ds W [(B, max (131072 + n) 131072, z)] (fun _ => True) w') := Lib.hid fun u hu => by
                  have := Ds.twice hu (i := 0) rfl (by omega) t
                  rw [hfu] at this
                  exact this
                have hai : (1099511627774 : Int) < (A : Int) := by omega
                clear ha ha1 hfu hzz
                clear hz0 hAle ht htop hA hB1 hB2 hn60 hl
                go_wp2_with (first
                  | (go_at_call 21; (with_reducible refine HST.out.mono ?_); rintro e wx ⟨rfl, h⟩; have HD := Lib.hid h; clear h)
                  | (go_at_call 12; (with_reducible refine (HAG.out _ HD.out).mono ?_); rintro e wx ⟨rfl, h⟩; replace HD := Lib.hid h; clear h)
                  | (go_at_call 18; (with_reducible refine (HWR.out _ HD.out).mono ?_); rintro e wx ⟨rfl, h⟩; replace HD := Lib.hid h; clear h))
                go_ret
                exact ⟨rfl, HD.out.below⟩
              · obtain ⟨z, e1, hz, htd⟩ := gone_two hz0 ht (by omega)
                rw [hA, ← hB1, ← hB2] at htd
                rw [hA, ← hB2] at hz
                have HWR : Hid (∀ u, Ds W [(B, 131072 + n, s)] (fun _ => True) u → Calls Tryz.prog 18 #[ptr B, .string ⟨t.toArray⟩] u fun e w' => e = .returned (.int .i64 0) ∧ Ds W [(B, max (131072 + n) 131072, z)] (fun _ => True) w') := Lib.hid fun u hu => by
                  have := Ds.twice hu (i := 0) rfl (by omega) t
                  rw [e1] at this
                  exact this
                have HHS : Hid (∀ u, Ds W [(B, max (131072 + n) 131072, z)] (fun _ => True) u → Calls Tryz.prog 24 #[ptr B, .string ⟨t.toArray⟩, .int .i64 (B2 : Int)] u fun e w' => e = .returned (.bool true) ∧ Ds W [(B, max (131072 + n) 131072, z)] (fun _ => True) w') := Lib.hid fun u hu => by
                  exact Ds.has hu (i := 0) rfl hz.text hz.age
                rcases htd with ⟨ta, tb⟩ | ⟨tn, ta, tb⟩
                · have HC0 : Hid (∀ u, Ds W [(B, max (131072 + n) 131072, z)] (fun _ => True) u → Calls Tryz.prog 25 #[ptr B, .int .i64 0, .int .i64 (B1 : Int), .string ⟨t.toArray⟩] u fun e w' => e = .returned (.bool true) ∧ Ds W [(B, max (131072 + n) 131072, z)] (fun _ => True) w') := Lib.hid fun u hu => by
                    exact (clean_yes hu (i := 0) rfl 0 (.inl rfl) B1 (by omega) t ht ta).mono fun e w' ⟨a, b⟩ => ⟨a, hu.step b⟩
                  have HC1 : Hid (∀ u, Ds W [(B, max (131072 + n) 131072, z)] (fun _ => True) u → Calls Tryz.prog 25 #[ptr B, .int .i64 32768, .int .i64 (B2 : Int), .string ⟨t.toArray⟩] u fun e w' => e = .returned (.bool true) ∧ Ds W [(B, max (131072 + n) 131072, z)] (fun _ => True) w') := Lib.hid fun u hu => by
                    exact (clean_yes hu (i := 0) rfl half (.inr rfl) B2 (by omega) t ht tb).mono fun e w' ⟨a, b⟩ => ⟨a, hu.step b⟩
                  clear ta tb hz e1 ha ha1
                  clear hz0 hAle ht htop hA hB1 hB2 hn60 hl
                  go_wp2_with (first
                    | (go_at_call 21; (with_reducible refine HST.out.mono ?_); rintro e wx ⟨rfl, h⟩; have HD := Lib.hid h; clear h)
                    | (go_at_call 12; (with_reducible refine (HAG.out _ HD.out).mono ?_); rintro e wx ⟨rfl, h⟩; replace HD := Lib.hid h; clear h)
                    | (go_at_call 18; (with_reducible refine (HWR.out _ HD.out).mono ?_); rintro e wx ⟨rfl, h⟩; replace HD := Lib.hid h; clear h)
                    | (go_at_call 24; (with_reducible refine (HHS.out _ HD.out).mono ?_); rintro e wx ⟨rfl, h⟩; replace HD := Lib.hid h; clear h)
                    | (go_at_call 25; (with_reducible refine (HC0.out _ HD.out).mono ?_); rintro e wx ⟨rfl, h⟩; replace HD := Lib.hid h; clear h)
                    | (go_at_call 25; (with_reducible refine (HC1.out _ HD.out).mono ?_); rintro e wx ⟨rfl, h⟩; replace HD := Lib.hid h; clear h))
                  go_ret
                  exact ⟨rfl, HD.out.below⟩
                · have HC0 : Hid (∀ u, Ds W [(B, max (131072 + n) 131072, z)] (fun _ => True) u → Calls Tryz.prog 25 #[ptr B, .int .i64 0, .int .i64 (B1 : Int), .string ⟨t.toArray⟩] u fun e w' => e = .returned (.bool false) ∧ Ds W [(B, max (131072 + n) 131072, z)] (fun _ => True) w') := Lib.hid fun u hu => by
                    exact (clean_no hu (i := 0) rfl 0 B1 (by omega) t ht tn).mono fun e w' ⟨a, b⟩ => ⟨a, hu.step b⟩
                  have HC1 : Hid (∀ u, Ds W [(B, max (131072 + n) 131072, z)] (fun _ => True) u → Calls Tryz.prog 25 #[ptr B, .int .i64 0, .int .i64 (B2 : Int), .string ⟨t.toArray⟩] u fun e w' => e = .returned (.bool true) ∧ Ds W [(B, max (131072 + n) 131072, z)] (fun _ => True) w') := Lib.hid fun u hu => by
                    exact (clean_yes hu (i := 0) rfl 0 (.inl rfl) B2 (by omega) t ht ta).mono fun e w' ⟨a, b⟩ => ⟨a, hu.step b⟩
                  have HC2 : Hid (∀ u, Ds W [(B, max (131072 + n) 131072, z)] (fun _ => True) u → Calls Tryz.prog 25 #[ptr B, .int .i64 32768, .int .i64 (B1 : Int), .string ⟨t.toArray⟩] u fun e w' => e = .returned (.bool true) ∧ Ds W [(B, max (131072 + n) 131072, z)] (fun _ => True) w') := Lib.hid fun u hu => by
                    exact (clean_yes hu (i := 0) rfl half (.inr rfl) B1 (by omega) t ht tb).mono fun e w' ⟨a, b⟩ => ⟨a, hu.step b⟩
                  clear ta tb tn hz e1 ha ha1
                  clear hz0 hAle ht htop hA hB1 hB2 hn60 hl
                  go_wp2_with (first
                    | (go_at_call 21; (with_reducible refine HST.out.mono ?_); rintro e wx ⟨rfl, h⟩; have HD := Lib.hid h; clear h)
                    | (go_at_call 12; (with_reducible refine (HAG.out _ HD.out).mono ?_); rintro e wx ⟨rfl, h⟩; replace HD := Lib.hid h; clear h)
                    | (go_at_call 18; (with_reducible refine (HWR.out _ HD.out).mono ?_); rintro e wx ⟨rfl, h⟩; replace HD := Lib.hid h; clear h)
                    | (go_at_call 24; (with_reducible refine (HHS.out _ HD.out).mono ?_); rintro e wx ⟨rfl, h⟩; replace HD := Lib.hid h; clear h)
                    | (go_at_call 25; (with_reducible refine (HC0.out _ HD.out).mono ?_); rintro e wx ⟨rfl, h⟩; replace HD := Lib.hid h; clear h)
                    | (go_at_call 25; (with_reducible refine (HC1.out _ HD.out).mono ?_); rintro e wx ⟨rfl, h⟩; replace HD := Lib.hid h; clear h)
                    | (go_at_call 25; (with_reducible refine (HC2.out _ HD.out).mono ?_); rintro e wx ⟨rfl, h⟩; replace HD := Lib.hid h; clear h))
                  go_ret
                  exact ⟨rfl, HD.out.below⟩
    · go_ret
      exact ⟨rfl, HB.out⟩
end M
end Go.Proofs.YtoacmingocmaaaaGreatDoor

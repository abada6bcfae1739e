/- Tapes of the same numbers and the same seed draw the same, whatever the bounds; a copy draws as the tape does, and neither changes the other. -/
import Derived.Test.YtbappohnljlchaaRows
import Derived.Test.YtbappohnljlchaaWB1
import Derived.Test.YtbappohnljlchaaWB7
import Derived.Test.YtbappohnljlchaaWB3
namespace Go.Proofs.Ytbappohnljlchaa
open Go.ChangeShapes Go.WideShapes Go.ChangeAt Go.RowKit
namespace TapeSame
open M

open MM Go.Lib
set_option maxHeartbeats 8000000 in
set_option maxRecDepth 100000 in
theorem walkHere (ao : Option Addr) (n c : Nat) (z : Nat → Nat) (s : Nat) (bo : Option Addr) (m d : Nat) (y : Nat → Nat) (xo : Option Addr) (m2 d2 : Nat) (x : Nat → Nat) (hn : n ≤ 500) (hm : m ≤ 500) (hm2 : m2 ≤ 500) (hz : ∀ k, z k < 18446744073709551616) (hy : ∀ k, y k < 18446744073709551616) (hx : ∀ k, x k < 18446744073709551616) (hs : s < 18446744073709551616) (W : World) (hr : Rd W ao n z) (h0 : ao = none → n = 0 ∧ c = 0) (hl : Rd W bo m y) (hl2 : Rd W xo m2 x) :
    Calls Try.prog 9 #[.slice ao n c, .int .u64 (s : Int), .slice bo m d, .slice xo m2 d2] W fun e w' => e = .returned (.bool true) ∧ Below W.heap.size W w' := by
  have n5 : ¬ (500 : Int) < (n : Int) := by omega
  have m5 : ¬ (500 : Int) < (m : Int) := by omega
  have m6 : ¬ (500 : Int) < (m2 : Int) := by omega
  have HO := Lib.hid (fun L w (h : Tz W L w) => h.of_ (ao := ao) (n := n) (c := c) (s := s) (z := z) (by omega) hz hr h0 hs)
  have HL := Lib.hid (fun w (hb : Below W.heap.size W w) => hl.below hb)
  have HL2 := Lib.hid (fun w (hb : Below W.heap.size W w) => hl2.below hb)
  have HY := Lib.hid hy
  have HXB := Lib.hid hx
  have HF : Hid ((Tp.of (lst n z) s).fs.length ≤ 1000) := Lib.hid (by show (lst n z).length ≤ 1000; rw [lst_len]; omega)
  have HN : Hid ((Tp.of (lst n z) s).n = 0) := Lib.hid rfl
  obtain ⟨t, ht⟩ : ∃ t, Tp.of (lst n z) s = t := ⟨_, rfl⟩
  rw [ht] at HO HN HF
  clear hr h0 hl hl2 hz hy hx hs ht
  go_enter Try.func9, Try.ntmps9
  go_wp2_with (first
    | (go_at_call 10; (with_reducible refine (works_any _).mono ?_); rintro e w1 ⟨rfl, hb⟩; have HB := Lib.hid (Tz.start hb); clear hb)
    | (go_at_call 16; (with_reducible refine (HO.out _ _ HB.out).mono ?_); rintro e w2 ⟨B, rfl, hd⟩; have HD : Hid (Tz W [(true, B, t)] w2) := Lib.hid hd; clear hd HB)
    | (go_at_call 16; (with_reducible refine (HO.out _ _ HD.out).mono ?_); rintro e w3 ⟨C, rfl, hd⟩; have HD3 : Hid (Tz W [(true, B, t), (true, C, t)] w3) := Lib.hid hd; clear hd HD))
  go_loopw [11] (fun s11 wx => ∃ k : Nat, k ≤ m ∧ s11 = .int .i64 (k : Int) ∧ Hid (Tz W [(true, B, t.run y k), (true, C, t.run y k)] wx)) (fun s11 _ => m - (RowKit.intOf s11).toNat)
  case atStart => exact ⟨0, Nat.zero_le _, rfl, HD3⟩
  case round =>
    clear HD3 HO
    obtain ⟨k, hk, rfl, HD⟩ := hrel
    rename_i wr
    by_cases hlt : k < m
    · have hk0 : (0 : Int) ≤ (k : Int) := Int.natCast_nonneg _
      have hk1 : (k : Int) < (m : Int) := by omega
      obtain ⟨bd, rfl, hc⟩ := (HL.out wr HD.out.below).at_ hlt
      have HC : Hid (∀ w, Below W.heap.size W w → w.cell? (bd.add k) = some (.int .u64 ((y k : Nat) : Int))) := Lib.hid fun w hb => by
        obtain ⟨ad', e, h⟩ := (HL.out w hb).at_ hlt
        cases e
        exact h
      have hnk : (t.run y k).n = k := by rw [Tp.run_n, HN.out]; omega
      have HX : Hid (∀ w, Tz W [(true, B, t.run y k), (true, C, t.run y k)] w → Calls Try.prog 11 #[ptr B, .int .u64 ((y k : Nat) : Int)] w fun e w' => e = .returned (.int .u64 (((t.run y k).val (y k) : Nat) : Int)) ∧ Tz W [(true, B, t.run y (k + 1)), (true, C, t.run y k)] w') := Lib.hid fun w h => h.next (i := 0) rfl (y k) (HY.out k) (by omega)
      have HX2 : Hid (∀ w, Tz W [(true, B, t.run y (k + 1)), (true, C, t.run y k)] w → Calls Try.prog 11 #[ptr C, .int .u64 ((y k : Nat) : Int)] w fun e w' => e = .returned (.int .u64 (((t.run y k).val (y k) : Nat) : Int)) ∧ Tz W [(true, B, t.run y (k + 1)), (true, C, t.run y (k + 1))] w') := Lib.hid fun w h => h.next (i := 1) rfl (y k) (HY.out k) (by omega)
      generalize (t.run y k).val (y k) = vk at *
      generalize y k = q at *
      clear hnk hc
      go_upto_region 7 with fail
      refine RK.region (fun u => u.cell? (bd.add k) = some (.int .u64 (q : Int))) 13 (by kernel_rfl) ?_
      have HS0 := HC.out wr.drew (HD.out.step (below_drewN wr 1)).below
      have HDW : Hid (Tz W [(true, B, t.run y k), (true, C, t.run y k)] wr.drew) := Lib.hid (HD.out.step (below_drewN wr 1))
      generalize wr.drew = we at *
      refine RK.Any.take 0 46 (ptr B) rfl rfl (by kernel_rfl) (by kernel_rfl) (by kernel_rfl) (by kernel_rfl) (fun _ _ _ h => h) (by rfl) (fun W' hb => ?_) HS0 ?_
      · go_simp
      try simp only [List.setIfInBounds_toArray, List.set_cons_zero, List.set_cons_succ]
      refine RK.Any.take 1 47 (.slice (some bd) m d) rfl rfl (by kernel_rfl) (by kernel_rfl) (by kernel_rfl) (by kernel_rfl) (fun _ _ _ h => h) (by rfl) (fun W' hb => ?_) HS0 ?_
      · go_simp
      try simp only [List.setIfInBounds_toArray, List.set_cons_zero, List.set_cons_succ]
      refine RK.Any.take 2 48 (.int .i64 (k : Int)) rfl rfl (by kernel_rfl) (by kernel_rfl) (by kernel_rfl) (by kernel_rfl) (fun _ _ _ h => h) (by rfl) (fun W' hb => ?_) HS0 ?_
      · go_simp
      try simp only [List.setIfInBounds_toArray, List.set_cons_zero, List.set_cons_succ]
      refine RK.Any.take 3 49 (.pointer (some (bd.add k))) rfl rfl (by kernel_rfl) (by kernel_rfl) (by kernel_rfl) (by kernel_rfl) (fun _ _ _ h => h) (by rfl) (fun W' hb => ?_) HS0 ?_
      · go_simp
      try simp only [List.setIfInBounds_toArray, List.set_cons_zero, List.set_cons_succ]
      refine RK.Any.take 4 50 (.int .u64 (q : Int)) rfl rfl (by kernel_rfl) (by kernel_rfl) (by kernel_rfl) (by kernel_rfl) (fun _ _ _ h => h) (by rfl) (fun W' hb => ?_) HS0 ?_
      · go_simp
      try simp only [List.setIfInBounds_toArray, List.set_cons_zero, List.set_cons_succ]
      refine RK.Any.take 6 52 (ptr C) rfl rfl (by kernel_rfl) (by kernel_rfl) (by kernel_rfl) (by kernel_rfl) (fun _ _ _ h => h) (by rfl) (fun W' hb => ?_) HS0 ?_
      · go_simp
      try simp only [List.setIfInBounds_toArray, List.set_cons_zero, List.set_cons_succ]
      refine RK.Any.take 7 53 (.slice (some bd) m d) rfl rfl (by kernel_rfl) (by kernel_rfl) (by kernel_rfl) (by kernel_rfl) (fun _ _ _ h => h) (by rfl) (fun W' hb => ?_) HS0 ?_
      · go_simp
      try simp only [List.setIfInBounds_toArray, List.set_cons_zero, List.set_cons_succ]
      refine RK.Any.take 8 54 (.int .i64 (k : Int)) rfl rfl (by kernel_rfl) (by kernel_rfl) (by kernel_rfl) (by kernel_rfl) (fun _ _ _ h => h) (by rfl) (fun W' hb => ?_) HS0 ?_
      · go_simp
      try simp only [List.setIfInBounds_toArray, List.set_cons_zero, List.set_cons_succ]
      refine RK.Any.take 9 55 (.pointer (some (bd.add k))) rfl rfl (by kernel_rfl) (by kernel_rfl) (by kernel_rfl) (by kernel_rfl) (fun _ _ _ h => h) (by rfl) (fun W' hb => ?_) HS0 ?_
      · go_simp
      try simp only [List.setIfInBounds_toArray, List.set_cons_zero, List.set_cons_succ]
      refine RK.Any.take 10 56 (.int .u64 (q : Int)) rfl rfl (by kernel_rfl) (by kernel_rfl) (by kernel_rfl) (by kernel_rfl) (fun _ _ _ h => h) (by rfl) (fun W' hb => ?_) HS0 ?_
      · go_simp
      try simp only [List.setIfInBounds_toArray, List.set_cons_zero, List.set_cons_succ]
      refine RK.Any.call 5 51 11 #[ptr B, .int .u64 (q : Int)] (by kernel_rfl) rfl rfl (by rfl) (by go_simp) (Calls.mono ((HX.out _ HDW.out)) ?_)
      rintro e wf ⟨rfl, h⟩
      have HD1 := Lib.hid h
      clear h
      refine ⟨_, rfl, fun _ => HC.out wf HD1.out.below, ?_⟩
      try simp only [List.setIfInBounds_toArray, List.set_cons_zero, List.set_cons_succ]
      refine RK.Any.call 11 57 11 #[ptr C, .int .u64 (q : Int)] (by kernel_rfl) rfl rfl (by rfl) (by go_simp) (Calls.mono ((HX2.out _ HD1.out)) ?_)
      rintro e wg ⟨rfl, h⟩
      have HD2 := Lib.hid h
      clear h
      refine ⟨_, rfl, fun _ => HC.out wg HD2.out.below, ?_⟩
      try simp only [List.setIfInBounds_toArray, List.set_cons_zero, List.set_cons_succ]
      refine RK.Any.take 12 58 (.bool false) rfl rfl (by kernel_rfl) (by kernel_rfl) (by kernel_rfl) (by kernel_rfl) (fun _ _ _ h => h) (by rfl) (fun W' hb => ?_) (HC.out wg HD2.out.below) ?_
      · go_simp
      try simp only [List.setIfInBounds_toArray, List.set_cons_zero, List.set_cons_succ]
      refine RK.Any.done (by kernel_rfl) ?_
      clear HS0 HDW HD1 HX HX2 HC
      go_wp2_with fail
      go_roundw
      case rel => exact ⟨k + 1, by omega, by go_num, HD2⟩
      case measure => simp [RowKit.intOf]; omega
    · obtain rfl : k = m := by omega
      have HF2 : Hid ((t.run y k).fs.length ≤ 1000) := Lib.hid (Nat.le_trans (fs_run t y k) HF.out)
      have HN2 : Hid ((t.run y k).n = k) := Lib.hid (by rw [Tp.run_n, HN.out]; omega)
      generalize t.run y k = u at *
      obtain ⟨lo0, hi0, hts⟩ := HD.out
      have HCP : Hid (Calls Try.prog 14 #[ptr B] wr fun e w' => ∃ D, e = .returned (ptr D) ∧ TS W lo0 w'.heap.size [(true, B, u), (true, C, u), (true, D, u)] w') := Lib.hid ((hts.copy (i := 0) rfl HF2.out).mono fun _ _ ⟨D, a, b, _⟩ => ⟨D, a, b⟩)
      clear hts HD HF HN HL HY
      go_wp2_with (go_at_call 14; (with_reducible refine (HCP.out).mono ?_); rintro e w4 ⟨D, rfl, h⟩; have HDC := Lib.hid h; clear h HCP)
      obtain ⟨b, hbb⟩ : ∃ b, w4.heap.size = b := ⟨_, rfl⟩
      have HO0 : Hid (M.Own (bare W) b (.slice none 0 0) 0 (u.get x) w4) := Lib.hid (by rw [← hbb]; exact M.Own.bare0 HDC.out.below _)
      have HD4 : Hid (TS W lo0 b [(true, B, u), (true, C, u), (true, D, u)] w4) := Lib.hid (by rw [← hbb]; exact HDC.out)
      clear hbb HDC
      go_loopw [13, 14] (fun s13 s14 wx => ∃ k2 : Nat, k2 ≤ m2 ∧ s14 = .int .i64 (k2 : Int) ∧ Hid (TS W lo0 b [(true, B, u), (true, C, u), (true, D, u.run x k2)] wx) ∧ Hid (M.Own (bare W) b s13 k2 (u.get x) wx)) (fun _ s14 _ => m2 - (RowKit.intOf s14).toNat)
      case atStart => exact ⟨0, Nat.zero_le _, rfl, HD4, HO0⟩
      case round =>
        clear HD4 HO0
        obtain ⟨j, hj, rfl, HD, HO⟩ := hrel
        by_cases hlt : j < m2
        · have hk0 : (0 : Int) ≤ (j : Int) := Int.natCast_nonneg _
          have hk1 : (j : Int) < (m2 : Int) := by omega
          obtain ⟨bd, rfl, hc⟩ := (HL2.out wr HD.out.below).at_ hlt
          have hnk : (u.run x j).n = k + j := by rw [Tp.run_n, HN2.out]
          have HX : Hid (Calls Try.prog 11 #[ptr D, .int .u64 ((x j : Nat) : Int)] wr fun e w' => e = .returned (.int .u64 ((u.get x j : Nat) : Int)) ∧ TS W lo0 b [(true, B, u), (true, C, u), (true, D, u.run x (j + 1))] w' ∧ M.Own (bare W) b _ j (u.get x) w') := Lib.hid (HD.out.nextO HO.out (i := 2) rfl (x j) (HXB.out j) (by omega))
          have HPU : Hid (∀ w v, M.Own (bare W) b v j (u.get x) w → ∃ v' w', (Builtin.append_ #[26, 26] 26 #[v, .slice (some ⟨w.heap.size, 0, none⟩) 1 1]).run Try.prog (w.alloc (.cells #[.int .u64 ((u.get x j : Nat) : Int)] 24)) = .ok v' w' ∧ M.Own (bare W) b v' (j + 1) (u.get x) w' ∧ Below b w w') := Lib.hid fun w v h => h.push 1 _ rfl (by omega)
          obtain ⟨vo, vc, hv, _⟩ := HO.out.rd
          subst hv
          generalize u.get x j = vk at *
          generalize x j = q at *
          clear hnk
          go_wp2_with (first
            | (go_at_call 11; (with_reducible refine (HX.out).mono ?_); rintro e w5 ⟨rfl, h, h'⟩; obtain ⟨v', w6, hr, h1, h2⟩ := HPU.out w5 _ h'; have HD2 := Lib.hid (h.lowb h2 (Nat.le_refl _)); have HO2 := Lib.hid h1; clear h h' h1 h2)
            | (at_builtin; refine Lib.wpList_append_run _ rfl _ _ _ _ rfl _ _ rfl rfl _ _ hr ?_))
          go_roundw
          case rel => exact ⟨j + 1, by omega, by go_num, HD2, HO2⟩
          case measure => simp [RowKit.intOf]; omega
        · obtain rfl : j = m2 := by omega
          obtain ⟨vo, tc, hv, _⟩ := HO.out.rd
          subst hv
          have HAT := Lib.hid (fun w (h : TS W lo0 b [(true, B, u), (true, C, u), (true, D, u.run x j)] w) => h.atn (i := 0) rfl k HN2.out)
          go_wp2_with (go_at_call 13; (with_reducible refine (HAT.out _ HD.out).mono ?_); rintro e w7 ⟨rfl, rfl⟩)
          go_loopw [15] (fun s15 wx => ∃ k3 : Nat, k3 ≤ j ∧ s15 = .int .i64 (k3 : Int) ∧ Hid (TS W lo0 b [(true, B, u.run x k3), (true, C, u), (true, D, u.run x j)] wx) ∧ Hid (M.Own (bare W) b (.slice vo j tc) j (u.get x) wx)) (fun s15 _ => j - (RowKit.intOf s15).toNat)
          case atStart => exact ⟨0, Nat.zero_le _, rfl, HD, HO⟩
          case round =>
            clear HD HO HAT
            obtain ⟨k3, hk3, rfl, HD, HO⟩ := hrel
            by_cases hlt : k3 < j
            · have hk0 : (0 : Int) ≤ (k3 : Int) := Int.natCast_nonneg _
              have hk1 : (k3 : Int) < (j : Int) := by omega
              obtain ⟨bd, rfl, hc⟩ := (HL2.out wr HD.out.below).at_ hlt
              have HC : Hid (∀ w, Below W.heap.size W w → w.cell? (bd.add k3) = some (.int .u64 ((x k3 : Nat) : Int))) := Lib.hid fun w hb => by
                obtain ⟨ad', e, h⟩ := (HL2.out w hb).at_ hlt
                cases e
                exact h
              obtain ⟨td, rfl, HTC⟩ : ∃ td, vo = some td ∧ Hid (∀ w, M.Own (bare W) b (.slice vo j tc) j (u.get x) w → w.cell? (td.add k3) = some (.int .u64 ((u.get x k3 : Nat) : Int))) := by
                obtain ⟨ao', c', e, _, _, hrd⟩ := HO.out.rd
                cases e
                obtain ⟨td, rfl, _⟩ := hrd.at_ hlt
                refine ⟨td, rfl, Lib.hid fun w ho => ?_⟩
                obtain ⟨ao2, c2, e2, _, _, hrd2⟩ := ho.rd
                cases e2
                obtain ⟨td2, e3, h3⟩ := hrd2.at_ hlt
                cases e3
                exact h3
              have hnk : (u.run x k3).n = k + k3 := by rw [Tp.run_n, HN2.out]
              have HX : Hid (∀ w, TS W lo0 b [(true, B, u.run x k3), (true, C, u), (true, D, u.run x j)] w → M.Own (bare W) b (.slice (some td) j tc) j (u.get x) w → Calls Try.prog 11 #[ptr B, .int .u64 ((x k3 : Nat) : Int)] w fun e w' => e = .returned (.int .u64 ((u.get x k3 : Nat) : Int)) ∧ TS W lo0 b [(true, B, u.run x (k3 + 1)), (true, C, u), (true, D, u.run x j)] w' ∧ M.Own (bare W) b (.slice (some td) j tc) j (u.get x) w') := Lib.hid fun w h ho => h.nextO ho (i := 0) rfl (x k3) (HXB.out k3) (by omega)
              generalize u.get x k3 = vk at *
              generalize x k3 = q at *
              clear hnk hc
              go_upto_region 20 with fail
              refine RK.region (fun u => u.cell? (bd.add k3) = some (.int .u64 (q : Int)) ∧ u.cell? (td.add k3) = some (.int .u64 (vk : Int))) 11 (by kernel_rfl) ?_
              have HDW : Hid (TS W lo0 b [(true, B, u.run x k3), (true, C, u), (true, D, u.run x j)] wr.drew) := Lib.hid (HD.out.step (below_drewN wr 1))
              have HOW : Hid (M.Own (bare W) b (.slice (some td) j tc) j (u.get x) wr.drew) := Lib.hid (HO.out.drewN 1)
              have HS0 := And.intro (HC.out wr.drew HDW.out.below) (HTC.out wr.drew HOW.out)
              generalize wr.drew = we at *
              refine RK.Any.take 0 87 (ptr B) rfl rfl (by kernel_rfl) (by kernel_rfl) (by kernel_rfl) (by kernel_rfl) (fun _ _ _ h => h) (by rfl) (fun W' hb => ?_) HS0 ?_
              · obtain ⟨h3, h4⟩ := hb; go_simp
              try simp only [List.setIfInBounds_toArray, List.set_cons_zero, List.set_cons_succ]
              refine RK.Any.take 1 88 (.slice (some bd) j d2) rfl rfl (by kernel_rfl) (by kernel_rfl) (by kernel_rfl) (by kernel_rfl) (fun _ _ _ h => h) (by rfl) (fun W' hb => ?_) HS0 ?_
              · obtain ⟨h3, h4⟩ := hb; go_simp
              try simp only [List.setIfInBounds_toArray, List.set_cons_zero, List.set_cons_succ]
              refine RK.Any.take 2 89 (.int .i64 (k3 : Int)) rfl rfl (by kernel_rfl) (by kernel_rfl) (by kernel_rfl) (by kernel_rfl) (fun _ _ _ h => h) (by rfl) (fun W' hb => ?_) HS0 ?_
              · obtain ⟨h3, h4⟩ := hb; go_simp
              try simp only [List.setIfInBounds_toArray, List.set_cons_zero, List.set_cons_succ]
              refine RK.Any.take 3 90 (.pointer (some (bd.add k3))) rfl rfl (by kernel_rfl) (by kernel_rfl) (by kernel_rfl) (by kernel_rfl) (fun _ _ _ h => h) (by rfl) (fun W' hb => ?_) HS0 ?_
              · obtain ⟨h3, h4⟩ := hb; go_simp
              try simp only [List.setIfInBounds_toArray, List.set_cons_zero, List.set_cons_succ]
              refine RK.Any.take 4 91 (.int .u64 (q : Int)) rfl rfl (by kernel_rfl) (by kernel_rfl) (by kernel_rfl) (by kernel_rfl) (fun _ _ _ h => h) (by rfl) (fun W' hb => ?_) HS0 ?_
              · obtain ⟨h3, h4⟩ := hb; go_simp
              try simp only [List.setIfInBounds_toArray, List.set_cons_zero, List.set_cons_succ]
              refine RK.Any.take 6 93 (.slice (some td) j tc) rfl rfl (by kernel_rfl) (by kernel_rfl) (by kernel_rfl) (by kernel_rfl) (fun _ _ _ h => h) (by rfl) (fun W' hb => ?_) HS0 ?_
              · obtain ⟨h3, h4⟩ := hb; go_simp
              try simp only [List.setIfInBounds_toArray, List.set_cons_zero, List.set_cons_succ]
              refine RK.Any.take 7 94 (.int .i64 (k3 : Int)) rfl rfl (by kernel_rfl) (by kernel_rfl) (by kernel_rfl) (by kernel_rfl) (fun _ _ _ h => h) (by rfl) (fun W' hb => ?_) HS0 ?_
              · obtain ⟨h3, h4⟩ := hb; go_simp
              try simp only [List.setIfInBounds_toArray, List.set_cons_zero, List.set_cons_succ]
              refine RK.Any.take 8 95 (.pointer (some (td.add k3))) rfl rfl (by kernel_rfl) (by kernel_rfl) (by kernel_rfl) (by kernel_rfl) (fun _ _ _ h => h) (by rfl) (fun W' hb => ?_) HS0 ?_
              · obtain ⟨h3, h4⟩ := hb; go_simp
              try simp only [List.setIfInBounds_toArray, List.set_cons_zero, List.set_cons_succ]
              refine RK.Any.take 9 96 (.int .u64 (vk : Int)) rfl rfl (by kernel_rfl) (by kernel_rfl) (by kernel_rfl) (by kernel_rfl) (fun _ _ _ h => h) (by rfl) (fun W' hb => ?_) HS0 ?_
              · obtain ⟨h3, h4⟩ := hb; go_simp
              try simp only [List.setIfInBounds_toArray, List.set_cons_zero, List.set_cons_succ]
              refine RK.Any.call 5 92 11 #[ptr B, .int .u64 (q : Int)] (by kernel_rfl) rfl rfl (by rfl) (by go_simp) (Calls.mono ((HX.out _ HDW.out HOW.out)) ?_)
              rintro e wf ⟨rfl, h, h'⟩
              have HD1 := Lib.hid h
              have HO1 := Lib.hid h'
              clear h h'
              refine ⟨_, rfl, fun _ => And.intro (HC.out wf HD1.out.below) (HTC.out wf HO1.out), ?_⟩
              try simp only [List.setIfInBounds_toArray, List.set_cons_zero, List.set_cons_succ]
              refine RK.Any.take 10 97 (.bool false) rfl rfl (by kernel_rfl) (by kernel_rfl) (by kernel_rfl) (by kernel_rfl) (fun _ _ _ h => h) (by rfl) (fun W' hb => ?_) (And.intro (HC.out wf HD1.out.below) (HTC.out wf HO1.out)) ?_
              · go_simp
              try simp only [List.setIfInBounds_toArray, List.set_cons_zero, List.set_cons_succ]
              refine RK.Any.done (by kernel_rfl) ?_
              clear HS0 HDW HOW HX HC HTC
              go_wp2_with fail
              go_roundw
              case rel => exact ⟨k3 + 1, by omega, by go_num, HD1, HO1⟩
              case measure => simp [RowKit.intOf]; omega
            · obtain rfl : k3 = j := by omega
              have HA1 := Lib.hid (fun w (h : TS W lo0 b [(true, B, u.run x k3), (true, C, u), (true, D, u.run x k3)] w) => h.atn (i := 0) rfl (k + k3) (by rw [Tp.run_n, HN2.out]))
              have HA2 := Lib.hid (fun w (h : TS W lo0 b [(true, B, u.run x k3), (true, C, u), (true, D, u.run x k3)] w) => h.atn (i := 2) rfl (k + k3) (by rw [Tp.run_n, HN2.out]))
              have hnk : (u.run x k3).n = k + k3 := by rw [Tp.run_n, HN2.out]
              have HY1 : Hid (∀ w, TS W lo0 b [(true, B, u.run x k3), (true, C, u), (true, D, u.run x k3)] w → Calls Try.prog 11 #[ptr B, .int .u64 0] w fun e w' => e = .returned (.int .u64 (((u.run x k3).val 0 : Nat) : Int)) ∧ TS W lo0 b [(true, B, (u.run x k3).next 0), (true, C, u), (true, D, u.run x k3)] w') := Lib.hid fun w h => (h.next (i := 0) rfl 0 (by omega) (by omega)).mono fun _ _ ⟨a, b, _⟩ => ⟨a, b⟩
              have HY2 : Hid (∀ w t2, TS W lo0 b [(true, B, t2), (true, C, u), (true, D, u.run x k3)] w → Calls Try.prog 11 #[ptr D, .int .u64 0] w fun e w' => e = .returned (.int .u64 (((u.run x k3).val 0 : Nat) : Int)) ∧ Below W.heap.size W w') := Lib.hid fun w t2 h => (h.next (i := 2) rfl 0 (by omega) (by omega)).mono fun _ _ ⟨a, b, _⟩ => ⟨a, b.below⟩
              generalize (u.run x k3).val 0 = v0 at *
              clear hnk HO
              go_wp2_with (first
                | (go_at_call 13; (with_reducible refine (HA1.out _ HD.out).mono ?_); rintro e w8 ⟨rfl, rfl⟩)
                | (go_at_call 13; (with_reducible refine (HA2.out _ HD.out).mono ?_); rintro e w8 ⟨rfl, rfl⟩)
                | (go_at_call 11; (with_reducible refine (HY1.out _ HD.out).mono ?_); rintro e w9 ⟨rfl, h⟩; have HE := Lib.hid h; clear h)
                | (go_at_call 11; (with_reducible refine (HY2.out _ _ HE.out).mono ?_); rintro e w10 ⟨rfl, h⟩; have HEE := Lib.hid h; clear h))
              go_ret
              exact ⟨rfl, HEE.out⟩
set_option maxHeartbeats 4000000 in
theorem walkOut (ao : Option Addr) (n c s : Nat) (bo : Option Addr) (m d : Nat) (xo : Option Addr) (m2 d2 : Nat) (h : 500 < n ∨ (n ≤ 500 ∧ 500 < m) ∨ (n ≤ 500 ∧ m ≤ 500 ∧ 500 < m2)) (W : World) :
    Calls Try.prog 9 #[.slice ao n c, .int .u64 (s : Int), .slice bo m d, .slice xo m2 d2] W fun e w' => e = .returned (.bool true) ∧ Below W.heap.size W w' := by
  rcases h with h | ⟨h1, h⟩ | ⟨h1, h2, h⟩
  · have g : (500 : Int) < (n : Int) := by omega
    go_enter Try.func9, Try.ntmps9
    go_wp2_with (go_at_call 10; (with_reducible refine (works_any _).mono ?_); rintro e w1 ⟨rfl, hb⟩)
    go_ret
    exact ⟨rfl, bnext (by assumption) (by assumption)⟩
  · have g1 : ¬ (500 : Int) < (n : Int) := by omega
    have g : (500 : Int) < (m : Int) := by omega
    go_enter Try.func9, Try.ntmps9
    go_wp2_with (go_at_call 10; (with_reducible refine (works_any _).mono ?_); rintro e w1 ⟨rfl, hb⟩)
    go_ret
    exact ⟨rfl, bnext (by assumption) (by assumption)⟩
  · have g1 : ¬ (500 : Int) < (n : Int) := by omega
    have g2 : ¬ (500 : Int) < (m : Int) := by omega
    have g : (500 : Int) < (m2 : Int) := by omega
    go_enter Try.func9, Try.ntmps9
    go_wp2_with (go_at_call 10; (with_reducible refine (works_any _).mono ?_); rintro e w1 ⟨rfl, hb⟩)
    go_ret
    exact ⟨rfl, bnext (by assumption) (by assumption)⟩
theorem walk (v : Value) (s : Nat) (u p : Value) (hs : s < 18446744073709551616) (W : World) (hv : NumsIn W v) (hu : NumsIn W u) (hp : NumsIn W p) :
    Calls Try.prog 9 #[v, .int .u64 (s : Int), u, p] W fun e w' => e = .returned (.bool true) ∧ Below W.heap.size W w' := by
  obtain ⟨ao, n, c, z, rfl, _, _, hz, hr, h0⟩ := hv
  obtain ⟨bo, m, d, y, rfl, _, _, hy, hl, _⟩ := hu
  obtain ⟨xo, m2, d2, x, rfl, _, _, hx, hl2, _⟩ := hp
  by_cases h1 : 500 < n
  · exact walkOut ao n c s bo m d xo m2 d2 (.inl h1) W
  by_cases h2 : 500 < m
  · exact walkOut ao n c s bo m d xo m2 d2 (.inr (.inl ⟨by omega, h2⟩)) W
  by_cases h3 : 500 < m2
  · exact walkOut ao n c s bo m d xo m2 d2 (.inr (.inr ⟨by omega, by omega, h3⟩)) W
  exact walkHere ao n c z s bo m d y xo m2 d2 x (by omega) (by omega) (by omega) hz hy hx hs W hr h0 hl hl2

set_option maxRecDepth 100000 in
theorem lifted (os : Os) (started : os.Started) (H : Type) (enc : TypeId × Value → H) :
    ReturnsInHanded {} Try.checked os 9 .any (Rows.tapeSameSpec.pre6 enc Try.prog Try.f9 Rows.tapeSameRow.domain false) (Rows.tapeSameSpec.post enc Try.prog Try.f9 false true false false) := by
  refine returnsInHanded_of_change (C := Try.checked) M.own started (by kernel_rfl) Try.func9
    (ChangeSpec.witness6 (enc := enc) (C := Try.checked) false ⟨#[], #[.slice none 0 0, .int .u64 0, .slice none 0 0, .slice none 0 0], []⟩ 8 (by kernel_rfl) (by kernel_rfl) (by kernel_rfl) (by kernel_rfl)) ?_
  intro W base args ds gs before hval0 hW _ _
  have hval : ∀ (j : Nat) t v, Try.f9.params[j]? = some t → args[j]? = some v → Value.okWide Try.prog W .any base t v := hval0
  have hW' := hW
  obtain ⟨p, q, hA0, hV, rfl, _, _⟩ := hW
  have hA : DataW.TrodAll enc Try.prog W 0 (fun _ => true) true Try.f9.params.toList args.toList ds p := hA0
  rw [Try.params9] at hA hval
  obtain ⟨v0, vs0, d0, ds0, p0, q0, hargs, rfl, rfl, h0, r0⟩ := trodAll_cons hA
  obtain ⟨v1, vs1, d1, ds1, p1, q1, rfl, rfl, rfl, h1, r1⟩ := trodAll_cons r0
  obtain ⟨v2, vs2, d2, ds2, p2, q2, rfl, rfl, rfl, h2, r2⟩ := trodAll_cons r1
  obtain ⟨v3, vs3, d3, ds3, p3, q3, rfl, rfl, rfl, h3, r3⟩ := trodAll_cons r2
  obtain ⟨rfl, rfl, rfl⟩ := trodAll_nil r3
  obtain rfl : args = #[v0, v1, v2, v3] := by cases args; simp_all
  obtain ⟨rfl, rfl⟩ := trodVars_none hV
  have k0 := h0
  have lt0 : ∀ x ∈ p0, x.block < W.heap.size := by obtain ⟨m, hm⟩ := k0; exact DataW.trod_lt m _ _ _ hm
  have ns0 := M.open_nums (hval 0 26 v0 rfl rfl) h0
  have k1 := h1
  have lt1 : ∀ x ∈ p1, x.block < W.heap.size := by obtain ⟨m, hm⟩ := k1; exact DataW.trod_lt m _ _ _ hm
  obtain ⟨x1, rfl, rfl, rfl, w1⟩ := open_int Try.underlying24 (hval 1 24 v1 rfl rfl) h1
  obtain ⟨lo1, hi1⟩ := M.u64_bounds w1
  obtain ⟨a1, rfl⟩ : ∃ a : Nat, x1 = a := ⟨x1.toNat, by omega⟩
  have k2 := h2
  have lt2 : ∀ x ∈ p2, x.block < W.heap.size := by obtain ⟨m, hm⟩ := k2; exact DataW.trod_lt m _ _ _ hm
  have ns2 := M.open_nums (hval 2 26 v2 rfl rfl) h2
  have k3 := h3
  have lt3 : ∀ x ∈ p3, x.block < W.heap.size := by obtain ⟨m, hm⟩ := k3; exact DataW.trod_lt m _ _ _ hm
  have ns3 := M.open_nums (hval 3 26 v3 rfl rfl) h3
  clear hA0 hval0
  simp only [List.append_nil] at hW'
  refine (walk v0 a1 v2 v3 (by omega) W ns0 ns2 ns3).mono fun e W' ⟨he, bel⟩ => ?_
  subst he
  exact ⟨_, rfl, _, _, _, [], _, [], hW', (trodAll_cons_mk (shut_bool Try.underlying4 _) trodAll_mk0), (trodAll_cons_mk (Below.trod M.laidOut (by kernel_rfl) (of_decide_eq_true (by kernel_rfl)) k0 bel lt0) (trodAll_cons_mk (Below.trod M.laidOut (by kernel_rfl) (of_decide_eq_true (by kernel_rfl)) k1 bel lt1) (trodAll_cons_mk (Below.trod M.laidOut (by kernel_rfl) (of_decide_eq_true (by kernel_rfl)) k2 bel lt2) (trodAll_cons_mk (Below.trod M.laidOut (by kernel_rfl) (of_decide_eq_true (by kernel_rfl)) k3 bel lt3) trodAll_mk0)))), rfl, bel.frame _, fun h => by cases h⟩

theorem holds : Rows.TapeSameSaid :=
  OpenClaim.holds_of_wide 9 Try.f9 rfl rfl rfl rfl rfl rfl rfl ⟨rfl, rfl, rfl, rfl, rfl⟩ rfl rfl rfl rfl rfl (by kernel_rfl) Try.func9 (by kernel_rfl)
    (of_decide_eq_true (by kernel_rfl)) (by unfold Func.isWrapper; first | (rw [if_pos (by decide +kernel)]; kernel_rfl) | (rw [if_neg (by decide +kernel)]; exact ⟨rfl, rfl⟩))
    (fun os started H enc _ => lifted os started H enc)

end TapeSame

theorem tapeSame_holds : Rows.TapeSameSaid := TapeSame.holds
#print axioms tapeSame_holds
end Go.Proofs.Ytbappohnljlchaa

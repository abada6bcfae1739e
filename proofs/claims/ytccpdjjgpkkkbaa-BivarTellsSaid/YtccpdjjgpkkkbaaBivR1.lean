/- The walks of the document's own value, row, column, of what turns a polynomial about, and of what compares (consistoryref06). -/
import Derived.Test.YtccpdjjgpkkkbaaBivW1
import Derived.Test.YtccpdjjgpkkkbaaQuietTail
namespace Go.Proofs.Ytccpdjjgpkkkbaa
open Go Go.RowKit Go.Lib
namespace M
set_option maxRecDepth 100000 in
set_option maxHeartbeats 8000000 in
theorem rat_any (ao : Option Addr) (cap m x y q : Nat) (L : Nat → Nat) (F : Nat → Nat → Nat) (hm : m ≤ 1000) (hl : ∀ i, i < m → L i ≤ 1000) (hx : x < 18446744073709551616) (hy : y < 18446744073709551616) (W : World) (hr : Mat W ao m L F) :
    Calls Try.prog 16 #[.slice ao m cap, .int .u64 (x : Int), .int .u64 (y : Int), .int .u64 (q : Int)] W fun e w' => e = .returned (.int .u64 ((MM.atP q x y m L F : Nat) : Int)) ∧ ∃ d, w' = W.drewN d := by
  rw [← MM.atR_eq]
  have HR := Lib.hid hr
  have HL := Lib.hid hl
  clear hr hl
  go_enter Try.func16, Try.ntmps16
  go_wp2_with fail
  go_loopw [9, 10] (fun s9 s10 wx => ∃ k d : Nat, k ≤ m ∧ s10 = .int .i64 (k : Int) ∧ s9 = .int .u64 ((MM.atR q x y L F k : Nat) : Int) ∧ wx = W.drewN d) (fun _ s10 _ => m - (RowKit.intOf s10).toNat)
  case atStart => exact ⟨0, 0, Nat.zero_le _, rfl, rfl, rfl⟩
  case round =>
    obtain ⟨k, d, hk, rfl, rfl, hwr⟩ := hrel
    obtain ⟨wo, hwo⟩ : ∃ wo : World, wo = wr := ⟨_, rfl⟩
    subst hwo
    have HWO := Lib.hid hwr
    clear hwr
    by_cases hlt : k < m
    · obtain ⟨ad, bo, c, rfl, hc0, hs, _⟩ := HR.out k hlt
      have hkI : (k : Int) < (m : Int) := by omega
      have hk0 : (0 : Int) ≤ (k : Int) := Int.natCast_nonneg _
      have HC := Lib.hid (fun d => (show (W.drewN d).cell? (ad.add k) = some (.slice bo (L k) c) from hc0))
      have HS := Lib.hid (hs : Rd W bo (L k) (F k))
      have hlk := HL.out k hlt
      obtain ⟨an, han⟩ : ∃ an, MM.atR q x y L F (k + 1) = an := ⟨_, rfl⟩
      have HAN := Lib.hid han
      have HA : Hid (MM.atI q x y F k (MM.atR q x y L F k) (L k) = an) := Lib.hid han
      clear han
      have HP1 := rpower_any x k q hx (by omega)
      generalize MM.atR q x y L F k = a0 at *
      generalize L k = lk at *
      clear hc0 hs
      go_wp2_with fail
      go_loopw [9, 11] (fun s9 s11 wx => ∃ j d : Nat, j ≤ lk ∧ s11 = .int .i64 (j : Int) ∧ s9 = .int .u64 ((MM.atI q x y F k a0 j : Nat) : Int) ∧ wx = W.drewN d) (fun _ s11 _ => lk - (RowKit.intOf s11).toNat)
      case atStart => exact ⟨0, d, Nat.zero_le _, rfl, rfl, HWO.out⟩
      case round =>
        clear HWO
        obtain ⟨j, e, hj, rfl, rfl, hwr⟩ := hrel
        have hcw : wr.cell? (ad.add k) = some (.slice bo lk c) := by rw [hwr]; exact HC.out e
        by_cases hlj : j < lk
        · obtain ⟨bd, rfl, hcb⟩ := HS.out.at_ hlj
          have hcx : wr.cell? (bd.add j) = some (.int .u64 ((F k j : Nat) : Int)) := by rw [hwr]; exact hcb
          have hj0 : (0 : Int) ≤ (j : Int) := Int.natCast_nonneg _
          have hjI : (j : Int) < (lk : Int) := by omega
          have HP2 := rpower_any y j q hy (by omega)
          have HM1 := rmulU (MM.powU x k q) (MM.powU y j q) q (MM.powU_lt _ _ _)
          have HM2 := rmulU (F k j) (MM.mulU (MM.powU x k q) (MM.powU y j q) q) q (MM.mulU_lt _ _ _)
          have HAD := raddU (MM.atI q x y F k a0 j) (MM.mulU (F k j) (MM.mulU (MM.powU x k q) (MM.powU y j q) q) q) q
          have HST : Hid (MM.addU (MM.atI q x y F k a0 j) (MM.mulU (F k j) (MM.mulU (MM.powU x k q) (MM.powU y j q) q) q) q = MM.atI q x y F k a0 (j + 1)) := Lib.hid rfl
          rw [HST.out] at HAD
          replace HST : Hid (MM.atI q x y F k a0 (j + 1) = MM.atI q x y F k a0 (j + 1)) := Lib.hid rfl
          obtain ⟨a2, ha2⟩ : ∃ a2, MM.atI q x y F k a0 (j + 1) = a2 := ⟨_, rfl⟩
          replace HST := Lib.hid ha2
          rw [ha2] at HAD
          clear ha2
          generalize MM.atI q x y F k a0 j = a1 at *
          generalize MM.mulU (F k j) (MM.mulU (MM.powU x k q) (MM.powU y j q) q) q = t2 at *
          generalize MM.mulU (MM.powU x k q) (MM.powU y j q) q = t1 at *
          generalize MM.powU x k q = p1 at *
          generalize MM.powU y j q = p2 at *
          have HWR := Lib.hid hwr
          clear hwr hcb
          go_upto_region 8 with fail
          go_quiet ((first | (go_at_call 30; first | (with_reducible exact HP1.quiet) | (with_reducible exact HP2.quiet)) | (go_at_call 29; first | (with_reducible exact HM1.quiet) | (with_reducible exact HM2.quiet))))
          go_wp2_with (go_at_call 31; (with_reducible refine (HAD.at _).mono ?_); rintro e w' ⟨rfl, nd, rfl⟩)
          go_roundw
          case rel => exact ⟨j + 1, _, by omega, by go_num, by rw [HST.out], by rw [HWR.out]; exact World.drewN_drewN _ _ _⟩
          case measure => simp [RowKit.intOf]; omega
        · have hjI : ¬ (j : Int) < (lk : Int) := by omega
          obtain rfl : j = lk := by omega
          have HWR := Lib.hid hwr
          clear hwr
          go_wp2_with fail
          go_roundw
          case rel => exact ⟨k + 1, _, by omega, by go_num, by rw [HA.out, HAN.out], HWR.out⟩
          case measure => simp [RowKit.intOf]; omega
    · have hkI : ¬ (k : Int) < (m : Int) := by omega
      obtain rfl : k = m := by omega
      go_wp2_with fail
      go_ret
      exact ⟨rfl, d, HWO.out⟩
set_option maxRecDepth 100000 in
set_option maxHeartbeats 2000000 in
theorem rnums_yes (ao bo : Option Addr) (n ca cb : Nat) (z : Nat → Nat) (hn : n ≤ 9223372036854775807) (W : World) (ha : Rd W ao n z) (hb : Rd W bo n z) :
    Calls Try.prog 13 #[.slice ao n ca, .slice bo n cb] W fun e w' => e = .returned (.bool true) ∧ ∃ d, w' = W.drewN d := by
  have HA := Lib.hid ha
  have HB := Lib.hid hb
  clear ha hb
  go_enter Try.func13, Try.ntmps13
  go_wp2_with fail
  go_loopw [5] (fun s5 wx => ∃ k m : Nat, k ≤ n ∧ s5 = .int .i64 (k : Int) ∧ wx = W.drewN m) (fun s5 _ => n - (RowKit.intOf s5).toNat)
  case atStart => exact ⟨0, 0, Nat.zero_le _, rfl, rfl⟩
  case round =>
    obtain ⟨k, m, hk, rfl, rfl⟩ := hrel
    by_cases hlt : k < n
    · obtain ⟨ad, rfl, hc⟩ := HA.out.at_ hlt
      obtain ⟨bd, rfl, hd⟩ := HB.out.at_ hlt
      go_upto_region 6 with fail
      generalize hwr : W.drewN m = wr
      have hcell : wr.cell? (ad.add k) = some (.int .u64 ((z k : Nat) : Int)) := by rw [← hwr]; exact hc
      have hdell : wr.cell? (bd.add k) = some (.int .u64 ((z k : Nat) : Int)) := by rw [← hwr]; exact hd
      have HWR := Lib.hid hwr
      clear hwr hc hd
      have hk0 : (0 : Int) ≤ (k : Int) := Int.natCast_nonneg _
      have hk1 : (k : Int) < (n : Int) := by omega
      go_quiet (fail)
      go_wp2_with fail
      go_roundw
      case rel => exact ⟨k + 1, _, by omega, by go_num, by rw [← HWR.out]; exact World.drewN_drewN _ _ _⟩
      case measure => simp [RowKit.intOf]; omega
    · obtain rfl : k = n := by omega
      go_wp2_with fail
      go_ret
      exact ⟨rfl, _, rfl⟩
set_option maxRecDepth 100000 in
set_option maxHeartbeats 2000000 in
theorem rpolys_yes (ao bo : Option Addr) (m ca cb : Nat) (L : Nat → Nat) (F : Nat → Nat → Nat) (hm : m ≤ 1000000) (hl : ∀ i, i < m → L i ≤ 1000) (W : World) (ha : Mat W ao m L F) (hb : Mat W bo m L F) :
    Calls Try.prog 9 #[.slice ao m ca, .slice bo m cb] W fun e w' => e = .returned (.bool true) ∧ ∃ d, w' = W.drewN d := by
  have HA := Lib.hid ha
  have HB := Lib.hid hb
  have HL := Lib.hid hl
  clear ha hb hl
  go_enter Try.func9, Try.ntmps9
  go_wp2_with fail
  go_loopw [5] (fun s5 wx => ∃ k d : Nat, k ≤ m ∧ s5 = .int .i64 (k : Int) ∧ wx = W.drewN d) (fun s5 _ => m - (RowKit.intOf s5).toNat)
  case atStart => exact ⟨0, 0, Nat.zero_le _, rfl, rfl⟩
  case round =>
    obtain ⟨k, d, hk, rfl, rfl⟩ := hrel
    by_cases hlt : k < m
    · obtain ⟨ad, a1, c1, rfl, hc, hs, _⟩ := HA.out k hlt
      obtain ⟨bd, b1, c2, rfl, hd, ht, _⟩ := HB.out k hlt
      have hlk := HL.out k hlt
      go_upto_region 6 with fail
      generalize hwr : W.drewN d = wr
      have hcell : wr.cell? (ad.add k) = some (.slice a1 (L k) c1) := by rw [← hwr]; exact hc
      have hdell : wr.cell? (bd.add k) = some (.slice b1 (L k) c2) := by rw [← hwr]; exact hd
      have HN := Lib.hid (fun e => rnums_yes a1 b1 (L k) c1 c2 (F k) (by omega) (wr.drewN e) (by rw [← hwr]; exact hs) (by rw [← hwr]; exact ht))
      have HWR := Lib.hid hwr
      generalize L k = lk at *
      clear hwr hc hd hs ht
      have hk0 : (0 : Int) ≤ (k : Int) := Int.natCast_nonneg _
      have hk1 : (k : Int) < (m : Int) := by omega
      go_quiet ((go_at_call 13; exact Calls.quiet_of (HN.out _)))
      go_wp2_with fail
      go_roundw
      case rel => exact ⟨k + 1, _, by omega, by go_num, by rw [← HWR.out]; exact World.drewN_drewN _ _ _⟩
      case measure => simp [RowKit.intOf]; omega
    · obtain rfl : k = m := by omega
      go_wp2_with fail
      go_ret
      exact ⟨rfl, _, rfl⟩
end M
end Go.Proofs.Ytccpdjjgpkkkbaa

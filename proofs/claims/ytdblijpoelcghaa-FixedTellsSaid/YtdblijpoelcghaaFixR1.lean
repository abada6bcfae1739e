/- The document's own: are two rows the same; the number of a whole number, the whole number of a number; is one within bounds. -/
import Derived.Test.YtdblijpoelcghaaFixW3
import Derived.Test.YtdblijpoelcghaaFixPush
namespace Go.Proofs.Ytdblijpoelcghaa
open Go Go.RowKit Go.Lib
namespace M
set_option maxHeartbeats 2000000 in
theorem numbers_any (ao bo : Option Addr) (n m ca cb : Nat) (y z : Nat → Nat) (hn : n ≤ 9223372036854775807) (W : World) (ha : Rd W ao n y) (hb : Rd W bo m z) :
    Calls Try.prog 20 #[.slice ao n ca, .slice bo m cb] W fun e w' => e = .returned (.bool (decide (n = m ∧ ∀ k, k < n → y k = z k))) ∧ ∃ d, w' = W.drewN d := by
  have HF : Hid (¬ (n = m ∧ ∀ k, k < n → y k = z k) → decide (n = m ∧ ∀ k, k < n → y k = z k) = false) := Lib.hid fun h => decide_eq_false h
  have HT : Hid ((n = m ∧ ∀ k, k < n → y k = z k) → decide (n = m ∧ ∀ k, k < n → y k = z k) = true) := Lib.hid fun h => decide_eq_true h
  generalize decide (n = m ∧ ∀ k, k < n → y k = z k) = ans at *
  by_cases hnm : n = m
  · subst hnm
    have HA := Lib.hid ha
    have HB := Lib.hid hb
    clear ha hb
    go_enter Try.func20, Try.ntmps20
    go_wp2_with fail
    go_loopw [5] (fun s5 wx => ∃ k m : Nat, k ≤ n ∧ s5 = .int .i64 (k : Int) ∧ wx = W.drewN m ∧ Hid (∀ j, j < k → y j = z j)) (fun s5 _ => n - (RowKit.intOf s5).toNat)
    case atStart => exact ⟨0, 0, Nat.zero_le _, rfl, rfl, Lib.hid fun j h => absurd h (by omega)⟩
    case round =>
      obtain ⟨k, m, hk, rfl, rfl, HJ⟩ := hrel
      by_cases hlt : k < n
      · obtain ⟨ad, rfl, hc⟩ := HA.out.at_ hlt
        obtain ⟨bd, rfl, hd⟩ := HB.out.at_ hlt
        have HE : Hid (y k = z k → ∀ j, j < k + 1 → y j = z j) := Lib.hid fun e j hj => by
          by_cases h : j = k
          · subst h; exact e
          · exact HJ.out j (by omega)
        have HNE : Hid (y k ≠ z k → ans = false) := Lib.hid fun e => HF.out fun h => e (h.2 k hlt)
        go_upto_region 6 with fail
        generalize hwr : W.drewN m = wr
        have hcell : wr.cell? (ad.add k) = some (.int .u64 ((y k : Nat) : Int)) := by rw [← hwr]; exact hc
        have hdell : wr.cell? (bd.add k) = some (.int .u64 ((z k : Nat) : Int)) := by rw [← hwr]; exact hd
        have HWR := Lib.hid hwr
        clear hwr hc hd
        generalize y k = yk at *
        generalize z k = zk at *
        have hk0 : (0 : Int) ≤ (k : Int) := Int.natCast_nonneg _
        have hk1 : (k : Int) < (n : Int) := by omega
        by_cases he : yk = zk
        · have HN := Lib.hid (HE.out he)
          subst he
          clear HE HNE
          go_quiet (fail)
          go_wp2_with fail
          go_roundw
          case rel => exact ⟨k + 1, _, by omega, by go_num, by rw [← HWR.out]; exact World.drewN_drewN _ _ _, HN⟩
          case measure => simp [RowKit.intOf]; omega
        · have HZ := Lib.hid (HNE.out he)
          have heI : ((yk : Int) != (zk : Int)) = true := by simp; omega
          clear HE HNE
          go_quiet (fail)
          go_wp2_with fail
          go_ret
          exact ⟨by rw [HZ.out]; rfl, _, by rw [← HWR.out]; exact World.drewN_drewN _ _ _⟩
      · obtain hkn : k = n := by omega
        rw [hkn] at HJ
        subst hkn
        have HZ := Lib.hid (HT.out ⟨by first | trivial | rfl, HJ.out⟩)
        go_wp2_with fail
        go_ret
        exact ⟨by rw [HZ.out]; rfl, _, rfl⟩
  · have HZ := Lib.hid (HF.out fun h => hnm h.1)
    have hI : ((n : Int) != (m : Int)) = true := by simp; omega
    clear HF HT ha hb
    go_enter Try.func20, Try.ntmps20
    go_wp2_with fail
    go_ret
    exact ⟨by rw [HZ.out]; rfl, 0, rfl⟩
set_option maxHeartbeats 2000000 in
theorem ints_any (ao bo : Option Addr) (n m ca cb : Nat) (y z : Nat → Int) (hn : n ≤ 9223372036854775807) (W : World) (ha : IRow W ao n ca y) (hb : IRow W bo m cb z) :
    Calls Try.prog 29 #[.slice ao n ca, .slice bo m cb] W fun e w' => e = .returned (.bool (decide (MM.eqR n m y z))) ∧ ∃ d, w' = W.drewN d := by
  have HF : Hid (¬ MM.eqR n m y z → decide (MM.eqR n m y z) = false) := Lib.hid fun h => decide_eq_false h
  have HT : Hid (MM.eqR n m y z → decide (MM.eqR n m y z) = true) := Lib.hid fun h => decide_eq_true h
  generalize decide (MM.eqR n m y z) = ans at *
  by_cases hnm : n = m
  · subst hnm
    have HA := Lib.hid ha
    have HB := Lib.hid hb
    clear ha hb
    go_enter Try.func29, Try.ntmps29
    go_wp2_with fail
    go_loopw [5] (fun s5 wx => ∃ k m : Nat, k ≤ n ∧ s5 = .int .i64 (k : Int) ∧ wx = W.drewN m ∧ Hid (∀ j, j < k → y j = z j)) (fun s5 _ => n - (RowKit.intOf s5).toNat)
    case atStart => exact ⟨0, 0, Nat.zero_le _, rfl, rfl, Lib.hid fun j h => absurd h (by omega)⟩
    case round =>
      obtain ⟨k, m, hk, rfl, rfl, HJ⟩ := hrel
      by_cases hlt : k < n
      · obtain ⟨ad, rfl, hc⟩ := HA.out.at_ hlt
        obtain ⟨bd, rfl, hd⟩ := HB.out.at_ hlt
        have HE : Hid (y k = z k → ∀ j, j < k + 1 → y j = z j) := Lib.hid fun e j hj => by
          by_cases h : j = k
          · subst h; exact e
          · exact HJ.out j (by omega)
        have HNE : Hid (y k ≠ z k → ans = false) := Lib.hid fun e => HF.out fun h => e (h.2 k hlt)
        go_upto_region 6 with fail
        generalize hwr : W.drewN m = wr
        have hcell : wr.cell? (ad.add k) = some (.int .i64 (y k)) := by rw [← hwr]; exact hc
        have hdell : wr.cell? (bd.add k) = some (.int .i64 (z k)) := by rw [← hwr]; exact hd
        have HWR := Lib.hid hwr
        clear hwr hc hd
        generalize y k = yk at *
        generalize z k = zk at *
        have hk0 : (0 : Int) ≤ (k : Int) := Int.natCast_nonneg _
        have hk1 : (k : Int) < (n : Int) := by omega
        by_cases he : yk = zk
        · have HN := Lib.hid (HE.out he)
          subst he
          clear HE HNE
          go_quiet (fail)
          go_wp2_with fail
          go_roundw
          case rel => exact ⟨k + 1, _, by omega, by go_num, by rw [← HWR.out]; exact World.drewN_drewN _ _ _, HN⟩
          case measure => simp [RowKit.intOf]; omega
        · have HZ := Lib.hid (HNE.out he)
          have heI : (yk != zk) = true := by simp; exact he
          clear HE HNE
          go_quiet (fail)
          go_wp2_with fail
          go_ret
          exact ⟨by rw [HZ.out]; rfl, _, by rw [← HWR.out]; exact World.drewN_drewN _ _ _⟩
      · obtain hkn : k = n := by omega
        rw [hkn] at HJ
        subst hkn
        have HZ := Lib.hid (HT.out ⟨by first | trivial | rfl, HJ.out⟩)
        go_wp2_with fail
        go_ret
        exact ⟨by rw [HZ.out]; rfl, _, rfl⟩
  · have HZ := Lib.hid (HF.out fun h => hnm h.1)
    have hI : ((n : Int) != (m : Int)) = true := by simp; omega
    clear HF HT ha hb
    go_enter Try.func29, Try.ntmps29
    go_wp2_with fail
    go_ret
    exact ⟨by rw [HZ.out]; rfl, 0, rfl⟩
theorem good_gtr {q : Nat} (h : MM.Good q) : ¬ (q : Int) = 0 ∧ ¬ (2305843009213693952 : Int) < (q : Int) := by have := h.1; have := h.2; omega
set_option maxHeartbeats 1000000 in
theorem rnum_any (n : Int) (q : Nat) (hn : -9223372036854775808 ≤ n ∧ n ≤ 9223372036854775807) : Ret 23 #[.int .i64 n, .int .u64 (q : Int)] (.int .u64 ((MM.numU n q : Nat) : Int)) := by
  intro W
  by_cases hg : MM.Good q
  · have hr := MM.numU_int (n := n) hg
    have hr0 := MM.numU_lt n q
    have hg1 := hg.1
    have hg2 := hg.2
    generalize MM.numU n q = r at *
    have hb0 : ((q : Int) == 0) = false := by simp; omega
    have hb1 : decide ((2305843009213693952 : Int) < (q : Int)) = false := decide_eq_false (by omega)
    have hw : IntKind.i64.wrap (q : Int) = (q : Int) := IntWalk.i64_in _ (by omega)
    obtain ⟨t, ht⟩ : ∃ t, n.tmod (q : Int) = t := ⟨_, rfl⟩
    have hte : t = if 0 ≤ n then (r : Int) else (if (r : Int) = 0 then 0 else (r : Int) - q) := by
      rw [← ht, hr]
      by_cases h0 : 0 ≤ n
      · rw [if_pos h0, Int.tmod_eq_emod_of_nonneg h0]
      · rw [if_neg h0, Int.tmod_eq_emod]
        have hd : (q : Int) ∣ n ↔ n % (q : Int) = 0 := Int.dvd_iff_emod_eq_zero
        by_cases h1 : n % (q : Int) = 0
        · rw [if_pos h1, if_pos (.inr (hd.2 h1)), h1]; rfl
        · rw [if_neg h1, if_neg (fun h => by rcases h with h | h; exact h0 h; exact h1 (hd.1 h))]; omega
    have hrq : (r : Int) < q := by rw [hr]; exact Int.emod_lt_of_pos _ (by omega)
    have hwt : IntKind.i64.wrap t = t := IntWalk.i64_in _ (by rw [hte]; split <;> first | omega | (split <;> omega))
    have hwr : IntKind.u64.wrap (r : Int) = (r : Int) := IntWalk.u64_in _ (by omega)
    by_cases hneg : t < 0
    · have hs : t + q = (r : Int) := by rw [hte] at hneg ⊢; split at hneg <;> first | omega | (rename_i h1; rw [if_neg h1]; split at hneg <;> first | omega | (rename_i h2; rw [if_neg h2]; omega))
      clear hte hr
      go_enter Try.func23, Try.ntmps23
      go_wp2_with fail
      go_ret
      exact ⟨rfl, 0, rfl⟩
    · have hs : t = (r : Int) := by rw [hte] at hneg ⊢; split at hneg <;> first | (rename_i h1; rw [if_pos h1]) | (rename_i h1; rw [if_neg h1]; split at hneg <;> first | (rename_i h2; rw [if_pos h2]; omega) | omega)
      rw [hs] at ht
      clear hte hr hwt hneg hs
      go_enter Try.func23, Try.ntmps23
      go_wp2_with fail
      go_ret
      exact ⟨rfl, 0, rfl⟩
  · rw [MM.numU_bad hg]
    by_cases h0 : q = 0
    · subst h0
      go_enter Try.func23, Try.ntmps23
      go_wp2_with fail
      go_ret
      exact ⟨rfl, 0, rfl⟩
    · have h1 : 2305843009213693952 < q := by unfold MM.Good at hg; omega
      go_enter Try.func23, Try.ntmps23
      go_wp2_with fail
      go_ret
      exact ⟨rfl, 0, rfl⟩
set_option maxHeartbeats 1000000 in
theorem rint_any (x q : Nat) : Ret 24 #[.int .u64 (x : Int), .int .u64 (q : Int)] (.int .i64 (MM.intU x q)) := by
  intro W
  by_cases hg : MM.Good q
  · have hlt := Nat.mod_lt x hg.1
    have hg1 := hg.1
    have hg2 := hg.2
    have hI : MM.intU x q = if x % q ≤ (q - 1) / 2 then ((x % q : Nat) : Int) else ((x % q : Nat) : Int) - q := if_pos hg
    rw [hI]
    clear hI
    obtain ⟨y, hy⟩ : ∃ y, x % q = y := ⟨_, rfl⟩
    have hyI : (x : Int) % (q : Int) = (y : Int) := by rw [← hy]; rfl
    rw [hy] at hlt ⊢
    have hb0 : ((q : Int) == 0) = false := by simp; omega
    have hb1 : decide ((2305843009213693952 : Int) < (q : Int)) = false := decide_eq_false (by omega)
    have hq0 : q ≠ 0 := by omega
    have hw2 : IntKind.u64.wrap (2 * (y : Int)) = 2 * (y : Int) := IntWalk.u64_in _ (by omega)
    have hwy : wrap64 (y : Int) = (y : Int) := IntWalk.wrap64_in _ (by omega)
    clear hy
    by_cases hc : y ≤ (q - 1) / 2
    · rw [if_pos hc]
      have hcI : 2 * (y : Int) < (q : Int) := by omega
      clear hc
      go_enter Try.func24, Try.ntmps24
      go_wp2_with fail
      go_ret
      exact ⟨rfl, 0, rfl⟩
    · rw [if_neg hc]
      have hcI : ¬ 2 * (y : Int) < (q : Int) := by omega
      obtain ⟨v, hv⟩ : ∃ v : Nat, q - y = v := ⟨_, rfl⟩
      have hvv : (v : Int) = (q : Int) - (y : Int) := by omega
      have hvb : v ≤ 2305843009213693952 := by omega
      clear hc hv
      have hvI : IntKind.u64.wrap ((q : Int) - (y : Int)) = (v : Int) := by rw [← hvv]; exact IntWalk.u64_in _ ⟨by omega, by omega⟩
      have hwv : wrap64 (v : Int) = (v : Int) := IntWalk.wrap64_in _ ⟨by omega, by omega⟩
      have hwn : wrap64 (-(v : Int)) = (y : Int) - q := by
        rw [IntWalk.wrap64_in _ ⟨by omega, by omega⟩, hvv]
        exact Int.neg_sub _ _
      clear hvv hvb
      go_enter Try.func24, Try.ntmps24
      go_wp2_with fail
      go_ret
      exact ⟨rfl, 0, rfl⟩
  · have e2 : MM.intU x q = 0 := by unfold MM.intU; rw [if_neg hg]
    rw [e2]
    by_cases h0 : q = 0
    · subst h0
      go_enter Try.func24, Try.ntmps24
      go_wp2_with fail
      go_ret
      exact ⟨rfl, 0, rfl⟩
    · have h1 : 2305843009213693952 < q := by unfold MM.Good at hg; omega
      go_enter Try.func24, Try.ntmps24
      go_wp2_with fail
      go_ret
      exact ⟨rfl, 0, rfl⟩
theorem rwithin_any (n most : Int) (h0 : 0 ≤ most ∧ most ≤ 1048576) : Ret 45 #[.int .i64 n, .int .i64 most] (.bool (decide (-most ≤ n ∧ n ≤ most))) := by
  intro W
  have hw : wrap64 (-most) = -most := IntWalk.wrap64_in _ (by omega)
  by_cases h1 : -most ≤ n
  · by_cases h2 : n ≤ most
    · rw [decide_eq_true ⟨h1, h2⟩]
      go_enter Try.func45, Try.ntmps45
      go_wp2_with fail
      go_ret
      exact ⟨rfl, 0, rfl⟩
    · rw [decide_eq_false fun h => h2 h.2]
      have hd : decide (n ≤ most) = false := decide_eq_false h2
      go_enter Try.func45, Try.ntmps45
      go_wp2_with fail
      go_ret
      exact ⟨rfl, 0, rfl⟩
  · rw [decide_eq_false fun h => h1 h.1]
    have hd : decide (-most ≤ n) = false := decide_eq_false h1
    go_enter Try.func45, Try.ntmps45
    go_wp2_with fail
    go_ret
    exact ⟨rfl, 0, rfl⟩
/-- The examples' parameters. -/
def sp : Pm := ⟨0, 101, 0, 0, 0, 0, 0, 2, 1, 0, 3, 2⟩
theorem some_any : RetB 13 #[] (.agg sp.cells) := by
  intro W
  have hb := below_box W (.cells sp.cells 31)
  have hc := (Box.new W sp)
  go_enter Try.func13, Try.ntmps13
  go_wp2_with fail
  exact bodyPost_ret (results_cell_row rfl _ _ W.heap.size 31 sp.cells (0, 0) _ rfl hc Try.underlying31 rfl info_pm) rfl ⟨rfl, hb⟩
end M
end Go.Proofs.Ytdblijpoelcghaa

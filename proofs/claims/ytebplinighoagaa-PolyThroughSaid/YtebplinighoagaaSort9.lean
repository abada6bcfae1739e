/- The library's sort of a row of 13 or 14 numbers. -/
import Derived.Test.YtebplinighoagaaSort8
namespace Go.Proofs.Ytebplinighoagaa
open Go Go.RowKit Go.Lib
namespace MM
/-- In order but for what stands between a and b, and that is where it belongs. -/
def Out (n a b : Nat) (y : Nat → Nat) : Prop := ∀ p q, p < q → q < n → (p < a ∨ b ≤ q) → y p ≤ y q
theorem Out.sw {n a b : Nat} {y x : Nat → Nat} (h : Out n a b y) (hb : b ≤ n) (hs : Sw a b y x) : Out n a b x := fun p q h1 h2 h3 => by
  by_cases hp : p < a ∨ b ≤ p
  · rw [hs.out hp]
    by_cases hq : q < a ∨ b ≤ q
    · rw [hs.out hq]; exact h p q h1 h2 h3
    · exact hs.all (y p ≤ ·) (fun k x1 x2 => h p k (by omega) (by omega) (by omega)) q (by omega) (by omega)
  · have hq : q < a ∨ b ≤ q := by omega
    rw [hs.out hq]
    exact hs.all (· ≤ y q) (fun k x1 x2 => h k q (by omega) (by omega) (by omega)) p (by omega) (by omega)
theorem Out.asc {n a b : Nat} {y : Nat → Nat} (h : Out n a b y) (ha : Asc a b y) : Asc 0 n y := fun p q _ h1 h2 => by
  by_cases hp : p < a ∨ b ≤ q
  · exact h p q h1 h2 hp
  · exact ha p q (by omega) h1 (by omega)
theorem Out.start (n : Nat) (y : Nat → Nat) : Out n 0 n y := fun p q h1 h2 h3 => by omega
theorem Out.left {n a b m : Nat} {y x : Nat → Nat} (h : Out n a b y) (hb : b ≤ n) (hp : Parted a b m y) (_hm : a ≤ m) (hmb : m < b) (hs : Sw a m y x) (ha : Asc a m x) : Out n (m + 1) b x := fun p q h1 h2 h3 => by
  by_cases h4 : p < a ∨ b ≤ q
  · exact h.sw hb (hs.wide (Nat.le_refl _) (by omega)) p q h1 h2 h4
  · have hl : ∀ k, a ≤ k → k < m → x k ≤ y m := hs.all (· ≤ y m) (fun k x1 x2 => hp.1 k x1 x2)
    have em : x m = y m := hs.out (by omega)
    by_cases e1 : p = m
    · rw [e1, em, hs.out (by omega)]; exact hp.2 q (by omega) (by omega)
    · by_cases e2 : q < m
      · exact ha p q (by omega) h1 e2
      · by_cases e3 : q = m
        · rw [e3, em]; exact hl p (by omega) (by omega)
        · rw [hs.out (k := q) (by omega)]
          exact Nat.le_trans (hl p (by omega) (by omega)) (hp.2 q (by omega) (by omega))
theorem Out.right {n a b m : Nat} {y x : Nat → Nat} (h : Out n a b y) (hb : b ≤ n) (hp : Parted a b m y) (hm : a ≤ m) (_hmb : m < b) (hs : Sw (m + 1) b y x) (ha : Asc (m + 1) b x) : Out n a m x := fun p q h1 h2 h3 => by
  by_cases h4 : p < a ∨ b ≤ q
  · exact h.sw hb (hs.wide (by omega) (Nat.le_refl _)) p q h1 h2 h4
  · have hr : ∀ k, m + 1 ≤ k → k < b → y m ≤ x k := hs.all (y m ≤ ·) (fun k x1 x2 => hp.2 k (by omega) x2)
    have em : x m = y m := hs.out (by omega)
    by_cases e1 : q = m
    · rw [e1, em, hs.out (k := p) (by omega)]; exact hp.1 p (by omega) (by omega)
    · by_cases e2 : m < p
      · exact ha p q (by omega) h1 (by omega)
      · by_cases e3 : p = m
        · rw [e3, em]; exact hr q (by omega) (by omega)
        · rw [hs.out (k := p) (by omega)]
          exact Nat.le_trans (hp.1 p (by omega) (by omega)) (hr q (by omega) (by omega))
theorem Out.low {n a b m : Nat} {y x : Nat → Nat} (h : Out n a b y) (hb : b ≤ n) (hs : Sw a b y x) (hl : Low a b m x) : Out n m b x := fun p q h1 h2 h3 => by
  by_cases h4 : p < a ∨ b ≤ q
  · exact h.sw hb hs p q h1 h2 h4
  · exact hl p q (by omega) h1 (by omega) (by omega)
end MM
namespace M
/-- The row while it is sorted. -/
def Pdq (W0 : World) (B n : Nat) (z : Nat → Nat) (a b : Nat) (w : World) : Prop := ∃ y, Mine W0 B n y w ∧ MM.Sw 0 n z y ∧ MM.Out n a b y
theorem Pdq.done {W0 : World} {B n a b : Nat} {z y : Nat → Nat} {w' : World} (hs : MM.Sw 0 n z y) (ho : MM.Out n a b y) (hb : b ≤ n) (h : Srt W0 B n a b y (MM.Asc a b) w') : Srt W0 B n 0 n z (MM.Asc 0 n) w' := by
  obtain ⟨x, h1, h2, h3⟩ := h
  exact ⟨x, h1, hs.trans (h2.wide (Nat.zero_le _) hb), (ho.sw hb h2).asc h3⟩
theorem partition_at (W0 : World) (B n cap a b p : Nat) (z : Nat → Nat) (hn : n ≤ 1000000) (hb : b ≤ n) (hap : a < p) (hpb : p < b) : ∀ w, Mine W0 B n z w →
    Calls Try.prog 62 #[.slice (some ⟨B, 0, none⟩) n cap, .int .i64 (a : Int), .int .i64 (b : Int), .int .i64 (p : Int)] w (PartR W0 B n a b z) := fun w hM => partition_any W0 B n cap a b p z hn hb hap hpb w hM
set_option maxRecDepth 100000 in
set_option maxHeartbeats 16000000 in
theorem pdq_long (W0 : World) (B n cap : Nat) (z : Nat → Nat) (h15 : n < 15) (w : World) (hM : Mine W0 B n z w) :
    Calls Try.prog 51 #[.slice (some ⟨B, 0, none⟩) n cap, .int .i64 0, .int .i64 (n : Int), .int .i64 4] w fun e w' => e = .returned (.tuple #[]) ∧ Srt W0 B n 0 n z (MM.Asc 0 n) w' := by
  have HM := Lib.hid hM
  have hn : n ≤ 1000000 := by omega
  clear hM
  go_enter Try.func51, Try.ntmps51
  go_wp2_with fail
  go_loopw [1, 2, 3, 8, 9] (fun s1 s2 s3 s8 s9 wx => ∃ (a b l : Nat) (wb wp : Bool), a ≤ b ∧ b ≤ n ∧ b - a ≤ l + 10 ∧ l ≤ 4 ∧ s1 = .int .i64 (a : Int) ∧ s2 = .int .i64 (b : Int) ∧ s3 = .int .i64 (l : Int) ∧ s8 = .bool wb ∧ s9 = .bool wp ∧ Hid (Pdq W0 B n z a b wx)) (fun s1 s2 _ _ _ _ => (RowKit.intOf s2).toNat - (RowKit.intOf s1).toNat)
  case atStart => exact ⟨0, n, 4, true, true, Nat.zero_le _, Nat.le_refl _, by omega, by omega, rfl, rfl, rfl, rfl, rfl, Lib.hid ⟨z, HM.out, .refl, MM.Out.start n z⟩⟩
  case round =>
    clear HM
    obtain ⟨a, b, l, wb, wp, hab, hbn, hl, hl4, rfl, rfl, rfl, rfl, rfl, HJ⟩ := hrel
    obtain ⟨y, hm, hsw, hout⟩ := HJ.out
    clear HJ
    obtain ⟨L, hL⟩ : ∃ L, b - a = L := ⟨_, rfl⟩
    have e0 : (b : Int) - (a : Int) = (L : Int) := by omega
    by_cases hs12 : L ≤ 12
    · have q1 : (L : Int) ≤ 12 := by omega
      have HI := Lib.hid (insert_any W0 B n cap a b y hn hbn hab _ hm)
      have HO := Lib.hid (And.intro hsw hout)
      clear hm hsw hout
      go_wp2_with (go_at_call 54; (with_reducible refine HI.out.mono ?_); rintro e w' ⟨rfl, hs⟩; have HS := Lib.hid hs; clear hs)
      refine bodyPost_ret (results_none rfl _ _ _) rfl ?_
      exact ⟨rfl, Pdq.done HO.out.1 HO.out.2 hbn HS.out⟩
    · have q1 : ¬ (L : Int) ≤ 12 := by omega
      have ql : ((l : Int) == 0) = false := by simp; omega
      cases wb
      · obtain ⟨l2, hl2⟩ : ∃ l2, l = l2 + 1 := ⟨l - 1, by omega⟩
        have el : (l : Int) - 1 = (l2 : Int) := by omega
        have HBK := Lib.hid (break_any W0 B n cap a b y hn hbn (by omega) (by omega) _ hm)
        have HO := Lib.hid (And.intro hsw hout)
        have HL2 := Lib.hid hl2
        have hl3 : l2 + 1 ≤ 4 := by omega
        have hl5 : b - a ≤ l2 + 11 := by omega
        clear hm hsw hout hl2
        go_upto_region 10 with (go_at_call 56; (refine HBK.out.mono ?_); rintro e wk ⟨rfl, y1, hm1, hs1, _⟩; have HK := Lib.hid (And.intro hm1 hs1); clear hm1 hs1)
        have HCH := Lib.hid (choose_any W0 B n cap a b y1 hn hbn (by omega) (by omega) _ HK.out.1)
        have HO1 : Hid (MM.Sw 0 n z y1 ∧ MM.Out n a b y1) := Lib.hid ⟨HO.out.1.trans (HK.out.2.wide (Nat.zero_le _) hbn), HO.out.2.sw hbn HK.out.2⟩
        clear HO HBK HK
        revert HO1 HCH
        generalize y1 = y at *
        intro HCH HO1
        go_upto_region 11 with (go_at_call 57; (refine HCH.out.mono ?_); rintro e wc ⟨j, k, rfl, haj, hjb, hk, hmc⟩; have HMC := Lib.hid hmc; clear hmc)
        have hk2 : ((k : Int) == 2) = false := by simp; omega
        have HY := Lib.hid (And.intro HMC.out HO1.out)
        clear HCH HMC HO1
        by_cases ha0 : 0 < a
        · obtain ⟨c, hc⟩ : ∃ c, a = c + 1 := ⟨a - 1, by omega⟩
          have h0 : decide (0 < a) = true := by simpa using ha0
          have hL := less_any (y c) (y j)
          have c1 := HY.out.1.cell (k := c) (by omega)
          have c2 := HY.out.1.cell (k := j) (by omega)
          have e1 : (a : Int) - 1 = (c : Int) := by omega
          have e2 : IntKind.i64.wrap (c : Int) = (c : Int) := IntWalk.i64_in _ (by omega)
          have p1 : (0 : Int) ≤ (c : Int) := Int.natCast_nonneg _
          have p2 : (0 : Int) ≤ (j : Int) := Int.natCast_nonneg _
          have p3 : (c : Int) < (n : Int) := by omega
          have p4 : (j : Int) < (n : Int) := by omega
          have HC := Lib.hid hc
          clear hc
          by_cases hls : y c < y j
          · have hl2 : ltB (y c) (y j) = true := by unfold ltB; simpa using hls
            rw [hl2] at hL
            clear hl2 hls
            go_upto_region 17 with fail
            go_quiet ((go_at_call 60; exact hL.quiet))
            clear hL c1 c2 h0 e1 e2 p1 p2 p3 p4
            have HP := Lib.hid (fun m => partition_at W0 B n cap a b j y hn hbn haj hjb _ (HY.out.1.drewN m))
            go_upto_region 21 with (go_at_call 62; (refine (HP.out _).mono ?_); rintro e wd ⟨m, r, rfl, hm1, hm2, y2, hM2, hs2, hp2⟩; have HD := Lib.hid (And.intro hM2 (And.intro hs2 hp2)); clear hM2 hs2 hp2)
            clear HP
            obtain ⟨p, hp⟩ : ∃ p, m - a = p := ⟨_, rfl⟩
            obtain ⟨q, hq⟩ : ∃ q, b - m = q := ⟨_, rfl⟩
            have ep : (m : Int) - (a : Int) = (p : Int) := by omega
            have eq : (b : Int) - (m : Int) = (q : Int) := by omega
            by_cases hpq : p < q
            · have hlt : (p : Int) < (q : Int) := by omega
              have HQ := Lib.hid (pdq_short W0 B n cap a m l2 y2 hn (by omega) hm1 (by omega) _ HD.out.1)
              have HW := Lib.hid (show MM.Sw 0 n z y2 from HY.out.2.1.trans (HD.out.2.1.wide (Nat.zero_le _) hbn))
              have HO := Lib.hid (show MM.Out n a b y2 from HY.out.2.2.sw hbn HD.out.2.1)
              clear hp hq
              go_wp2_with (go_at_call 51; (refine HQ.out.mono ?_); rintro e we ⟨rfl, y3, hM3, hs3, ha3⟩; have HE := Lib.hid (And.intro hM3 (And.intro hs3 ha3)); clear hM3 hs3 ha3)
              go_roundw
              case rel => exact ⟨m + 1, b, l2, _, _, by omega, by omega, by omega, by omega, by go_num, by first | rfl | go_num, rfl, rfl, rfl, Lib.hid ⟨_, HE.out.1, HW.out.trans (HE.out.2.1.wide (Nat.zero_le _) (by omega)), HO.out.left hbn HD.out.2.2 hm1 hm2 HE.out.2.1 HE.out.2.2⟩⟩
              case measure => simp [RowKit.intOf]; omega
            · have hlt : ¬ (p : Int) < (q : Int) := by omega
              have hq0 := pdq_short W0 B n cap (m + 1) b l2 y2 hn hbn hm2 (by omega) _ HD.out.1
              rw [show ((m + 1 : Nat) : Int) = (m : Int) + 1 from rfl] at hq0
              have HQ := Lib.hid hq0
              have HW := Lib.hid (show MM.Sw 0 n z y2 from HY.out.2.1.trans (HD.out.2.1.wide (Nat.zero_le _) hbn))
              have HO := Lib.hid (show MM.Out n a b y2 from HY.out.2.2.sw hbn HD.out.2.1)
              clear hp hq hq0
              go_wp2_with (go_at_call 51; (refine HQ.out.mono ?_); rintro e we ⟨rfl, y3, hM3, hs3, ha3⟩; have HE := Lib.hid (And.intro hM3 (And.intro hs3 ha3)); clear hM3 hs3 ha3)
              go_roundw
              case rel => exact ⟨a, m, l2, _, _, by omega, by omega, by omega, by omega, by go_num, by first | rfl | go_num, rfl, rfl, rfl, Lib.hid ⟨_, HE.out.1, HW.out.trans (HE.out.2.1.wide (Nat.zero_le _) hbn), HO.out.right hbn HD.out.2.2 hm1 hm2 HE.out.2.1 HE.out.2.2⟩⟩
              case measure => simp [RowKit.intOf]; omega
          · have hl2 : ltB (y c) (y j) = false := by unfold ltB; simpa using hls
            rw [hl2] at hL
            have HV : Hid (∀ k, a ≤ k → k < b → y j ≤ y k) := Lib.hid (fun k h1 h2 => Nat.le_trans (by omega) (HY.out.2.2 c k (by have := HC.out; omega) (by omega) (by have := HC.out; omega)))
            have HP := Lib.hid (fun m => partitionE_any W0 B n cap a b j y hn hbn haj hjb HV.out _ (HY.out.1.drewN m))
            clear hl2 hls
            go_upto_region 17 with fail
            go_quiet ((go_at_call 60; exact hL.quiet))
            clear hL c1 c2 h0 e1 e2 p1 p2 p3 p4
            go_wp2_with (go_at_call 61; (refine (HP.out _).mono ?_); rintro e wd ⟨m, rfl, hm1, hm2, y2, hM2, hs2, hp2⟩; have HD := Lib.hid (And.intro hM2 (And.intro hs2 hp2)); clear hM2 hs2 hp2)
            go_roundw
            case rel => exact ⟨m, b, l2, _, _, by omega, by omega, by omega, by omega, by go_num, by first | rfl | go_num, rfl, rfl, rfl, Lib.hid ⟨_, HD.out.1, HY.out.2.1.trans (HD.out.2.1.wide (Nat.zero_le _) hbn), HY.out.2.2.low hbn HD.out.2.1 HD.out.2.2⟩⟩
            case measure => simp [RowKit.intOf]; omega
        · have h0 : decide (0 < a) = false := by simpa using ha0
          go_upto_region 17 with fail
          go_quiet (fail)
          clear h0
          have HP := Lib.hid (fun m => partition_at W0 B n cap a b j y hn hbn haj hjb _ (HY.out.1.drewN m))
          go_upto_region 21 with (go_at_call 62; (refine (HP.out _).mono ?_); rintro e wd ⟨m, r, rfl, hm1, hm2, y2, hM2, hs2, hp2⟩; have HD := Lib.hid (And.intro hM2 (And.intro hs2 hp2)); clear hM2 hs2 hp2)
          clear HP
          obtain ⟨p, hp⟩ : ∃ p, m - a = p := ⟨_, rfl⟩
          obtain ⟨q, hq⟩ : ∃ q, b - m = q := ⟨_, rfl⟩
          have ep : (m : Int) - (a : Int) = (p : Int) := by omega
          have eq : (b : Int) - (m : Int) = (q : Int) := by omega
          by_cases hpq : p < q
          · have hlt : (p : Int) < (q : Int) := by omega
            have HQ := Lib.hid (pdq_short W0 B n cap a m l2 y2 hn (by omega) hm1 (by omega) _ HD.out.1)
            have HW := Lib.hid (show MM.Sw 0 n z y2 from HY.out.2.1.trans (HD.out.2.1.wide (Nat.zero_le _) hbn))
            have HO := Lib.hid (show MM.Out n a b y2 from HY.out.2.2.sw hbn HD.out.2.1)
            clear hp hq
            go_wp2_with (go_at_call 51; (refine HQ.out.mono ?_); rintro e we ⟨rfl, y3, hM3, hs3, ha3⟩; have HE := Lib.hid (And.intro hM3 (And.intro hs3 ha3)); clear hM3 hs3 ha3)
            go_roundw
            case rel => exact ⟨m + 1, b, l2, _, _, by omega, by omega, by omega, by omega, by go_num, by first | rfl | go_num, rfl, rfl, rfl, Lib.hid ⟨_, HE.out.1, HW.out.trans (HE.out.2.1.wide (Nat.zero_le _) (by omega)), HO.out.left hbn HD.out.2.2 hm1 hm2 HE.out.2.1 HE.out.2.2⟩⟩
            case measure => simp [RowKit.intOf]; omega
          · have hlt : ¬ (p : Int) < (q : Int) := by omega
            have hq0 := pdq_short W0 B n cap (m + 1) b l2 y2 hn hbn hm2 (by omega) _ HD.out.1
            rw [show ((m + 1 : Nat) : Int) = (m : Int) + 1 from rfl] at hq0
            have HQ := Lib.hid hq0
            have HW := Lib.hid (show MM.Sw 0 n z y2 from HY.out.2.1.trans (HD.out.2.1.wide (Nat.zero_le _) hbn))
            have HO := Lib.hid (show MM.Out n a b y2 from HY.out.2.2.sw hbn HD.out.2.1)
            clear hp hq hq0
            go_wp2_with (go_at_call 51; (refine HQ.out.mono ?_); rintro e we ⟨rfl, y3, hM3, hs3, ha3⟩; have HE := Lib.hid (And.intro hM3 (And.intro hs3 ha3)); clear hM3 hs3 ha3)
            go_roundw
            case rel => exact ⟨a, m, l2, _, _, by omega, by omega, by omega, by omega, by go_num, by first | rfl | go_num, rfl, rfl, rfl, Lib.hid ⟨_, HE.out.1, HW.out.trans (HE.out.2.1.wide (Nat.zero_le _) hbn), HO.out.right hbn HD.out.2.2 hm1 hm2 HE.out.2.1 HE.out.2.2⟩⟩
            case measure => simp [RowKit.intOf]; omega
      · obtain ⟨l2, hl2⟩ : ∃ l2, l2 = l := ⟨l, rfl⟩
        subst hl2
        have HCH := Lib.hid (choose_any W0 B n cap a b y hn hbn (by omega) (by omega) _ hm)
        have HO := Lib.hid (And.intro hsw hout)
        clear hm hsw hout
        go_upto_region 11 with (go_at_call 57; (refine HCH.out.mono ?_); rintro e wc ⟨j, k, rfl, haj, hjb, hk, hmc⟩; have HMC := Lib.hid hmc; clear hmc)
        have hk2 : ((k : Int) == 2) = false := by simp; omega
        have HY := Lib.hid (And.intro HMC.out HO.out)
        clear HCH HMC HO
        cases wp
        · go_upto_region 17 with fail
          by_cases ha0 : 0 < a
          · obtain ⟨c, hc⟩ : ∃ c, a = c + 1 := ⟨a - 1, by omega⟩
            have h0 : decide (0 < a) = true := by simpa using ha0
            have hL := less_any (y c) (y j)
            have c1 := HY.out.1.cell (k := c) (by omega)
            have c2 := HY.out.1.cell (k := j) (by omega)
            have e1 : (a : Int) - 1 = (c : Int) := by omega
            have e2 : IntKind.i64.wrap (c : Int) = (c : Int) := IntWalk.i64_in _ (by omega)
            have p1 : (0 : Int) ≤ (c : Int) := Int.natCast_nonneg _
            have p2 : (0 : Int) ≤ (j : Int) := Int.natCast_nonneg _
            have p3 : (c : Int) < (n : Int) := by omega
            have p4 : (j : Int) < (n : Int) := by omega
            have HC := Lib.hid hc
            clear hc
            by_cases hls : y c < y j
            · have hl2 : ltB (y c) (y j) = true := by unfold ltB; simpa using hls
              rw [hl2] at hL
              clear hl2 hls
              skip
              go_quiet ((go_at_call 60; exact hL.quiet))
              clear hL c1 c2 h0 e1 e2 p1 p2 p3 p4
              have HP := Lib.hid (fun m => partition_at W0 B n cap a b j y hn hbn haj hjb _ (HY.out.1.drewN m))
              go_upto_region 21 with (go_at_call 62; (refine (HP.out _).mono ?_); rintro e wd ⟨m, r, rfl, hm1, hm2, y2, hM2, hs2, hp2⟩; have HD := Lib.hid (And.intro hM2 (And.intro hs2 hp2)); clear hM2 hs2 hp2)
              clear HP
              obtain ⟨p, hp⟩ : ∃ p, m - a = p := ⟨_, rfl⟩
              obtain ⟨q, hq⟩ : ∃ q, b - m = q := ⟨_, rfl⟩
              have ep : (m : Int) - (a : Int) = (p : Int) := by omega
              have eq : (b : Int) - (m : Int) = (q : Int) := by omega
              by_cases hpq : p < q
              · have hlt : (p : Int) < (q : Int) := by omega
                have HQ := Lib.hid (pdq_short W0 B n cap a m l2 y2 hn (by omega) hm1 (by omega) _ HD.out.1)
                have HW := Lib.hid (show MM.Sw 0 n z y2 from HY.out.2.1.trans (HD.out.2.1.wide (Nat.zero_le _) hbn))
                have HO := Lib.hid (show MM.Out n a b y2 from HY.out.2.2.sw hbn HD.out.2.1)
                clear hp hq
                go_wp2_with (go_at_call 51; (refine HQ.out.mono ?_); rintro e we ⟨rfl, y3, hM3, hs3, ha3⟩; have HE := Lib.hid (And.intro hM3 (And.intro hs3 ha3)); clear hM3 hs3 ha3)
                go_roundw
                case rel => exact ⟨m + 1, b, l2, _, _, by omega, by omega, by omega, by omega, by go_num, by first | rfl | go_num, rfl, rfl, rfl, Lib.hid ⟨_, HE.out.1, HW.out.trans (HE.out.2.1.wide (Nat.zero_le _) (by omega)), HO.out.left hbn HD.out.2.2 hm1 hm2 HE.out.2.1 HE.out.2.2⟩⟩
                case measure => simp [RowKit.intOf]; omega
              · have hlt : ¬ (p : Int) < (q : Int) := by omega
                have hq0 := pdq_short W0 B n cap (m + 1) b l2 y2 hn hbn hm2 (by omega) _ HD.out.1
                rw [show ((m + 1 : Nat) : Int) = (m : Int) + 1 from rfl] at hq0
                have HQ := Lib.hid hq0
                have HW := Lib.hid (show MM.Sw 0 n z y2 from HY.out.2.1.trans (HD.out.2.1.wide (Nat.zero_le _) hbn))
                have HO := Lib.hid (show MM.Out n a b y2 from HY.out.2.2.sw hbn HD.out.2.1)
                clear hp hq hq0
                go_wp2_with (go_at_call 51; (refine HQ.out.mono ?_); rintro e we ⟨rfl, y3, hM3, hs3, ha3⟩; have HE := Lib.hid (And.intro hM3 (And.intro hs3 ha3)); clear hM3 hs3 ha3)
                go_roundw
                case rel => exact ⟨a, m, l2, _, _, by omega, by omega, by omega, by omega, by go_num, by first | rfl | go_num, rfl, rfl, rfl, Lib.hid ⟨_, HE.out.1, HW.out.trans (HE.out.2.1.wide (Nat.zero_le _) hbn), HO.out.right hbn HD.out.2.2 hm1 hm2 HE.out.2.1 HE.out.2.2⟩⟩
                case measure => simp [RowKit.intOf]; omega
            · have hl2 : ltB (y c) (y j) = false := by unfold ltB; simpa using hls
              rw [hl2] at hL
              have HV : Hid (∀ k, a ≤ k → k < b → y j ≤ y k) := Lib.hid (fun k h1 h2 => Nat.le_trans (by omega) (HY.out.2.2 c k (by have := HC.out; omega) (by omega) (by have := HC.out; omega)))
              have HP := Lib.hid (fun m => partitionE_any W0 B n cap a b j y hn hbn haj hjb HV.out _ (HY.out.1.drewN m))
              clear hl2 hls
              skip
              go_quiet ((go_at_call 60; exact hL.quiet))
              clear hL c1 c2 h0 e1 e2 p1 p2 p3 p4
              go_wp2_with (go_at_call 61; (refine (HP.out _).mono ?_); rintro e wd ⟨m, rfl, hm1, hm2, y2, hM2, hs2, hp2⟩; have HD := Lib.hid (And.intro hM2 (And.intro hs2 hp2)); clear hM2 hs2 hp2)
              go_roundw
              case rel => exact ⟨m, b, l2, _, _, by omega, by omega, by omega, by omega, by go_num, by first | rfl | go_num, rfl, rfl, rfl, Lib.hid ⟨_, HD.out.1, HY.out.2.1.trans (HD.out.2.1.wide (Nat.zero_le _) hbn), HY.out.2.2.low hbn HD.out.2.1 HD.out.2.2⟩⟩
              case measure => simp [RowKit.intOf]; omega
          · have h0 : decide (0 < a) = false := by simpa using ha0
            skip
            go_quiet (fail)
            clear h0
            have HP := Lib.hid (fun m => partition_at W0 B n cap a b j y hn hbn haj hjb _ (HY.out.1.drewN m))
            go_upto_region 21 with (go_at_call 62; (refine (HP.out _).mono ?_); rintro e wd ⟨m, r, rfl, hm1, hm2, y2, hM2, hs2, hp2⟩; have HD := Lib.hid (And.intro hM2 (And.intro hs2 hp2)); clear hM2 hs2 hp2)
            clear HP
            obtain ⟨p, hp⟩ : ∃ p, m - a = p := ⟨_, rfl⟩
            obtain ⟨q, hq⟩ : ∃ q, b - m = q := ⟨_, rfl⟩
            have ep : (m : Int) - (a : Int) = (p : Int) := by omega
            have eq : (b : Int) - (m : Int) = (q : Int) := by omega
            by_cases hpq : p < q
            · have hlt : (p : Int) < (q : Int) := by omega
              have HQ := Lib.hid (pdq_short W0 B n cap a m l2 y2 hn (by omega) hm1 (by omega) _ HD.out.1)
              have HW := Lib.hid (show MM.Sw 0 n z y2 from HY.out.2.1.trans (HD.out.2.1.wide (Nat.zero_le _) hbn))
              have HO := Lib.hid (show MM.Out n a b y2 from HY.out.2.2.sw hbn HD.out.2.1)
              clear hp hq
              go_wp2_with (go_at_call 51; (refine HQ.out.mono ?_); rintro e we ⟨rfl, y3, hM3, hs3, ha3⟩; have HE := Lib.hid (And.intro hM3 (And.intro hs3 ha3)); clear hM3 hs3 ha3)
              go_roundw
              case rel => exact ⟨m + 1, b, l2, _, _, by omega, by omega, by omega, by omega, by go_num, by first | rfl | go_num, rfl, rfl, rfl, Lib.hid ⟨_, HE.out.1, HW.out.trans (HE.out.2.1.wide (Nat.zero_le _) (by omega)), HO.out.left hbn HD.out.2.2 hm1 hm2 HE.out.2.1 HE.out.2.2⟩⟩
              case measure => simp [RowKit.intOf]; omega
            · have hlt : ¬ (p : Int) < (q : Int) := by omega
              have hq0 := pdq_short W0 B n cap (m + 1) b l2 y2 hn hbn hm2 (by omega) _ HD.out.1
              rw [show ((m + 1 : Nat) : Int) = (m : Int) + 1 from rfl] at hq0
              have HQ := Lib.hid hq0
              have HW := Lib.hid (show MM.Sw 0 n z y2 from HY.out.2.1.trans (HD.out.2.1.wide (Nat.zero_le _) hbn))
              have HO := Lib.hid (show MM.Out n a b y2 from HY.out.2.2.sw hbn HD.out.2.1)
              clear hp hq hq0
              go_wp2_with (go_at_call 51; (refine HQ.out.mono ?_); rintro e we ⟨rfl, y3, hM3, hs3, ha3⟩; have HE := Lib.hid (And.intro hM3 (And.intro hs3 ha3)); clear hM3 hs3 ha3)
              go_roundw
              case rel => exact ⟨a, m, l2, _, _, by omega, by omega, by omega, by omega, by go_num, by first | rfl | go_num, rfl, rfl, rfl, Lib.hid ⟨_, HE.out.1, HW.out.trans (HE.out.2.1.wide (Nat.zero_le _) hbn), HO.out.right hbn HD.out.2.2 hm1 hm2 HE.out.2.1 HE.out.2.2⟩⟩
              case measure => simp [RowKit.intOf]; omega
        · by_cases hk1 : k = 1
          · subst hk1
            have HPT := Lib.hid (partial_any W0 B n cap a b y hn hbn (by omega) (by omega) _ HY.out.1)
            go_upto_region 17 with (go_at_call 59; (refine HPT.out.mono ?_); rintro e wp2 ⟨r, rfl, hr, hmr⟩; have HR := Lib.hid (And.intro hr hmr); clear hr hmr; cases r)
            · have HY2 := Lib.hid (And.intro HR.out.2 HY.out.2)
              clear HY HR HPT
              revert HY2
              intro HY
              by_cases ha0 : 0 < a
              · obtain ⟨c, hc⟩ : ∃ c, a = c + 1 := ⟨a - 1, by omega⟩
                have h0 : decide (0 < a) = true := by simpa using ha0
                have hL := less_any (y c) (y j)
                have c1 := HY.out.1.cell (k := c) (by omega)
                have c2 := HY.out.1.cell (k := j) (by omega)
                have e1 : (a : Int) - 1 = (c : Int) := by omega
                have e2 : IntKind.i64.wrap (c : Int) = (c : Int) := IntWalk.i64_in _ (by omega)
                have p1 : (0 : Int) ≤ (c : Int) := Int.natCast_nonneg _
                have p2 : (0 : Int) ≤ (j : Int) := Int.natCast_nonneg _
                have p3 : (c : Int) < (n : Int) := by omega
                have p4 : (j : Int) < (n : Int) := by omega
                have HC := Lib.hid hc
                clear hc
                by_cases hls : y c < y j
                · have hl2 : ltB (y c) (y j) = true := by unfold ltB; simpa using hls
                  rw [hl2] at hL
                  clear hl2 hls
                  skip
                  go_quiet ((go_at_call 60; exact hL.quiet))
                  clear hL c1 c2 h0 e1 e2 p1 p2 p3 p4
                  have HP := Lib.hid (fun m => partition_at W0 B n cap a b j y hn hbn haj hjb _ (HY.out.1.drewN m))
                  go_upto_region 21 with (go_at_call 62; (refine (HP.out _).mono ?_); rintro e wd ⟨m, r, rfl, hm1, hm2, y2, hM2, hs2, hp2⟩; have HD := Lib.hid (And.intro hM2 (And.intro hs2 hp2)); clear hM2 hs2 hp2)
                  clear HP
                  obtain ⟨p, hp⟩ : ∃ p, m - a = p := ⟨_, rfl⟩
                  obtain ⟨q, hq⟩ : ∃ q, b - m = q := ⟨_, rfl⟩
                  have ep : (m : Int) - (a : Int) = (p : Int) := by omega
                  have eq : (b : Int) - (m : Int) = (q : Int) := by omega
                  by_cases hpq : p < q
                  · have hlt : (p : Int) < (q : Int) := by omega
                    have HQ := Lib.hid (pdq_short W0 B n cap a m l2 y2 hn (by omega) hm1 (by omega) _ HD.out.1)
                    have HW := Lib.hid (show MM.Sw 0 n z y2 from HY.out.2.1.trans (HD.out.2.1.wide (Nat.zero_le _) hbn))
                    have HO := Lib.hid (show MM.Out n a b y2 from HY.out.2.2.sw hbn HD.out.2.1)
                    clear hp hq
                    go_wp2_with (go_at_call 51; (refine HQ.out.mono ?_); rintro e we ⟨rfl, y3, hM3, hs3, ha3⟩; have HE := Lib.hid (And.intro hM3 (And.intro hs3 ha3)); clear hM3 hs3 ha3)
                    go_roundw
                    case rel => exact ⟨m + 1, b, l2, _, _, by omega, by omega, by omega, by omega, by go_num, by first | rfl | go_num, rfl, rfl, rfl, Lib.hid ⟨_, HE.out.1, HW.out.trans (HE.out.2.1.wide (Nat.zero_le _) (by omega)), HO.out.left hbn HD.out.2.2 hm1 hm2 HE.out.2.1 HE.out.2.2⟩⟩
                    case measure => simp [RowKit.intOf]; omega
                  · have hlt : ¬ (p : Int) < (q : Int) := by omega
                    have hq0 := pdq_short W0 B n cap (m + 1) b l2 y2 hn hbn hm2 (by omega) _ HD.out.1
                    rw [show ((m + 1 : Nat) : Int) = (m : Int) + 1 from rfl] at hq0
                    have HQ := Lib.hid hq0
                    have HW := Lib.hid (show MM.Sw 0 n z y2 from HY.out.2.1.trans (HD.out.2.1.wide (Nat.zero_le _) hbn))
                    have HO := Lib.hid (show MM.Out n a b y2 from HY.out.2.2.sw hbn HD.out.2.1)
                    clear hp hq hq0
                    go_wp2_with (go_at_call 51; (refine HQ.out.mono ?_); rintro e we ⟨rfl, y3, hM3, hs3, ha3⟩; have HE := Lib.hid (And.intro hM3 (And.intro hs3 ha3)); clear hM3 hs3 ha3)
                    go_roundw
                    case rel => exact ⟨a, m, l2, _, _, by omega, by omega, by omega, by omega, by go_num, by first | rfl | go_num, rfl, rfl, rfl, Lib.hid ⟨_, HE.out.1, HW.out.trans (HE.out.2.1.wide (Nat.zero_le _) hbn), HO.out.right hbn HD.out.2.2 hm1 hm2 HE.out.2.1 HE.out.2.2⟩⟩
                    case measure => simp [RowKit.intOf]; omega
                · have hl2 : ltB (y c) (y j) = false := by unfold ltB; simpa using hls
                  rw [hl2] at hL
                  have HV : Hid (∀ k, a ≤ k → k < b → y j ≤ y k) := Lib.hid (fun k h1 h2 => Nat.le_trans (by omega) (HY.out.2.2 c k (by have := HC.out; omega) (by omega) (by have := HC.out; omega)))
                  have HP := Lib.hid (fun m => partitionE_any W0 B n cap a b j y hn hbn haj hjb HV.out _ (HY.out.1.drewN m))
                  clear hl2 hls
                  skip
                  go_quiet ((go_at_call 60; exact hL.quiet))
                  clear hL c1 c2 h0 e1 e2 p1 p2 p3 p4
                  go_wp2_with (go_at_call 61; (refine (HP.out _).mono ?_); rintro e wd ⟨m, rfl, hm1, hm2, y2, hM2, hs2, hp2⟩; have HD := Lib.hid (And.intro hM2 (And.intro hs2 hp2)); clear hM2 hs2 hp2)
                  go_roundw
                  case rel => exact ⟨m, b, l2, _, _, by omega, by omega, by omega, by omega, by go_num, by first | rfl | go_num, rfl, rfl, rfl, Lib.hid ⟨_, HD.out.1, HY.out.2.1.trans (HD.out.2.1.wide (Nat.zero_le _) hbn), HY.out.2.2.low hbn HD.out.2.1 HD.out.2.2⟩⟩
                  case measure => simp [RowKit.intOf]; omega
              · have h0 : decide (0 < a) = false := by simpa using ha0
                skip
                go_quiet (fail)
                clear h0
                have HP := Lib.hid (fun m => partition_at W0 B n cap a b j y hn hbn haj hjb _ (HY.out.1.drewN m))
                go_upto_region 21 with (go_at_call 62; (refine (HP.out _).mono ?_); rintro e wd ⟨m, r, rfl, hm1, hm2, y2, hM2, hs2, hp2⟩; have HD := Lib.hid (And.intro hM2 (And.intro hs2 hp2)); clear hM2 hs2 hp2)
                clear HP
                obtain ⟨p, hp⟩ : ∃ p, m - a = p := ⟨_, rfl⟩
                obtain ⟨q, hq⟩ : ∃ q, b - m = q := ⟨_, rfl⟩
                have ep : (m : Int) - (a : Int) = (p : Int) := by omega
                have eq : (b : Int) - (m : Int) = (q : Int) := by omega
                by_cases hpq : p < q
                · have hlt : (p : Int) < (q : Int) := by omega
                  have HQ := Lib.hid (pdq_short W0 B n cap a m l2 y2 hn (by omega) hm1 (by omega) _ HD.out.1)
                  have HW := Lib.hid (show MM.Sw 0 n z y2 from HY.out.2.1.trans (HD.out.2.1.wide (Nat.zero_le _) hbn))
                  have HO := Lib.hid (show MM.Out n a b y2 from HY.out.2.2.sw hbn HD.out.2.1)
                  clear hp hq
                  go_wp2_with (go_at_call 51; (refine HQ.out.mono ?_); rintro e we ⟨rfl, y3, hM3, hs3, ha3⟩; have HE := Lib.hid (And.intro hM3 (And.intro hs3 ha3)); clear hM3 hs3 ha3)
                  go_roundw
                  case rel => exact ⟨m + 1, b, l2, _, _, by omega, by omega, by omega, by omega, by go_num, by first | rfl | go_num, rfl, rfl, rfl, Lib.hid ⟨_, HE.out.1, HW.out.trans (HE.out.2.1.wide (Nat.zero_le _) (by omega)), HO.out.left hbn HD.out.2.2 hm1 hm2 HE.out.2.1 HE.out.2.2⟩⟩
                  case measure => simp [RowKit.intOf]; omega
                · have hlt : ¬ (p : Int) < (q : Int) := by omega
                  have hq0 := pdq_short W0 B n cap (m + 1) b l2 y2 hn hbn hm2 (by omega) _ HD.out.1
                  rw [show ((m + 1 : Nat) : Int) = (m : Int) + 1 from rfl] at hq0
                  have HQ := Lib.hid hq0
                  have HW := Lib.hid (show MM.Sw 0 n z y2 from HY.out.2.1.trans (HD.out.2.1.wide (Nat.zero_le _) hbn))
                  have HO := Lib.hid (show MM.Out n a b y2 from HY.out.2.2.sw hbn HD.out.2.1)
                  clear hp hq hq0
                  go_wp2_with (go_at_call 51; (refine HQ.out.mono ?_); rintro e we ⟨rfl, y3, hM3, hs3, ha3⟩; have HE := Lib.hid (And.intro hM3 (And.intro hs3 ha3)); clear hM3 hs3 ha3)
                  go_roundw
                  case rel => exact ⟨a, m, l2, _, _, by omega, by omega, by omega, by omega, by go_num, by first | rfl | go_num, rfl, rfl, rfl, Lib.hid ⟨_, HE.out.1, HW.out.trans (HE.out.2.1.wide (Nat.zero_le _) hbn), HO.out.right hbn HD.out.2.2 hm1 hm2 HE.out.2.1 HE.out.2.2⟩⟩
                  case measure => simp [RowKit.intOf]; omega
            · refine bodyPost_ret (results_none rfl _ _ _) rfl ?_
              exact ⟨rfl, y, HR.out.2, HY.out.2.1, HY.out.2.2.asc (HR.out.1 trivial)⟩
          · have hk3 : ((k : Int) == 1) = false := by simp; omega
            go_upto_region 17 with fail
            by_cases ha0 : 0 < a
            · obtain ⟨c, hc⟩ : ∃ c, a = c + 1 := ⟨a - 1, by omega⟩
              have h0 : decide (0 < a) = true := by simpa using ha0
              have hL := less_any (y c) (y j)
              have c1 := HY.out.1.cell (k := c) (by omega)
              have c2 := HY.out.1.cell (k := j) (by omega)
              have e1 : (a : Int) - 1 = (c : Int) := by omega
              have e2 : IntKind.i64.wrap (c : Int) = (c : Int) := IntWalk.i64_in _ (by omega)
              have p1 : (0 : Int) ≤ (c : Int) := Int.natCast_nonneg _
              have p2 : (0 : Int) ≤ (j : Int) := Int.natCast_nonneg _
              have p3 : (c : Int) < (n : Int) := by omega
              have p4 : (j : Int) < (n : Int) := by omega
              have HC := Lib.hid hc
              clear hc
              by_cases hls : y c < y j
              · have hl2 : ltB (y c) (y j) = true := by unfold ltB; simpa using hls
                rw [hl2] at hL
                clear hl2 hls
                skip
                go_quiet ((go_at_call 60; exact hL.quiet))
                clear hL c1 c2 h0 e1 e2 p1 p2 p3 p4
                have HP := Lib.hid (fun m => partition_at W0 B n cap a b j y hn hbn haj hjb _ (HY.out.1.drewN m))
                go_upto_region 21 with (go_at_call 62; (refine (HP.out _).mono ?_); rintro e wd ⟨m, r, rfl, hm1, hm2, y2, hM2, hs2, hp2⟩; have HD := Lib.hid (And.intro hM2 (And.intro hs2 hp2)); clear hM2 hs2 hp2)
                clear HP
                obtain ⟨p, hp⟩ : ∃ p, m - a = p := ⟨_, rfl⟩
                obtain ⟨q, hq⟩ : ∃ q, b - m = q := ⟨_, rfl⟩
                have ep : (m : Int) - (a : Int) = (p : Int) := by omega
                have eq : (b : Int) - (m : Int) = (q : Int) := by omega
                by_cases hpq : p < q
                · have hlt : (p : Int) < (q : Int) := by omega
                  have HQ := Lib.hid (pdq_short W0 B n cap a m l2 y2 hn (by omega) hm1 (by omega) _ HD.out.1)
                  have HW := Lib.hid (show MM.Sw 0 n z y2 from HY.out.2.1.trans (HD.out.2.1.wide (Nat.zero_le _) hbn))
                  have HO := Lib.hid (show MM.Out n a b y2 from HY.out.2.2.sw hbn HD.out.2.1)
                  clear hp hq
                  go_wp2_with (go_at_call 51; (refine HQ.out.mono ?_); rintro e we ⟨rfl, y3, hM3, hs3, ha3⟩; have HE := Lib.hid (And.intro hM3 (And.intro hs3 ha3)); clear hM3 hs3 ha3)
                  go_roundw
                  case rel => exact ⟨m + 1, b, l2, _, _, by omega, by omega, by omega, by omega, by go_num, by first | rfl | go_num, rfl, rfl, rfl, Lib.hid ⟨_, HE.out.1, HW.out.trans (HE.out.2.1.wide (Nat.zero_le _) (by omega)), HO.out.left hbn HD.out.2.2 hm1 hm2 HE.out.2.1 HE.out.2.2⟩⟩
                  case measure => simp [RowKit.intOf]; omega
                · have hlt : ¬ (p : Int) < (q : Int) := by omega
                  have hq0 := pdq_short W0 B n cap (m + 1) b l2 y2 hn hbn hm2 (by omega) _ HD.out.1
                  rw [show ((m + 1 : Nat) : Int) = (m : Int) + 1 from rfl] at hq0
                  have HQ := Lib.hid hq0
                  have HW := Lib.hid (show MM.Sw 0 n z y2 from HY.out.2.1.trans (HD.out.2.1.wide (Nat.zero_le _) hbn))
                  have HO := Lib.hid (show MM.Out n a b y2 from HY.out.2.2.sw hbn HD.out.2.1)
                  clear hp hq hq0
                  go_wp2_with (go_at_call 51; (refine HQ.out.mono ?_); rintro e we ⟨rfl, y3, hM3, hs3, ha3⟩; have HE := Lib.hid (And.intro hM3 (And.intro hs3 ha3)); clear hM3 hs3 ha3)
                  go_roundw
                  case rel => exact ⟨a, m, l2, _, _, by omega, by omega, by omega, by omega, by go_num, by first | rfl | go_num, rfl, rfl, rfl, Lib.hid ⟨_, HE.out.1, HW.out.trans (HE.out.2.1.wide (Nat.zero_le _) hbn), HO.out.right hbn HD.out.2.2 hm1 hm2 HE.out.2.1 HE.out.2.2⟩⟩
                  case measure => simp [RowKit.intOf]; omega
              · have hl2 : ltB (y c) (y j) = false := by unfold ltB; simpa using hls
                rw [hl2] at hL
                have HV : Hid (∀ k, a ≤ k → k < b → y j ≤ y k) := Lib.hid (fun k h1 h2 => Nat.le_trans (by omega) (HY.out.2.2 c k (by have := HC.out; omega) (by omega) (by have := HC.out; omega)))
                have HP := Lib.hid (fun m => partitionE_any W0 B n cap a b j y hn hbn haj hjb HV.out _ (HY.out.1.drewN m))
                clear hl2 hls
                skip
                go_quiet ((go_at_call 60; exact hL.quiet))
                clear hL c1 c2 h0 e1 e2 p1 p2 p3 p4
                go_wp2_with (go_at_call 61; (refine (HP.out _).mono ?_); rintro e wd ⟨m, rfl, hm1, hm2, y2, hM2, hs2, hp2⟩; have HD := Lib.hid (And.intro hM2 (And.intro hs2 hp2)); clear hM2 hs2 hp2)
                go_roundw
                case rel => exact ⟨m, b, l2, _, _, by omega, by omega, by omega, by omega, by go_num, by first | rfl | go_num, rfl, rfl, rfl, Lib.hid ⟨_, HD.out.1, HY.out.2.1.trans (HD.out.2.1.wide (Nat.zero_le _) hbn), HY.out.2.2.low hbn HD.out.2.1 HD.out.2.2⟩⟩
                case measure => simp [RowKit.intOf]; omega
            · have h0 : decide (0 < a) = false := by simpa using ha0
              skip
              go_quiet (fail)
              clear h0
              have HP := Lib.hid (fun m => partition_at W0 B n cap a b j y hn hbn haj hjb _ (HY.out.1.drewN m))
              go_upto_region 21 with (go_at_call 62; (refine (HP.out _).mono ?_); rintro e wd ⟨m, r, rfl, hm1, hm2, y2, hM2, hs2, hp2⟩; have HD := Lib.hid (And.intro hM2 (And.intro hs2 hp2)); clear hM2 hs2 hp2)
              clear HP
              obtain ⟨p, hp⟩ : ∃ p, m - a = p := ⟨_, rfl⟩
              obtain ⟨q, hq⟩ : ∃ q, b - m = q := ⟨_, rfl⟩
              have ep : (m : Int) - (a : Int) = (p : Int) := by omega
              have eq : (b : Int) - (m : Int) = (q : Int) := by omega
              by_cases hpq : p < q
              · have hlt : (p : Int) < (q : Int) := by omega
                have HQ := Lib.hid (pdq_short W0 B n cap a m l2 y2 hn (by omega) hm1 (by omega) _ HD.out.1)
                have HW := Lib.hid (show MM.Sw 0 n z y2 from HY.out.2.1.trans (HD.out.2.1.wide (Nat.zero_le _) hbn))
                have HO := Lib.hid (show MM.Out n a b y2 from HY.out.2.2.sw hbn HD.out.2.1)
                clear hp hq
                go_wp2_with (go_at_call 51; (refine HQ.out.mono ?_); rintro e we ⟨rfl, y3, hM3, hs3, ha3⟩; have HE := Lib.hid (And.intro hM3 (And.intro hs3 ha3)); clear hM3 hs3 ha3)
                go_roundw
                case rel => exact ⟨m + 1, b, l2, _, _, by omega, by omega, by omega, by omega, by go_num, by first | rfl | go_num, rfl, rfl, rfl, Lib.hid ⟨_, HE.out.1, HW.out.trans (HE.out.2.1.wide (Nat.zero_le _) (by omega)), HO.out.left hbn HD.out.2.2 hm1 hm2 HE.out.2.1 HE.out.2.2⟩⟩
                case measure => simp [RowKit.intOf]; omega
              · have hlt : ¬ (p : Int) < (q : Int) := by omega
                have hq0 := pdq_short W0 B n cap (m + 1) b l2 y2 hn hbn hm2 (by omega) _ HD.out.1
                rw [show ((m + 1 : Nat) : Int) = (m : Int) + 1 from rfl] at hq0
                have HQ := Lib.hid hq0
                have HW := Lib.hid (show MM.Sw 0 n z y2 from HY.out.2.1.trans (HD.out.2.1.wide (Nat.zero_le _) hbn))
                have HO := Lib.hid (show MM.Out n a b y2 from HY.out.2.2.sw hbn HD.out.2.1)
                clear hp hq hq0
                go_wp2_with (go_at_call 51; (refine HQ.out.mono ?_); rintro e we ⟨rfl, y3, hM3, hs3, ha3⟩; have HE := Lib.hid (And.intro hM3 (And.intro hs3 ha3)); clear hM3 hs3 ha3)
                go_roundw
                case rel => exact ⟨a, m, l2, _, _, by omega, by omega, by omega, by omega, by go_num, by first | rfl | go_num, rfl, rfl, rfl, Lib.hid ⟨_, HE.out.1, HW.out.trans (HE.out.2.1.wide (Nat.zero_le _) hbn), HO.out.right hbn HD.out.2.2 hm1 hm2 HE.out.2.1 HE.out.2.2⟩⟩
                case measure => simp [RowKit.intOf]; omega
end M
end Go.Proofs.Ytebplinighoagaa

/- Whatever the parameters, the two rows of values, the query and the number: the products of the sum of the rows are the sums of the products, those of the multiple the multiples; no condition. -/
import Derived.Test.YtdblijpoelcghaaRows
import Derived.Test.YtdblijpoelcghaaFixOpen
import Derived.Deep.Fields
import Derived.Test.YtdblijpoelcghaaLaw07a
import Derived.Test.YtdblijpoelcghaaFixMath4
import Derived.Test.YtdblijpoelcghaaFixTwo
import Derived.Test.YtdblijpoelcghaaFixOpen
namespace Go.Proofs.Ytdblijpoelcghaa
open Go.ChangeShapes Go.WideShapes Go.ChangeAt Go.RowKit
namespace FixedLinear
open M

def wNew (lo n : Nat) (z : Nat → Nat) : RK.Word := ⟨fun v w => NewU lo w v n z, fun _ _ _ h hb => h.below hb⟩
theorem padU_lt {ln : Nat} {l : Nat → Nat} (h : ∀ j, l j < 18446744073709551616) (i : Nat) : MM.padU ln l i < 18446744073709551616 := by
  unfold MM.padU; split
  · exact h i
  · omega
set_option maxRecDepth 100000 in
set_option maxHeartbeats 16000000 in
theorem walk (p : Pm) (v1 v2 v3 : Value) (f : Nat) (_ : PmOk p) (hf : f < 18446744073709551616) (W : World) (hm1 : NumsIn W v1) (hm2 : NumsIn W v2) (hm3 : IntsIn W v3) :
    Calls Try.prog 8 #[.agg p.cells, v1, v2, v3, .int .u64 (f : Int)] W fun e w' => e = .returned (.bool true) ∧ Below W.heap.size W w' := by
  obtain ⟨xo, ln, cl, l, rfl, _, _, hl, hrl, _⟩ := hm1
  obtain ⟨yo, lo, co, o, rfl, _, _, ho, hro, _⟩ := hm2
  obtain ⟨ao, n, c, x, rfl, _, hx, hra⟩ := hm3
  have hI0 := InP.new W p
  obtain ⟨g, hg⟩ : ∃ g, W.heap.size = g := ⟨_, rfl⟩
  rw [hg] at hI0
  have HI := Lib.hid hI0
  have HG := Lib.hid hg
  have HX := Lib.hid hrl
  have HY := Lib.hid hro
  have HA := Lib.hid hra
  have HLB := Lib.hid hl
  have HOB := Lib.hid ho
  have HXB := Lib.hid hx
  clear hI0 hrl hro hra hl ho hx
  by_cases h1 : 60 < ln
  · have h1I : (60 : Int) < (ln : Int) := by omega
    go_enter Try.func8, Try.ntmps8
    go_wp2_with (go_at_call 10; (with_reducible refine (awake_any _).mono ?_); rintro e w1 ⟨rfl, hb⟩; replace HI := Lib.hid (HI.out.step hb); clear hb)
    go_ret
    exact ⟨rfl, HI.out.below⟩
  have h1I : ¬ (60 : Int) < (ln : Int) := by omega
  by_cases h2 : 60 < lo
  · have h2I : (60 : Int) < (lo : Int) := by omega
    go_enter Try.func8, Try.ntmps8
    go_wp2_with (go_at_call 10; (with_reducible refine (awake_any _).mono ?_); rintro e w1 ⟨rfl, hb⟩; replace HI := Lib.hid (HI.out.step hb); clear hb)
    go_ret
    exact ⟨rfl, HI.out.below⟩
  have h2I : ¬ (60 : Int) < (lo : Int) := by omega
  by_cases h3 : 40 < n
  · have h3I : (40 : Int) < (n : Int) := by omega
    go_enter Try.func8, Try.ntmps8
    go_wp2_with (go_at_call 10; (with_reducible refine (awake_any _).mono ?_); rintro e w1 ⟨rfl, hb⟩; replace HI := Lib.hid (HI.out.step hb); clear hb)
    go_ret
    exact ⟨rfl, HI.out.below⟩
  have h3I : ¬ (40 : Int) < (n : Int) := by omega
  obtain ⟨M, hM⟩ : ∃ M : Nat, max ln lo = M := ⟨_, rfl⟩
  have hMI : max (ln : Int) (lo : Int) = (M : Int) := by omega
  have hM60 : M ≤ 60 := by omega
  have hlM : ln ≤ M ∧ lo ≤ M := by omega
  obtain ⟨S, hS⟩ : ∃ S, MM.sumZ p.Q ln lo l o = S := ⟨_, rfl⟩
  obtain ⟨Mn, hMn⟩ : ∃ Mn, MM.manZ p.Q ln l f = Mn := ⟨_, rfl⟩
  have HADD : Hid (∀ i a b, MM.padU ln l i = a → MM.padU lo o i = b → Ret 34 #[.int .u64 (a : Int), .int .u64 (b : Int), .int .u64 (p.Q : Int)] (.int .u64 ((S i : Nat) : Int))) := Lib.hid fun i a b h1 h2 => by
    rw [← hS, ← h1, ← h2]; exact ret_addU _ _ _
  have HMUL : Hid (∀ i a, MM.padU ln l i = a → Ret 35 #[.int .u64 (a : Int), .int .u64 (f : Int), .int .u64 (p.Q : Int)] (.int .u64 ((Mn i : Nat) : Int))) := Lib.hid fun i a h1 => by
    rw [← hMn, ← h1]; exact ret_mulU _ _ _ (padU_lt HLB.out i) hf
  go_enter Try.func8, Try.ntmps8
  go_upto_region 4 with (go_at_call 10; (with_reducible refine (awake_any _).mono ?_); rintro e w1 ⟨rfl, hb⟩; replace HI := Lib.hid (HI.out.step hb); clear hb)
  have HI4 := HI
  have hwq : Hid (∀ u, Below w1.heap.size w1 u → u.cell? ⟨g, 1, none⟩ = some (.int .u64 (p.Q : Int))) := Lib.hid fun u hb => (HI4.out.step hb).cQ
  have HX4 := Lib.hid (HX.out.below HI4.out.below)
  have HY4 := Lib.hid (HY.out.below HI4.out.below)
  have HA4 := Lib.hid (HA.out.below HI4.out.below)
  clear HI HX HY HA
  obtain ⟨w4, hw4⟩ : ∃ w4, w4 = w1 := ⟨_, rfl⟩
  subst hw4
  have HT0 := Lib.hid (Duo.start w4 S Mn)
  go_upto_region 14 with fail
  go_loopw [11, 12, 13] (fun s11 s12 s13 wx => ∃ i : Nat, i ≤ M ∧ s13 = .int .i64 (i : Int) ∧ Hid (Duo w4 s11 s12 i i S Mn wx)) (fun _ _ s13 _ => M - (RowKit.intOf s13).toNat)
  case atStart => exact ⟨0, Nat.zero_le _, rfl, HT0⟩
  case round =>
    clear HT0
    obtain ⟨i, hi, rfl, HT⟩ := hrel
    have hi0 : (0 : Int) ≤ (i : Int) := Int.natCast_nonneg _
    by_cases hlt : i < M
    · have hiM : (i : Int) < (M : Int) := by omega
      have hq := hwq.out wr HT.out.one.below
      by_cases hx1 : i < ln
      · by_cases hy1 : i < lo
        · skip
          obtain ⟨xd, rfl, hcx⟩ := (HX4.out.below HT.out.one.below).at_ hx1
          have hx1I : (i : Int) < (ln : Int) := by omega
          have ea : MM.padU ln l i = l i := if_pos hx1
          obtain ⟨yd, rfl, hcy⟩ := (HY4.out.below HT.out.one.below).at_ hy1
          have hy1I : (i : Int) < (lo : Int) := by omega
          have eb : MM.padU lo o i = o i := if_pos hy1
          have H1 : Ret 34 #[.int .u64 ((l i : Nat) : Int), .int .u64 ((o i : Nat) : Int), .int .u64 (p.Q : Int)] (.int .u64 ((S i : Nat) : Int)) := HADD.out i _ _ ea eb
          have H2 : Ret 35 #[.int .u64 ((l i : Nat) : Int), .int .u64 (f : Int), .int .u64 (p.Q : Int)] (.int .u64 ((Mn i : Nat) : Int)) := HMUL.out i _ ea
          clear ea eb
          generalize l i = li at *
          generalize o i = oi at *
          go_wp2_with (first
            | (go_at_call 34; (with_reducible refine (H1.at _).mono ?_); rintro e w' ⟨rfl, nd, rfl⟩; obtain ⟨x2, w2, hr2, hd2⟩ := (HT.out.step (below_drewN' wr nd _)).left (by omega) 1; have HT2 := Lib.hid hd2; have hq2 := hwq.out w2 HT2.out.one.below; clear hd2)
            | (go_at_call 35; (with_reducible refine (H2.at _).mono ?_); rintro e w' ⟨rfl, nd2, rfl⟩; obtain ⟨x3, w3, hr3, hd3⟩ := (HT2.out.swap.step (below_drewN' w2 nd2 _)).left (by omega) 1; have HT3 := Lib.hid hd3.swap; clear hd3)
            | (at_builtin; with_reducible refine Lib.wpList_append_run _ rfl _ _ _ _ rfl _ _ rfl rfl _ _ hr3 ?_)
            | (at_builtin; refine Lib.wpList_append_run _ rfl _ _ _ _ rfl _ _ rfl rfl _ _ hr2 ?_)
            | (at_builtin; refine Lib.wpList_append_run _ rfl _ _ _ _ rfl _ _ rfl rfl _ _ hr3 ?_))
          go_roundw
          case rel => exact ⟨i + 1, by omega, by go_num, HT3⟩
          case measure => simp [RowKit.intOf]; omega
        · skip
          obtain ⟨xd, rfl, hcx⟩ := (HX4.out.below HT.out.one.below).at_ hx1
          have hx1I : (i : Int) < (ln : Int) := by omega
          have ea : MM.padU ln l i = l i := if_pos hx1
          have hy1I : ¬ (i : Int) < (lo : Int) := by omega
          have eb : MM.padU lo o i = 0 := if_neg hy1
          have H1 : Ret 34 #[.int .u64 ((l i : Nat) : Int), .int .u64 0, .int .u64 (p.Q : Int)] (.int .u64 ((S i : Nat) : Int)) := HADD.out i _ _ ea eb
          have H2 : Ret 35 #[.int .u64 ((l i : Nat) : Int), .int .u64 (f : Int), .int .u64 (p.Q : Int)] (.int .u64 ((Mn i : Nat) : Int)) := HMUL.out i _ ea
          clear ea eb
          generalize l i = li at *
          go_wp2_with (first
            | (go_at_call 34; (with_reducible refine (H1.at _).mono ?_); rintro e w' ⟨rfl, nd, rfl⟩; obtain ⟨x2, w2, hr2, hd2⟩ := (HT.out.step (below_drewN' wr nd _)).left (by omega) 1; have HT2 := Lib.hid hd2; have hq2 := hwq.out w2 HT2.out.one.below; clear hd2)
            | (go_at_call 35; (with_reducible refine (H2.at _).mono ?_); rintro e w' ⟨rfl, nd2, rfl⟩; obtain ⟨x3, w3, hr3, hd3⟩ := (HT2.out.swap.step (below_drewN' w2 nd2 _)).left (by omega) 1; have HT3 := Lib.hid hd3.swap; clear hd3)
            | (at_builtin; with_reducible refine Lib.wpList_append_run _ rfl _ _ _ _ rfl _ _ rfl rfl _ _ hr3 ?_)
            | (at_builtin; refine Lib.wpList_append_run _ rfl _ _ _ _ rfl _ _ rfl rfl _ _ hr2 ?_)
            | (at_builtin; refine Lib.wpList_append_run _ rfl _ _ _ _ rfl _ _ rfl rfl _ _ hr3 ?_))
          go_roundw
          case rel => exact ⟨i + 1, by omega, by go_num, HT3⟩
          case measure => simp [RowKit.intOf]; omega
      · have hy1 : i < lo := by omega
        have hx1I : ¬ (i : Int) < (ln : Int) := by omega
        have ea : MM.padU ln l i = 0 := if_neg hx1
        obtain ⟨yd, rfl, hcy⟩ := (HY4.out.below HT.out.one.below).at_ hy1
        have hy1I : (i : Int) < (lo : Int) := by omega
        have eb : MM.padU lo o i = o i := if_pos hy1
        have H1 : Ret 34 #[.int .u64 0, .int .u64 ((o i : Nat) : Int), .int .u64 (p.Q : Int)] (.int .u64 ((S i : Nat) : Int)) := HADD.out i _ _ ea eb
        have H2 : Ret 35 #[.int .u64 0, .int .u64 (f : Int), .int .u64 (p.Q : Int)] (.int .u64 ((Mn i : Nat) : Int)) := HMUL.out i _ ea
        clear ea eb
        generalize o i = oi at *
        go_wp2_with (first
          | (go_at_call 34; (with_reducible refine (H1.at _).mono ?_); rintro e w' ⟨rfl, nd, rfl⟩; obtain ⟨x2, w2, hr2, hd2⟩ := (HT.out.step (below_drewN' wr nd _)).left (by omega) 1; have HT2 := Lib.hid hd2; have hq2 := hwq.out w2 HT2.out.one.below; clear hd2)
          | (go_at_call 35; (with_reducible refine (H2.at _).mono ?_); rintro e w' ⟨rfl, nd2, rfl⟩; obtain ⟨x3, w3, hr3, hd3⟩ := (HT2.out.swap.step (below_drewN' w2 nd2 _)).left (by omega) 1; have HT3 := Lib.hid hd3.swap; clear hd3)
          | (at_builtin; with_reducible refine Lib.wpList_append_run _ rfl _ _ _ _ rfl _ _ rfl rfl _ _ hr3 ?_)
          | (at_builtin; refine Lib.wpList_append_run _ rfl _ _ _ _ rfl _ _ rfl rfl _ _ hr2 ?_)
          | (at_builtin; refine Lib.wpList_append_run _ rfl _ _ _ _ rfl _ _ rfl rfl _ _ hr3 ?_))
        go_roundw
        case rel => exact ⟨i + 1, by omega, by go_num, HT3⟩
        case measure => simp [RowKit.intOf]; omega
    · have hiM : ¬ (i : Int) < (M : Int) := by omega
      have hiE : M = i := by omega
      subst hiE
      obtain ⟨so, sc, rfl, _, _, hrs⟩ := HT.out.one.rd
      obtain ⟨mo, mc, rfl, _, _, hrm⟩ := HT.out.two.rd
      have hbw := HT.out.one.below
      obtain ⟨w14, hw14⟩ : ∃ w14, w14 = wr := ⟨_, rfl⟩
      subst hw14
      have HI14 := Lib.hid (HI4.out.step hbw)
      have HX14 := Lib.hid (HX4.out.below hbw)
      have HY14 := Lib.hid (HY4.out.below hbw)
      have HA14 := Lib.hid (HA4.out.below hbw)
      have HS14 := Lib.hid hrs
      have HM14 := Lib.hid hrm
      obtain ⟨K, hK⟩ : ∃ K, MM.dotN p = K := ⟨_, rfl⟩
      have hK2 : K ≤ 2 := by
        rw [← hK]; unfold MM.dotN; split
        · rename_i hfit; have := hfit.2.1; omega
        · omega
      obtain ⟨za, hza⟩ : ∃ z, MM.dotZ p ln l n x = z := ⟨_, rfl⟩
      obtain ⟨zb, hzb⟩ : ∃ z, MM.dotZ p lo o n x = z := ⟨_, rfl⟩
      obtain ⟨zc, hzc⟩ : ∃ z, MM.dotZ p M S n x = z := ⟨_, rfl⟩
      obtain ⟨zd, hzd⟩ : ∃ z, MM.dotZ p M Mn n x = z := ⟨_, rfl⟩
      have HD1 : Hid (∀ (u : World) (_ : Rd u xo ln l) (_ : IRow u ao n c x), Calls Try.prog 19 #[.agg p.cells, .slice xo ln cl, .slice ao n c] u fun e w' => ∃ v, e = .returned v ∧ NewU 0 w' v K za ∧ Below u.heap.size u w') := Lib.hid fun u h1 h2 => by
        refine (dot_any p xo ln cl l ao n c x HLB.out HXB.out u h1 h2).mono ?_
        rintro e w' ⟨v, rfl, hv, hb⟩
        rw [hK, hza] at hv
        exact ⟨v, rfl, hv.mono (Nat.zero_le _), hb⟩
      have HD2 : Hid (∀ (u : World) (_ : Rd u yo lo o) (_ : IRow u ao n c x), Calls Try.prog 19 #[.agg p.cells, .slice yo lo co, .slice ao n c] u fun e w' => ∃ v, e = .returned v ∧ NewU 0 w' v K zb ∧ Below u.heap.size u w') := Lib.hid fun u h1 h2 => by
        refine (dot_any p yo lo co o ao n c x HOB.out HXB.out u h1 h2).mono ?_
        rintro e w' ⟨v, rfl, hv, hb⟩
        rw [hK, hzb] at hv
        exact ⟨v, rfl, hv.mono (Nat.zero_le _), hb⟩
      have HD3 : Hid (∀ (u : World) (_ : Rd u so M S) (_ : IRow u ao n c x), Calls Try.prog 19 #[.agg p.cells, .slice so M sc, .slice ao n c] u fun e w' => ∃ v, e = .returned v ∧ NewU 0 w' v K zc ∧ Below u.heap.size u w') := Lib.hid fun u h1 h2 => by
        refine (dot_any p so M sc S ao n c x (fun j => by rw [← hS]; exact MM.addU_lt _ _ _) HXB.out u h1 h2).mono ?_
        rintro e w' ⟨v, rfl, hv, hb⟩
        rw [hK, hzc] at hv
        exact ⟨v, rfl, hv.mono (Nat.zero_le _), hb⟩
      have HD4 : Hid (∀ (u : World) (_ : Rd u mo M Mn) (_ : IRow u ao n c x), Calls Try.prog 19 #[.agg p.cells, .slice mo M mc, .slice ao n c] u fun e w' => ∃ v, e = .returned v ∧ NewU 0 w' v K zd ∧ Below u.heap.size u w') := Lib.hid fun u h1 h2 => by
        refine (dot_any p mo M mc Mn ao n c x (fun j => by rw [← hMn]; exact MM.mulU_lt _ _ _) HXB.out u h1 h2).mono ?_
        rintro e w' ⟨v, rfl, hv, hb⟩
        rw [hK, hzd] at hv
        exact ⟨v, rfl, hv.mono (Nat.zero_le _), hb⟩
      have HSU : Hid (∀ k, Ret 34 #[.int .u64 ((za k : Nat) : Int), .int .u64 ((zb k : Nat) : Int), .int .u64 (p.Q : Int)] (.int .u64 ((zc k : Nat) : Int))) := Lib.hid fun k => by
        rw [← hza, ← hzb, ← hzc, ← hS, ← MM.lin_sum p hlM]; exact ret_addU _ _ _
      have HMU : Hid (∀ k, Ret 35 #[.int .u64 ((za k : Nat) : Int), .int .u64 (f : Int), .int .u64 (p.Q : Int)] (.int .u64 ((zd k : Nat) : Int))) := Lib.hid fun k => by
        rw [← hza, ← hzd, ← hMn, ← MM.lin_man p hlM.1]; exact ret_mulU _ _ _ (MM.dotP_lt _ _ _ _ _ _ _) hf
      have HKK := Lib.hid hK
      clear HT hrs hrm hbw HX4 HY4 HA4 HI4 hwq HADD HMUL hza hzb hzc hzd hK hS hMn HLB HOB HXB
      go_upto_region 14 with fail
      refine RK.tame [none, none, none, none, none, none, none, none, none, none, none, none, none, none, none, none, some 16, some 17, some 18, some 19, none, none, none, none, none, none, none, none, none, none, none, none, none, none, none, none, none, none, none, none, none, none, none, none, none, none, none, none, none, none, none, none, none, none, none, none, none, none, none, none, none, none, none, none, none, none, none, none, none, none, none, none, none, none, none, none, none, none, none, none, some 0, some 1, some 2, some 3, some 4, some 5, some 6, some 7, some 8, some 9, some 10, some 11, some 12, some 13, some 14, some 15, none, none, none, none, none, none, none, none, none, none, none, none, none, none, none, none, none, none, none, none, none, none, none, none, none, none, none, none, none, none, none, none, none, none, none, none, none, none, none, none, none, none, none, none, none, none, none, none, none, none, none, none, none, none, none, none] [RK.Word.eq (.agg p.cells), RK.Word.eq (.slice xo ln cl), RK.Word.eq (.slice ao n c), wNew 0 K za, RK.Word.eq (.agg p.cells), RK.Word.eq (.slice yo lo co), RK.Word.eq (.slice ao n c), wNew 0 K zb, RK.Word.eq (.agg p.cells), RK.Word.eq (.slice so M sc), RK.Word.eq (.slice ao n c), wNew 0 K zc, RK.Word.eq (.agg p.cells), RK.Word.eq (.slice mo M mc), RK.Word.eq (.slice ao n c), wNew 0 K zd, wNew 0 K za, wNew 0 K zb, wNew 0 K zc, wNew 0 K zd] (fun u => InP W g p u ∧ Rd u xo ln l ∧ Rd u yo lo o ∧ Rd u so M S ∧ Rd u mo M Mn ∧ IRow u ao n c x ∧ Below w14.heap.size w14 u) (by kernel_rfl) (by kernel_rfl) (by kernel_rfl) ⟨HI14.out, HX14.out, HY14.out, HS14.out, HM14.out, HA14.out, Below.refl _ _⟩ (fun _ _ hs hb => ⟨hs.1.step hb, hs.2.1.below hb, hs.2.2.1.below hb, hs.2.2.2.1.below hb, hs.2.2.2.2.1.below hb, hs.2.2.2.2.2.1.below hb, hs.2.2.2.2.2.2.trans (hb.mono hs.2.2.2.2.2.2.size)⟩) (fun i hi a' val w' hF => ?_) (fun val w' hw hp => ?_)
      · have hi2 : i = 0 ∨ i = 1 ∨ i = 2 ∨ i = 3 ∨ i = 4 ∨ i = 5 ∨ i = 6 ∨ i = 7 ∨ i = 8 ∨ i = 9 ∨ i = 10 ∨ i = 11 ∨ i = 12 ∨ i = 13 ∨ i = 14 ∨ i = 15 ∨ i = 16 ∨ i = 17 ∨ i = 18 ∨ i = 19 := by
          have : i < 20 := hi
          omega
        clear hi
        rcases hi2 with rfl | rfl | rfl | rfl | rfl | rfl | rfl | rfl | rfl | rfl | rfl | rfl | rfl | rfl | rfl | rfl | rfl | rfl | rfl | rfl
        · have r5 : a'.eval (.tmp 5) = .pointer (some ⟨g, 0, none⟩) := (hF.old 5 (.inr rfl)).trans rfl
          refine RK.owes_exec (v := .agg p.cells) (w' := w') rfl (RK.wanted_any rfl) ?_ (Below.refl _ _) rfl
          exact load_boxp hF.S.1.box rfl r5
        · have r1 : a'.eval (.tmp 1) = .slice xo ln cl := (hF.old 1 (.inr rfl)).trans rfl
          refine RK.owes_exec (v := .slice xo ln cl) (w' := w') rfl (RK.wanted_any rfl) ?_ (Below.refl _ _) rfl
          have rk : ∀ c, a'.eval (.const c) = c := fun _ => rfl
          generalize a'.eval = ρ at *
          go_simp
        · have r3 : a'.eval (.tmp 3) = .slice ao n c := (hF.old 3 (.inr rfl)).trans rfl
          refine RK.owes_exec (v := .slice ao n c) (w' := w') rfl (RK.wanted_any rfl) ?_ (Below.refl _ _) rfl
          have rk : ∀ c, a'.eval (.const c) = c := fun _ => rfl
          generalize a'.eval = ρ at *
          go_simp
        · have p0 : val 0 = .agg p.cells := hF.post 0 (by kernel_rfl)
          have r80 : a'.eval (.tmp 80) = .agg p.cells := (hF.ev 80 0 rfl (by kernel_rfl) (of_decide_eq_true (by kernel_rfl))).trans p0
          have p1 : val 1 = .slice xo ln cl := hF.post 1 (by kernel_rfl)
          have r81 : a'.eval (.tmp 81) = .slice xo ln cl := (hF.ev 81 1 rfl (by kernel_rfl) (of_decide_eq_true (by kernel_rfl))).trans p1
          have p2 : val 2 = .slice ao n c := hF.post 2 (by kernel_rfl)
          have r82 : a'.eval (.tmp 82) = .slice ao n c := (hF.ev 82 2 rfl (by kernel_rfl) (of_decide_eq_true (by kernel_rfl))).trans p2
          refine RK.owes_call (g := 19) (args := #[.agg p.cells, .slice xo ln cl, .slice ao n c]) rfl (RK.wanted_any rfl) ?_ ?_
          · have rk : ∀ c, a'.eval (.const c) = c := fun _ => rfl
            have rf : ∀ f, a'.eval (.func f) = .func (.func f) #[] #[] := fun _ => rfl
            generalize a'.eval = ρ at *
            go_simp
          · refine (HD1.out w' hF.S.2.1 hF.S.2.2.2.2.2.1).mono ?_
            rintro e w2 ⟨u, rfl, hu, hb⟩
            exact ⟨_, rfl, hb, hu⟩
        · have r5 : a'.eval (.tmp 5) = .pointer (some ⟨g, 0, none⟩) := (hF.old 5 (.inr rfl)).trans rfl
          refine RK.owes_exec (v := .agg p.cells) (w' := w') rfl (RK.wanted_any rfl) ?_ (Below.refl _ _) rfl
          exact load_boxp hF.S.1.box rfl r5
        · have r2 : a'.eval (.tmp 2) = .slice yo lo co := (hF.old 2 (.inr rfl)).trans rfl
          refine RK.owes_exec (v := .slice yo lo co) (w' := w') rfl (RK.wanted_any rfl) ?_ (Below.refl _ _) rfl
          have rk : ∀ c, a'.eval (.const c) = c := fun _ => rfl
          generalize a'.eval = ρ at *
          go_simp
        · have r3 : a'.eval (.tmp 3) = .slice ao n c := (hF.old 3 (.inr rfl)).trans rfl
          refine RK.owes_exec (v := .slice ao n c) (w' := w') rfl (RK.wanted_any rfl) ?_ (Below.refl _ _) rfl
          have rk : ∀ c, a'.eval (.const c) = c := fun _ => rfl
          generalize a'.eval = ρ at *
          go_simp
        · have p4 : val 4 = .agg p.cells := hF.post 4 (by kernel_rfl)
          have r84 : a'.eval (.tmp 84) = .agg p.cells := (hF.ev 84 4 rfl (by kernel_rfl) (of_decide_eq_true (by kernel_rfl))).trans p4
          have p5 : val 5 = .slice yo lo co := hF.post 5 (by kernel_rfl)
          have r85 : a'.eval (.tmp 85) = .slice yo lo co := (hF.ev 85 5 rfl (by kernel_rfl) (of_decide_eq_true (by kernel_rfl))).trans p5
          have p6 : val 6 = .slice ao n c := hF.post 6 (by kernel_rfl)
          have r86 : a'.eval (.tmp 86) = .slice ao n c := (hF.ev 86 6 rfl (by kernel_rfl) (of_decide_eq_true (by kernel_rfl))).trans p6
          refine RK.owes_call (g := 19) (args := #[.agg p.cells, .slice yo lo co, .slice ao n c]) rfl (RK.wanted_any rfl) ?_ ?_
          · have rk : ∀ c, a'.eval (.const c) = c := fun _ => rfl
            have rf : ∀ f, a'.eval (.func f) = .func (.func f) #[] #[] := fun _ => rfl
            generalize a'.eval = ρ at *
            go_simp
          · refine (HD2.out w' hF.S.2.2.1 hF.S.2.2.2.2.2.1).mono ?_
            rintro e w2 ⟨u, rfl, hu, hb⟩
            exact ⟨_, rfl, hb, hu⟩
        · have r5 : a'.eval (.tmp 5) = .pointer (some ⟨g, 0, none⟩) := (hF.old 5 (.inr rfl)).trans rfl
          refine RK.owes_exec (v := .agg p.cells) (w' := w') rfl (RK.wanted_any rfl) ?_ (Below.refl _ _) rfl
          exact load_boxp hF.S.1.box rfl r5
        · have r11 : a'.eval (.tmp 11) = .slice so M sc := (hF.old 11 (.inr rfl)).trans rfl
          refine RK.owes_exec (v := .slice so M sc) (w' := w') rfl (RK.wanted_any rfl) ?_ (Below.refl _ _) rfl
          have rk : ∀ c, a'.eval (.const c) = c := fun _ => rfl
          generalize a'.eval = ρ at *
          go_simp
        · have r3 : a'.eval (.tmp 3) = .slice ao n c := (hF.old 3 (.inr rfl)).trans rfl
          refine RK.owes_exec (v := .slice ao n c) (w' := w') rfl (RK.wanted_any rfl) ?_ (Below.refl _ _) rfl
          have rk : ∀ c, a'.eval (.const c) = c := fun _ => rfl
          generalize a'.eval = ρ at *
          go_simp
        · have p8 : val 8 = .agg p.cells := hF.post 8 (by kernel_rfl)
          have r88 : a'.eval (.tmp 88) = .agg p.cells := (hF.ev 88 8 rfl (by kernel_rfl) (of_decide_eq_true (by kernel_rfl))).trans p8
          have p9 : val 9 = .slice so M sc := hF.post 9 (by kernel_rfl)
          have r89 : a'.eval (.tmp 89) = .slice so M sc := (hF.ev 89 9 rfl (by kernel_rfl) (of_decide_eq_true (by kernel_rfl))).trans p9
          have p10 : val 10 = .slice ao n c := hF.post 10 (by kernel_rfl)
          have r90 : a'.eval (.tmp 90) = .slice ao n c := (hF.ev 90 10 rfl (by kernel_rfl) (of_decide_eq_true (by kernel_rfl))).trans p10
          refine RK.owes_call (g := 19) (args := #[.agg p.cells, .slice so M sc, .slice ao n c]) rfl (RK.wanted_any rfl) ?_ ?_
          · have rk : ∀ c, a'.eval (.const c) = c := fun _ => rfl
            have rf : ∀ f, a'.eval (.func f) = .func (.func f) #[] #[] := fun _ => rfl
            generalize a'.eval = ρ at *
            go_simp
          · refine (HD3.out w' hF.S.2.2.2.1 hF.S.2.2.2.2.2.1).mono ?_
            rintro e w2 ⟨u, rfl, hu, hb⟩
            exact ⟨_, rfl, hb, hu⟩
        · have r5 : a'.eval (.tmp 5) = .pointer (some ⟨g, 0, none⟩) := (hF.old 5 (.inr rfl)).trans rfl
          refine RK.owes_exec (v := .agg p.cells) (w' := w') rfl (RK.wanted_any rfl) ?_ (Below.refl _ _) rfl
          exact load_boxp hF.S.1.box rfl r5
        · have r12 : a'.eval (.tmp 12) = .slice mo M mc := (hF.old 12 (.inr rfl)).trans rfl
          refine RK.owes_exec (v := .slice mo M mc) (w' := w') rfl (RK.wanted_any rfl) ?_ (Below.refl _ _) rfl
          have rk : ∀ c, a'.eval (.const c) = c := fun _ => rfl
          generalize a'.eval = ρ at *
          go_simp
        · have r3 : a'.eval (.tmp 3) = .slice ao n c := (hF.old 3 (.inr rfl)).trans rfl
          refine RK.owes_exec (v := .slice ao n c) (w' := w') rfl (RK.wanted_any rfl) ?_ (Below.refl _ _) rfl
          have rk : ∀ c, a'.eval (.const c) = c := fun _ => rfl
          generalize a'.eval = ρ at *
          go_simp
        · have p12 : val 12 = .agg p.cells := hF.post 12 (by kernel_rfl)
          have r92 : a'.eval (.tmp 92) = .agg p.cells := (hF.ev 92 12 rfl (by kernel_rfl) (of_decide_eq_true (by kernel_rfl))).trans p12
          have p13 : val 13 = .slice mo M mc := hF.post 13 (by kernel_rfl)
          have r93 : a'.eval (.tmp 93) = .slice mo M mc := (hF.ev 93 13 rfl (by kernel_rfl) (of_decide_eq_true (by kernel_rfl))).trans p13
          have p14 : val 14 = .slice ao n c := hF.post 14 (by kernel_rfl)
          have r94 : a'.eval (.tmp 94) = .slice ao n c := (hF.ev 94 14 rfl (by kernel_rfl) (of_decide_eq_true (by kernel_rfl))).trans p14
          refine RK.owes_call (g := 19) (args := #[.agg p.cells, .slice mo M mc, .slice ao n c]) rfl (RK.wanted_any rfl) ?_ ?_
          · have rk : ∀ c, a'.eval (.const c) = c := fun _ => rfl
            have rf : ∀ f, a'.eval (.func f) = .func (.func f) #[] #[] := fun _ => rfl
            generalize a'.eval = ρ at *
            go_simp
          · refine (HD4.out w' hF.S.2.2.2.2.1 hF.S.2.2.2.2.2.1).mono ?_
            rintro e w2 ⟨u, rfl, hu, hb⟩
            exact ⟨_, rfl, hb, hu⟩
        · obtain ⟨ao3, c3, e3, l3, h3⟩ : ∃ ao c, val 3 = .slice ao K c ∧ K ≤ c ∧ Rd w' ao K za := NewU.rd (hF.post 3 (by kernel_rfl))
          have r83 : a'.eval (.tmp 83) = .slice ao3 K c3 := (hF.ev 83 3 rfl (by kernel_rfl) (of_decide_eq_true (by kernel_rfl))).trans e3
          refine RK.owes_exec (v := .slice ao3 K c3) (w' := w') rfl (RK.wanted_any rfl) ?_ (Below.refl _ _) (by have := hF.post 3 (by kernel_rfl); rw [e3] at this; exact this)
          have rk : ∀ c, a'.eval (.const c) = c := fun _ => rfl
          generalize a'.eval = ρ at *
          go_simp
        · obtain ⟨ao7, c7, e7, l7, h7⟩ : ∃ ao c, val 7 = .slice ao K c ∧ K ≤ c ∧ Rd w' ao K zb := NewU.rd (hF.post 7 (by kernel_rfl))
          have r87 : a'.eval (.tmp 87) = .slice ao7 K c7 := (hF.ev 87 7 rfl (by kernel_rfl) (of_decide_eq_true (by kernel_rfl))).trans e7
          refine RK.owes_exec (v := .slice ao7 K c7) (w' := w') rfl (RK.wanted_any rfl) ?_ (Below.refl _ _) (by have := hF.post 7 (by kernel_rfl); rw [e7] at this; exact this)
          have rk : ∀ c, a'.eval (.const c) = c := fun _ => rfl
          generalize a'.eval = ρ at *
          go_simp
        · obtain ⟨ao11, c11, e11, l11, h11⟩ : ∃ ao c, val 11 = .slice ao K c ∧ K ≤ c ∧ Rd w' ao K zc := NewU.rd (hF.post 11 (by kernel_rfl))
          have r91 : a'.eval (.tmp 91) = .slice ao11 K c11 := (hF.ev 91 11 rfl (by kernel_rfl) (of_decide_eq_true (by kernel_rfl))).trans e11
          refine RK.owes_exec (v := .slice ao11 K c11) (w' := w') rfl (RK.wanted_any rfl) ?_ (Below.refl _ _) (by have := hF.post 11 (by kernel_rfl); rw [e11] at this; exact this)
          have rk : ∀ c, a'.eval (.const c) = c := fun _ => rfl
          generalize a'.eval = ρ at *
          go_simp
        · obtain ⟨ao15, c15, e15, l15, h15⟩ : ∃ ao c, val 15 = .slice ao K c ∧ K ≤ c ∧ Rd w' ao K zd := NewU.rd (hF.post 15 (by kernel_rfl))
          have r95 : a'.eval (.tmp 95) = .slice ao15 K c15 := (hF.ev 95 15 rfl (by kernel_rfl) (of_decide_eq_true (by kernel_rfl))).trans e15
          refine RK.owes_exec (v := .slice ao15 K c15) (w' := w') rfl (RK.wanted_any rfl) ?_ (Below.refl _ _) (by have := hF.post 15 (by kernel_rfl); rw [e15] at this; exact this)
          have rk : ∀ c, a'.eval (.const c) = c := fun _ => rfl
          generalize a'.eval = ρ at *
          go_simp
      · obtain ⟨ca, cca, e16, _, hra⟩ : ∃ ao c, val 16 = .slice ao K c ∧ K ≤ c ∧ Rd w' ao K za := NewU.rd (hp 16 (of_decide_eq_true (by kernel_rfl)))
        obtain ⟨cb, ccb, e17, _, hrb⟩ : ∃ ao c, val 17 = .slice ao K c ∧ K ≤ c ∧ Rd w' ao K zb := NewU.rd (hp 17 (of_decide_eq_true (by kernel_rfl)))
        obtain ⟨cc, ccc, e18, _, hrc⟩ : ∃ ao c, val 18 = .slice ao K c ∧ K ≤ c ∧ Rd w' ao K zc := NewU.rd (hp 18 (of_decide_eq_true (by kernel_rfl)))
        obtain ⟨cd, ccd, e19, _, hrd⟩ : ∃ ao c, val 19 = .slice ao K c ∧ K ≤ c ∧ Rd w' ao K zd := NewU.rd (hp 19 (of_decide_eq_true (by kernel_rfl)))
        simp only [RK.slotsL, if_true, e16, e17, e18, e19]
        have HIW := Lib.hid hw.1
        have HRA := Lib.hid hra
        have HRB := Lib.hid hrb
        have HRC := Lib.hid hrc
        have HRD := Lib.hid hrd
        clear hp hw hra hrb hrc hrd e16 e17 e18 e19 HI14 HX14 HY14 HA14 HS14 HM14 HD1 HD2 HD3 HD4
        generalize val 0 = q0
        generalize val 1 = q1
        generalize val 2 = q2
        generalize val 3 = q3
        generalize val 4 = q4
        generalize val 5 = q5
        generalize val 6 = q6
        generalize val 7 = q7
        generalize val 8 = q8
        generalize val 9 = q9
        generalize val 10 = q10
        generalize val 11 = q11
        generalize val 12 = q12
        generalize val 13 = q13
        generalize val 14 = q14
        generalize val 15 = q15
        go_wp2_with fail
        go_loopw [20] (fun s20 wx => ∃ k d : Nat, k ≤ K ∧ s20 = .int .i64 (k : Int) ∧ wx = w'.drewN d) (fun s20 _ => K - (RowKit.intOf s20).toNat)
        case atStart => exact ⟨0, 0, Nat.zero_le _, rfl, rfl⟩
        case round =>
          obtain ⟨k, dd, hk, rfl, rfl⟩ := hrel
          have hk0 : (0 : Int) ≤ (k : Int) := Int.natCast_nonneg _
          by_cases hlt : k < K
          · have hkI : (k : Int) < (K : Int) := by omega
            go_upto_region 20 with fail
            obtain ⟨da, rfl, ha⟩ := HRA.out.at_ hlt
            obtain ⟨db, rfl, hb⟩ := HRB.out.at_ hlt
            obtain ⟨dc, rfl, hc⟩ := HRC.out.at_ hlt
            obtain ⟨dv, rfl, hd⟩ := HRD.out.at_ hlt
            have H1 := HSU.out k
            have H2 := HMU.out k
            generalize hwr : w'.drewN dd = wr
            have k0 : wr.cell? ⟨g, 1, none⟩ = some (.int .u64 (p.Q : Int)) := by rw [← hwr]; exact HIW.out.cQ
            have k1 : wr.cell? (da.add k) = some (.int .u64 ((za k : Nat) : Int)) := by rw [← hwr]; exact ha
            have k2 : wr.cell? (db.add k) = some (.int .u64 ((zb k : Nat) : Int)) := by rw [← hwr]; exact hb
            have k3 : wr.cell? (dc.add k) = some (.int .u64 ((zc k : Nat) : Int)) := by rw [← hwr]; exact hc
            have k4 : wr.cell? (dv.add k) = some (.int .u64 ((zd k : Nat) : Int)) := by rw [← hwr]; exact hd
            have HWR := Lib.hid hwr
            clear hwr ha hb hc hd
            generalize za k = a1 at *
            generalize zb k = a2 at *
            generalize zc k = a3 at *
            generalize zd k = a4 at *
            go_quiet (first | (go_at_call 34; with_reducible exact (H1).quiet) | (go_at_call 35; with_reducible exact (H2).quiet))
            go_wp2_with fail
            go_roundw
            case rel => exact ⟨k + 1, _, by omega, by go_num, by rw [← HWR.out]; exact World.drewN_drewN _ _ _⟩
            case measure => simp [RowKit.intOf]; omega
          · have hkI : ¬ (k : Int) < (K : Int) := by omega
            go_wp2_with fail
            go_ret
            exact ⟨rfl, by have hbz := Below.drawn HIW.out.below dd; first | exact hbz | (rw [HG.out] at hbz; exact hbz)⟩

set_option maxRecDepth 100000 in
theorem lifted (os : Os) (started : os.Started) (H : Type) (enc : TypeId × Value → H) :
    ReturnsInHanded {} Try.checked os 8 .any (Rows.fixedLinearSpec.pre6 enc Try.prog Try.f8 Rows.fixedLinearRow.domain false) (Rows.fixedLinearSpec.post enc Try.prog Try.f8 false true false false) := by
  refine returnsInHanded_of_change (C := Try.checked) M.own started (by kernel_rfl) Try.func8
    (ChangeSpec.witness6 (enc := enc) (C := Try.checked) false ⟨#[], #[.agg #[.int .u64 0, .int .u64 0, .int .u64 0, .int .u64 0, .int .i64 0, .int .i64 0, .int .i64 0, .int .i64 0, .int .i64 0, .int .i64 0, .int .i64 0, .int .i64 0], .slice none 0 0, .slice none 0 0, .slice none 0 0, .int .u64 0], []⟩ 8 (by kernel_rfl) (by kernel_rfl) (by kernel_rfl) (by kernel_rfl)) ?_
  intro W base args ds gs before hval0 hW _ _
  have hval : ∀ (j : Nat) t v, Try.f8.params[j]? = some t → args[j]? = some v → Value.okWide Try.prog W .any base t v := hval0
  have hW' := hW
  obtain ⟨p, q, hA0, hV, rfl, _, _⟩ := hW
  have hA : DataW.TrodAll enc Try.prog W 0 (fun _ => true) true Try.f8.params.toList args.toList ds p := hA0
  rw [Try.params8] at hA hval
  obtain ⟨v0, vs0, d0, ds0, p0, q0, hargs, rfl, rfl, h0, r0⟩ := trodAll_cons hA
  obtain ⟨v1, vs1, d1, ds1, p1, q1, rfl, rfl, rfl, h1, r1⟩ := trodAll_cons r0
  obtain ⟨v2, vs2, d2, ds2, p2, q2, rfl, rfl, rfl, h2, r2⟩ := trodAll_cons r1
  obtain ⟨v3, vs3, d3, ds3, p3, q3, rfl, rfl, rfl, h3, r3⟩ := trodAll_cons r2
  obtain ⟨v4, vs4, d4, ds4, p4, q4, rfl, rfl, rfl, h4, r4⟩ := trodAll_cons r3
  obtain ⟨rfl, rfl, rfl⟩ := trodAll_nil r4
  obtain rfl : args = #[v0, v1, v2, v3, v4] := by cases args; simp_all
  obtain ⟨rfl, rfl⟩ := trodVars_none hV
  have k0 := h0
  have lt0 : ∀ x ∈ p0, x.block < W.heap.size := by obtain ⟨m, hm⟩ := k0; exact DataW.trod_lt m _ _ _ hm
  obtain ⟨a0, rfl, ok0⟩ := M.open_pm (hval 0 31 v0 rfl rfl) h0
  have k1 := h1
  have lt1 : ∀ x ∈ p1, x.block < W.heap.size := by obtain ⟨m, hm⟩ := k1; exact DataW.trod_lt m _ _ _ hm
  have ns1 := M.open_nums (hval 1 39 v1 rfl rfl) h1
  have k2 := h2
  have lt2 : ∀ x ∈ p2, x.block < W.heap.size := by obtain ⟨m, hm⟩ := k2; exact DataW.trod_lt m _ _ _ hm
  have ns2 := M.open_nums (hval 2 39 v2 rfl rfl) h2
  have k3 := h3
  have lt3 : ∀ x ∈ p3, x.block < W.heap.size := by obtain ⟨m, hm⟩ := k3; exact DataW.trod_lt m _ _ _ hm
  have ns3 := M.open_wholes (hval 3 34 v3 rfl rfl) h3
  have k4 := h4
  have lt4 : ∀ x ∈ p4, x.block < W.heap.size := by obtain ⟨m, hm⟩ := k4; exact DataW.trod_lt m _ _ _ hm
  obtain ⟨x4, rfl, rfl, rfl, w4⟩ := open_int Try.underlying23 (hval 4 23 v4 rfl rfl) h4
  obtain ⟨lo4, hi4⟩ := M.u64_bounds w4
  obtain ⟨a4, rfl⟩ : ∃ a : Nat, x4 = a := ⟨x4.toNat, by omega⟩
  clear hA0 hval0
  simp only [List.append_nil] at hW'
  refine (walk a0 v1 v2 v3 a4 ok0 (by omega) W ns1 ns2 ns3).mono fun e W' ⟨he, bel⟩ => ?_
  subst he
  exact ⟨_, rfl, _, _, _, [], _, [], hW', (trodAll_cons_mk (shut_bool Try.underlying4 _) trodAll_mk0), (trodAll_cons_mk (Below.trod M.laidOut (by kernel_rfl) (of_decide_eq_true (by kernel_rfl)) k0 bel lt0) (trodAll_cons_mk (Below.trod M.laidOut (by kernel_rfl) (of_decide_eq_true (by kernel_rfl)) k1 bel lt1) (trodAll_cons_mk (Below.trod M.laidOut (by kernel_rfl) (of_decide_eq_true (by kernel_rfl)) k2 bel lt2) (trodAll_cons_mk (Below.trod M.laidOut (by kernel_rfl) (of_decide_eq_true (by kernel_rfl)) k3 bel lt3) (trodAll_cons_mk (Below.trod M.laidOut (by kernel_rfl) (of_decide_eq_true (by kernel_rfl)) k4 bel lt4) trodAll_mk0))))), rfl, bel.frame _, fun h => by cases h⟩

theorem holds : Rows.FixedLinearSaid :=
  OpenClaim.holds_of_wide 8 Try.f8 rfl rfl rfl rfl rfl rfl rfl ⟨rfl, rfl, rfl, rfl, rfl⟩ rfl rfl rfl rfl rfl (by kernel_rfl) Try.func8 (by kernel_rfl)
    (of_decide_eq_true (by kernel_rfl)) (by unfold Func.isWrapper; first | (rw [if_pos (by decide +kernel)]; kernel_rfl) | (rw [if_neg (by decide +kernel)]; exact ⟨rfl, rfl⟩))
    (fun os started H enc _ => lifted os started H enc)

end FixedLinear

theorem fixedLinear_holds : Rows.FixedLinearSaid := FixedLinear.holds
#print axioms fixedLinear_holds
end Go.Proofs.Ytdblijpoelcghaa

/- Whatever the parameters, the model and the query: where parameters fit and 2 (D M X + M) is below Q, the scores are Int of the products of the secrets and the query; no condition. -/
import Derived.Test.YtdblijpoelcghaaRows
import Derived.Test.YtdblijpoelcghaaFixOpen
import Derived.Deep.Fields
import Derived.Test.YtdblijpoelcghaaLaw07a
import Derived.Test.YtdblijpoelcghaaFixMath3
import Derived.Test.YtdblijpoelcghaaFixR2
import Derived.Test.YtdblijpoelcghaaFixOpen
namespace Go.Proofs.Ytdblijpoelcghaa
open Go.ChangeShapes Go.WideShapes Go.ChangeAt Go.RowKit
namespace FixedScores
open M

def wNew (lo n : Nat) (z : Nat → Nat) : RK.Word := ⟨fun v w => NewU lo w v n z, fun _ _ _ h hb => h.below hb⟩
set_option maxRecDepth 100000 in
set_option maxHeartbeats 16000000 in
theorem walk (p : Pm) (v1 v2 : Value) (pok : PmOk p) (W : World) (hm1 : ModelIn W v1) (hm2 : IntsIn W v2) :
    Calls Try.prog 7 #[.agg p.cells, v1, v2] W fun e w' => e = .returned (.bool true) ∧ Below W.heap.size W w' := by
  obtain ⟨mv, o, rfl, mok, mat⟩ := hm1
  obtain ⟨ao, n, c, x, rfl, hn, hx, hr⟩ := hm2
  have hI0 := InM.new W p mv o mat
  obtain ⟨g, hg⟩ : ∃ g, W.heap.size = g := ⟨_, rfl⟩
  obtain ⟨h, hh⟩ : ∃ h, g + 1 = h := ⟨_, rfl⟩
  rw [hg, hh] at hI0
  have HI := Lib.hid hI0
  have HX := Lib.hid hr
  have HG := Lib.hid hg
  have HLG := Lib.hid (fun (u : World) (hu : MoAt u mv o) => large_any mv o mok u hu)
  clear hI0
  by_cases hlg : MM.Large o
  · rw [decide_eq_true hlg] at HLG
    clear hlg hr mat mok
    go_enter Try.func7, Try.ntmps7
    go_wp2_with (first
      | (refine load_pm ?_ _ rfl g rfl p HI.out.box ?_; first | rfl | (simp [Region.wanted, yielded]; done))
      | (refine load_mo ?_ _ rfl h rfl mv o HI.out.mod ?_; first | rfl | (simp [Region.wanted, yielded]; done))
      | (go_at_call 25; (with_reducible refine (HLG.out _ HI.out.mat).mono ?_); rintro e w1 ⟨rfl, hb⟩; replace HI := Lib.hid (HI.out.step hb); clear hb)
      | (go_at_call 10; (with_reducible refine (awake_any _).mono ?_); rintro e w1 ⟨rfl, hb⟩; replace HI := Lib.hid (HI.out.step hb); clear hb))
    go_ret
    exact ⟨rfl, HI.out.below⟩
  rw [decide_eq_false hlg] at HLG
  clear hlg
  by_cases h40 : 40 < n
  · have h40I : (40 : Int) < (n : Int) := by omega
    clear hr mat mok
    go_enter Try.func7, Try.ntmps7
    go_wp2_with (first
      | (refine load_pm ?_ _ rfl g rfl p HI.out.box ?_; first | rfl | (simp [Region.wanted, yielded]; done))
      | (refine load_mo ?_ _ rfl h rfl mv o HI.out.mod ?_; first | rfl | (simp [Region.wanted, yielded]; done))
      | (go_at_call 25; (with_reducible refine (HLG.out _ HI.out.mat).mono ?_); rintro e w1 ⟨rfl, hb⟩; replace HI := Lib.hid (HI.out.step hb); clear hb)
      | (go_at_call 10; (with_reducible refine (awake_any _).mono ?_); rintro e w1 ⟨rfl, hb⟩; replace HI := Lib.hid (HI.out.step hb); clear hb))
    go_ret
    exact ⟨rfl, HI.out.below⟩
  have h40I : ¬ (40 : Int) < (n : Int) := by omega
  have HSC : Hid (∀ (u : World) (_ : MoAt u mv o) (_ : IRow u ao n c x), Calls Try.prog 16 #[.agg p.cells, .agg (mv.cells o), .slice ao n c] u fun e w' => ∃ so sc, e = .returned (.slice so (MM.scoN p o n x) sc) ∧ IRow w' so (MM.scoN p o n x) sc (MM.scoZ p o x) ∧ Below u.heap.size u w') := Lib.hid fun u hu hxu => by
    refine (scores_any p mv o mok ao n c x hn u hu hxu).mono ?_
    rintro e w' ⟨v, rfl, hv, hb⟩
    obtain ⟨so, sc, rfl, hs⟩ := NewI.irow hv
    exact ⟨so, sc, rfl, hs, hb⟩
  have HMY := Lib.hid (fun (u : World) (hu : MoAt u mv o) => may_any p mv o mok u hu)
  have HQY := Lib.hid (fun (u : World) (hu : IRow u ao n c x) => query_any p ao n c x hn u hu)
  by_cases hv0 : ¬ MM.Valid p o
  · have e0 : MM.scoN p o n x = 0 := if_neg fun h => hv0 h.1
    rw [e0] at HSC
    rw [decide_eq_false hv0] at HMY
    clear hr mat mok hv0 e0 h40
    go_enter Try.func7, Try.ntmps7
    go_wp2_with (first
      | (refine load_pm ?_ _ rfl g rfl p HI.out.box ?_; first | rfl | (simp [Region.wanted, yielded]; done))
      | (refine load_mo ?_ _ rfl h rfl mv o HI.out.mod ?_; first | rfl | (simp [Region.wanted, yielded]; done))
      | (go_at_call 25; (with_reducible refine (HLG.out _ HI.out.mat).mono ?_); rintro e w1 ⟨rfl, hb⟩; replace HI := Lib.hid (HI.out.step hb); clear hb)
      | (go_at_call 10; (with_reducible refine (awake_any _).mono ?_); rintro e w1 ⟨rfl, hb⟩; replace HI := Lib.hid (HI.out.step hb); clear hb)
      | (go_at_call 16; (with_reducible refine (HSC.out _ HI.out.mat (HX.out.below HI.out.below)).mono ?_); rintro e w1 ⟨so, sc, rfl, hs, hb⟩; replace HI := Lib.hid (HI.out.step hb); have HS := Lib.hid hs; have c7 := HI.out.box.cell 7; have c8 := HI.out.box.cell 8; have c10 := HI.out.box.cell 10; have c11 := HI.out.box.cell 11; have c1 := HI.out.box.cell 1; clear hb hs)
      | (go_at_call 14; (with_reducible refine (HMY.out _ HI.out.mat).mono ?_); rintro e w1 ⟨rfl, hb⟩; replace HI := Lib.hid (HI.out.step hb); replace HS := Lib.hid (HS.out.below hb); have c7 := HI.out.box.cell 7; have c8 := HI.out.box.cell 8; have c10 := HI.out.box.cell 10; have c11 := HI.out.box.cell 11; have c1 := HI.out.box.cell 1; clear hb))
    go_ret
    exact ⟨rfl, HI.out.below⟩
  have hv := Decidable.not_not.1 hv0
  rw [decide_eq_true hv] at HMY
  by_cases hq0 : ¬ MM.qryE p n x = 0
  · have e0 : MM.scoN p o n x = 0 := if_neg fun h => hq0 h.2
    rw [e0] at HSC
    have hqb : (MM.qryE p n x != 0) = true := by simp [hq0]
    generalize MM.qryE p n x = eq at *
    clear hr mat mok hv hv0 e0 h40 hq0
    go_enter Try.func7, Try.ntmps7
    go_wp2_with (first
      | (refine load_pm ?_ _ rfl g rfl p HI.out.box ?_; first | rfl | (simp [Region.wanted, yielded]; done))
      | (refine load_mo ?_ _ rfl h rfl mv o HI.out.mod ?_; first | rfl | (simp [Region.wanted, yielded]; done))
      | (go_at_call 25; (with_reducible refine (HLG.out _ HI.out.mat).mono ?_); rintro e w1 ⟨rfl, hb⟩; replace HI := Lib.hid (HI.out.step hb); clear hb)
      | (go_at_call 10; (with_reducible refine (awake_any _).mono ?_); rintro e w1 ⟨rfl, hb⟩; replace HI := Lib.hid (HI.out.step hb); clear hb)
      | (go_at_call 16; (with_reducible refine (HSC.out _ HI.out.mat (HX.out.below HI.out.below)).mono ?_); rintro e w1 ⟨so, sc, rfl, hs, hb⟩; replace HI := Lib.hid (HI.out.step hb); have HS := Lib.hid hs; have c7 := HI.out.box.cell 7; have c8 := HI.out.box.cell 8; have c10 := HI.out.box.cell 10; have c11 := HI.out.box.cell 11; have c1 := HI.out.box.cell 1; clear hb hs)
      | (go_at_call 14; (with_reducible refine (HMY.out _ HI.out.mat).mono ?_); rintro e w1 ⟨rfl, hb⟩; replace HI := Lib.hid (HI.out.step hb); replace HS := Lib.hid (HS.out.below hb); have c7 := HI.out.box.cell 7; have c8 := HI.out.box.cell 8; have c10 := HI.out.box.cell 10; have c11 := HI.out.box.cell 11; have c1 := HI.out.box.cell 1; clear hb)
      | (go_at_call 17; (with_reducible refine (HQY.out _ (HX.out.below HI.out.below)).mono ?_); rintro e w1 ⟨rfl, hb⟩; replace HI := Lib.hid (HI.out.step hb); replace HS := Lib.hid (HS.out.below hb); have c7 := HI.out.box.cell 7; have c8 := HI.out.box.cell 8; have c10 := HI.out.box.cell 10; have c11 := HI.out.box.cell 11; have c1 := HI.out.box.cell 1; clear hb))
    go_ret
    exact ⟨rfl, HI.out.below⟩
  have hq := Decidable.not_not.1 hq0
  have e0 : MM.scoN p o n x = p.K.toNat := if_pos ⟨hv, hq⟩
  have hqz := qryE_zero hq
  rw [hq] at HQY
  obtain ⟨hf, hmK, hnK, hL, hWF, hWb⟩ := hv
  obtain ⟨_, hnD, hWx⟩ := hqz
  obtain ⟨d, hd⟩ : ∃ d : Nat, p.D = (d : Int) := ⟨p.D.toNat, by have := hf.2.2.1; omega⟩
  have hd4 : d ≤ 4 := by have := hf.2.2.2.1; omega
  have hm2 : o.m ≤ 2 := by have := hf.2.1; omega
  have hKN : p.K.toNat = o.m := by omega
  have hM0 := hf.2.2.2.2.1
  have hM := hf.2.2.2.2.2.1
  have hX0 := hf.2.2.2.2.2.2.1
  have hX := hf.2.2.2.2.2.2.2
  rw [e0, hKN] at HSC
  have hnd : n = d := by omega
  have hWF2 : ∀ k, k < o.m → ∀ j, j < d → (-p.M ≤ o.F k j ∧ o.F k j ≤ p.M) ∧ (-p.X ≤ x j ∧ x j ≤ p.X) := fun k hk j hj => ⟨hWF k hk j (by have := hL k hk; omega), hWx j (by omega)⟩
  obtain ⟨dm, hdm⟩ : ∃ dm, p.D * p.M = dm := ⟨_, rfl⟩
  obtain ⟨dmx, hdmx⟩ : ∃ dmx, dm * p.X = dmx := ⟨_, rfl⟩
  have hdm0 : 0 ≤ dm := by rw [← hdm]; exact Int.mul_nonneg (by omega) hM0
  have hdm1 : dm ≤ 4194304 := by
    have : p.D * p.M ≤ 4 * 1048576 := Int.mul_le_mul (by omega) hM hM0 (by omega)
    omega
  have hx0 : 0 ≤ dmx := by rw [← hdmx]; exact Int.mul_nonneg hdm0 hX0
  have hx1 : dmx ≤ 4398046511104 := by
    have : dm * p.X ≤ 4194304 * 1048576 := Int.mul_le_mul hdm1 hX hX0 (by omega)
    omega
  have hw1 : wrap64 (p.D * p.M) = dm := by rw [hdm]; exact IntWalk.wrap64_in _ (by omega)
  have hw2 : wrap64 dm = dm := IntWalk.wrap64_in _ (by omega)
  have hw3 : wrap64 (dm * p.X) = dmx := by rw [hdmx]; exact IntWalk.wrap64_in _ (by omega)
  have hw4 : wrap64 dmx = dmx := IntWalk.wrap64_in _ (by omega)
  obtain ⟨t, ht⟩ : ∃ t, 2 * (dmx + p.M) = t := ⟨_, rfl⟩
  have hut : IntKind.u64.wrap t = t := IntWalk.u64_in _ (by omega)
  have hQ18 := pok.b1
  have HWF2 := Lib.hid hWF2
  have HWb := Lib.hid hWb
  have HL := Lib.hid hL
  have HKM := Lib.hid hmK
  have HNM : Hid ((o.n : Int) = (o.m : Int)) := Lib.hid (hnK.trans hmK.symm)
  have HMOK := Lib.hid mok
  have HXB := Lib.hid hx
  have HFIT := Lib.hid hf
  have HDD := Lib.hid hd
  have HND := Lib.hid hnd
  have hkI : ((o.m : Int) == p.K) = true := by simp [hmK]
  clear hnd hd hWF2 hWb hWF hWx hL hq hq0 hv0 mok hx hr mat hf e0 h40 hnK hnD hmK hKN
  go_enter Try.func7, Try.ntmps7
  go_upto_region 6 with (first
    | (refine load_pm ?_ _ rfl g rfl p HI.out.box ?_; first | rfl | (simp [Region.wanted, yielded]; done))
    | (refine load_mo ?_ _ rfl h rfl mv o HI.out.mod ?_; first | rfl | (simp [Region.wanted, yielded]; done))
    | (go_at_call 25; (with_reducible refine (HLG.out _ HI.out.mat).mono ?_); rintro e w1 ⟨rfl, hb⟩; replace HI := Lib.hid (HI.out.step hb); clear hb)
    | (go_at_call 10; (with_reducible refine (awake_any _).mono ?_); rintro e w1 ⟨rfl, hb⟩; replace HI := Lib.hid (HI.out.step hb); clear hb)
    | (go_at_call 16; (with_reducible refine (HSC.out _ HI.out.mat (HX.out.below HI.out.below)).mono ?_); rintro e w1 ⟨so, sc, rfl, hs, hb⟩; replace HI := Lib.hid (HI.out.step hb); have HS := Lib.hid hs; have c7 := HI.out.box.cell 7; have c8 := HI.out.box.cell 8; have c10 := HI.out.box.cell 10; have c11 := HI.out.box.cell 11; have c1 := HI.out.box.cell 1; clear hb hs)
    | (go_at_call 14; (with_reducible refine (HMY.out _ HI.out.mat).mono ?_); rintro e w1 ⟨rfl, hb⟩; replace HI := Lib.hid (HI.out.step hb); replace HS := Lib.hid (HS.out.below hb); have c7 := HI.out.box.cell 7; have c8 := HI.out.box.cell 8; have c10 := HI.out.box.cell 10; have c11 := HI.out.box.cell 11; have c1 := HI.out.box.cell 1; clear hb)
    | (go_at_call 17; (with_reducible refine (HQY.out _ (HX.out.below HI.out.below)).mono ?_); rintro e w1 ⟨rfl, hb⟩; replace HI := Lib.hid (HI.out.step hb); replace HS := Lib.hid (HS.out.below hb); have c7 := HI.out.box.cell 7; have c8 := HI.out.box.cell 8; have c10 := HI.out.box.cell 10; have c11 := HI.out.box.cell 11; have c1 := HI.out.box.cell 1; clear hb))
  clear c7 c8 c10 c11 c1
  have k1 : w1.cell? ⟨g, 1, none⟩ = some (.int .u64 (p.Q : Int)) := HI.out.box.cell 1
  have k7 : w1.cell? ⟨g, 7, none⟩ = some (.int .i64 p.K) := HI.out.box.cell 7
  have k8 : w1.cell? ⟨g, 8, none⟩ = some (.int .i64 p.D) := HI.out.box.cell 8
  have k10 : w1.cell? ⟨g, 10, none⟩ = some (.int .i64 p.M) := HI.out.box.cell 10
  have k11 : w1.cell? ⟨g, 11, none⟩ = some (.int .i64 p.X) := HI.out.box.cell 11
  by_cases hbq : 2305843009213693952 < p.Q
  · have hb1 : decide ((2305843009213693952 : Int) < (p.Q : Int)) = true := decide_eq_true (by omega)
    clear hw1 hw2 hw3 hw4 hut ht hdm hdmx hdm0 hdm1 hx0 hx1 hbq
    go_wp2_with fail
    go_ret
    exact ⟨by rw [← hkI]; rfl, HI.out.below⟩
  have hb1 : decide ((2305843009213693952 : Int) < (p.Q : Int)) = false := decide_eq_false (by omega)
  by_cases hbt : (p.Q : Int) ≤ t
  · have hb2 : decide ((p.Q : Int) ≤ t) = true := decide_eq_true hbt
    clear hbq hbt
    go_wp2_with fail
    go_ret
    exact ⟨by rw [← hkI]; rfl, HI.out.below⟩
  have HT : Hid (2 * ((d : Int) * p.M * p.X + p.M) < (p.Q : Int)) := Lib.hid (by rw [← HDD.out, hdm, hdmx]; omega)
  have hb2 : decide ((p.Q : Int) ≤ t) = false := decide_eq_false hbt
  clear k7
  go_upto_region 8 with fail
  have HI8 := HI
  have HX8 := Lib.hid (HX.out.below HI8.out.below)
  have HS8 := HS
  clear HX HS k1 k8 k10 k11 HLG HSC HMY HQY hw1 hw2 hw3 hw4 hut ht hbt hdm hdmx hkI hb1 hb2
  have hSN : MM.secN p o = o.m * (d + 1) := by
    have : MM.Valid p o := ⟨HFIT.out, HKM.out, HNM.out.trans HKM.out, HL.out, fun i hi j hj => (HWF2.out i hi j (by have := HL.out i hi; have := HDD.out; omega)).1, HWb.out⟩
    have e1 : MM.secN p o = p.K.toNat * (p.D.toNat + 1) := if_pos this
    rw [e1, show p.K.toNat = o.m by have := HKM.out; omega, show p.D.toNat = d by have := HDD.out; omega]
  have hDN : MM.dotN p = o.m := by
    have e1 : MM.dotN p = p.K.toNat := if_pos HFIT.out
    rw [e1]; have := HKM.out; omega
  obtain ⟨N, hN⟩ : ∃ N, MM.secN p o = N := ⟨_, rfl⟩
  obtain ⟨z, hz⟩ : ∃ z, MM.dotZ p N (MM.secZ p o) n x = z := ⟨_, rfl⟩
  have hsl : ∀ j, MM.secZ p o j < 18446744073709551616 := fun j => MM.numU_lt _ _
  have HEQ : Hid (∀ k, k < o.m → MM.intU (z k) p.Q = MM.scoZ p o x k) := Lib.hid fun k hk => by
    rw [← hz, ← hN, hSN]
    exact MM.scores_of_dot (by omega) HDD.out HND.out hk (by omega) (by omega) HT.out (HWb.out k (by have := HNM.out; omega)) (HWF2.out k hk)
  have HHN := Lib.hid hN
  have HZZ := Lib.hid hz
  have HDN := Lib.hid hDN
  clear hSN hDN hN hz
  obtain ⟨w8, hw8⟩ : ∃ w8, w8 = w1 := ⟨_, rfl⟩
  subst hw8
  refine RK.tame [none, none, none, none, none, none, none, none, some 6, none, none, none, none, none, none, none, none, none, none, none, none, none, none, none, none, none, none, none, none, none, none, none, none, none, none, none, none, none, none, none, none, none, none, none, none, none, none, none, none, none, none, none, none, none, none, none, none, none, none, none, none, none, none, none, none, some 0, some 1, some 2, some 3, some 4, some 5, none, none, none, none, none, none, none, none, none, none, none, none, none, none, none, none, none, none, none, none, none, none, none, none, none, none, none, none, none, none] [RK.Word.eq (.agg p.cells), RK.Word.eq (.agg p.cells), RK.Word.eq (.agg (mv.cells o)), wNew 0 N (MM.secZ p o), RK.Word.eq (.slice ao n c), wNew 0 (MM.dotN p) (MM.dotZ p N (MM.secZ p o) n x), wNew 0 (MM.dotN p) (MM.dotZ p N (MM.secZ p o) n x)] (fun u => InM W g h p mv o u ∧ IRow u ao n c x ∧ Below w8.heap.size w8 u) (by kernel_rfl) (by kernel_rfl) (by kernel_rfl) ⟨HI8.out, HX8.out, Below.refl _ _⟩ (fun _ _ hs hb => ⟨hs.1.step hb, hs.2.1.below hb, hs.2.2.trans (hb.mono hs.2.2.size)⟩) (fun i hi a' val w' hF => ?_) (fun val w' hw hp => ?_)
  · have hi2 : i = 0 ∨ i = 1 ∨ i = 2 ∨ i = 3 ∨ i = 4 ∨ i = 5 ∨ i = 6 := by
      have : i < 7 := hi
      omega
    clear hi
    rcases hi2 with rfl | rfl | rfl | rfl | rfl | rfl | rfl
    · have r3 : a'.eval (.tmp 3) = .pointer (some ⟨g, 0, none⟩) := (hF.old 3 (.inr rfl)).trans rfl
      refine RK.owes_exec (v := .agg p.cells) (w' := w') rfl (RK.wanted_any rfl) ?_ (Below.refl _ _) rfl
      exact load_boxp hF.S.1.box rfl r3
    · have r3 : a'.eval (.tmp 3) = .pointer (some ⟨g, 0, none⟩) := (hF.old 3 (.inr rfl)).trans rfl
      refine RK.owes_exec (v := .agg p.cells) (w' := w') rfl (RK.wanted_any rfl) ?_ (Below.refl _ _) rfl
      exact load_boxp hF.S.1.box rfl r3
    · have r4 : a'.eval (.tmp 4) = .pointer (some ⟨h, 0, none⟩) := (hF.old 4 (.inr rfl)).trans rfl
      refine RK.owes_exec (v := .agg (mv.cells o)) (w' := w') rfl (RK.wanted_any rfl) ?_ (Below.refl _ _) rfl
      exact load_mo7 hF.S.1.mod rfl r4
    · have p1 : val 1 = .agg p.cells := hF.post 1 (by kernel_rfl)
      have r66 : a'.eval (.tmp 66) = .agg p.cells := (hF.ev 66 1 rfl (by kernel_rfl) (of_decide_eq_true (by kernel_rfl))).trans p1
      have p2 : val 2 = .agg (mv.cells o) := hF.post 2 (by kernel_rfl)
      have r67 : a'.eval (.tmp 67) = .agg (mv.cells o) := (hF.ev 67 2 rfl (by kernel_rfl) (of_decide_eq_true (by kernel_rfl))).trans p2
      refine RK.owes_call (g := 15) (args := #[.agg p.cells, .agg (mv.cells o)]) rfl (RK.wanted_any rfl) ?_ ?_
      · have rk : ∀ c, a'.eval (.const c) = c := fun _ => rfl
        have rf : ∀ f, a'.eval (.func f) = .func (.func f) #[] #[] := fun _ => rfl
        generalize a'.eval = ρ at *
        go_simp
      · refine (secrets_any p mv o HMOK.out w' hF.S.1.mat).mono ?_
        rintro e w2 ⟨u, rfl, hu, hb⟩
        exact ⟨_, rfl, hb, by rw [HHN.out] at hu; exact hu.mono (Nat.zero_le _)⟩
    · have r2 : a'.eval (.tmp 2) = .slice ao n c := (hF.old 2 (.inr rfl)).trans rfl
      refine RK.owes_exec (v := .slice ao n c) (w' := w') rfl (RK.wanted_any rfl) ?_ (Below.refl _ _) rfl
      have rk : ∀ c, a'.eval (.const c) = c := fun _ => rfl
      generalize a'.eval = ρ at *
      go_simp
    · have p0 : val 0 = .agg p.cells := hF.post 0 (by kernel_rfl)
      have r65 : a'.eval (.tmp 65) = .agg p.cells := (hF.ev 65 0 rfl (by kernel_rfl) (of_decide_eq_true (by kernel_rfl))).trans p0
      obtain ⟨ao3, c3, e3, l3, h3⟩ : ∃ ao c, val 3 = .slice ao N c ∧ N ≤ c ∧ Rd w' ao N (MM.secZ p o) := NewU.rd (hF.post 3 (by kernel_rfl))
      have r68 : a'.eval (.tmp 68) = .slice ao3 N c3 := (hF.ev 68 3 rfl (by kernel_rfl) (of_decide_eq_true (by kernel_rfl))).trans e3
      have p4 : val 4 = .slice ao n c := hF.post 4 (by kernel_rfl)
      have r69 : a'.eval (.tmp 69) = .slice ao n c := (hF.ev 69 4 rfl (by kernel_rfl) (of_decide_eq_true (by kernel_rfl))).trans p4
      refine RK.owes_call (g := 19) (args := #[.agg p.cells, .slice ao3 N c3, .slice ao n c]) rfl (RK.wanted_any rfl) ?_ ?_
      · have rk : ∀ c, a'.eval (.const c) = c := fun _ => rfl
        have rf : ∀ f, a'.eval (.func f) = .func (.func f) #[] #[] := fun _ => rfl
        generalize a'.eval = ρ at *
        go_simp
      · refine (dot_any p ao3 N c3 (MM.secZ p o) ao n c x hsl HXB.out w' h3 hF.S.2.1).mono ?_
        rintro e w2 ⟨u, rfl, hu, hb⟩
        exact ⟨_, rfl, hb, hu.mono (Nat.zero_le _)⟩
    · obtain ⟨ao5, c5, e5, l5, h5⟩ : ∃ ao c, val 5 = .slice ao (MM.dotN p) c ∧ MM.dotN p ≤ c ∧ Rd w' ao (MM.dotN p) (MM.dotZ p N (MM.secZ p o) n x) := NewU.rd (hF.post 5 (by kernel_rfl))
      have r70 : a'.eval (.tmp 70) = .slice ao5 (MM.dotN p) c5 := (hF.ev 70 5 rfl (by kernel_rfl) (of_decide_eq_true (by kernel_rfl))).trans e5
      refine RK.owes_exec (v := .slice ao5 (MM.dotN p) c5) (w' := w') rfl (RK.wanted_any rfl) ?_ (Below.refl _ _) (by have := hF.post 5 (by kernel_rfl); rw [e5] at this; exact this)
      have rk : ∀ c, a'.eval (.const c) = c := fun _ => rfl
      generalize a'.eval = ρ at *
      go_simp
  · have p6 : NewU 0 w' (val 6) o.m z := by
      have := hp 6 (of_decide_eq_true (by kernel_rfl))
      change NewU 0 w' (val 6) (MM.dotN p) (MM.dotZ p N (MM.secZ p o) n x) at this
      rwa [HDN.out, HZZ.out] at this
    obtain ⟨lo, lc, e6, _, hrd⟩ := NewU.rd p6
    simp only [RK.slotsL, if_true, e6]
    have HRD := Lib.hid hrd
    have HIW := Lib.hid hw.1
    have HSW := Lib.hid (HS8.out.below (hw.2.2))
    clear hp hw p6 hrd e6 HX8 HS8 HI HI8
    generalize val 0 = q0
    generalize val 1 = q1
    generalize val 2 = q2
    generalize val 3 = q3
    generalize val 4 = q4
    generalize val 5 = q5
    have k7 : w'.cell? ⟨g, 7, none⟩ = some (.int .i64 (o.m : Int)) := by rw [HKM.out]; exact HIW.out.box.cell 7
    go_wp2_with fail
    clear k7
    go_loopw [9] (fun s9 wx => ∃ k d : Nat, k ≤ o.m ∧ s9 = .int .i64 (k : Int) ∧ wx = w'.drewN d) (fun s9 _ => o.m - (RowKit.intOf s9).toNat)
    case atStart => exact ⟨0, 0, Nat.zero_le _, rfl, rfl⟩
    case round =>
      obtain ⟨k, dd, hk, rfl, rfl⟩ := hrel
      have hk0 : (0 : Int) ≤ (k : Int) := Int.natCast_nonneg _
      by_cases hlt : k < o.m
      · have hkI : (k : Int) < (o.m : Int) := by omega
        go_upto_region 14 with fail
        obtain ⟨ld, rfl, hcl⟩ := HRD.out.at_ hlt
        obtain ⟨sd, rfl, hcs⟩ := HSW.out.at_ hlt
        have HC := int_any (z k) p.Q hQ18
        rw [HEQ.out k hlt] at HC
        generalize hwr : w'.drewN dd = wr
        have k1 : wr.cell? ⟨g, 1, none⟩ = some (.int .u64 (p.Q : Int)) := by rw [← hwr]; exact HIW.out.box.cell 1
        have k2 : wr.cell? (ld.add k) = some (.int .u64 ((z k : Nat) : Int)) := by rw [← hwr]; exact hcl
        have k3 : wr.cell? (sd.add k) = some (.int .i64 (MM.scoZ p o x k)) := by rw [← hwr]; exact hcs
        have HWR := Lib.hid hwr
        clear hwr hcl hcs
        generalize MM.scoZ p o x k = sk at *
        generalize z k = zk at *
        go_quiet ((go_at_call 12; with_reducible exact (HC).quiet))
        go_wp2_with fail
        go_roundw
        case rel => exact ⟨k + 1, _, by omega, by go_num, by rw [← HWR.out]; exact World.drewN_drewN _ _ _⟩
        case measure => simp [RowKit.intOf]; omega
      · have hkI : ¬ (k : Int) < (o.m : Int) := by omega
        go_wp2_with fail
        go_ret
        exact ⟨rfl, by have hbz := Below.drawn HIW.out.below dd; first | exact hbz | (rw [HG.out] at hbz; exact hbz)⟩

set_option maxRecDepth 100000 in
theorem lifted (os : Os) (started : os.Started) (H : Type) (enc : TypeId × Value → H) :
    ReturnsInHanded {} Try.checked os 7 .any (Rows.fixedScoresSpec.pre6 enc Try.prog Try.f7 Rows.fixedScoresRow.domain false) (Rows.fixedScoresSpec.post enc Try.prog Try.f7 false true false false) := by
  refine returnsInHanded_of_change (C := Try.checked) M.own started (by kernel_rfl) Try.func7
    (ChangeSpec.witness6 (enc := enc) (C := Try.checked) false ⟨#[], #[.agg #[.int .u64 0, .int .u64 0, .int .u64 0, .int .u64 0, .int .i64 0, .int .i64 0, .int .i64 0, .int .i64 0, .int .i64 0, .int .i64 0, .int .i64 0, .int .i64 0], .agg #[.slice none 0 0, .slice none 0 0], .slice none 0 0], []⟩ 8 (by kernel_rfl) (by kernel_rfl) (by kernel_rfl) (by kernel_rfl)) ?_
  intro W base args ds gs before hval0 hW _ _
  have hval : ∀ (j : Nat) t v, Try.f7.params[j]? = some t → args[j]? = some v → Value.okWide Try.prog W .any base t v := hval0
  have hW' := hW
  obtain ⟨p, q, hA0, hV, rfl, _, _⟩ := hW
  have hA : DataW.TrodAll enc Try.prog W 0 (fun _ => true) true Try.f7.params.toList args.toList ds p := hA0
  rw [Try.params7] at hA hval
  obtain ⟨v0, vs0, d0, ds0, p0, q0, hargs, rfl, rfl, h0, r0⟩ := trodAll_cons hA
  obtain ⟨v1, vs1, d1, ds1, p1, q1, rfl, rfl, rfl, h1, r1⟩ := trodAll_cons r0
  obtain ⟨v2, vs2, d2, ds2, p2, q2, rfl, rfl, rfl, h2, r2⟩ := trodAll_cons r1
  obtain ⟨rfl, rfl, rfl⟩ := trodAll_nil r2
  obtain rfl : args = #[v0, v1, v2] := by cases args; simp_all
  obtain ⟨rfl, rfl⟩ := trodVars_none hV
  have k0 := h0
  have lt0 : ∀ x ∈ p0, x.block < W.heap.size := by obtain ⟨m, hm⟩ := k0; exact DataW.trod_lt m _ _ _ hm
  obtain ⟨a0, rfl, ok0⟩ := M.open_pm (hval 0 31 v0 rfl rfl) h0
  have k1 := h1
  have lt1 : ∀ x ∈ p1, x.block < W.heap.size := by obtain ⟨m, hm⟩ := k1; exact DataW.trod_lt m _ _ _ hm
  have ns1 := M.open_model (hval 1 36 v1 rfl rfl) h1
  have k2 := h2
  have lt2 : ∀ x ∈ p2, x.block < W.heap.size := by obtain ⟨m, hm⟩ := k2; exact DataW.trod_lt m _ _ _ hm
  have ns2 := M.open_wholes (hval 2 34 v2 rfl rfl) h2
  clear hA0 hval0
  simp only [List.append_nil] at hW'
  refine (walk a0 v1 v2 ok0 W ns1 ns2).mono fun e W' ⟨he, bel⟩ => ?_
  subst he
  exact ⟨_, rfl, _, _, _, [], _, [], hW', (trodAll_cons_mk (shut_bool Try.underlying4 _) trodAll_mk0), (trodAll_cons_mk (Below.trod M.laidOut (by kernel_rfl) (of_decide_eq_true (by kernel_rfl)) k0 bel lt0) (trodAll_cons_mk (Below.trod M.laidOut (by kernel_rfl) (of_decide_eq_true (by kernel_rfl)) k1 bel lt1) (trodAll_cons_mk (Below.trod M.laidOut (by kernel_rfl) (of_decide_eq_true (by kernel_rfl)) k2 bel lt2) trodAll_mk0))), rfl, bel.frame _, fun h => by cases h⟩

theorem holds : Rows.FixedScoresSaid :=
  OpenClaim.holds_of_wide 7 Try.f7 rfl rfl rfl rfl rfl rfl rfl ⟨rfl, rfl, rfl, rfl, rfl⟩ rfl rfl rfl rfl rfl (by kernel_rfl) Try.func7 (by kernel_rfl)
    (of_decide_eq_true (by kernel_rfl)) (by unfold Func.isWrapper; first | (rw [if_pos (by decide +kernel)]; kernel_rfl) | (rw [if_neg (by decide +kernel)]; exact ⟨rfl, rfl⟩))
    (fun os started H enc _ => lifted os started H enc)

end FixedScores

theorem fixedScores_holds : Rows.FixedScoresSaid := FixedScores.holds
#print axioms fixedScores_holds
end Go.Proofs.Ytdblijpoelcghaa

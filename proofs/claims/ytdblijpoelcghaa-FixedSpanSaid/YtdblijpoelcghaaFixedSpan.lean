/- Whatever the parameters, the two models, the three queries and the two factors: models that are alike on the queries are alike on the mixture of these whose factors come to 1, where it is a query; no condition. -/
import Derived.Test.YtdblijpoelcghaaRows
import Derived.Test.YtdblijpoelcghaaFixOpen
import Derived.Deep.Fields
import Derived.Test.YtdblijpoelcghaaLaw07a
import Derived.Test.YtdblijpoelcghaaFixSpanM
import Derived.Test.YtdblijpoelcghaaFixR2
import Derived.Test.YtdblijpoelcghaaFixR3
import Derived.Test.YtdblijpoelcghaaFixOpen
namespace Go.Proofs.Ytdblijpoelcghaa
open Go.ChangeShapes Go.WideShapes Go.ChangeAt Go.RowKit
namespace FixedSpan
open M

attribute [local go_sem] Oper.semAt_some
def wNewI (lo n : Nat) (z : Nat → Int) : RK.Word := ⟨fun v w => NewI lo w v n z, fun _ _ _ h hb => h.below hb⟩
theorem tmod_1000 (a : Int) : -1000 < a.tmod 1000 ∧ a.tmod 1000 < 1000 := by
  have h1 := Int.tmod_lt_of_pos a (show (0 : Int) < 1000 by omega)
  have h2 := Int.lt_tmod_of_pos a (show (0 : Int) < 1000 by omega)
  omega
set_option maxRecDepth 100000 in
set_option maxHeartbeats 32000000 in
theorem walk (p : Pm) (v1 v2 v3 v4 v5 : Value) (a0 b0 : Int) (_ : PmOk p) (_ : -9223372036854775808 ≤ a0 ∧ a0 ≤ 9223372036854775807) (_ : -9223372036854775808 ≤ b0 ∧ b0 ≤ 9223372036854775807) (W : World) (hm1 : ModelIn W v1) (hm2 : ModelIn W v2) (hm3 : IntsIn W v3) (hm4 : IntsIn W v4) (hm5 : IntsIn W v5) :
    Calls Try.prog 9 #[.agg p.cells, v1, v2, v3, v4, v5, .int .i64 a0, .int .i64 b0] W fun e w' => e = .returned (.bool true) ∧ Below W.heap.size W w' := by
  obtain ⟨mv, o, rfl, ok1, mat1⟩ := hm1
  obtain ⟨mu, q, rfl, ok2, mat2⟩ := hm2
  obtain ⟨xo, n1, c1, x, rfl, hn1, _, hrx⟩ := hm3
  obtain ⟨yo, n2, c2, y, rfl, hn2, _, hry⟩ := hm4
  obtain ⟨zo, n3, c3, z, rfl, hn3, _, hrz⟩ := hm5
  have hI0 := In3.new W p mv mu o q mat1 mat2
  obtain ⟨g, hg⟩ : ∃ g, W.heap.size = g := ⟨_, rfl⟩
  obtain ⟨h, hh⟩ : ∃ h, g + 1 = h := ⟨_, rfl⟩
  obtain ⟨h2, hh2⟩ : ∃ h2, h + 1 = h2 := ⟨_, rfl⟩
  rw [hg, hh, hh2] at hI0
  have HI := Lib.hid hI0
  have HG := Lib.hid hg
  have HX := Lib.hid hrx
  have HY := Lib.hid hry
  have HZ := Lib.hid hrz
  have HLG1 := Lib.hid (fun (u : World) (hu : MoAt u mv o) => large_any mv o ok1 u hu)
  have HLG2 := Lib.hid (fun (u : World) (hu : MoAt u mu q) => large_any mu q ok2 u hu)
  have HMY1 := Lib.hid (fun (u : World) (hu : MoAt u mv o) => may_any p mv o ok1 u hu)
  have HMY2 := Lib.hid (fun (u : World) (hu : MoAt u mu q) => may_any p mu q ok2 u hu)
  have HOK1 := Lib.hid ok1
  have HOK2 := Lib.hid ok2
  clear hI0 mat1 mat2 hrx hry hrz ok1 ok2
  by_cases hlg1 : MM.Large o
  · rw [decide_eq_true hlg1] at HLG1
    clear hlg1
    go_enter Try.func9, Try.ntmps9
    go_wp2_with (first
      | (refine load_pm ?_ _ rfl g rfl p HI.out.box ?_; first | rfl | (simp [Region.wanted, yielded]; done))
      | (refine load_mo ?_ _ rfl h rfl mv o HI.out.mod ?_; first | rfl | (simp [Region.wanted, yielded]; done))
      | (refine load_mo ?_ _ rfl h2 rfl mu q HI.out.mod2 ?_; first | rfl | (simp [Region.wanted, yielded]; done))
      | (go_at_call 25; (with_reducible refine (HLG1.out _ HI.out.mat).mono ?_); rintro e w1 ⟨rfl, hb⟩; replace HI := Lib.hid (HI.out.step hb); clear hb)
      | (go_at_call 25; (with_reducible refine (HLG2.out _ HI.out.mat2).mono ?_); rintro e w1 ⟨rfl, hb⟩; replace HI := Lib.hid (HI.out.step hb); clear hb)
      | (go_at_call 10; (with_reducible refine (awake_any _).mono ?_); rintro e w1 ⟨rfl, hb⟩; replace HI := Lib.hid (HI.out.step hb); clear hb)
      | (go_at_call 14; (with_reducible refine (HMY1.out _ HI.out.mat).mono ?_); rintro e w1 ⟨rfl, hb⟩; replace HI := Lib.hid (HI.out.step hb); clear hb)
      | (go_at_call 14; (with_reducible refine (HMY2.out _ HI.out.mat2).mono ?_); rintro e w1 ⟨rfl, hb⟩; replace HI := Lib.hid (HI.out.step hb); clear hb))
    go_ret
    exact ⟨rfl, HI.out.below⟩
  rw [decide_eq_false hlg1] at HLG1
  clear hlg1
  by_cases hlg2 : MM.Large q
  · rw [decide_eq_true hlg2] at HLG2
    clear hlg2
    go_enter Try.func9, Try.ntmps9
    go_wp2_with (first
      | (refine load_pm ?_ _ rfl g rfl p HI.out.box ?_; first | rfl | (simp [Region.wanted, yielded]; done))
      | (refine load_mo ?_ _ rfl h rfl mv o HI.out.mod ?_; first | rfl | (simp [Region.wanted, yielded]; done))
      | (refine load_mo ?_ _ rfl h2 rfl mu q HI.out.mod2 ?_; first | rfl | (simp [Region.wanted, yielded]; done))
      | (go_at_call 25; (with_reducible refine (HLG1.out _ HI.out.mat).mono ?_); rintro e w1 ⟨rfl, hb⟩; replace HI := Lib.hid (HI.out.step hb); clear hb)
      | (go_at_call 25; (with_reducible refine (HLG2.out _ HI.out.mat2).mono ?_); rintro e w1 ⟨rfl, hb⟩; replace HI := Lib.hid (HI.out.step hb); clear hb)
      | (go_at_call 10; (with_reducible refine (awake_any _).mono ?_); rintro e w1 ⟨rfl, hb⟩; replace HI := Lib.hid (HI.out.step hb); clear hb)
      | (go_at_call 14; (with_reducible refine (HMY1.out _ HI.out.mat).mono ?_); rintro e w1 ⟨rfl, hb⟩; replace HI := Lib.hid (HI.out.step hb); clear hb)
      | (go_at_call 14; (with_reducible refine (HMY2.out _ HI.out.mat2).mono ?_); rintro e w1 ⟨rfl, hb⟩; replace HI := Lib.hid (HI.out.step hb); clear hb))
    go_ret
    exact ⟨rfl, HI.out.below⟩
  rw [decide_eq_false hlg2] at HLG2
  clear hlg2
  by_cases h41 : 40 < n1
  · have h41I : (40 : Int) < (n1 : Int) := by omega
    go_enter Try.func9, Try.ntmps9
    go_wp2_with (first
      | (refine load_pm ?_ _ rfl g rfl p HI.out.box ?_; first | rfl | (simp [Region.wanted, yielded]; done))
      | (refine load_mo ?_ _ rfl h rfl mv o HI.out.mod ?_; first | rfl | (simp [Region.wanted, yielded]; done))
      | (refine load_mo ?_ _ rfl h2 rfl mu q HI.out.mod2 ?_; first | rfl | (simp [Region.wanted, yielded]; done))
      | (go_at_call 25; (with_reducible refine (HLG1.out _ HI.out.mat).mono ?_); rintro e w1 ⟨rfl, hb⟩; replace HI := Lib.hid (HI.out.step hb); clear hb)
      | (go_at_call 25; (with_reducible refine (HLG2.out _ HI.out.mat2).mono ?_); rintro e w1 ⟨rfl, hb⟩; replace HI := Lib.hid (HI.out.step hb); clear hb)
      | (go_at_call 10; (with_reducible refine (awake_any _).mono ?_); rintro e w1 ⟨rfl, hb⟩; replace HI := Lib.hid (HI.out.step hb); clear hb)
      | (go_at_call 14; (with_reducible refine (HMY1.out _ HI.out.mat).mono ?_); rintro e w1 ⟨rfl, hb⟩; replace HI := Lib.hid (HI.out.step hb); clear hb)
      | (go_at_call 14; (with_reducible refine (HMY2.out _ HI.out.mat2).mono ?_); rintro e w1 ⟨rfl, hb⟩; replace HI := Lib.hid (HI.out.step hb); clear hb))
    go_ret
    exact ⟨rfl, HI.out.below⟩
  have h41I : ¬ (40 : Int) < (n1 : Int) := by omega
  by_cases h42 : 40 < n2
  · have h42I : (40 : Int) < (n2 : Int) := by omega
    go_enter Try.func9, Try.ntmps9
    go_wp2_with (first
      | (refine load_pm ?_ _ rfl g rfl p HI.out.box ?_; first | rfl | (simp [Region.wanted, yielded]; done))
      | (refine load_mo ?_ _ rfl h rfl mv o HI.out.mod ?_; first | rfl | (simp [Region.wanted, yielded]; done))
      | (refine load_mo ?_ _ rfl h2 rfl mu q HI.out.mod2 ?_; first | rfl | (simp [Region.wanted, yielded]; done))
      | (go_at_call 25; (with_reducible refine (HLG1.out _ HI.out.mat).mono ?_); rintro e w1 ⟨rfl, hb⟩; replace HI := Lib.hid (HI.out.step hb); clear hb)
      | (go_at_call 25; (with_reducible refine (HLG2.out _ HI.out.mat2).mono ?_); rintro e w1 ⟨rfl, hb⟩; replace HI := Lib.hid (HI.out.step hb); clear hb)
      | (go_at_call 10; (with_reducible refine (awake_any _).mono ?_); rintro e w1 ⟨rfl, hb⟩; replace HI := Lib.hid (HI.out.step hb); clear hb)
      | (go_at_call 14; (with_reducible refine (HMY1.out _ HI.out.mat).mono ?_); rintro e w1 ⟨rfl, hb⟩; replace HI := Lib.hid (HI.out.step hb); clear hb)
      | (go_at_call 14; (with_reducible refine (HMY2.out _ HI.out.mat2).mono ?_); rintro e w1 ⟨rfl, hb⟩; replace HI := Lib.hid (HI.out.step hb); clear hb))
    go_ret
    exact ⟨rfl, HI.out.below⟩
  have h42I : ¬ (40 : Int) < (n2 : Int) := by omega
  by_cases h43 : 40 < n3
  · have h43I : (40 : Int) < (n3 : Int) := by omega
    go_enter Try.func9, Try.ntmps9
    go_wp2_with (first
      | (refine load_pm ?_ _ rfl g rfl p HI.out.box ?_; first | rfl | (simp [Region.wanted, yielded]; done))
      | (refine load_mo ?_ _ rfl h rfl mv o HI.out.mod ?_; first | rfl | (simp [Region.wanted, yielded]; done))
      | (refine load_mo ?_ _ rfl h2 rfl mu q HI.out.mod2 ?_; first | rfl | (simp [Region.wanted, yielded]; done))
      | (go_at_call 25; (with_reducible refine (HLG1.out _ HI.out.mat).mono ?_); rintro e w1 ⟨rfl, hb⟩; replace HI := Lib.hid (HI.out.step hb); clear hb)
      | (go_at_call 25; (with_reducible refine (HLG2.out _ HI.out.mat2).mono ?_); rintro e w1 ⟨rfl, hb⟩; replace HI := Lib.hid (HI.out.step hb); clear hb)
      | (go_at_call 10; (with_reducible refine (awake_any _).mono ?_); rintro e w1 ⟨rfl, hb⟩; replace HI := Lib.hid (HI.out.step hb); clear hb)
      | (go_at_call 14; (with_reducible refine (HMY1.out _ HI.out.mat).mono ?_); rintro e w1 ⟨rfl, hb⟩; replace HI := Lib.hid (HI.out.step hb); clear hb)
      | (go_at_call 14; (with_reducible refine (HMY2.out _ HI.out.mat2).mono ?_); rintro e w1 ⟨rfl, hb⟩; replace HI := Lib.hid (HI.out.step hb); clear hb))
    go_ret
    exact ⟨rfl, HI.out.below⟩
  have h43I : ¬ (40 : Int) < (n3 : Int) := by omega
  obtain ⟨a, ha⟩ : ∃ a, a0.tmod 1000 = a := ⟨_, rfl⟩
  obtain ⟨b, hb0⟩ : ∃ b, b0.tmod 1000 = b := ⟨_, rfl⟩
  have HAB := Lib.hid (And.intro (tmod_1000 a0) (tmod_1000 b0))
  rw [ha, hb0] at HAB
  have hwa : wrap64 a = a := IntWalk.wrap64_in _ (by have := HAB.out; omega)
  have hwb : wrap64 b = b := IntWalk.wrap64_in _ (by have := HAB.out; omega)
  by_cases hv1 : ¬ MM.Valid p o
  · rw [decide_eq_false hv1] at HMY1
    clear hv1
    go_enter Try.func9, Try.ntmps9
    go_wp2_with (first
      | (refine load_pm ?_ _ rfl g rfl p HI.out.box ?_; first | rfl | (simp [Region.wanted, yielded]; done))
      | (refine load_mo ?_ _ rfl h rfl mv o HI.out.mod ?_; first | rfl | (simp [Region.wanted, yielded]; done))
      | (refine load_mo ?_ _ rfl h2 rfl mu q HI.out.mod2 ?_; first | rfl | (simp [Region.wanted, yielded]; done))
      | (go_at_call 25; (with_reducible refine (HLG1.out _ HI.out.mat).mono ?_); rintro e w1 ⟨rfl, hb⟩; replace HI := Lib.hid (HI.out.step hb); clear hb)
      | (go_at_call 25; (with_reducible refine (HLG2.out _ HI.out.mat2).mono ?_); rintro e w1 ⟨rfl, hb⟩; replace HI := Lib.hid (HI.out.step hb); clear hb)
      | (go_at_call 10; (with_reducible refine (awake_any _).mono ?_); rintro e w1 ⟨rfl, hb⟩; replace HI := Lib.hid (HI.out.step hb); clear hb)
      | (go_at_call 14; (with_reducible refine (HMY1.out _ HI.out.mat).mono ?_); rintro e w1 ⟨rfl, hb⟩; replace HI := Lib.hid (HI.out.step hb); clear hb)
      | (go_at_call 14; (with_reducible refine (HMY2.out _ HI.out.mat2).mono ?_); rintro e w1 ⟨rfl, hb⟩; replace HI := Lib.hid (HI.out.step hb); clear hb))
    go_ret
    exact ⟨rfl, HI.out.below⟩
  have hval1 := Decidable.not_not.1 hv1
  rw [decide_eq_true hval1] at HMY1
  clear hv1
  by_cases hv2 : ¬ MM.Valid p q
  · rw [decide_eq_false hv2] at HMY2
    clear hv2
    go_enter Try.func9, Try.ntmps9
    go_wp2_with (first
      | (refine load_pm ?_ _ rfl g rfl p HI.out.box ?_; first | rfl | (simp [Region.wanted, yielded]; done))
      | (refine load_mo ?_ _ rfl h rfl mv o HI.out.mod ?_; first | rfl | (simp [Region.wanted, yielded]; done))
      | (refine load_mo ?_ _ rfl h2 rfl mu q HI.out.mod2 ?_; first | rfl | (simp [Region.wanted, yielded]; done))
      | (go_at_call 25; (with_reducible refine (HLG1.out _ HI.out.mat).mono ?_); rintro e w1 ⟨rfl, hb⟩; replace HI := Lib.hid (HI.out.step hb); clear hb)
      | (go_at_call 25; (with_reducible refine (HLG2.out _ HI.out.mat2).mono ?_); rintro e w1 ⟨rfl, hb⟩; replace HI := Lib.hid (HI.out.step hb); clear hb)
      | (go_at_call 10; (with_reducible refine (awake_any _).mono ?_); rintro e w1 ⟨rfl, hb⟩; replace HI := Lib.hid (HI.out.step hb); clear hb)
      | (go_at_call 14; (with_reducible refine (HMY1.out _ HI.out.mat).mono ?_); rintro e w1 ⟨rfl, hb⟩; replace HI := Lib.hid (HI.out.step hb); clear hb)
      | (go_at_call 14; (with_reducible refine (HMY2.out _ HI.out.mat2).mono ?_); rintro e w1 ⟨rfl, hb⟩; replace HI := Lib.hid (HI.out.step hb); clear hb))
    go_ret
    exact ⟨rfl, HI.out.below⟩
  have hval2 := Decidable.not_not.1 hv2
  rw [decide_eq_true hval2] at HMY2
  clear hv2
  have HV1 := Lib.hid hval1
  have HV2 := Lib.hid hval2
  have hfit := hval1.1
  have hK2 : p.K.toNat ≤ 2 := by have := hfit.2.1; omega
  obtain ⟨K, hK⟩ : ∃ K, p.K.toNat = K := ⟨_, rfl⟩
  rw [hK] at hK2
  have HKK := Lib.hid hK
  obtain ⟨d, hd⟩ : ∃ d : Nat, p.D = (d : Int) := ⟨p.D.toNat, by have := hfit.2.2.1; omega⟩
  have hd4 : d ≤ 4 := by have := hfit.2.2.2.1; omega
  have HD := Lib.hid hd
  have hX20 := hfit.2.2.2.2.2.2.2
  clear hval1 hval2 hfit hK hd
  go_enter Try.func9, Try.ntmps9
  go_upto_region 6 with (first
    | (refine load_pm ?_ _ rfl g rfl p HI.out.box ?_; first | rfl | (simp [Region.wanted, yielded]; done))
    | (refine load_mo ?_ _ rfl h rfl mv o HI.out.mod ?_; first | rfl | (simp [Region.wanted, yielded]; done))
    | (refine load_mo ?_ _ rfl h2 rfl mu q HI.out.mod2 ?_; first | rfl | (simp [Region.wanted, yielded]; done))
    | (go_at_call 25; (with_reducible refine (HLG1.out _ HI.out.mat).mono ?_); rintro e w1 ⟨rfl, hb⟩; replace HI := Lib.hid (HI.out.step hb); clear hb)
    | (go_at_call 25; (with_reducible refine (HLG2.out _ HI.out.mat2).mono ?_); rintro e w1 ⟨rfl, hb⟩; replace HI := Lib.hid (HI.out.step hb); clear hb)
    | (go_at_call 10; (with_reducible refine (awake_any _).mono ?_); rintro e w1 ⟨rfl, hb⟩; replace HI := Lib.hid (HI.out.step hb); clear hb)
    | (go_at_call 14; (with_reducible refine (HMY1.out _ HI.out.mat).mono ?_); rintro e w1 ⟨rfl, hb⟩; replace HI := Lib.hid (HI.out.step hb); clear hb)
    | (go_at_call 14; (with_reducible refine (HMY2.out _ HI.out.mat2).mono ?_); rintro e w1 ⟨rfl, hb⟩; replace HI := Lib.hid (HI.out.step hb); clear hb))
  clear HLG1 HLG2 HMY1 HMY2 ha hb0 hwa hwb h41I h42I h43I h41 h42 h43
  have hmat := three_mat w1 (HX.out.below HI.out.below) (HY.out.below HI.out.below) (HZ.out.below HI.out.below)
  have HB6 := Lib.hid (below_box w1 (.cells #[.slice xo n1 c1, .slice yo n2 c2, .slice zo n3 c3] 34))
  have HI6 := Lib.hid (HI.out.step HB6.out)
  obtain ⟨B6, hB6⟩ : ∃ B, w1.heap.size = B := ⟨_, rfl⟩
  rw [hB6] at hmat
  obtain ⟨w6, hw6⟩ : ∃ w6, w1.alloc (.cells #[.slice xo n1 c1, .slice yo n2 c2, .slice zo n3 c3] 34) = w6 := ⟨_, rfl⟩
  rw [hw6] at hmat HB6 HI6
  have HMAT := Lib.hid hmat
  clear hmat
  go_wp2_with fail
  clear hw6 hB6 HB6 HI
  have HGOOD0 : Hid (∀ j, j < 0 → MM.qryE p (MM.pick3 n1 n2 n3 j) (MM.pick3 x y z j) = 0 ∧ ∀ k, k < K → MM.scoZ p o (MM.pick3 x y z j) k = MM.scoZ p q (MM.pick3 x y z j) k) := Lib.hid fun j hj => absurd hj (by omega)
  go_loopw [66] (fun s66 wx => ∃ k : Nat, k ≤ 3 ∧ s66 = .int .i64 (k : Int) ∧ Hid (In3 W g h h2 p mv o mu q wx) ∧ Hid (Below w6.heap.size w6 wx) ∧ Hid (∀ j, j < k → MM.qryE p (MM.pick3 n1 n2 n3 j) (MM.pick3 x y z j) = 0 ∧ ∀ k, k < K → MM.scoZ p o (MM.pick3 x y z j) k = MM.scoZ p q (MM.pick3 x y z j) k)) (fun s66 _ => 3 - (RowKit.intOf s66).toNat)
  case atStart => exact ⟨0, by omega, rfl, HI6, Lib.hid (Below.refl _ _), HGOOD0⟩
  case round =>
    clear HGOOD0 HI6
    obtain ⟨k, hk, rfl, HI, HB, HJ⟩ := hrel
    have hk0 : (0 : Int) ≤ (k : Int) := Int.natCast_nonneg _
    by_cases hlt : k < 3
    · have hkI : (k : Int) < 3 := by omega
      have hn3' : MM.pick3 n1 n2 n3 k ≤ 9223372036854775807 := by
        match k, hlt with
        | 0, _ => exact hn1
        | 1, _ => exact hn2
        | 2, _ => exact hn3
      have HNEXT : Hid ((MM.qryE p (MM.pick3 n1 n2 n3 k) (MM.pick3 x y z k) = 0 ∧ ∀ i, i < K → MM.scoZ p o (MM.pick3 x y z k) i = MM.scoZ p q (MM.pick3 x y z k) i) → ∀ j, j < k + 1 → MM.qryE p (MM.pick3 n1 n2 n3 j) (MM.pick3 x y z j) = 0 ∧ ∀ i, i < K → MM.scoZ p o (MM.pick3 x y z j) i = MM.scoZ p q (MM.pick3 x y z j) i) := Lib.hid fun hq j hj => by
        by_cases e : j = k
        · subst e; exact hq
        · exact HJ.out j (by omega)
      obtain ⟨ad, ro, rc, hro, hc, hrr⟩ := (HMAT.out.below HB.out) k hlt
      cases hro
      rw [row_add] at hc
      generalize MM.pick3 n1 n2 n3 k = rn at *
      generalize MM.pick3 x y z k = rx at *
      have HR := Lib.hid hrr
      have HQ0 := Lib.hid (fun (u : World) (hu : IRow u ro rn rc rx) => rquery_any p ro rn rc rx u hu)
      clear hrr HJ
      go_upto_region 9 with fail
      obtain ⟨w9, hw9⟩ : ∃ w9, w9 = wr := ⟨_, rfl⟩
      subst hw9
      have HI9 := HI
      have HR9 := HR
      by_cases hqe : MM.qryE p rn rx = 0
      · have HQ := HQ0
        rw [hqe] at HQ
        have HS1 : Hid (∀ (u : World) (_ : MoAt u mv o) (_ : IRow u ro rn rc rx), Calls Try.prog 16 #[.agg p.cells, .agg (mv.cells o), .slice ro rn rc] u fun e w' => ∃ v, e = .returned v ∧ NewI 0 w' v K (MM.scoZ p o rx) ∧ Below u.heap.size u w') := Lib.hid fun u hu hxu => by
          refine (scores_any p mv o HOK1.out ro rn rc rx hn3' u hu hxu).mono ?_
          rintro e w' ⟨v, rfl, hv, hb⟩
          rw [show MM.scoN p o rn rx = p.K.toNat from if_pos ⟨HV1.out, hqe⟩, HKK.out] at hv
          exact ⟨v, rfl, hv.mono (Nat.zero_le _), hb⟩
        have HS2 : Hid (∀ (u : World) (_ : MoAt u mu q) (_ : IRow u ro rn rc rx), Calls Try.prog 16 #[.agg p.cells, .agg (mu.cells q), .slice ro rn rc] u fun e w' => ∃ v, e = .returned v ∧ NewI 0 w' v K (MM.scoZ p q rx) ∧ Below u.heap.size u w') := Lib.hid fun u hu hxu => by
          refine (scores_any p mu q HOK2.out ro rn rc rx hn3' u hu hxu).mono ?_
          rintro e w' ⟨v, rfl, hv, hb⟩
          rw [show MM.scoN p q rn rx = p.K.toNat from if_pos ⟨HV2.out, hqe⟩, HKK.out] at hv
          exact ⟨v, rfl, hv.mono (Nat.zero_le _), hb⟩
        obtain ⟨bb, hbb⟩ : ∃ bb, decide (MM.eqR K K (MM.scoZ p o rx) (MM.scoZ p q rx)) = bb := ⟨_, rfl⟩
        have HBB := Lib.hid hbb
        clear hbb
        refine RK.tame [none, none, none, none, none, none, none, none, none, none, none, none, none, none, none, none, none, none, none, none, none, none, none, none, none, none, none, none, none, none, none, none, none, none, none, none, none, none, none, none, none, none, none, none, none, none, none, none, none, none, none, none, none, none, none, none, none, none, none, none, none, none, none, none, none, none, none, none, none, none, some 0, some 1, some 2, some 3, some 4, some 5, some 6, some 7, some 8, some 9, some 10, some 11, some 12, some 13, some 14, some 15, none, none, none, none, none, none, none, none, none, none, none, none, none, none, none, none, none, none, none, none, none, none, none, none, none, none, none, none, none, none, none, none, none, none, none, none, none, none, none, none, none, none, none, none, none, none, none, none] [RK.Word.eq (.agg p.cells), RK.Word.eq (.slice ro rn rc), RK.Word.eq (.int .i64 0), RK.Word.eq (.bool false), RK.Word.eq (.bool false), RK.Word.eq (.agg p.cells), RK.Word.eq (.agg (mv.cells o)), RK.Word.eq (.slice ro rn rc), wNewI 0 K (MM.scoZ p o (rx)), RK.Word.eq (.agg p.cells), RK.Word.eq (.agg (mu.cells q)), RK.Word.eq (.slice ro rn rc), wNewI 0 K (MM.scoZ p q (rx)), RK.Word.eq (.bool bb), RK.Word.eq (.bool (!bb)), RK.Word.eq (.bool (!bb))] (fun u => In3 W g h h2 p mv o mu q u ∧ IRow u ro rn rc (rx) ∧ Below w9.heap.size w9 u) (by kernel_rfl) (by kernel_rfl) (by kernel_rfl) ⟨HI9.out, HR9.out, Below.refl _ _⟩ (fun _ _ hs hb => ⟨hs.1.step hb, hs.2.1.below hb, hs.2.2.trans (hb.mono hs.2.2.size)⟩) (fun i hi a' val w' hF => ?_) (fun val w' hw hp => ?_)
        · have hi2 : i = 0 ∨ i = 1 ∨ i = 2 ∨ i = 3 ∨ i = 4 ∨ i = 5 ∨ i = 6 ∨ i = 7 ∨ i = 8 ∨ i = 9 ∨ i = 10 ∨ i = 11 ∨ i = 12 ∨ i = 13 ∨ i = 14 ∨ i = 15 := by
            have : i < 16 := hi
            omega
          clear hi
          rcases hi2 with rfl | rfl | rfl | rfl | rfl | rfl | rfl | rfl | rfl | rfl | rfl | rfl | rfl | rfl | rfl | rfl
          · have r8 : a'.eval (.tmp 8) = .pointer (some ⟨g, 0, none⟩) := (hF.old 8 (.inr rfl)).trans rfl
            refine RK.owes_exec (v := .agg p.cells) (w' := w') rfl (RK.wanted_any rfl) ?_ (Below.refl _ _) rfl
            exact load_boxp hF.S.1.box rfl r8
          · have r18 : a'.eval (.tmp 18) = .slice ro rn rc := (hF.old 18 (.inr rfl)).trans rfl
            refine RK.owes_exec (v := .slice ro rn rc) (w' := w') rfl (RK.wanted_any rfl) ?_ (Below.refl _ _) rfl
            have rk : ∀ c, a'.eval (.const c) = c := fun _ => rfl
            generalize a'.eval = ρ at *
            go_simp
          · have p0 : val 0 = .agg p.cells := hF.post 0 (by kernel_rfl)
            have r70 : a'.eval (.tmp 70) = .agg p.cells := (hF.ev 70 0 rfl (by kernel_rfl) (of_decide_eq_true (by kernel_rfl))).trans p0
            have p1 : val 1 = .slice ro rn rc := hF.post 1 (by kernel_rfl)
            have r71 : a'.eval (.tmp 71) = .slice ro rn rc := (hF.ev 71 1 rfl (by kernel_rfl) (of_decide_eq_true (by kernel_rfl))).trans p1
            refine RK.owes_call (g := 32) (args := #[.agg p.cells, .slice ro rn rc]) rfl (RK.wanted_any rfl) ?_ ?_
            · have rk : ∀ c, a'.eval (.const c) = c := fun _ => rfl
              have rf : ∀ f, a'.eval (.func f) = .func (.func f) #[] #[] := fun _ => rfl
              generalize a'.eval = ρ at *
              go_simp
            · refine (HQ.out w' hF.S.2.1).mono ?_
              rintro e w2 ⟨rfl, hb⟩
              exact ⟨_, rfl, hb, rfl⟩
          · have p2 : val 2 = .int .i64 0 := hF.post 2 (by kernel_rfl)
            have r72 : a'.eval (.tmp 72) = .int .i64 0 := (hF.ev 72 2 rfl (by kernel_rfl) (of_decide_eq_true (by kernel_rfl))).trans p2
            refine RK.owes_exec (v := .bool false) (w' := w') rfl (RK.wanted_any rfl) ?_ (Below.refl _ _) rfl
            have rk : ∀ c, a'.eval (.const c) = c := fun _ => rfl
            generalize a'.eval = ρ at *
            go_simp
          · have p3 : val 3 = .bool false := hF.post 3 (by kernel_rfl)
            have r73 : a'.eval (.tmp 73) = .bool false := (hF.ev 73 3 rfl (by kernel_rfl) (of_decide_eq_true (by kernel_rfl))).trans p3
            refine RK.owes_exec (v := .bool false) (w' := w') rfl (RK.wanted_any rfl) ?_ (Below.refl _ _) rfl
            have rk : ∀ c, a'.eval (.const c) = c := fun _ => rfl
            generalize a'.eval = ρ at *
            go_simp
          · have r8 : a'.eval (.tmp 8) = .pointer (some ⟨g, 0, none⟩) := (hF.old 8 (.inr rfl)).trans rfl
            have hwn : ∀ o : Oper, o.guard = some (4, false) → Region.wanted o _ = true := fun o h => RK.wanted_if h (hF.yields rfl rfl rfl (by kernel_rfl) (of_decide_eq_true (by kernel_rfl)) (hF.post 4 (by kernel_rfl)))
            refine RK.owes_exec (v := .agg p.cells) (w' := w') rfl (hwn _ rfl) ?_ (Below.refl _ _) rfl
            exact load_boxp hF.S.1.box rfl r8
          · have r9 : a'.eval (.tmp 9) = .pointer (some ⟨h, 0, none⟩) := (hF.old 9 (.inr rfl)).trans rfl
            have hwn : ∀ o : Oper, o.guard = some (4, false) → Region.wanted o _ = true := fun o h => RK.wanted_if h (hF.yields rfl rfl rfl (by kernel_rfl) (of_decide_eq_true (by kernel_rfl)) (hF.post 4 (by kernel_rfl)))
            refine RK.owes_exec (v := .agg (mv.cells o)) (w' := w') rfl (hwn _ rfl) ?_ (Below.refl _ _) rfl
            exact load_mo7 hF.S.1.mod rfl r9
          · have r18 : a'.eval (.tmp 18) = .slice ro rn rc := (hF.old 18 (.inr rfl)).trans rfl
            have hwn : ∀ o : Oper, o.guard = some (4, false) → Region.wanted o _ = true := fun o h => RK.wanted_if h (hF.yields rfl rfl rfl (by kernel_rfl) (of_decide_eq_true (by kernel_rfl)) (hF.post 4 (by kernel_rfl)))
            refine RK.owes_exec (v := .slice ro rn rc) (w' := w') rfl (hwn _ rfl) ?_ (Below.refl _ _) rfl
            have rk : ∀ c, a'.eval (.const c) = c := fun _ => rfl
            generalize a'.eval = ρ at *
            go_simp
          · have p5 : val 5 = .agg p.cells := hF.post 5 (by kernel_rfl)
            have r75 : a'.eval (.tmp 75) = .agg p.cells := (hF.ev 75 5 rfl (by kernel_rfl) (of_decide_eq_true (by kernel_rfl))).trans p5
            have p6 : val 6 = .agg (mv.cells o) := hF.post 6 (by kernel_rfl)
            have r76 : a'.eval (.tmp 76) = .agg (mv.cells o) := (hF.ev 76 6 rfl (by kernel_rfl) (of_decide_eq_true (by kernel_rfl))).trans p6
            have p7 : val 7 = .slice ro rn rc := hF.post 7 (by kernel_rfl)
            have r77 : a'.eval (.tmp 77) = .slice ro rn rc := (hF.ev 77 7 rfl (by kernel_rfl) (of_decide_eq_true (by kernel_rfl))).trans p7
            have hwn : ∀ o : Oper, o.guard = some (4, false) → Region.wanted o _ = true := fun o h => RK.wanted_if h (hF.yields rfl rfl rfl (by kernel_rfl) (of_decide_eq_true (by kernel_rfl)) (hF.post 4 (by kernel_rfl)))
            refine RK.owes_call (g := 16) (args := #[.agg p.cells, .agg (mv.cells o), .slice ro rn rc]) rfl (hwn _ rfl) ?_ ?_
            · have rk : ∀ c, a'.eval (.const c) = c := fun _ => rfl
              have rf : ∀ f, a'.eval (.func f) = .func (.func f) #[] #[] := fun _ => rfl
              generalize a'.eval = ρ at *
              go_simp
            · refine (HS1.out w' hF.S.1.mat hF.S.2.1).mono ?_
              rintro e w2 ⟨u, rfl, hu, hb⟩
              exact ⟨_, rfl, hb, hu⟩
          · have r8 : a'.eval (.tmp 8) = .pointer (some ⟨g, 0, none⟩) := (hF.old 8 (.inr rfl)).trans rfl
            have hwn : ∀ o : Oper, o.guard = some (4, false) → Region.wanted o _ = true := fun o h => RK.wanted_if h (hF.yields rfl rfl rfl (by kernel_rfl) (of_decide_eq_true (by kernel_rfl)) (hF.post 4 (by kernel_rfl)))
            refine RK.owes_exec (v := .agg p.cells) (w' := w') rfl (hwn _ rfl) ?_ (Below.refl _ _) rfl
            exact load_boxp hF.S.1.box rfl r8
          · have r10 : a'.eval (.tmp 10) = .pointer (some ⟨h2, 0, none⟩) := (hF.old 10 (.inr rfl)).trans rfl
            have hwn : ∀ o : Oper, o.guard = some (4, false) → Region.wanted o _ = true := fun o h => RK.wanted_if h (hF.yields rfl rfl rfl (by kernel_rfl) (of_decide_eq_true (by kernel_rfl)) (hF.post 4 (by kernel_rfl)))
            refine RK.owes_exec (v := .agg (mu.cells q)) (w' := w') rfl (hwn _ rfl) ?_ (Below.refl _ _) rfl
            exact load_mo7 hF.S.1.mod2 rfl r10
          · have r18 : a'.eval (.tmp 18) = .slice ro rn rc := (hF.old 18 (.inr rfl)).trans rfl
            have hwn : ∀ o : Oper, o.guard = some (4, false) → Region.wanted o _ = true := fun o h => RK.wanted_if h (hF.yields rfl rfl rfl (by kernel_rfl) (of_decide_eq_true (by kernel_rfl)) (hF.post 4 (by kernel_rfl)))
            refine RK.owes_exec (v := .slice ro rn rc) (w' := w') rfl (hwn _ rfl) ?_ (Below.refl _ _) rfl
            have rk : ∀ c, a'.eval (.const c) = c := fun _ => rfl
            generalize a'.eval = ρ at *
            go_simp
          · have p9 : val 9 = .agg p.cells := hF.post 9 (by kernel_rfl)
            have r79 : a'.eval (.tmp 79) = .agg p.cells := (hF.ev 79 9 rfl (by kernel_rfl) (of_decide_eq_true (by kernel_rfl))).trans p9
            have p10 : val 10 = .agg (mu.cells q) := hF.post 10 (by kernel_rfl)
            have r80 : a'.eval (.tmp 80) = .agg (mu.cells q) := (hF.ev 80 10 rfl (by kernel_rfl) (of_decide_eq_true (by kernel_rfl))).trans p10
            have p11 : val 11 = .slice ro rn rc := hF.post 11 (by kernel_rfl)
            have r81 : a'.eval (.tmp 81) = .slice ro rn rc := (hF.ev 81 11 rfl (by kernel_rfl) (of_decide_eq_true (by kernel_rfl))).trans p11
            have hwn : ∀ o : Oper, o.guard = some (4, false) → Region.wanted o _ = true := fun o h => RK.wanted_if h (hF.yields rfl rfl rfl (by kernel_rfl) (of_decide_eq_true (by kernel_rfl)) (hF.post 4 (by kernel_rfl)))
            refine RK.owes_call (g := 16) (args := #[.agg p.cells, .agg (mu.cells q), .slice ro rn rc]) rfl (hwn _ rfl) ?_ ?_
            · have rk : ∀ c, a'.eval (.const c) = c := fun _ => rfl
              have rf : ∀ f, a'.eval (.func f) = .func (.func f) #[] #[] := fun _ => rfl
              generalize a'.eval = ρ at *
              go_simp
            · refine (HS2.out w' hF.S.1.mat2 hF.S.2.1).mono ?_
              rintro e w2 ⟨u, rfl, hu, hb⟩
              exact ⟨_, rfl, hb, hu⟩
          · obtain ⟨ao8, c8, e8, h8⟩ : ∃ ao c, val 8 = .slice ao K c ∧ IRow w' ao K c (MM.scoZ p o (rx)) := NewI.irow (hF.post 8 (by kernel_rfl))
            have r78 : a'.eval (.tmp 78) = .slice ao8 K c8 := (hF.ev 78 8 rfl (by kernel_rfl) (of_decide_eq_true (by kernel_rfl))).trans e8
            obtain ⟨ao12, c12, e12, h12⟩ : ∃ ao c, val 12 = .slice ao K c ∧ IRow w' ao K c (MM.scoZ p q (rx)) := NewI.irow (hF.post 12 (by kernel_rfl))
            have r82 : a'.eval (.tmp 82) = .slice ao12 K c12 := (hF.ev 82 12 rfl (by kernel_rfl) (of_decide_eq_true (by kernel_rfl))).trans e12
            have hwn : ∀ o : Oper, o.guard = some (4, false) → Region.wanted o _ = true := fun o h => RK.wanted_if h (hF.yields rfl rfl rfl (by kernel_rfl) (of_decide_eq_true (by kernel_rfl)) (hF.post 4 (by kernel_rfl)))
            refine RK.owes_call (g := 29) (args := #[.slice ao8 K c8, .slice ao12 K c12]) rfl (hwn _ rfl) ?_ ?_
            · have rk : ∀ c, a'.eval (.const c) = c := fun _ => rfl
              have rf : ∀ f, a'.eval (.func f) = .func (.func f) #[] #[] := fun _ => rfl
              generalize a'.eval = ρ at *
              go_simp
            · refine (ints_any ao8 ao12 K K c8 c12 (MM.scoZ p o (rx)) (MM.scoZ p q (rx)) (by omega) w' h8 h12).mono ?_
              rintro e w2 ⟨rfl, nd, rfl⟩
              exact ⟨_, rfl, below_drewN' _ _ _, by rw [HBB.out]; rfl⟩
          · have p13 : val 13 = .bool bb := hF.post 13 (by kernel_rfl)
            have r83 : a'.eval (.tmp 83) = .bool bb := (hF.ev 83 13 rfl (by kernel_rfl) (of_decide_eq_true (by kernel_rfl))).trans p13
            have hwn : ∀ o : Oper, o.guard = some (4, false) → Region.wanted o _ = true := fun o h => RK.wanted_if h (hF.yields rfl rfl rfl (by kernel_rfl) (of_decide_eq_true (by kernel_rfl)) (hF.post 4 (by kernel_rfl)))
            refine RK.owes_exec (v := .bool (!bb)) (w' := w') rfl (hwn _ rfl) ?_ (Below.refl _ _) rfl
            have rk : ∀ c, a'.eval (.const c) = c := fun _ => rfl
            generalize a'.eval = ρ at *
            go_simp
          · have p4 : val 4 = .bool false := hF.post 4 (by kernel_rfl)
            have r74 : a'.eval (.tmp 74) = .bool false := (hF.ev 74 4 rfl (by kernel_rfl) (of_decide_eq_true (by kernel_rfl))).trans p4
            have p14 : val 14 = .bool (!bb) := hF.post 14 (by kernel_rfl)
            have r84 : a'.eval (.tmp 84) = .bool (!bb) := (hF.ev 84 14 rfl (by kernel_rfl) (of_decide_eq_true (by kernel_rfl))).trans p14
            refine RK.owes_exec (v := .bool (!bb)) (w' := w') rfl (RK.wanted_any rfl) ?_ (Below.refl _ _) rfl
            have rk : ∀ c, a'.eval (.const c) = c := fun _ => rfl
            generalize a'.eval = ρ at *
            go_simp
        · have e15 : val 15 = .bool (!bb) := hp 15 (of_decide_eq_true (by kernel_rfl))
          have HIW := Lib.hid hw.1
          have HBW := Lib.hid (HB.out.trans (hw.2.2.mono HB.out.size))
          simp only [RK.slotsL, if_true, e15]
          clear hp hw e15 HQ HQ0 HS1 HS2 HI HB HI9 HR9 HR
          generalize val 0 = q0
          generalize val 1 = q1
          generalize val 2 = q2
          generalize val 3 = q3
          generalize val 4 = q4
          generalize val 5 = q5
          generalize val 6 = q6
          generalize val 7 = q7
          generalize val 8 = q8
          generalize val 9 = q9
          generalize val 10 = q10
          generalize val 11 = q11
          generalize val 12 = q12
          generalize val 13 = q13
          generalize val 14 = q14
          cases bb with
          | true =>
            have HN := Lib.hid (HNEXT.out ⟨hqe, (of_decide_eq_true HBB.out).2⟩)
            go_wp2_with fail
            go_roundw
            case rel => exact ⟨k + 1, by omega, by go_num, HIW, HBW, HN⟩
            case measure => simp [RowKit.intOf]; omega
          | false =>
            go_wp2_with fail
            go_ret
            exact ⟨rfl, by have hbz := HIW.out.below; first | exact hbz | (rw [HG.out] at hbz; exact hbz)⟩
      · have hqb : (MM.qryE p rn rx != 0) = true := by simp [hqe]
        have HQ := HQ0
        generalize MM.qryE p rn rx = eq at *
        refine RK.tame [none, none, none, none, none, none, none, none, none, none, none, none, none, none, none, none, none, none, none, none, none, none, none, none, none, none, none, none, none, none, none, none, none, none, none, none, none, none, none, none, none, none, none, none, none, none, none, none, none, none, none, none, none, none, none, none, none, none, none, none, none, none, none, none, none, none, none, none, none, none, some 0, some 1, some 2, some 3, some 4, some 5, some 6, some 7, some 8, some 9, some 10, some 11, some 12, some 13, some 14, some 15, none, none, none, none, none, none, none, none, none, none, none, none, none, none, none, none, none, none, none, none, none, none, none, none, none, none, none, none, none, none, none, none, none, none, none, none, none, none, none, none, none, none, none, none, none, none, none, none] [RK.Word.eq (.agg p.cells), RK.Word.eq (.slice ro rn rc), RK.Word.eq (.int .i64 eq), RK.Word.eq (.bool true), RK.Word.eq (.bool true), RK.Word.eq undef, RK.Word.eq undef, RK.Word.eq undef, RK.Word.eq undef, RK.Word.eq undef, RK.Word.eq undef, RK.Word.eq undef, RK.Word.eq undef, RK.Word.eq undef, RK.Word.eq undef, RK.Word.eq (.bool true)] (fun u => In3 W g h h2 p mv o mu q u ∧ IRow u ro rn rc (rx) ∧ Below w9.heap.size w9 u) (by kernel_rfl) (by kernel_rfl) (by kernel_rfl) ⟨HI9.out, HR9.out, Below.refl _ _⟩ (fun _ _ hs hb => ⟨hs.1.step hb, hs.2.1.below hb, hs.2.2.trans (hb.mono hs.2.2.size)⟩) (fun i hi a' val w' hF => ?_) (fun val w' hw hp => ?_)
        · have hi2 : i = 0 ∨ i = 1 ∨ i = 2 ∨ i = 3 ∨ i = 4 ∨ i = 5 ∨ i = 6 ∨ i = 7 ∨ i = 8 ∨ i = 9 ∨ i = 10 ∨ i = 11 ∨ i = 12 ∨ i = 13 ∨ i = 14 ∨ i = 15 := by
            have : i < 16 := hi
            omega
          clear hi
          rcases hi2 with rfl | rfl | rfl | rfl | rfl | rfl | rfl | rfl | rfl | rfl | rfl | rfl | rfl | rfl | rfl | rfl
          · have r8 : a'.eval (.tmp 8) = .pointer (some ⟨g, 0, none⟩) := (hF.old 8 (.inr rfl)).trans rfl
            refine RK.owes_exec (v := .agg p.cells) (w' := w') rfl (RK.wanted_any rfl) ?_ (Below.refl _ _) rfl
            exact load_boxp hF.S.1.box rfl r8
          · have r18 : a'.eval (.tmp 18) = .slice ro rn rc := (hF.old 18 (.inr rfl)).trans rfl
            refine RK.owes_exec (v := .slice ro rn rc) (w' := w') rfl (RK.wanted_any rfl) ?_ (Below.refl _ _) rfl
            have rk : ∀ c, a'.eval (.const c) = c := fun _ => rfl
            generalize a'.eval = ρ at *
            go_simp
          · have p0 : val 0 = .agg p.cells := hF.post 0 (by kernel_rfl)
            have r70 : a'.eval (.tmp 70) = .agg p.cells := (hF.ev 70 0 rfl (by kernel_rfl) (of_decide_eq_true (by kernel_rfl))).trans p0
            have p1 : val 1 = .slice ro rn rc := hF.post 1 (by kernel_rfl)
            have r71 : a'.eval (.tmp 71) = .slice ro rn rc := (hF.ev 71 1 rfl (by kernel_rfl) (of_decide_eq_true (by kernel_rfl))).trans p1
            refine RK.owes_call (g := 32) (args := #[.agg p.cells, .slice ro rn rc]) rfl (RK.wanted_any rfl) ?_ ?_
            · have rk : ∀ c, a'.eval (.const c) = c := fun _ => rfl
              have rf : ∀ f, a'.eval (.func f) = .func (.func f) #[] #[] := fun _ => rfl
              generalize a'.eval = ρ at *
              go_simp
            · refine (HQ.out w' hF.S.2.1).mono ?_
              rintro e w2 ⟨rfl, hb⟩
              exact ⟨_, rfl, hb, rfl⟩
          · have p2 : val 2 = .int .i64 eq := hF.post 2 (by kernel_rfl)
            have r72 : a'.eval (.tmp 72) = .int .i64 eq := (hF.ev 72 2 rfl (by kernel_rfl) (of_decide_eq_true (by kernel_rfl))).trans p2
            refine RK.owes_exec (v := .bool true) (w' := w') rfl (RK.wanted_any rfl) ?_ (Below.refl _ _) rfl
            have rk : ∀ c, a'.eval (.const c) = c := fun _ => rfl
            generalize a'.eval = ρ at *
            go_simp
          · have p3 : val 3 = .bool true := hF.post 3 (by kernel_rfl)
            have r73 : a'.eval (.tmp 73) = .bool true := (hF.ev 73 3 rfl (by kernel_rfl) (of_decide_eq_true (by kernel_rfl))).trans p3
            refine RK.owes_exec (v := .bool true) (w' := w') rfl (RK.wanted_any rfl) ?_ (Below.refl _ _) rfl
            have rk : ∀ c, a'.eval (.const c) = c := fun _ => rfl
            generalize a'.eval = ρ at *
            go_simp
          · exact RK.owes_skip rfl (RK.wanted_not (b := true) (j := 4) rfl (hF.yields rfl rfl rfl (by kernel_rfl) (of_decide_eq_true (by kernel_rfl)) (hF.post 4 (by kernel_rfl)))) rfl
          · exact RK.owes_skip rfl (RK.wanted_not (b := true) (j := 4) rfl (hF.yields rfl rfl rfl (by kernel_rfl) (of_decide_eq_true (by kernel_rfl)) (hF.post 4 (by kernel_rfl)))) rfl
          · exact RK.owes_skip rfl (RK.wanted_not (b := true) (j := 4) rfl (hF.yields rfl rfl rfl (by kernel_rfl) (of_decide_eq_true (by kernel_rfl)) (hF.post 4 (by kernel_rfl)))) rfl
          · exact RK.owes_skip rfl (RK.wanted_not (b := true) (j := 4) rfl (hF.yields rfl rfl rfl (by kernel_rfl) (of_decide_eq_true (by kernel_rfl)) (hF.post 4 (by kernel_rfl)))) rfl
          · exact RK.owes_skip rfl (RK.wanted_not (b := true) (j := 4) rfl (hF.yields rfl rfl rfl (by kernel_rfl) (of_decide_eq_true (by kernel_rfl)) (hF.post 4 (by kernel_rfl)))) rfl
          · exact RK.owes_skip rfl (RK.wanted_not (b := true) (j := 4) rfl (hF.yields rfl rfl rfl (by kernel_rfl) (of_decide_eq_true (by kernel_rfl)) (hF.post 4 (by kernel_rfl)))) rfl
          · exact RK.owes_skip rfl (RK.wanted_not (b := true) (j := 4) rfl (hF.yields rfl rfl rfl (by kernel_rfl) (of_decide_eq_true (by kernel_rfl)) (hF.post 4 (by kernel_rfl)))) rfl
          · exact RK.owes_skip rfl (RK.wanted_not (b := true) (j := 4) rfl (hF.yields rfl rfl rfl (by kernel_rfl) (of_decide_eq_true (by kernel_rfl)) (hF.post 4 (by kernel_rfl)))) rfl
          · exact RK.owes_skip rfl (RK.wanted_not (b := true) (j := 4) rfl (hF.yields rfl rfl rfl (by kernel_rfl) (of_decide_eq_true (by kernel_rfl)) (hF.post 4 (by kernel_rfl)))) rfl
          · exact RK.owes_skip rfl (RK.wanted_not (b := true) (j := 4) rfl (hF.yields rfl rfl rfl (by kernel_rfl) (of_decide_eq_true (by kernel_rfl)) (hF.post 4 (by kernel_rfl)))) rfl
          · have p4 : val 4 = .bool true := hF.post 4 (by kernel_rfl)
            have r74 : a'.eval (.tmp 74) = .bool true := (hF.ev 74 4 rfl (by kernel_rfl) (of_decide_eq_true (by kernel_rfl))).trans p4
            have p14 : val 14 = undef := hF.post 14 (by kernel_rfl)
            have r84 : a'.eval (.tmp 84) = undef := (hF.ev 84 14 rfl (by kernel_rfl) (of_decide_eq_true (by kernel_rfl))).trans p14
            refine RK.owes_exec (v := .bool true) (w' := w') rfl (RK.wanted_any rfl) ?_ (Below.refl _ _) rfl
            have rk : ∀ c, a'.eval (.const c) = c := fun _ => rfl
            generalize a'.eval = ρ at *
            go_simp
        · have e15 : val 15 = .bool true := hp 15 (of_decide_eq_true (by kernel_rfl))
          have HIW := Lib.hid hw.1
          simp only [RK.slotsL, if_true, e15]
          clear hp hw e15 HQ HQ0 HI HB HI9 HR9 HR
          generalize val 0 = q0
          generalize val 1 = q1
          generalize val 2 = q2
          generalize val 3 = q3
          generalize val 4 = q4
          generalize val 5 = q5
          generalize val 6 = q6
          generalize val 7 = q7
          generalize val 8 = q8
          generalize val 9 = q9
          generalize val 10 = q10
          generalize val 11 = q11
          generalize val 12 = q12
          generalize val 13 = q13
          generalize val 14 = q14
          go_wp2_with fail
          go_ret
          exact ⟨rfl, by have hbz := HIW.out.below; first | exact hbz | (rw [HG.out] at hbz; exact hbz)⟩
    · have hkI : ¬ (k : Int) < 3 := by omega
      have hk3 : k = 3 := by omega
      subst hk3
      have hx0 := qryE_zero (HJ.out 0 (by omega)).1
      have hy0 := qryE_zero (HJ.out 1 (by omega)).1
      have hz0 := qryE_zero (HJ.out 2 (by omega)).1
      change MM.Fit p ∧ (n1 : Int) = p.D ∧ MM.Wi p.X n1 x at hx0
      change MM.Fit p ∧ (n2 : Int) = p.D ∧ MM.Wi p.X n2 y at hy0
      change MM.Fit p ∧ (n3 : Int) = p.D ∧ MM.Wi p.X n3 z at hz0
      have hn12 : n1 = n2 := by omega
      have hn13 : n1 = n3 := by omega
      have hnd4 : n1 ≤ 4 := by have := HD.out; omega
      have HWX : Hid (∀ i, i < n1 → (-1048576 ≤ x i ∧ x i ≤ 1048576) ∧ (-1048576 ≤ y i ∧ y i ≤ 1048576) ∧ (-1048576 ≤ z i ∧ z i ≤ 1048576)) := Lib.hid fun i hi => by
        have e1 := hx0.2.2 i hi
        have e2 := hy0.2.2 i (by omega)
        have e3 := hz0.2.2 i (by omega)
        omega
      have HMIX : Hid (∀ k, k < K → MM.scoZ p o (MM.mixZ a b x y z) k = MM.scoZ p q (MM.mixZ a b x y z) k) := Lib.hid fun k hk => MM.sco_mix ((HJ.out 0 (by omega)).2 k hk) ((HJ.out 1 (by omega)).2 k hk) ((HJ.out 2 (by omega)).2 k hk)
      obtain ⟨mx, hmx⟩ : ∃ mx, MM.mixZ a b x y z = mx := ⟨_, rfl⟩
      rw [hmx] at HMIX
      have HMX : Hid (∀ i, mx i = a * x i + b * y i + (1 - a - b) * z i) := Lib.hid fun i => by rw [← hmx]; rfl
      obtain ⟨w12, hw12⟩ : ∃ w12, w12 = wr := ⟨_, rfl⟩
      subst hw12
      have HI12 := HI
      have HX12 := Lib.hid (HX.out.below HI.out.below)
      have HY12 := Lib.hid (HY.out.below HI.out.below)
      have HZ12 := Lib.hid (HZ.out.below HI.out.below)
      clear hx0 hy0 hz0 HJ HI HB HX HY HZ hmx HMAT
      have HO0 := Lib.hid (OwnW.start w12 mx)
      subst hn12
      subst hn13
      go_wp2_with fail
      go_loopw [19, 20] (fun s19 s20 wx => ∃ i : Nat, i ≤ n1 ∧ s20 = .int .i64 (i : Int) ∧ Hid (OwnW w12 w12.heap.size s19 i mx wx)) (fun _ s20 _ => n1 - (RowKit.intOf s20).toNat)
      case atStart => exact ⟨0, Nat.zero_le _, rfl, HO0⟩
      case round =>
        clear HO0
        obtain ⟨i, hi, rfl, HO⟩ := hrel
        have hi0 : (0 : Int) ≤ (i : Int) := Int.natCast_nonneg _
        by_cases hli : i < n1
        · have hiI : (i : Int) < (n1 : Int) := by omega
          obtain ⟨xd, rfl, hcx⟩ := HX12.out.at_ hli
          obtain ⟨yd, rfl, hcy⟩ := HY12.out.at_ hli
          obtain ⟨zd, rfl, hcz⟩ := HZ12.out.at_ hli
          have hbd := HWX.out i hli
          have hmi := HMX.out i
          have hml := MM.mix_lt HAB.out.1 HAB.out.2 hbd.1 hbd.2.1 hbd.2.2
          obtain ⟨uo, uc, rfl, _⟩ := HO.out.irow
          go_upto_region 16 with fail
          generalize x i = xi at *
          generalize y i = yi at *
          generalize z i = zi at *
          obtain ⟨cf, hcf⟩ : ∃ cf, 1 - a - b = cf := ⟨_, rfl⟩
          rw [hcf] at hmi hml
          obtain ⟨ax, hax⟩ : ∃ t, a * xi = t := ⟨_, rfl⟩
          obtain ⟨bY, hby⟩ : ∃ t, b * yi = t := ⟨_, rfl⟩
          obtain ⟨cz, hcz2⟩ : ∃ t, cf * zi = t := ⟨_, rfl⟩
          rw [hax, hby, hcz2] at hmi hml
          have hab := HAB.out
          have g1 : IntKind.i64.wrap (a * xi) = ax := by rw [hax]; exact IntWalk.i64_in _ (by omega)
          have g2 : IntKind.i64.wrap (b * yi) = bY := by rw [hby]; exact IntWalk.i64_in _ (by omega)
          have g3 : IntKind.i64.wrap (cf * zi) = cz := by rw [hcz2]; exact IntWalk.i64_in _ (by omega)
          have g4 : IntKind.i64.wrap (ax + bY) = ax + bY := IntWalk.i64_in _ (by omega)
          have g5 : IntKind.i64.wrap (ax + bY + cz) = mx i := by rw [hmi]; exact IntWalk.i64_in _ (by omega)
          have g6 : IntKind.i64.wrap (1 - a) = 1 - a := IntWalk.i64_in _ (by omega)
          have g7 : IntKind.i64.wrap (1 - a - b) = cf := by rw [hcf]; exact IntWalk.i64_in _ (by omega)
          have w1' : wrap64 (a * xi) = ax := by rw [hax]; exact IntWalk.wrap64_in _ (by omega)
          have w2' : wrap64 (b * yi) = bY := by rw [hby]; exact IntWalk.wrap64_in _ (by omega)
          have w3' : wrap64 (cf * zi) = cz := by rw [hcz2]; exact IntWalk.wrap64_in _ (by omega)
          have w4' : wrap64 (ax + bY) = ax + bY := IntWalk.wrap64_in _ (by omega)
          have w5' : wrap64 (ax + bY + cz) = mx i := by rw [hmi]; exact IntWalk.wrap64_in _ (by omega)
          have w6' : wrap64 (1 - a) = 1 - a := IntWalk.wrap64_in _ (by omega)
          have w7' : wrap64 (1 - a - b) = cf := by rw [hcf]; exact IntWalk.wrap64_in _ (by omega)
          clear hax hby hcz2 hcf hml hbd hab hmi
          refine RK.region (Below w12.heap.size w12) 100 (by kernel_rfl) ?_
          have HP1 : Hid (OwnW w12 w12.heap.size (.slice uo i uc) i mx wr.drew) := Lib.hid (HO.out.drewN 1)
          have HS0 : Below w12.heap.size w12 wr.drew := HP1.out.below
          have LX : (xd.add i).block < w12.heap.size := World.block_lt_of_cell? w12 _ hcx
          have LY : (yd.add i).block < w12.heap.size := World.block_lt_of_cell? w12 _ hcy
          have LZ : (zd.add i).block < w12.heap.size := World.block_lt_of_cell? w12 _ hcz
          refine RK.Any.take 0 93 (.slice uo i uc) rfl rfl (by kernel_rfl) (by kernel_rfl) (by kernel_rfl) (by kernel_rfl) (fun _ _ _ h => h) (by rfl) (fun W' hb => ?_) HS0 ?_
          · go_simp
          simp only [List.setIfInBounds_toArray, List.set_cons_zero, List.set_cons_succ]
          refine RK.Any.take 1 94 (.int .i64 a) rfl rfl (by kernel_rfl) (by kernel_rfl) (by kernel_rfl) (by kernel_rfl) (fun _ _ _ h => h) (by rfl) (fun W' hb => ?_) HS0 ?_
          · go_simp
          simp only [List.setIfInBounds_toArray, List.set_cons_zero, List.set_cons_succ]
          refine RK.Any.take 2 95 (.slice (some xd) n1 c1) rfl rfl (by kernel_rfl) (by kernel_rfl) (by kernel_rfl) (by kernel_rfl) (fun _ _ _ h => h) (by rfl) (fun W' hb => ?_) HS0 ?_
          · go_simp
          simp only [List.setIfInBounds_toArray, List.set_cons_zero, List.set_cons_succ]
          refine RK.Any.take 3 96 (.int .i64 (i : Int)) rfl rfl (by kernel_rfl) (by kernel_rfl) (by kernel_rfl) (by kernel_rfl) (fun _ _ _ h => h) (by rfl) (fun W' hb => ?_) HS0 ?_
          · go_simp
          simp only [List.setIfInBounds_toArray, List.set_cons_zero, List.set_cons_succ]
          refine RK.Any.take 4 97 (.pointer (some (xd.add i))) rfl rfl (by kernel_rfl) (by kernel_rfl) (by kernel_rfl) (by kernel_rfl) (fun _ _ _ h => h) (by rfl) (fun W' hb => ?_) HS0 ?_
          · go_simp
          simp only [List.setIfInBounds_toArray, List.set_cons_zero, List.set_cons_succ]
          refine RK.Any.take 5 98 (.int .i64 xi) rfl rfl (by kernel_rfl) (by kernel_rfl) (by kernel_rfl) (by kernel_rfl) (fun _ _ _ h => h) (by rfl) (fun W' hb => ?_) HS0 ?_
          · have cc := (hb.cell LX).trans hcx; go_simp
          simp only [List.setIfInBounds_toArray, List.set_cons_zero, List.set_cons_succ]
          refine RK.Any.take 6 99 (.int .i64 ax) rfl rfl (by kernel_rfl) (by kernel_rfl) (by kernel_rfl) (by kernel_rfl) (fun _ _ _ h => h) (by rfl) (fun W' hb => ?_) HS0 ?_
          · go_simp
          simp only [List.setIfInBounds_toArray, List.set_cons_zero, List.set_cons_succ]
          refine RK.Any.take 7 100 (.int .i64 b) rfl rfl (by kernel_rfl) (by kernel_rfl) (by kernel_rfl) (by kernel_rfl) (fun _ _ _ h => h) (by rfl) (fun W' hb => ?_) HS0 ?_
          · go_simp
          simp only [List.setIfInBounds_toArray, List.set_cons_zero, List.set_cons_succ]
          refine RK.Any.take 8 101 (.slice (some yd) n1 c2) rfl rfl (by kernel_rfl) (by kernel_rfl) (by kernel_rfl) (by kernel_rfl) (fun _ _ _ h => h) (by rfl) (fun W' hb => ?_) HS0 ?_
          · go_simp
          simp only [List.setIfInBounds_toArray, List.set_cons_zero, List.set_cons_succ]
          refine RK.Any.take 9 102 (.int .i64 (i : Int)) rfl rfl (by kernel_rfl) (by kernel_rfl) (by kernel_rfl) (by kernel_rfl) (fun _ _ _ h => h) (by rfl) (fun W' hb => ?_) HS0 ?_
          · go_simp
          simp only [List.setIfInBounds_toArray, List.set_cons_zero, List.set_cons_succ]
          refine RK.Any.take 10 103 (.pointer (some (yd.add i))) rfl rfl (by kernel_rfl) (by kernel_rfl) (by kernel_rfl) (by kernel_rfl) (fun _ _ _ h => h) (by rfl) (fun W' hb => ?_) HS0 ?_
          · go_simp
          simp only [List.setIfInBounds_toArray, List.set_cons_zero, List.set_cons_succ]
          refine RK.Any.take 11 104 (.int .i64 yi) rfl rfl (by kernel_rfl) (by kernel_rfl) (by kernel_rfl) (by kernel_rfl) (fun _ _ _ h => h) (by rfl) (fun W' hb => ?_) HS0 ?_
          · have cc := (hb.cell LY).trans hcy; go_simp
          simp only [List.setIfInBounds_toArray, List.set_cons_zero, List.set_cons_succ]
          refine RK.Any.take 12 105 (.int .i64 bY) rfl rfl (by kernel_rfl) (by kernel_rfl) (by kernel_rfl) (by kernel_rfl) (fun _ _ _ h => h) (by rfl) (fun W' hb => ?_) HS0 ?_
          · go_simp
          simp only [List.setIfInBounds_toArray, List.set_cons_zero, List.set_cons_succ]
          refine RK.Any.take 13 106 (.int .i64 (ax + bY)) rfl rfl (by kernel_rfl) (by kernel_rfl) (by kernel_rfl) (by kernel_rfl) (fun _ _ _ h => h) (by rfl) (fun W' hb => ?_) HS0 ?_
          · go_simp
          simp only [List.setIfInBounds_toArray, List.set_cons_zero, List.set_cons_succ]
          refine RK.Any.take 14 107 (.int .i64 a) rfl rfl (by kernel_rfl) (by kernel_rfl) (by kernel_rfl) (by kernel_rfl) (fun _ _ _ h => h) (by rfl) (fun W' hb => ?_) HS0 ?_
          · go_simp
          simp only [List.setIfInBounds_toArray, List.set_cons_zero, List.set_cons_succ]
          refine RK.Any.take 15 108 (.int .i64 (1 - a)) rfl rfl (by kernel_rfl) (by kernel_rfl) (by kernel_rfl) (by kernel_rfl) (fun _ _ _ h => h) (by rfl) (fun W' hb => ?_) HS0 ?_
          · go_simp
          simp only [List.setIfInBounds_toArray, List.set_cons_zero, List.set_cons_succ]
          refine RK.Any.take 16 109 (.int .i64 b) rfl rfl (by kernel_rfl) (by kernel_rfl) (by kernel_rfl) (by kernel_rfl) (fun _ _ _ h => h) (by rfl) (fun W' hb => ?_) HS0 ?_
          · go_simp
          simp only [List.setIfInBounds_toArray, List.set_cons_zero, List.set_cons_succ]
          refine RK.Any.take 17 110 (.int .i64 cf) rfl rfl (by kernel_rfl) (by kernel_rfl) (by kernel_rfl) (by kernel_rfl) (fun _ _ _ h => h) (by rfl) (fun W' hb => ?_) HS0 ?_
          · go_simp
          simp only [List.setIfInBounds_toArray, List.set_cons_zero, List.set_cons_succ]
          refine RK.Any.take 18 111 (.slice (some zd) n1 c3) rfl rfl (by kernel_rfl) (by kernel_rfl) (by kernel_rfl) (by kernel_rfl) (fun _ _ _ h => h) (by rfl) (fun W' hb => ?_) HS0 ?_
          · go_simp
          simp only [List.setIfInBounds_toArray, List.set_cons_zero, List.set_cons_succ]
          refine RK.Any.take 19 112 (.int .i64 (i : Int)) rfl rfl (by kernel_rfl) (by kernel_rfl) (by kernel_rfl) (by kernel_rfl) (fun _ _ _ h => h) (by rfl) (fun W' hb => ?_) HS0 ?_
          · go_simp
          simp only [List.setIfInBounds_toArray, List.set_cons_zero, List.set_cons_succ]
          refine RK.Any.take 20 113 (.pointer (some (zd.add i))) rfl rfl (by kernel_rfl) (by kernel_rfl) (by kernel_rfl) (by kernel_rfl) (fun _ _ _ h => h) (by rfl) (fun W' hb => ?_) HS0 ?_
          · go_simp
          simp only [List.setIfInBounds_toArray, List.set_cons_zero, List.set_cons_succ]
          refine RK.Any.take 21 114 (.int .i64 zi) rfl rfl (by kernel_rfl) (by kernel_rfl) (by kernel_rfl) (by kernel_rfl) (fun _ _ _ h => h) (by rfl) (fun W' hb => ?_) HS0 ?_
          · have cc := (hb.cell LZ).trans hcz; go_simp
          simp only [List.setIfInBounds_toArray, List.set_cons_zero, List.set_cons_succ]
          refine RK.Any.take 22 115 (.int .i64 cz) rfl rfl (by kernel_rfl) (by kernel_rfl) (by kernel_rfl) (by kernel_rfl) (fun _ _ _ h => h) (by rfl) (fun W' hb => ?_) HS0 ?_
          · go_simp
          simp only [List.setIfInBounds_toArray, List.set_cons_zero, List.set_cons_succ]
          refine RK.Any.take 23 116 (.int .i64 (mx i)) rfl rfl (by kernel_rfl) (by kernel_rfl) (by kernel_rfl) (by kernel_rfl) (fun _ _ _ h => h) (by rfl) (fun W' hb => ?_) HS0 ?_
          · go_simp
          simp only [List.setIfInBounds_toArray, List.set_cons_zero, List.set_cons_succ]
          obtain ⟨v2, w2, hr2, ho2⟩ := HP1.out.push 1 (by omega)
          have HO2 := Lib.hid ho2
          have hb1 := HP1.out.below
          clear ho2 HP1 HS0 LX LY LZ hcx hcy hcz g1 g2 g3 g4 g5 g6 g7 w1' w2' w3' w4' w5' w6' w7'
          generalize wr.drew = w3 at *
          have hb4 := hb1.trans ((below_box w3 (.cells #[.int .i64 (mx i)] 2)).mono hb1.size)
          obtain ⟨w4, hw4⟩ : ∃ w4, w3.alloc (.cells #[.int .i64 (mx i)] 2) = w4 := ⟨_, rfl⟩
          rw [hw4] at hr2 hb4
          refine RK.Any.exec 24 117 (.slice (some ⟨w3.heap.size, 0, none⟩) 1 1) (w1 := w4) (by kernel_rfl) rfl rfl (by rfl) (by go_simp) hb4 ?_
          simp only [List.setIfInBounds_toArray, List.set_cons_zero, List.set_cons_succ]
          refine RK.Any.exec 25 118 (v2) (w1 := w2) (by kernel_rfl) rfl rfl (by rfl) (RK.exec_append _ _ _ _ rfl _ _ rfl rfl hr2) HO2.out.below ?_
          simp only [List.setIfInBounds_toArray, List.set_cons_zero, List.set_cons_succ]
          refine RK.Any.take 26 19 (v2) rfl rfl (by kernel_rfl) (by kernel_rfl) (by kernel_rfl) (by kernel_rfl) (fun _ _ _ h => h) (by rfl) (fun W' hb => ?_) HO2.out.below ?_
          · go_simp
          simp only [List.setIfInBounds_toArray, List.set_cons_zero, List.set_cons_succ]
          refine RK.Any.done (by kernel_rfl) ?_
          clear hr2 hb4 hw4 HO hb1
          go_wp2_with fail
          go_roundw
          case rel => exact ⟨i + 1, by omega, by go_num, HO2⟩
          case measure => simp [RowKit.intOf]; omega
        · have hiI : ¬ (i : Int) < (n1 : Int) := by omega
          have hie : n1 = i := by omega
          subst hie
          obtain ⟨mo, mc, rfl, hrm⟩ := HO.out.irow
          obtain ⟨w9, hw9⟩ : ∃ w9, w9 = wr := ⟨_, rfl⟩
          subst hw9
          have HI9 := Lib.hid (HI12.out.step HO.out.below)
          have HR9 := Lib.hid hrm
          have HQ0 := Lib.hid (fun (u : World) (hu : IRow u mo n1 mc mx) => rquery_any p mo n1 mc mx u hu)
          clear hrm HO HI12 HX12 HY12 HZ12 HWX HMX
          go_upto_region 17 with fail
          by_cases hqe : MM.qryE p n1 mx = 0
          · have HQ := HQ0
            rw [hqe] at HQ
            have HS1 : Hid (∀ (u : World) (_ : MoAt u mv o) (_ : IRow u mo n1 mc mx), Calls Try.prog 16 #[.agg p.cells, .agg (mv.cells o), .slice mo n1 mc] u fun e w' => ∃ v, e = .returned v ∧ NewI 0 w' v K (MM.scoZ p o mx) ∧ Below u.heap.size u w') := Lib.hid fun u hu hxu => by
              refine (scores_any p mv o HOK1.out mo n1 mc mx hn1 u hu hxu).mono ?_
              rintro e w' ⟨v, rfl, hv, hb⟩
              rw [show MM.scoN p o n1 mx = p.K.toNat from if_pos ⟨HV1.out, hqe⟩, HKK.out] at hv
              exact ⟨v, rfl, hv.mono (Nat.zero_le _), hb⟩
            have HS2 : Hid (∀ (u : World) (_ : MoAt u mu q) (_ : IRow u mo n1 mc mx), Calls Try.prog 16 #[.agg p.cells, .agg (mu.cells q), .slice mo n1 mc] u fun e w' => ∃ v, e = .returned v ∧ NewI 0 w' v K (MM.scoZ p q mx) ∧ Below u.heap.size u w') := Lib.hid fun u hu hxu => by
              refine (scores_any p mu q HOK2.out mo n1 mc mx hn1 u hu hxu).mono ?_
              rintro e w' ⟨v, rfl, hv, hb⟩
              rw [show MM.scoN p q n1 mx = p.K.toNat from if_pos ⟨HV2.out, hqe⟩, HKK.out] at hv
              exact ⟨v, rfl, hv.mono (Nat.zero_le _), hb⟩
            obtain ⟨bb, hbb⟩ : ∃ bb, decide (MM.eqR K K (MM.scoZ p o mx) (MM.scoZ p q mx)) = bb := ⟨_, rfl⟩
            have HBB := Lib.hid hbb
            have HBT : Hid (bb = true) := Lib.hid (by rw [← hbb]; exact decide_eq_true ⟨rfl, HMIX.out⟩)
            clear hbb
            refine RK.tame [none, none, none, none, none, none, none, none, none, none, none, none, none, none, none, none, some 15, none, none, none, none, none, none, none, none, none, none, none, none, none, none, none, none, none, none, none, none, none, none, none, none, none, none, none, none, none, none, none, none, none, none, none, none, none, none, none, none, none, none, none, none, none, none, none, none, none, none, none, none, none, none, none, none, none, none, none, none, none, none, none, none, none, none, none, none, none, none, none, none, none, none, none, none, none, none, none, none, none, none, none, none, none, none, none, none, none, none, none, none, none, none, none, none, none, none, none, none, none, none, some 0, some 1, some 2, some 3, some 4, some 5, some 6, some 7, some 8, some 9, some 10, some 11, some 12, some 13, some 14] [RK.Word.eq (.agg p.cells), RK.Word.eq (.slice mo n1 mc), RK.Word.eq (.int .i64 0), RK.Word.eq (.bool false), RK.Word.eq (.bool false), RK.Word.eq (.agg p.cells), RK.Word.eq (.agg (mv.cells o)), RK.Word.eq (.slice mo n1 mc), wNewI 0 K (MM.scoZ p o (mx)), RK.Word.eq (.agg p.cells), RK.Word.eq (.agg (mu.cells q)), RK.Word.eq (.slice mo n1 mc), wNewI 0 K (MM.scoZ p q (mx)), RK.Word.eq (.bool bb), RK.Word.eq (.bool bb), RK.Word.eq (.bool bb)] (fun u => In3 W g h h2 p mv o mu q u ∧ IRow u mo n1 mc (mx) ∧ Below w9.heap.size w9 u) (by kernel_rfl) (by kernel_rfl) (by kernel_rfl) ⟨HI9.out, HR9.out, Below.refl _ _⟩ (fun _ _ hs hb => ⟨hs.1.step hb, hs.2.1.below hb, hs.2.2.trans (hb.mono hs.2.2.size)⟩) (fun i hi a' val w' hF => ?_) (fun val w' hw hp => ?_)
            · have hi2 : i = 0 ∨ i = 1 ∨ i = 2 ∨ i = 3 ∨ i = 4 ∨ i = 5 ∨ i = 6 ∨ i = 7 ∨ i = 8 ∨ i = 9 ∨ i = 10 ∨ i = 11 ∨ i = 12 ∨ i = 13 ∨ i = 14 ∨ i = 15 := by
                have : i < 16 := hi
                omega
              clear hi
              rcases hi2 with rfl | rfl | rfl | rfl | rfl | rfl | rfl | rfl | rfl | rfl | rfl | rfl | rfl | rfl | rfl | rfl
              · have r8 : a'.eval (.tmp 8) = .pointer (some ⟨g, 0, none⟩) := (hF.old 8 (.inr rfl)).trans rfl
                refine RK.owes_exec (v := .agg p.cells) (w' := w') rfl (RK.wanted_any rfl) ?_ (Below.refl _ _) rfl
                exact load_boxp hF.S.1.box rfl r8
              · have r19 : a'.eval (.tmp 19) = .slice mo n1 mc := (hF.old 19 (.inr rfl)).trans rfl
                refine RK.owes_exec (v := .slice mo n1 mc) (w' := w') rfl (RK.wanted_any rfl) ?_ (Below.refl _ _) rfl
                have rk : ∀ c, a'.eval (.const c) = c := fun _ => rfl
                generalize a'.eval = ρ at *
                go_simp
              · have p0 : val 0 = .agg p.cells := hF.post 0 (by kernel_rfl)
                have r119 : a'.eval (.tmp 119) = .agg p.cells := (hF.ev 119 0 rfl (by kernel_rfl) (of_decide_eq_true (by kernel_rfl))).trans p0
                have p1 : val 1 = .slice mo n1 mc := hF.post 1 (by kernel_rfl)
                have r120 : a'.eval (.tmp 120) = .slice mo n1 mc := (hF.ev 120 1 rfl (by kernel_rfl) (of_decide_eq_true (by kernel_rfl))).trans p1
                refine RK.owes_call (g := 32) (args := #[.agg p.cells, .slice mo n1 mc]) rfl (RK.wanted_any rfl) ?_ ?_
                · have rk : ∀ c, a'.eval (.const c) = c := fun _ => rfl
                  have rf : ∀ f, a'.eval (.func f) = .func (.func f) #[] #[] := fun _ => rfl
                  generalize a'.eval = ρ at *
                  go_simp
                · refine (HQ.out w' hF.S.2.1).mono ?_
                  rintro e w2 ⟨rfl, hb⟩
                  exact ⟨_, rfl, hb, rfl⟩
              · have p2 : val 2 = .int .i64 0 := hF.post 2 (by kernel_rfl)
                have r121 : a'.eval (.tmp 121) = .int .i64 0 := (hF.ev 121 2 rfl (by kernel_rfl) (of_decide_eq_true (by kernel_rfl))).trans p2
                refine RK.owes_exec (v := .bool false) (w' := w') rfl (RK.wanted_any rfl) ?_ (Below.refl _ _) rfl
                have rk : ∀ c, a'.eval (.const c) = c := fun _ => rfl
                generalize a'.eval = ρ at *
                go_simp
              · have p3 : val 3 = .bool false := hF.post 3 (by kernel_rfl)
                have r122 : a'.eval (.tmp 122) = .bool false := (hF.ev 122 3 rfl (by kernel_rfl) (of_decide_eq_true (by kernel_rfl))).trans p3
                refine RK.owes_exec (v := .bool false) (w' := w') rfl (RK.wanted_any rfl) ?_ (Below.refl _ _) rfl
                have rk : ∀ c, a'.eval (.const c) = c := fun _ => rfl
                generalize a'.eval = ρ at *
                go_simp
              · have r8 : a'.eval (.tmp 8) = .pointer (some ⟨g, 0, none⟩) := (hF.old 8 (.inr rfl)).trans rfl
                have hwn : ∀ o : Oper, o.guard = some (4, false) → Region.wanted o _ = true := fun o h => RK.wanted_if h (hF.yields rfl rfl rfl (by kernel_rfl) (of_decide_eq_true (by kernel_rfl)) (hF.post 4 (by kernel_rfl)))
                refine RK.owes_exec (v := .agg p.cells) (w' := w') rfl (hwn _ rfl) ?_ (Below.refl _ _) rfl
                exact load_boxp hF.S.1.box rfl r8
              · have r9 : a'.eval (.tmp 9) = .pointer (some ⟨h, 0, none⟩) := (hF.old 9 (.inr rfl)).trans rfl
                have hwn : ∀ o : Oper, o.guard = some (4, false) → Region.wanted o _ = true := fun o h => RK.wanted_if h (hF.yields rfl rfl rfl (by kernel_rfl) (of_decide_eq_true (by kernel_rfl)) (hF.post 4 (by kernel_rfl)))
                refine RK.owes_exec (v := .agg (mv.cells o)) (w' := w') rfl (hwn _ rfl) ?_ (Below.refl _ _) rfl
                exact load_mo7 hF.S.1.mod rfl r9
              · have r19 : a'.eval (.tmp 19) = .slice mo n1 mc := (hF.old 19 (.inr rfl)).trans rfl
                have hwn : ∀ o : Oper, o.guard = some (4, false) → Region.wanted o _ = true := fun o h => RK.wanted_if h (hF.yields rfl rfl rfl (by kernel_rfl) (of_decide_eq_true (by kernel_rfl)) (hF.post 4 (by kernel_rfl)))
                refine RK.owes_exec (v := .slice mo n1 mc) (w' := w') rfl (hwn _ rfl) ?_ (Below.refl _ _) rfl
                have rk : ∀ c, a'.eval (.const c) = c := fun _ => rfl
                generalize a'.eval = ρ at *
                go_simp
              · have p5 : val 5 = .agg p.cells := hF.post 5 (by kernel_rfl)
                have r124 : a'.eval (.tmp 124) = .agg p.cells := (hF.ev 124 5 rfl (by kernel_rfl) (of_decide_eq_true (by kernel_rfl))).trans p5
                have p6 : val 6 = .agg (mv.cells o) := hF.post 6 (by kernel_rfl)
                have r125 : a'.eval (.tmp 125) = .agg (mv.cells o) := (hF.ev 125 6 rfl (by kernel_rfl) (of_decide_eq_true (by kernel_rfl))).trans p6
                have p7 : val 7 = .slice mo n1 mc := hF.post 7 (by kernel_rfl)
                have r126 : a'.eval (.tmp 126) = .slice mo n1 mc := (hF.ev 126 7 rfl (by kernel_rfl) (of_decide_eq_true (by kernel_rfl))).trans p7
                have hwn : ∀ o : Oper, o.guard = some (4, false) → Region.wanted o _ = true := fun o h => RK.wanted_if h (hF.yields rfl rfl rfl (by kernel_rfl) (of_decide_eq_true (by kernel_rfl)) (hF.post 4 (by kernel_rfl)))
                refine RK.owes_call (g := 16) (args := #[.agg p.cells, .agg (mv.cells o), .slice mo n1 mc]) rfl (hwn _ rfl) ?_ ?_
                · have rk : ∀ c, a'.eval (.const c) = c := fun _ => rfl
                  have rf : ∀ f, a'.eval (.func f) = .func (.func f) #[] #[] := fun _ => rfl
                  generalize a'.eval = ρ at *
                  go_simp
                · refine (HS1.out w' hF.S.1.mat hF.S.2.1).mono ?_
                  rintro e w2 ⟨u, rfl, hu, hb⟩
                  exact ⟨_, rfl, hb, hu⟩
              · have r8 : a'.eval (.tmp 8) = .pointer (some ⟨g, 0, none⟩) := (hF.old 8 (.inr rfl)).trans rfl
                have hwn : ∀ o : Oper, o.guard = some (4, false) → Region.wanted o _ = true := fun o h => RK.wanted_if h (hF.yields rfl rfl rfl (by kernel_rfl) (of_decide_eq_true (by kernel_rfl)) (hF.post 4 (by kernel_rfl)))
                refine RK.owes_exec (v := .agg p.cells) (w' := w') rfl (hwn _ rfl) ?_ (Below.refl _ _) rfl
                exact load_boxp hF.S.1.box rfl r8
              · have r10 : a'.eval (.tmp 10) = .pointer (some ⟨h2, 0, none⟩) := (hF.old 10 (.inr rfl)).trans rfl
                have hwn : ∀ o : Oper, o.guard = some (4, false) → Region.wanted o _ = true := fun o h => RK.wanted_if h (hF.yields rfl rfl rfl (by kernel_rfl) (of_decide_eq_true (by kernel_rfl)) (hF.post 4 (by kernel_rfl)))
                refine RK.owes_exec (v := .agg (mu.cells q)) (w' := w') rfl (hwn _ rfl) ?_ (Below.refl _ _) rfl
                exact load_mo7 hF.S.1.mod2 rfl r10
              · have r19 : a'.eval (.tmp 19) = .slice mo n1 mc := (hF.old 19 (.inr rfl)).trans rfl
                have hwn : ∀ o : Oper, o.guard = some (4, false) → Region.wanted o _ = true := fun o h => RK.wanted_if h (hF.yields rfl rfl rfl (by kernel_rfl) (of_decide_eq_true (by kernel_rfl)) (hF.post 4 (by kernel_rfl)))
                refine RK.owes_exec (v := .slice mo n1 mc) (w' := w') rfl (hwn _ rfl) ?_ (Below.refl _ _) rfl
                have rk : ∀ c, a'.eval (.const c) = c := fun _ => rfl
                generalize a'.eval = ρ at *
                go_simp
              · have p9 : val 9 = .agg p.cells := hF.post 9 (by kernel_rfl)
                have r128 : a'.eval (.tmp 128) = .agg p.cells := (hF.ev 128 9 rfl (by kernel_rfl) (of_decide_eq_true (by kernel_rfl))).trans p9
                have p10 : val 10 = .agg (mu.cells q) := hF.post 10 (by kernel_rfl)
                have r129 : a'.eval (.tmp 129) = .agg (mu.cells q) := (hF.ev 129 10 rfl (by kernel_rfl) (of_decide_eq_true (by kernel_rfl))).trans p10
                have p11 : val 11 = .slice mo n1 mc := hF.post 11 (by kernel_rfl)
                have r130 : a'.eval (.tmp 130) = .slice mo n1 mc := (hF.ev 130 11 rfl (by kernel_rfl) (of_decide_eq_true (by kernel_rfl))).trans p11
                have hwn : ∀ o : Oper, o.guard = some (4, false) → Region.wanted o _ = true := fun o h => RK.wanted_if h (hF.yields rfl rfl rfl (by kernel_rfl) (of_decide_eq_true (by kernel_rfl)) (hF.post 4 (by kernel_rfl)))
                refine RK.owes_call (g := 16) (args := #[.agg p.cells, .agg (mu.cells q), .slice mo n1 mc]) rfl (hwn _ rfl) ?_ ?_
                · have rk : ∀ c, a'.eval (.const c) = c := fun _ => rfl
                  have rf : ∀ f, a'.eval (.func f) = .func (.func f) #[] #[] := fun _ => rfl
                  generalize a'.eval = ρ at *
                  go_simp
                · refine (HS2.out w' hF.S.1.mat2 hF.S.2.1).mono ?_
                  rintro e w2 ⟨u, rfl, hu, hb⟩
                  exact ⟨_, rfl, hb, hu⟩
              · obtain ⟨ao8, c8, e8, h8⟩ : ∃ ao c, val 8 = .slice ao K c ∧ IRow w' ao K c (MM.scoZ p o (mx)) := NewI.irow (hF.post 8 (by kernel_rfl))
                have r127 : a'.eval (.tmp 127) = .slice ao8 K c8 := (hF.ev 127 8 rfl (by kernel_rfl) (of_decide_eq_true (by kernel_rfl))).trans e8
                obtain ⟨ao12, c12, e12, h12⟩ : ∃ ao c, val 12 = .slice ao K c ∧ IRow w' ao K c (MM.scoZ p q (mx)) := NewI.irow (hF.post 12 (by kernel_rfl))
                have r131 : a'.eval (.tmp 131) = .slice ao12 K c12 := (hF.ev 131 12 rfl (by kernel_rfl) (of_decide_eq_true (by kernel_rfl))).trans e12
                have hwn : ∀ o : Oper, o.guard = some (4, false) → Region.wanted o _ = true := fun o h => RK.wanted_if h (hF.yields rfl rfl rfl (by kernel_rfl) (of_decide_eq_true (by kernel_rfl)) (hF.post 4 (by kernel_rfl)))
                refine RK.owes_call (g := 29) (args := #[.slice ao8 K c8, .slice ao12 K c12]) rfl (hwn _ rfl) ?_ ?_
                · have rk : ∀ c, a'.eval (.const c) = c := fun _ => rfl
                  have rf : ∀ f, a'.eval (.func f) = .func (.func f) #[] #[] := fun _ => rfl
                  generalize a'.eval = ρ at *
                  go_simp
                · refine (ints_any ao8 ao12 K K c8 c12 (MM.scoZ p o (mx)) (MM.scoZ p q (mx)) (by omega) w' h8 h12).mono ?_
                  rintro e w2 ⟨rfl, nd, rfl⟩
                  exact ⟨_, rfl, below_drewN' _ _ _, by rw [HBB.out]; rfl⟩
              · have p4 : val 4 = .bool false := hF.post 4 (by kernel_rfl)
                have r123 : a'.eval (.tmp 123) = .bool false := (hF.ev 123 4 rfl (by kernel_rfl) (of_decide_eq_true (by kernel_rfl))).trans p4
                have p13 : val 13 = .bool bb := hF.post 13 (by kernel_rfl)
                have r132 : a'.eval (.tmp 132) = .bool bb := (hF.ev 132 13 rfl (by kernel_rfl) (of_decide_eq_true (by kernel_rfl))).trans p13
                refine RK.owes_exec (v := .bool bb) (w' := w') rfl (RK.wanted_any rfl) ?_ (Below.refl _ _) rfl
                have rk : ∀ c, a'.eval (.const c) = c := fun _ => rfl
                generalize a'.eval = ρ at *
                go_simp
              · have p14 : val 14 = .bool bb := hF.post 14 (by kernel_rfl)
                have r133 : a'.eval (.tmp 133) = .bool bb := (hF.ev 133 14 rfl (by kernel_rfl) (of_decide_eq_true (by kernel_rfl))).trans p14
                refine RK.owes_exec (v := .bool bb) (w' := w') rfl (RK.wanted_any rfl) ?_ (Below.refl _ _) rfl
                have rk : ∀ c, a'.eval (.const c) = c := fun _ => rfl
                generalize a'.eval = ρ at *
                go_simp
            · have e15 : val 15 = .bool bb := hp 15 (of_decide_eq_true (by kernel_rfl))
              have HIW := Lib.hid hw.1
              rw [HBT.out] at e15
              simp only [RK.slotsL, if_true, e15]
              clear hp hw e15 HQ HQ0 HS1 HS2 HI9 HR9
              go_wp2_with fail
              go_ret
              exact ⟨rfl, by have hbz := HIW.out.below; first | exact hbz | (rw [HG.out] at hbz; exact hbz)⟩
          · have hqb : (MM.qryE p n1 mx != 0) = true := by simp [hqe]
            have HQ := HQ0
            generalize MM.qryE p n1 mx = eq at *
            refine RK.tame [none, none, none, none, none, none, none, none, none, none, none, none, none, none, none, none, some 15, none, none, none, none, none, none, none, none, none, none, none, none, none, none, none, none, none, none, none, none, none, none, none, none, none, none, none, none, none, none, none, none, none, none, none, none, none, none, none, none, none, none, none, none, none, none, none, none, none, none, none, none, none, none, none, none, none, none, none, none, none, none, none, none, none, none, none, none, none, none, none, none, none, none, none, none, none, none, none, none, none, none, none, none, none, none, none, none, none, none, none, none, none, none, none, none, none, none, none, none, none, none, some 0, some 1, some 2, some 3, some 4, some 5, some 6, some 7, some 8, some 9, some 10, some 11, some 12, some 13, some 14] [RK.Word.eq (.agg p.cells), RK.Word.eq (.slice mo n1 mc), RK.Word.eq (.int .i64 eq), RK.Word.eq (.bool true), RK.Word.eq (.bool true), RK.Word.eq undef, RK.Word.eq undef, RK.Word.eq undef, RK.Word.eq undef, RK.Word.eq undef, RK.Word.eq undef, RK.Word.eq undef, RK.Word.eq undef, RK.Word.eq undef, RK.Word.eq (.bool true), RK.Word.eq (.bool true)] (fun u => In3 W g h h2 p mv o mu q u ∧ IRow u mo n1 mc (mx) ∧ Below w9.heap.size w9 u) (by kernel_rfl) (by kernel_rfl) (by kernel_rfl) ⟨HI9.out, HR9.out, Below.refl _ _⟩ (fun _ _ hs hb => ⟨hs.1.step hb, hs.2.1.below hb, hs.2.2.trans (hb.mono hs.2.2.size)⟩) (fun i hi a' val w' hF => ?_) (fun val w' hw hp => ?_)
            · have hi2 : i = 0 ∨ i = 1 ∨ i = 2 ∨ i = 3 ∨ i = 4 ∨ i = 5 ∨ i = 6 ∨ i = 7 ∨ i = 8 ∨ i = 9 ∨ i = 10 ∨ i = 11 ∨ i = 12 ∨ i = 13 ∨ i = 14 ∨ i = 15 := by
                have : i < 16 := hi
                omega
              clear hi
              rcases hi2 with rfl | rfl | rfl | rfl | rfl | rfl | rfl | rfl | rfl | rfl | rfl | rfl | rfl | rfl | rfl | rfl
              · have r8 : a'.eval (.tmp 8) = .pointer (some ⟨g, 0, none⟩) := (hF.old 8 (.inr rfl)).trans rfl
                refine RK.owes_exec (v := .agg p.cells) (w' := w') rfl (RK.wanted_any rfl) ?_ (Below.refl _ _) rfl
                exact load_boxp hF.S.1.box rfl r8
              · have r19 : a'.eval (.tmp 19) = .slice mo n1 mc := (hF.old 19 (.inr rfl)).trans rfl
                refine RK.owes_exec (v := .slice mo n1 mc) (w' := w') rfl (RK.wanted_any rfl) ?_ (Below.refl _ _) rfl
                have rk : ∀ c, a'.eval (.const c) = c := fun _ => rfl
                generalize a'.eval = ρ at *
                go_simp
              · have p0 : val 0 = .agg p.cells := hF.post 0 (by kernel_rfl)
                have r119 : a'.eval (.tmp 119) = .agg p.cells := (hF.ev 119 0 rfl (by kernel_rfl) (of_decide_eq_true (by kernel_rfl))).trans p0
                have p1 : val 1 = .slice mo n1 mc := hF.post 1 (by kernel_rfl)
                have r120 : a'.eval (.tmp 120) = .slice mo n1 mc := (hF.ev 120 1 rfl (by kernel_rfl) (of_decide_eq_true (by kernel_rfl))).trans p1
                refine RK.owes_call (g := 32) (args := #[.agg p.cells, .slice mo n1 mc]) rfl (RK.wanted_any rfl) ?_ ?_
                · have rk : ∀ c, a'.eval (.const c) = c := fun _ => rfl
                  have rf : ∀ f, a'.eval (.func f) = .func (.func f) #[] #[] := fun _ => rfl
                  generalize a'.eval = ρ at *
                  go_simp
                · refine (HQ.out w' hF.S.2.1).mono ?_
                  rintro e w2 ⟨rfl, hb⟩
                  exact ⟨_, rfl, hb, rfl⟩
              · have p2 : val 2 = .int .i64 eq := hF.post 2 (by kernel_rfl)
                have r121 : a'.eval (.tmp 121) = .int .i64 eq := (hF.ev 121 2 rfl (by kernel_rfl) (of_decide_eq_true (by kernel_rfl))).trans p2
                refine RK.owes_exec (v := .bool true) (w' := w') rfl (RK.wanted_any rfl) ?_ (Below.refl _ _) rfl
                have rk : ∀ c, a'.eval (.const c) = c := fun _ => rfl
                generalize a'.eval = ρ at *
                go_simp
              · have p3 : val 3 = .bool true := hF.post 3 (by kernel_rfl)
                have r122 : a'.eval (.tmp 122) = .bool true := (hF.ev 122 3 rfl (by kernel_rfl) (of_decide_eq_true (by kernel_rfl))).trans p3
                refine RK.owes_exec (v := .bool true) (w' := w') rfl (RK.wanted_any rfl) ?_ (Below.refl _ _) rfl
                have rk : ∀ c, a'.eval (.const c) = c := fun _ => rfl
                generalize a'.eval = ρ at *
                go_simp
              · exact RK.owes_skip rfl (RK.wanted_not (b := true) (j := 4) rfl (hF.yields rfl rfl rfl (by kernel_rfl) (of_decide_eq_true (by kernel_rfl)) (hF.post 4 (by kernel_rfl)))) rfl
              · exact RK.owes_skip rfl (RK.wanted_not (b := true) (j := 4) rfl (hF.yields rfl rfl rfl (by kernel_rfl) (of_decide_eq_true (by kernel_rfl)) (hF.post 4 (by kernel_rfl)))) rfl
              · exact RK.owes_skip rfl (RK.wanted_not (b := true) (j := 4) rfl (hF.yields rfl rfl rfl (by kernel_rfl) (of_decide_eq_true (by kernel_rfl)) (hF.post 4 (by kernel_rfl)))) rfl
              · exact RK.owes_skip rfl (RK.wanted_not (b := true) (j := 4) rfl (hF.yields rfl rfl rfl (by kernel_rfl) (of_decide_eq_true (by kernel_rfl)) (hF.post 4 (by kernel_rfl)))) rfl
              · exact RK.owes_skip rfl (RK.wanted_not (b := true) (j := 4) rfl (hF.yields rfl rfl rfl (by kernel_rfl) (of_decide_eq_true (by kernel_rfl)) (hF.post 4 (by kernel_rfl)))) rfl
              · exact RK.owes_skip rfl (RK.wanted_not (b := true) (j := 4) rfl (hF.yields rfl rfl rfl (by kernel_rfl) (of_decide_eq_true (by kernel_rfl)) (hF.post 4 (by kernel_rfl)))) rfl
              · exact RK.owes_skip rfl (RK.wanted_not (b := true) (j := 4) rfl (hF.yields rfl rfl rfl (by kernel_rfl) (of_decide_eq_true (by kernel_rfl)) (hF.post 4 (by kernel_rfl)))) rfl
              · exact RK.owes_skip rfl (RK.wanted_not (b := true) (j := 4) rfl (hF.yields rfl rfl rfl (by kernel_rfl) (of_decide_eq_true (by kernel_rfl)) (hF.post 4 (by kernel_rfl)))) rfl
              · exact RK.owes_skip rfl (RK.wanted_not (b := true) (j := 4) rfl (hF.yields rfl rfl rfl (by kernel_rfl) (of_decide_eq_true (by kernel_rfl)) (hF.post 4 (by kernel_rfl)))) rfl
              · have p4 : val 4 = .bool true := hF.post 4 (by kernel_rfl)
                have r123 : a'.eval (.tmp 123) = .bool true := (hF.ev 123 4 rfl (by kernel_rfl) (of_decide_eq_true (by kernel_rfl))).trans p4
                have p13 : val 13 = undef := hF.post 13 (by kernel_rfl)
                have r132 : a'.eval (.tmp 132) = undef := (hF.ev 132 13 rfl (by kernel_rfl) (of_decide_eq_true (by kernel_rfl))).trans p13
                refine RK.owes_exec (v := .bool true) (w' := w') rfl (RK.wanted_any rfl) ?_ (Below.refl _ _) rfl
                have rk : ∀ c, a'.eval (.const c) = c := fun _ => rfl
                generalize a'.eval = ρ at *
                go_simp
              · have p14 : val 14 = .bool true := hF.post 14 (by kernel_rfl)
                have r133 : a'.eval (.tmp 133) = .bool true := (hF.ev 133 14 rfl (by kernel_rfl) (of_decide_eq_true (by kernel_rfl))).trans p14
                refine RK.owes_exec (v := .bool true) (w' := w') rfl (RK.wanted_any rfl) ?_ (Below.refl _ _) rfl
                have rk : ∀ c, a'.eval (.const c) = c := fun _ => rfl
                generalize a'.eval = ρ at *
                go_simp
            · have e15 : val 15 = .bool true := hp 15 (of_decide_eq_true (by kernel_rfl))
              have HIW := Lib.hid hw.1
              simp only [RK.slotsL, if_true, e15]
              clear hp hw e15 HQ HQ0 HI9 HR9
              go_wp2_with fail
              go_ret
              exact ⟨rfl, by have hbz := HIW.out.below; first | exact hbz | (rw [HG.out] at hbz; exact hbz)⟩

set_option maxRecDepth 100000 in
theorem lifted (os : Os) (started : os.Started) (H : Type) (enc : TypeId × Value → H) :
    ReturnsInHanded {} Try.checked os 9 .any (Rows.fixedSpanSpec.pre6 enc Try.prog Try.f9 Rows.fixedSpanRow.domain false) (Rows.fixedSpanSpec.post enc Try.prog Try.f9 false true false false) := by
  refine returnsInHanded_of_change (C := Try.checked) M.own started (by kernel_rfl) Try.func9
    (ChangeSpec.witness6 (enc := enc) (C := Try.checked) false ⟨#[], #[.agg #[.int .u64 0, .int .u64 0, .int .u64 0, .int .u64 0, .int .i64 0, .int .i64 0, .int .i64 0, .int .i64 0, .int .i64 0, .int .i64 0, .int .i64 0, .int .i64 0], .agg #[.slice none 0 0, .slice none 0 0], .agg #[.slice none 0 0, .slice none 0 0], .slice none 0 0, .slice none 0 0, .slice none 0 0, .int .i64 0, .int .i64 0], []⟩ 8 (by kernel_rfl) (by kernel_rfl) (by kernel_rfl) (by kernel_rfl)) ?_
  intro W base args ds gs before hval0 hW _ _
  have hval : ∀ (j : Nat) t v, Try.f9.params[j]? = some t → args[j]? = some v → Value.okWide Try.prog W .any base t v := hval0
  have hW' := hW
  obtain ⟨p, q, hA0, hV, rfl, _, _⟩ := hW
  have hA : DataW.TrodAll enc Try.prog W 0 (fun _ => true) true Try.f9.params.toList args.toList ds p := hA0
  rw [Try.params9] at hA hval
  obtain ⟨v0, vs0, d0, ds0, p0, q0, hargs, rfl, rfl, h0, r0⟩ := trodAll_cons hA
  obtain ⟨v1, vs1, d1, ds1, p1, q1, rfl, rfl, rfl, h1, r1⟩ := trodAll_cons r0
  obtain ⟨v2, vs2, d2, ds2, p2, q2, rfl, rfl, rfl, h2, r2⟩ := trodAll_cons r1
  obtain ⟨v3, vs3, d3, ds3, p3, q3, rfl, rfl, rfl, h3, r3⟩ := trodAll_cons r2
  obtain ⟨v4, vs4, d4, ds4, p4, q4, rfl, rfl, rfl, h4, r4⟩ := trodAll_cons r3
  obtain ⟨v5, vs5, d5, ds5, p5, q5, rfl, rfl, rfl, h5, r5⟩ := trodAll_cons r4
  obtain ⟨v6, vs6, d6, ds6, p6, q6, rfl, rfl, rfl, h6, r6⟩ := trodAll_cons r5
  obtain ⟨v7, vs7, d7, ds7, p7, q7, rfl, rfl, rfl, h7, r7⟩ := trodAll_cons r6
  obtain ⟨rfl, rfl, rfl⟩ := trodAll_nil r7
  obtain rfl : args = #[v0, v1, v2, v3, v4, v5, v6, v7] := by cases args; simp_all
  obtain ⟨rfl, rfl⟩ := trodVars_none hV
  have k0 := h0
  have lt0 : ∀ x ∈ p0, x.block < W.heap.size := by obtain ⟨m, hm⟩ := k0; exact DataW.trod_lt m _ _ _ hm
  obtain ⟨a0, rfl, ok0⟩ := M.open_pm (hval 0 31 v0 rfl rfl) h0
  have k1 := h1
  have lt1 : ∀ x ∈ p1, x.block < W.heap.size := by obtain ⟨m, hm⟩ := k1; exact DataW.trod_lt m _ _ _ hm
  have ns1 := M.open_model (hval 1 36 v1 rfl rfl) h1
  have k2 := h2
  have lt2 : ∀ x ∈ p2, x.block < W.heap.size := by obtain ⟨m, hm⟩ := k2; exact DataW.trod_lt m _ _ _ hm
  have ns2 := M.open_model (hval 2 36 v2 rfl rfl) h2
  have k3 := h3
  have lt3 : ∀ x ∈ p3, x.block < W.heap.size := by obtain ⟨m, hm⟩ := k3; exact DataW.trod_lt m _ _ _ hm
  have ns3 := M.open_wholes (hval 3 34 v3 rfl rfl) h3
  have k4 := h4
  have lt4 : ∀ x ∈ p4, x.block < W.heap.size := by obtain ⟨m, hm⟩ := k4; exact DataW.trod_lt m _ _ _ hm
  have ns4 := M.open_wholes (hval 4 34 v4 rfl rfl) h4
  have k5 := h5
  have lt5 : ∀ x ∈ p5, x.block < W.heap.size := by obtain ⟨m, hm⟩ := k5; exact DataW.trod_lt m _ _ _ hm
  have ns5 := M.open_wholes (hval 5 34 v5 rfl rfl) h5
  have k6 := h6
  have lt6 : ∀ x ∈ p6, x.block < W.heap.size := by obtain ⟨m, hm⟩ := k6; exact DataW.trod_lt m _ _ _ hm
  obtain ⟨x6, rfl, rfl, rfl, w6⟩ := open_int Try.underlying2 (hval 6 2 v6 rfl rfl) h6
  have k7 := h7
  have lt7 : ∀ x ∈ p7, x.block < W.heap.size := by obtain ⟨m, hm⟩ := k7; exact DataW.trod_lt m _ _ _ hm
  obtain ⟨x7, rfl, rfl, rfl, w7⟩ := open_int Try.underlying2 (hval 7 2 v7 rfl rfl) h7
  clear hA0 hval0
  simp only [List.append_nil] at hW'
  refine (walk a0 v1 v2 v3 v4 v5 x6 x7 ok0 (M.i64_bounds w6) (M.i64_bounds w7) W ns1 ns2 ns3 ns4 ns5).mono fun e W' ⟨he, bel⟩ => ?_
  subst he
  exact ⟨_, rfl, _, _, _, [], _, [], hW', (trodAll_cons_mk (shut_bool Try.underlying4 _) trodAll_mk0), (trodAll_cons_mk (Below.trod M.laidOut (by kernel_rfl) (of_decide_eq_true (by kernel_rfl)) k0 bel lt0) (trodAll_cons_mk (Below.trod M.laidOut (by kernel_rfl) (of_decide_eq_true (by kernel_rfl)) k1 bel lt1) (trodAll_cons_mk (Below.trod M.laidOut (by kernel_rfl) (of_decide_eq_true (by kernel_rfl)) k2 bel lt2) (trodAll_cons_mk (Below.trod M.laidOut (by kernel_rfl) (of_decide_eq_true (by kernel_rfl)) k3 bel lt3) (trodAll_cons_mk (Below.trod M.laidOut (by kernel_rfl) (of_decide_eq_true (by kernel_rfl)) k4 bel lt4) (trodAll_cons_mk (Below.trod M.laidOut (by kernel_rfl) (of_decide_eq_true (by kernel_rfl)) k5 bel lt5) (trodAll_cons_mk (Below.trod M.laidOut (by kernel_rfl) (of_decide_eq_true (by kernel_rfl)) k6 bel lt6) (trodAll_cons_mk (Below.trod M.laidOut (by kernel_rfl) (of_decide_eq_true (by kernel_rfl)) k7 bel lt7) trodAll_mk0)))))))), rfl, bel.frame _, fun h => by cases h⟩

theorem holds : Rows.FixedSpanSaid :=
  OpenClaim.holds_of_wide 9 Try.f9 rfl rfl rfl rfl rfl rfl rfl ⟨rfl, rfl, rfl, rfl, rfl⟩ rfl rfl rfl rfl rfl (by kernel_rfl) Try.func9 (by kernel_rfl)
    (of_decide_eq_true (by kernel_rfl)) (by unfold Func.isWrapper; first | (rw [if_pos (by decide +kernel)]; kernel_rfl) | (rw [if_neg (by decide +kernel)]; exact ⟨rfl, rfl⟩))
    (fun os started H enc _ => lifted os started H enc)

end FixedSpan

theorem fixedSpan_holds : Rows.FixedSpanSaid := FixedSpan.holds
#print axioms fixedSpan_holds
end Go.Proofs.Ytdblijpoelcghaa

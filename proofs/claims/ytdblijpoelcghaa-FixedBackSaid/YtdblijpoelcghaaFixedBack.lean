/- For any two whole numbers, any number and any modulus from 1 to 2^61 that is reckoned of the fourth: Int of Num of a whole number near 0 is that number, Num of Int is the number modulo it, and Num keeps sums, products and opposites; no condition. -/
import Derived.Test.YtdblijpoelcghaaRows
import Derived.Test.YtdblijpoelcghaaFixOpen
import Derived.Deep.Fields
import Derived.Test.YtdblijpoelcghaaLaw07a
import Derived.Test.YtdblijpoelcghaaFixMath2
namespace Go.Proofs.Ytdblijpoelcghaa
open Go.ChangeShapes Go.WideShapes Go.ChangeAt Go.RowKit
namespace FixedBack
open M

theorem tmod_near (n : Int) (h : Nat) : -(h : Int) ≤ n.tmod ((h + 1 : Nat) : Int) ∧ n.tmod ((h + 1 : Nat) : Int) ≤ (h : Int) := by
  have h1 := Int.tmod_lt_of_pos n (show (0 : Int) < ((h + 1 : Nat) : Int) by omega)
  have h2 := Int.lt_tmod_of_pos n (show (0 : Int) < ((h + 1 : Nat) : Int) by omega)
  omega
set_option maxRecDepth 100000 in
set_option maxHeartbeats 8000000 in
theorem walk (n m : Int) (x k : Nat) (hn : -9223372036854775808 ≤ n ∧ n ≤ 9223372036854775807) (hm : -9223372036854775808 ≤ m ∧ m ≤ 9223372036854775807) (hx : x < 18446744073709551616) (_ : k < 18446744073709551616) (W : World) :
    Calls Try.prog 6 #[.int .i64 n, .int .i64 m, .int .u64 (x : Int), .int .u64 (k : Int)] W fun e w' => e = .returned (.bool true) ∧ Below W.heap.size W w' := by
  obtain ⟨r, hr⟩ : ∃ r, k % 2305843009213693952 = r := ⟨_, rfl⟩
  obtain ⟨q, hq⟩ : ∃ q, 1 + r = q := ⟨_, rfl⟩
  obtain ⟨h, hh⟩ : ∃ h, r / 2 = h := ⟨_, rfl⟩
  have hrI : (k : Int) % 2305843009213693952 = (r : Int) := by omega
  have hqI : 1 + (r : Int) = (q : Int) := by omega
  have hqr : (q : Int) - 1 = (r : Int) := by omega
  have hhI : (r : Int) / 2 = (h : Int) := by omega
  have hg : MM.Good q := ⟨by omega, by omega⟩
  have hhq : (q - 1) / 2 = h := by omega
  have hh1 : h < 9223372036854775807 := by omega
  have HG := Lib.hid hg
  have HHQ := Lib.hid hhq
  have HHN := Lib.hid hn
  have HHM := Lib.hid hm
  have HHX := Lib.hid hx
  clear hr hq hh hg hhq
  by_cases h0 : 0 < h
  · obtain ⟨hs, hhs⟩ : ∃ hs, h + 1 = hs := ⟨_, rfl⟩
    have hhsI : (h : Int) + 1 = (hs : Int) := by omega
    obtain ⟨near, hne⟩ : ∃ near, n.tmod (hs : Int) = near := ⟨_, rfl⟩
    have HNR := Lib.hid (tmod_near n h)
    rw [hhs, hne] at HNR
    have hwn : wrap64 near = near := IntWalk.wrap64_in _ (by have := HNR.out; omega)
    have hs0 : hs ≠ 0 := by omega
    clear hhs
    go_enter Try.func6, Try.ntmps6
    go_upto_region 9 with (go_at_call 10; refine (awake_any _).mono ?_; rintro e w1 ⟨rfl, hb⟩; have HJ := Lib.hid hb; clear hb)
    have H1 : Ret 11 #[.int .i64 near, .int .u64 (q : Int)] (.int .u64 ((MM.numU near q : Nat) : Int)) := num_any _ q (by have := HNR.out; omega)
    have H2 : Ret 12 #[.int .u64 ((MM.numU near q : Nat) : Int), .int .u64 (q : Int)] (.int .i64 near) := by
      have := int_any (MM.numU near q) q (by have := HG.out.2; omega)
      rwa [MM.int_num HG.out (by rw [HHQ.out]; have := HNR.out; omega) (by rw [HHQ.out]; have := HNR.out; omega)] at this
    have H3 := int_any x q (by have := HG.out.2; omega)
    have H4 : Ret 11 #[.int .i64 (MM.intU x q), .int .u64 (q : Int)] (.int .u64 ((x % q : Nat) : Int)) := by
      have := num_any (MM.intU x q) q (by
        have hlt := Nat.mod_lt x HG.out.1
        have := HG.out.2
        unfold MM.intU
        rw [if_pos HG.out]
        split <;> omega)
      rwa [MM.num_int HG.out] at this
    have H5 := num_any n q HHN.out
    have h5 := MM.numU_ltq (n := n) HG.out
    have hxq : (x : Int) % (q : Int) = ((x % q : Nat) : Int) := rfl
    have hq0 : q ≠ 0 := by have := HG.out.1; omega
    generalize MM.numU near q = a at *
    generalize MM.intU x q = b at *
    generalize MM.numU n q = c at *
    generalize x % q = d at *
    clear hrI hqI hqr hhI hhsI hne hwn hs0 h0 hh1
    go_quiet (first | (go_at_call 11; with_reducible exact (H1).quiet) | (go_at_call 12; with_reducible exact (H2).quiet) | (go_at_call 12; with_reducible exact (H3).quiet) | (go_at_call 11; with_reducible exact (H4).quiet) | (go_at_call 11; with_reducible exact (H5).quiet))
    go_upto_region 13 with fail
    have HJ2 := Lib.hid (Below.drawn HJ.out nq)
    generalize w1.drewN nq = w2 at *
    obtain ⟨e1, he1⟩ : ∃ e, n / 2 = e := ⟨_, rfl⟩
    obtain ⟨e2, he2⟩ : ∃ e, m / 2 = e := ⟨_, rfl⟩
    obtain ⟨e3, he3⟩ : ∃ e, n / 8589934592 = e := ⟨_, rfl⟩
    obtain ⟨e4, he4⟩ : ∃ e, m / 8589934592 = e := ⟨_, rfl⟩
    have b1 : -4611686018427387904 ≤ e1 ∧ e1 ≤ 4611686018427387903 := by have := HHN.out; omega
    have b2 : -4611686018427387904 ≤ e2 ∧ e2 ≤ 4611686018427387903 := by have := HHM.out; omega
    have b3 : -1073741824 ≤ e3 ∧ e3 ≤ 1073741823 := by have := HHN.out; omega
    have b4 : -1073741824 ≤ e4 ∧ e4 ≤ 1073741823 := by have := HHM.out; omega
    obtain ⟨pr, hpr⟩ : ∃ pr, e3 * e4 = pr := ⟨_, rfl⟩
    have bp : -1152921504606846976 ≤ pr ∧ pr ≤ 1152921504606846976 := by
      have h9 : (e3 * e4).natAbs ≤ 1073741824 * 1073741824 := by
        rw [Int.natAbs_mul]
        exact Nat.mul_le_mul (by omega) (by omega)
      omega
    obtain ⟨sm, hsm⟩ : ∃ sm, e1 + e2 = sm := ⟨_, rfl⟩
    obtain ⟨ng, hng⟩ : ∃ ng, -e3 = ng := ⟨_, rfl⟩
    have K1 := (num_any sm q (by omega)).toB
    have K2 := (num_any e1 q (by omega)).toB
    have K3 := (num_any e2 q (by omega)).toB
    have K4 := (ret_addU (MM.numU e1 q) (MM.numU e2 q) q).toB
    rw [MM.numU_add HG.out, hsm] at K4
    have K5 := (num_any pr q (by omega)).toB
    have K6 := (num_any e3 q (by omega)).toB
    have K7 := (num_any e4 q (by omega)).toB
    have K8 := (ret_mulU (MM.numU e3 q) (MM.numU e4 q) q (MM.numU_lt _ _) (MM.numU_lt _ _)).toB
    rw [MM.numU_mul HG.out, hpr] at K8
    have K9 := (num_any ng q (by omega)).toB
    have K10 : RetB 34 #[.int .u64 ((MM.numU e3 q : Nat) : Int), .int .u64 ((MM.numU ng q : Nat) : Int), .int .u64 (q : Int)] (.int .u64 0) := by
      have := (ret_addU (MM.numU e3 q) (MM.numU ng q) q).toB
      rw [← hng, MM.numU_neg HG.out] at this
      rw [← hng]
      exact this
    have hws : wrap64 (e1 + e2) = sm := by rw [hsm]; exact IntWalk.wrap64_in _ (by omega)
    have hwp : wrap64 (e3 * e4) = pr := by rw [hpr]; exact IntWalk.wrap64_in _ (by omega)
    have hwg : wrap64 (-e3) = ng := by rw [hng]; exact IntWalk.wrap64_in _ (by omega)
    have hwp2 : wrap64 pr = pr := IntWalk.wrap64_in _ (by omega)
    have hws2 : wrap64 sm = sm := IntWalk.wrap64_in _ (by omega)
    have hwg2 : wrap64 ng = ng := IntWalk.wrap64_in _ (by omega)
    clear b1 b2 b3 b4 bp
    generalize MM.numU sm q = v1 at *
    generalize MM.numU e1 q = v2 at *
    generalize MM.numU e2 q = v3 at *
    generalize MM.numU pr q = v4 at *
    generalize MM.numU e3 q = v5 at *
    generalize MM.numU e4 q = v6 at *
    generalize MM.numU ng q = v7 at *
    go_wp2_with (first
      | (go_at_call 11; (with_reducible refine (K1.at _).mono ?_); rintro e w' ⟨rfl, hb⟩; replace HJ2 := Lib.hid (HJ2.out.trans (hb.mono HJ2.out.size)); clear hb)
      | (go_at_call 11; (with_reducible refine (K2.at _).mono ?_); rintro e w' ⟨rfl, hb⟩; replace HJ2 := Lib.hid (HJ2.out.trans (hb.mono HJ2.out.size)); clear hb)
      | (go_at_call 11; (with_reducible refine (K3.at _).mono ?_); rintro e w' ⟨rfl, hb⟩; replace HJ2 := Lib.hid (HJ2.out.trans (hb.mono HJ2.out.size)); clear hb)
      | (go_at_call 34; (with_reducible refine (K4.at _).mono ?_); rintro e w' ⟨rfl, hb⟩; replace HJ2 := Lib.hid (HJ2.out.trans (hb.mono HJ2.out.size)); clear hb)
      | (go_at_call 11; (with_reducible refine (K5.at _).mono ?_); rintro e w' ⟨rfl, hb⟩; replace HJ2 := Lib.hid (HJ2.out.trans (hb.mono HJ2.out.size)); clear hb)
      | (go_at_call 11; (with_reducible refine (K6.at _).mono ?_); rintro e w' ⟨rfl, hb⟩; replace HJ2 := Lib.hid (HJ2.out.trans (hb.mono HJ2.out.size)); clear hb)
      | (go_at_call 11; (with_reducible refine (K7.at _).mono ?_); rintro e w' ⟨rfl, hb⟩; replace HJ2 := Lib.hid (HJ2.out.trans (hb.mono HJ2.out.size)); clear hb)
      | (go_at_call 35; (with_reducible refine (K8.at _).mono ?_); rintro e w' ⟨rfl, hb⟩; replace HJ2 := Lib.hid (HJ2.out.trans (hb.mono HJ2.out.size)); clear hb)
      | (go_at_call 11; (with_reducible refine (K9.at _).mono ?_); rintro e w' ⟨rfl, hb⟩; replace HJ2 := Lib.hid (HJ2.out.trans (hb.mono HJ2.out.size)); clear hb)
      | (go_at_call 34; (with_reducible refine (K10.at _).mono ?_); rintro e w' ⟨rfl, hb⟩; replace HJ2 := Lib.hid (HJ2.out.trans (hb.mono HJ2.out.size)); clear hb))
    go_ret
    exact ⟨rfl, HJ2.out⟩
  · obtain rfl : h = 0 := by omega
    clear h0 hh1
    go_enter Try.func6, Try.ntmps6
    go_upto_region 9 with (go_at_call 10; refine (awake_any _).mono ?_; rintro e w1 ⟨rfl, hb⟩; have HJ := Lib.hid hb; clear hb)
    have H1 : Ret 11 #[.int .i64 0, .int .u64 (q : Int)] (.int .u64 ((MM.numU 0 q : Nat) : Int)) := num_any _ q (by  omega)
    have H2 : Ret 12 #[.int .u64 ((MM.numU 0 q : Nat) : Int), .int .u64 (q : Int)] (.int .i64 0) := by
      have := int_any (MM.numU 0 q) q (by have := HG.out.2; omega)
      rwa [MM.int_num HG.out (by rw [HHQ.out];  omega) (by rw [HHQ.out];  omega)] at this
    have H3 := int_any x q (by have := HG.out.2; omega)
    have H4 : Ret 11 #[.int .i64 (MM.intU x q), .int .u64 (q : Int)] (.int .u64 ((x % q : Nat) : Int)) := by
      have := num_any (MM.intU x q) q (by
        have hlt := Nat.mod_lt x HG.out.1
        have := HG.out.2
        unfold MM.intU
        rw [if_pos HG.out]
        split <;> omega)
      rwa [MM.num_int HG.out] at this
    have H5 := num_any n q HHN.out
    have h5 := MM.numU_ltq (n := n) HG.out
    have hxq : (x : Int) % (q : Int) = ((x % q : Nat) : Int) := rfl
    have hq0 : q ≠ 0 := by have := HG.out.1; omega
    generalize MM.numU 0 q = a at *
    generalize MM.intU x q = b at *
    generalize MM.numU n q = c at *
    generalize x % q = d at *
    clear hrI hqI hqr hhI 
    go_quiet (first | (go_at_call 11; with_reducible exact (H1).quiet) | (go_at_call 12; with_reducible exact (H2).quiet) | (go_at_call 12; with_reducible exact (H3).quiet) | (go_at_call 11; with_reducible exact (H4).quiet) | (go_at_call 11; with_reducible exact (H5).quiet))
    go_upto_region 13 with fail
    have HJ2 := Lib.hid (Below.drawn HJ.out nq)
    generalize w1.drewN nq = w2 at *
    obtain ⟨e1, he1⟩ : ∃ e, n / 2 = e := ⟨_, rfl⟩
    obtain ⟨e2, he2⟩ : ∃ e, m / 2 = e := ⟨_, rfl⟩
    obtain ⟨e3, he3⟩ : ∃ e, n / 8589934592 = e := ⟨_, rfl⟩
    obtain ⟨e4, he4⟩ : ∃ e, m / 8589934592 = e := ⟨_, rfl⟩
    have b1 : -4611686018427387904 ≤ e1 ∧ e1 ≤ 4611686018427387903 := by have := HHN.out; omega
    have b2 : -4611686018427387904 ≤ e2 ∧ e2 ≤ 4611686018427387903 := by have := HHM.out; omega
    have b3 : -1073741824 ≤ e3 ∧ e3 ≤ 1073741823 := by have := HHN.out; omega
    have b4 : -1073741824 ≤ e4 ∧ e4 ≤ 1073741823 := by have := HHM.out; omega
    obtain ⟨pr, hpr⟩ : ∃ pr, e3 * e4 = pr := ⟨_, rfl⟩
    have bp : -1152921504606846976 ≤ pr ∧ pr ≤ 1152921504606846976 := by
      have h9 : (e3 * e4).natAbs ≤ 1073741824 * 1073741824 := by
        rw [Int.natAbs_mul]
        exact Nat.mul_le_mul (by omega) (by omega)
      omega
    obtain ⟨sm, hsm⟩ : ∃ sm, e1 + e2 = sm := ⟨_, rfl⟩
    obtain ⟨ng, hng⟩ : ∃ ng, -e3 = ng := ⟨_, rfl⟩
    have K1 := (num_any sm q (by omega)).toB
    have K2 := (num_any e1 q (by omega)).toB
    have K3 := (num_any e2 q (by omega)).toB
    have K4 := (ret_addU (MM.numU e1 q) (MM.numU e2 q) q).toB
    rw [MM.numU_add HG.out, hsm] at K4
    have K5 := (num_any pr q (by omega)).toB
    have K6 := (num_any e3 q (by omega)).toB
    have K7 := (num_any e4 q (by omega)).toB
    have K8 := (ret_mulU (MM.numU e3 q) (MM.numU e4 q) q (MM.numU_lt _ _) (MM.numU_lt _ _)).toB
    rw [MM.numU_mul HG.out, hpr] at K8
    have K9 := (num_any ng q (by omega)).toB
    have K10 : RetB 34 #[.int .u64 ((MM.numU e3 q : Nat) : Int), .int .u64 ((MM.numU ng q : Nat) : Int), .int .u64 (q : Int)] (.int .u64 0) := by
      have := (ret_addU (MM.numU e3 q) (MM.numU ng q) q).toB
      rw [← hng, MM.numU_neg HG.out] at this
      rw [← hng]
      exact this
    have hws : wrap64 (e1 + e2) = sm := by rw [hsm]; exact IntWalk.wrap64_in _ (by omega)
    have hwp : wrap64 (e3 * e4) = pr := by rw [hpr]; exact IntWalk.wrap64_in _ (by omega)
    have hwg : wrap64 (-e3) = ng := by rw [hng]; exact IntWalk.wrap64_in _ (by omega)
    have hwp2 : wrap64 pr = pr := IntWalk.wrap64_in _ (by omega)
    have hws2 : wrap64 sm = sm := IntWalk.wrap64_in _ (by omega)
    have hwg2 : wrap64 ng = ng := IntWalk.wrap64_in _ (by omega)
    clear b1 b2 b3 b4 bp
    generalize MM.numU sm q = v1 at *
    generalize MM.numU e1 q = v2 at *
    generalize MM.numU e2 q = v3 at *
    generalize MM.numU pr q = v4 at *
    generalize MM.numU e3 q = v5 at *
    generalize MM.numU e4 q = v6 at *
    generalize MM.numU ng q = v7 at *
    go_wp2_with (first
      | (go_at_call 11; (with_reducible refine (K1.at _).mono ?_); rintro e w' ⟨rfl, hb⟩; replace HJ2 := Lib.hid (HJ2.out.trans (hb.mono HJ2.out.size)); clear hb)
      | (go_at_call 11; (with_reducible refine (K2.at _).mono ?_); rintro e w' ⟨rfl, hb⟩; replace HJ2 := Lib.hid (HJ2.out.trans (hb.mono HJ2.out.size)); clear hb)
      | (go_at_call 11; (with_reducible refine (K3.at _).mono ?_); rintro e w' ⟨rfl, hb⟩; replace HJ2 := Lib.hid (HJ2.out.trans (hb.mono HJ2.out.size)); clear hb)
      | (go_at_call 34; (with_reducible refine (K4.at _).mono ?_); rintro e w' ⟨rfl, hb⟩; replace HJ2 := Lib.hid (HJ2.out.trans (hb.mono HJ2.out.size)); clear hb)
      | (go_at_call 11; (with_reducible refine (K5.at _).mono ?_); rintro e w' ⟨rfl, hb⟩; replace HJ2 := Lib.hid (HJ2.out.trans (hb.mono HJ2.out.size)); clear hb)
      | (go_at_call 11; (with_reducible refine (K6.at _).mono ?_); rintro e w' ⟨rfl, hb⟩; replace HJ2 := Lib.hid (HJ2.out.trans (hb.mono HJ2.out.size)); clear hb)
      | (go_at_call 11; (with_reducible refine (K7.at _).mono ?_); rintro e w' ⟨rfl, hb⟩; replace HJ2 := Lib.hid (HJ2.out.trans (hb.mono HJ2.out.size)); clear hb)
      | (go_at_call 35; (with_reducible refine (K8.at _).mono ?_); rintro e w' ⟨rfl, hb⟩; replace HJ2 := Lib.hid (HJ2.out.trans (hb.mono HJ2.out.size)); clear hb)
      | (go_at_call 11; (with_reducible refine (K9.at _).mono ?_); rintro e w' ⟨rfl, hb⟩; replace HJ2 := Lib.hid (HJ2.out.trans (hb.mono HJ2.out.size)); clear hb)
      | (go_at_call 34; (with_reducible refine (K10.at _).mono ?_); rintro e w' ⟨rfl, hb⟩; replace HJ2 := Lib.hid (HJ2.out.trans (hb.mono HJ2.out.size)); clear hb))
    go_ret
    exact ⟨rfl, HJ2.out⟩

set_option maxRecDepth 100000 in
theorem lifted (os : Os) (started : os.Started) (H : Type) (enc : TypeId × Value → H) :
    ReturnsInHanded {} Try.checked os 6 .any (Rows.fixedBackSpec.pre6 enc Try.prog Try.f6 Rows.fixedBackRow.domain false) (Rows.fixedBackSpec.post enc Try.prog Try.f6 false true false false) := by
  refine returnsInHanded_of_change (C := Try.checked) M.own started (by kernel_rfl) Try.func6
    (ChangeSpec.witness6 (enc := enc) (C := Try.checked) false ⟨#[], #[.int .i64 0, .int .i64 0, .int .u64 0, .int .u64 0], []⟩ 8 (by kernel_rfl) (by kernel_rfl) (by kernel_rfl) (by kernel_rfl)) ?_
  intro W base args ds gs before hval0 hW _ _
  have hval : ∀ (j : Nat) t v, Try.f6.params[j]? = some t → args[j]? = some v → Value.okWide Try.prog W .any base t v := hval0
  have hW' := hW
  obtain ⟨p, q, hA0, hV, rfl, _, _⟩ := hW
  have hA : DataW.TrodAll enc Try.prog W 0 (fun _ => true) true Try.f6.params.toList args.toList ds p := hA0
  rw [Try.params6] at hA hval
  obtain ⟨v0, vs0, d0, ds0, p0, q0, hargs, rfl, rfl, h0, r0⟩ := trodAll_cons hA
  obtain ⟨v1, vs1, d1, ds1, p1, q1, rfl, rfl, rfl, h1, r1⟩ := trodAll_cons r0
  obtain ⟨v2, vs2, d2, ds2, p2, q2, rfl, rfl, rfl, h2, r2⟩ := trodAll_cons r1
  obtain ⟨v3, vs3, d3, ds3, p3, q3, rfl, rfl, rfl, h3, r3⟩ := trodAll_cons r2
  obtain ⟨rfl, rfl, rfl⟩ := trodAll_nil r3
  obtain rfl : args = #[v0, v1, v2, v3] := by cases args; simp_all
  obtain ⟨rfl, rfl⟩ := trodVars_none hV
  have k0 := h0
  have lt0 : ∀ x ∈ p0, x.block < W.heap.size := by obtain ⟨m, hm⟩ := k0; exact DataW.trod_lt m _ _ _ hm
  obtain ⟨x0, rfl, rfl, rfl, w0⟩ := open_int Try.underlying2 (hval 0 2 v0 rfl rfl) h0
  have k1 := h1
  have lt1 : ∀ x ∈ p1, x.block < W.heap.size := by obtain ⟨m, hm⟩ := k1; exact DataW.trod_lt m _ _ _ hm
  obtain ⟨x1, rfl, rfl, rfl, w1⟩ := open_int Try.underlying2 (hval 1 2 v1 rfl rfl) h1
  have k2 := h2
  have lt2 : ∀ x ∈ p2, x.block < W.heap.size := by obtain ⟨m, hm⟩ := k2; exact DataW.trod_lt m _ _ _ hm
  obtain ⟨x2, rfl, rfl, rfl, w2⟩ := open_int Try.underlying23 (hval 2 23 v2 rfl rfl) h2
  obtain ⟨lo2, hi2⟩ := M.u64_bounds w2
  obtain ⟨a2, rfl⟩ : ∃ a : Nat, x2 = a := ⟨x2.toNat, by omega⟩
  have k3 := h3
  have lt3 : ∀ x ∈ p3, x.block < W.heap.size := by obtain ⟨m, hm⟩ := k3; exact DataW.trod_lt m _ _ _ hm
  obtain ⟨x3, rfl, rfl, rfl, w3⟩ := open_int Try.underlying23 (hval 3 23 v3 rfl rfl) h3
  obtain ⟨lo3, hi3⟩ := M.u64_bounds w3
  obtain ⟨a3, rfl⟩ : ∃ a : Nat, x3 = a := ⟨x3.toNat, by omega⟩
  clear hA0 hval0
  simp only [List.append_nil] at hW'
  refine (walk x0 x1 a2 a3 (M.i64_bounds w0) (M.i64_bounds w1) (by omega) (by omega) W ).mono fun e W' ⟨he, bel⟩ => ?_
  subst he
  exact ⟨_, rfl, _, _, _, [], _, [], hW', (trodAll_cons_mk (shut_bool Try.underlying4 _) trodAll_mk0), (trodAll_cons_mk (Below.trod M.laidOut (by kernel_rfl) (of_decide_eq_true (by kernel_rfl)) k0 bel lt0) (trodAll_cons_mk (Below.trod M.laidOut (by kernel_rfl) (of_decide_eq_true (by kernel_rfl)) k1 bel lt1) (trodAll_cons_mk (Below.trod M.laidOut (by kernel_rfl) (of_decide_eq_true (by kernel_rfl)) k2 bel lt2) (trodAll_cons_mk (Below.trod M.laidOut (by kernel_rfl) (of_decide_eq_true (by kernel_rfl)) k3 bel lt3) trodAll_mk0)))), rfl, bel.frame _, fun h => by cases h⟩

theorem holds : Rows.FixedBackSaid :=
  OpenClaim.holds_of_wide 6 Try.f6 rfl rfl rfl rfl rfl rfl rfl ⟨rfl, rfl, rfl, rfl, rfl⟩ rfl rfl rfl rfl rfl (by kernel_rfl) Try.func6 (by kernel_rfl)
    (of_decide_eq_true (by kernel_rfl)) (by unfold Func.isWrapper; first | (rw [if_pos (by decide +kernel)]; kernel_rfl) | (rw [if_neg (by decide +kernel)]; exact ⟨rfl, rfl⟩))
    (fun os started H enc _ => lifted os started H enc)

end FixedBack

theorem fixedBack_holds : Rows.FixedBackSaid := FixedBack.holds
#print axioms fixedBack_holds
end Go.Proofs.Ytdblijpoelcghaa

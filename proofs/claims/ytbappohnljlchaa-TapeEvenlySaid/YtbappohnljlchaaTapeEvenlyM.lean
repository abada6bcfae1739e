/- Of whatever seed: a draw below a power of two is the lowest bits of the next number; a draw below q is that below a multiple of q, modulo q, where the next number is below a multiple of both. -/
import Derived.Test.YtbappohnljlchaaRows
import Derived.Test.YtbappohnljlchaaWB1
import Derived.Test.YtbappohnljlchaaWB5
import Derived.Test.YtbappohnljlchaaWB6
import Derived.Test.YtbappohnljlchaaWB3
import Derived.Laws.Bits64b
namespace Go.Proofs.Ytbappohnljlchaa
open Go.ChangeShapes Go.WideShapes Go.ChangeAt Go.RowKit
namespace TapeEvenly
open M

open MM Go.Lib
theorem u64_nat (x : Int) : ∃ a : Nat, IntKind.u64.wrap x = (a : Int) := ⟨(x % 18446744073709551616).toNat, by rw [IntKind.wrap_u64]; omega⟩
theorem rem_nat {a n k : Nat} (h : a % k = n) : (a : Int) % (k : Int) = (n : Int) := by rw [← h]; rfl
theorem pow_lt {b : Nat} (h : b < 64) : 2 ^ b < 18446744073709551616 := by
  have h1 := Nat.pow_lt_pow_right (a := 2) (by decide) h
  have e : (2 : Nat) ^ 64 = 18446744073709551616 := by decide +kernel
  rwa [e] at h1
theorem u64_id {n : Nat} (h : n < 18446744073709551616) : IntKind.u64.wrap (n : Int) = (n : Int) := by
  rw [IntKind.wrap_u64]
  omega
theorem small_facts {b : Nat} (h : b < 64) : wrap64 (b : Int) = (b : Int) ∧ (0 : Int) ≤ (b : Int) ∧ ¬ (64 : Int) ≤ (b : Int) ∧ min b 64 = b := ⟨IntWalk.wrap64_in _ ⟨by omega, by omega⟩, by omega, by omega, by omega⟩
theorem and_pow {x b : Nat} (hx : x < 18446744073709551616) (hb : b < 64) : bits .and .u64 (x : Int) ((2 ^ b - 1 : Nat) : Int) = ((x % 2 ^ b : Nat) : Int) := by
  have h1 := pow_lt hb
  rw [bits_and_u64_nat _ _ hx (Nat.lt_of_le_of_lt (Nat.sub_le _ _) h1), Nat.and_two_pow_sub_one_eq_mod]
theorem sub_pow {b : Nat} (hb : b < 64) : IntKind.u64.wrap (((2 ^ b : Nat) : Int) - 1) = ((2 ^ b - 1 : Nat) : Int) := by
  have h1 := pow_lt hb
  have h2 := Nat.two_pow_pos b
  rw [IntKind.wrap_u64]
  generalize 2 ^ b = p at *
  omega
theorem times_wrap {t : Nat} (h : t < 1000) : IntKind.u64.wrap (1 + (t : Int)) = ((1 + t : Nat) : Int) := by
  rw [IntKind.wrap_u64]
  omega
theorem draw_mult {s q t : Nat} (h0 : 0 < q) (a : Nat) (h2 : q * (t * a) ≤ 18446744073709551616) (h3 : mix (nxt s) < q * (t * a)) : (Tp.new s).val q = mix (nxt s) % q := by
  rw [val_taken (taken_mult h0 h2 h3)]
  exact if_neg (Nat.pos_iff_ne_zero.1 h0)
theorem new_n (s : Nat) : (Tp.new s).n = 0 := rfl
theorem next_new (W : World) (s q : Nat) (hq : q < 18446744073709551616) (B : Nat) (w : World) (h : Tz W [(true, B, Tp.new s)] w) :
    Calls Try.prog 11 #[ptr B, .int .u64 (q : Int)] w fun e w' => e = .returned (.int .u64 (((Tp.new s).val q : Nat) : Int)) ∧ Below W.heap.size W w' := by
  have hn : (Tp.new s).n < 4611686018427387904 := by rw [new_n]; decide
  have h1 := Tz.next h (i := 0) (B := B) (t := Tp.new s) rfl q hq hn
  exact h1.mono fun _ _ ⟨a, b⟩ => ⟨a, b.below⟩
set_option maxHeartbeats 8000000 in
set_option maxRecDepth 100000 in
theorem walk (s q times : Nat) (bits0 : Int) (hs : s < 18446744073709551616) (hq : q < 18446744073709551616) (_ : times < 18446744073709551616) (W : World) :
    Calls Try.prog 8 #[.int .u64 (s : Int), .int .u64 (q : Int), .int .u64 (times : Int), .int .i64 bits0] W fun e w' => e = .returned (.bool true) ∧ Below W.heap.size W w' := by
  obtain ⟨a, ha⟩ := u64_nat bits0
  obtain ⟨b, hb⟩ : ∃ b : Nat, a % 64 = b := ⟨_, rfl⟩
  have HEA : Hid ((a : Int) % 64 = (b : Int)) := Lib.hid (rem_nat hb)
  have hb1 : b < 64 := by rw [← hb]; exact Nat.mod_lt _ (by decide)
  have HAE := Lib.hid ha
  clear hb ha
  obtain ⟨wb, hb0, hb64, hmin⟩ := small_facts hb1
  have hx := mix_lt (nxt s)
  have hv0 : (Tp.new s).val 0 = mix (nxt s) := val_free s 0
  have hvp := val_pow (s := s) hb1
  have hand := and_pow hx hb1
  have hsub := sub_pow hb1
  have hP := pow_lt hb1
  have hpc : (2 : Int) ^ b = ((2 ^ b : Nat) : Int) := by simp
  have hpw : IntKind.u64.wrap ((2 ^ b : Nat) : Int) = ((2 ^ b : Nat) : Int) := u64_id hP
  have htm : times % 1000 < 1000 := Nat.mod_lt _ (by decide)
  have hti : (times : Int) % 1000 = ((times % 1000 : Nat) : Int) := rfl
  have htw := times_wrap htm
  have ht3 : 0 < 1 + times % 1000 := Nat.lt_of_lt_of_le Nat.zero_lt_one (Nat.le_add_right _ _)
  have hmt : ∀ a, 0 < q → q * ((1 + times % 1000) * a) ≤ 18446744073709551616 → mix (nxt s) < q * ((1 + times % 1000) * a) → (Tp.new s).val q = mix (nxt s) % q := fun a h1 h2 h3 => draw_mult h1 a h2 h3
  have hmm : ∀ a, 0 < q → q * (1 + times % 1000) * (1 * a) ≤ 18446744073709551616 → mix (nxt s) < q * (1 + times % 1000) * (1 * a) → (Tp.new s).val (q * (1 + times % 1000)) = mix (nxt s) % (q * (1 + times % 1000)) := fun a h1 h2 h3 => draw_mult (Nat.mul_pos h1 ht3) a h2 h3
  simp only [Nat.one_mul] at hmm
  have hdd : mix (nxt s) % (q * (1 + times % 1000)) % q = mix (nxt s) % q := Nat.mod_mul_right_mod _ _ _
  generalize ht2 : 1 + times % 1000 = t at *
  clear ht2 htm
  generalize times % 1000 = tm at *
  have HNW := Lib.hid (fun w (hb : Below W.heap.size W w) => (Tz.start hb).new_ hs)
  have HN0 : Hid (∀ B w, Tz W [(true, B, Tp.new s)] w → Calls Try.prog 11 #[ptr B, .int .u64 0] w fun e w' => e = .returned (.int .u64 (((Tp.new s).val 0 : Nat) : Int)) ∧ Below W.heap.size W w') := Lib.hid fun B w h => (h.next (i := 0) rfl 0 (by decide) (by show (0 : Nat) < _; decide)).mono fun _ _ ⟨a, b⟩ => ⟨a, b.below⟩
  have HNA := Lib.hid (fun q hq B w h => next_new W s q hq B w h)
  have HNP := Lib.hid (HNA.out _ hP)
  rw [hvp] at HNP
  rw [hv0] at HN0
  have HDD := Lib.hid hdd
  have HMT := Lib.hid hmt
  have HMM := Lib.hid hmm
  clear hdd hmt hmm hvp hv0
  generalize mix (nxt s) = x at *
  generalize x % 2 ^ b = y at *
  generalize 2 ^ b - 1 = P1 at *
  generalize 2 ^ b = P at *
  have ha := HAE.out
  have hea := HEA.out
  clear HAE HEA
  have HP1 := Lib.hid hP
  have HQ := Lib.hid hq
  have HX := Lib.hid hx
  have HT3 := Lib.hid ht3
  clear hP hq hx hs ht3 hb1
  go_enter Try.func8, Try.ntmps8
  go_upto_region 5 with (first
    | (go_at_call 10; (with_reducible refine (works_any _).mono ?_); rintro e w1 ⟨rfl, hb⟩; have HB := Lib.hid hb; clear hb)
    | (go_at_call 15; (with_reducible refine (HNW.out _ HB.out).mono ?_); rintro e w2 ⟨B, rfl, hd⟩; have HD : Hid (Tz W [(true, B, Tp.new s)] w2) := Lib.hid hd; clear hd HB)
    | (go_at_call 11; (with_reducible refine (HN0.out _ _ HD.out).mono ?_); rintro e w3 ⟨rfl, hd⟩; have HB0 := Lib.hid hd; clear hd HD))
  refine RK.region (fun _ => True) 11 (by kernel_rfl) ?_
  have HB1 : Hid (Below W.heap.size W w3.drew) := Lib.hid (bnext HB0.out (below_drewN w3 1))
  generalize w3.drew = wd at *
  refine RK.Any.take 0 20 (.int .u64 (s : Int)) rfl rfl (by kernel_rfl) (by kernel_rfl) (by kernel_rfl) (by kernel_rfl) (fun _ _ _ h => h) (by rfl) (fun W' hb => ?_) trivial ?_
  · go_simp
  try simp only [List.setIfInBounds_toArray, List.set_cons_zero, List.set_cons_succ]
  refine RK.Any.take 2 22 (.int .i64 (b : Int)) rfl rfl (by kernel_rfl) (by kernel_rfl) (by kernel_rfl) (by kernel_rfl) (fun _ _ _ h => h) (by rfl) (fun W' hb => ?_) trivial ?_
  · go_simp
  try simp only [List.setIfInBounds_toArray, List.set_cons_zero, List.set_cons_succ]
  refine RK.Any.take 3 23 (.int .u64 (P : Int)) rfl rfl (by kernel_rfl) (by kernel_rfl) (by kernel_rfl) (by kernel_rfl) (fun _ _ _ h => h) (by rfl) (fun W' hb => ?_) trivial ?_
  · go_simp
  try simp only [List.setIfInBounds_toArray, List.set_cons_zero, List.set_cons_succ]
  refine RK.Any.take 5 25 (.int .u64 (x : Int)) rfl rfl (by kernel_rfl) (by kernel_rfl) (by kernel_rfl) (by kernel_rfl) (fun _ _ _ h => h) (by rfl) (fun W' hb => ?_) trivial ?_
  · go_simp
  try simp only [List.setIfInBounds_toArray, List.set_cons_zero, List.set_cons_succ]
  refine RK.Any.take 6 26 (.int .i64 (b : Int)) rfl rfl (by kernel_rfl) (by kernel_rfl) (by kernel_rfl) (by kernel_rfl) (fun _ _ _ h => h) (by rfl) (fun W' hb => ?_) trivial ?_
  · go_simp
  try simp only [List.setIfInBounds_toArray, List.set_cons_zero, List.set_cons_succ]
  refine RK.Any.take 7 27 (.int .u64 (P : Int)) rfl rfl (by kernel_rfl) (by kernel_rfl) (by kernel_rfl) (by kernel_rfl) (fun _ _ _ h => h) (by rfl) (fun W' hb => ?_) trivial ?_
  · go_simp
  try simp only [List.setIfInBounds_toArray, List.set_cons_zero, List.set_cons_succ]
  refine RK.Any.take 8 28 (.int .u64 (P1 : Int)) rfl rfl (by kernel_rfl) (by kernel_rfl) (by kernel_rfl) (by kernel_rfl) (fun _ _ _ h => h) (by rfl) (fun W' hb => ?_) trivial ?_
  · go_simp
  try simp only [List.setIfInBounds_toArray, List.set_cons_zero, List.set_cons_succ]
  refine RK.Any.take 9 29 (.int .u64 (y : Int)) rfl rfl (by kernel_rfl) (by kernel_rfl) (by kernel_rfl) (by kernel_rfl) (fun _ _ _ h => h) (by rfl) (fun W' hb => ?_) trivial ?_
  · go_simp
  try simp only [List.setIfInBounds_toArray, List.set_cons_zero, List.set_cons_succ]
  refine RK.Any.call 1 21 15 #[.int .u64 (s : Int)] (by kernel_rfl) rfl rfl (by rfl) (by go_simp) (Calls.mono ((HNW.out _ HB1.out)) ?_)
  rintro e u1 ⟨C1, rfl, h⟩
  have HT1 : Hid (Tz W [(true, C1, Tp.new s)] u1) := Lib.hid h
  clear h
  refine ⟨_, rfl, fun _ => trivial, ?_⟩
  try simp only [List.setIfInBounds_toArray, List.set_cons_zero, List.set_cons_succ]
  refine RK.Any.call 4 24 11 #[ptr C1, .int .u64 (P : Int)] (by kernel_rfl) rfl rfl (by rfl) (by go_simp) (Calls.mono ((HNP.out _ _ HT1.out)) ?_)
  rintro e v1 ⟨rfl, h⟩
  have HB2 := Lib.hid h
  clear h
  refine ⟨_, rfl, fun _ => trivial, ?_⟩
  try simp only [List.setIfInBounds_toArray, List.set_cons_zero, List.set_cons_succ]
  refine RK.Any.take 10 30 (.bool false) rfl rfl (by kernel_rfl) (by kernel_rfl) (by kernel_rfl) (by kernel_rfl) (fun _ _ _ h => h) (by rfl) (fun W' hb => ?_) trivial ?_
  · go_simp
  try simp only [List.setIfInBounds_toArray, List.set_cons_zero, List.set_cons_succ]
  refine RK.Any.done (by kernel_rfl) ?_
  clear hand hsub hpw hpc HNP hb64 hmin wb ha hea
  by_cases h0 : q = 0
  · have g1 : (q : Int) = 0 := by omega
    have g2 : ((q : Int) == 0) = true := by simpa using h0
    go_wp2_with fail
    go_ret
    exact ⟨rfl, HB2.out⟩
  have g1 : ¬ (q : Int) = 0 := by omega
  have g2 : ((q : Int) == 0) = false := by simpa using h0
  have g3 : ¬ (t : Int) = 0 := by have := HT3.out; omega
  have g4 : ((t : Int) == 0) = false := by simp; omega
  obtain ⟨d, hd⟩ : ∃ d, 18446744073709551615 / t = d := ⟨_, rfl⟩
  have gd : (18446744073709551615 : Int) / (t : Int) = (d : Int) := by rw [← hd]; rfl
  have hdl : d ≤ 18446744073709551615 := by rw [← hd]; exact Nat.div_le_self _ _
  have gw : IntKind.u64.wrap (d : Int) = (d : Int) := u64_id (by omega)
  by_cases h1 : d < q
  · have k1 : (d : Int) < (q : Int) := by omega
    clear hd hdl
    go_wp2_with fail
    go_ret
    exact ⟨rfl, HB2.out⟩
  have k1 : ¬ (d : Int) < (q : Int) := by omega
  have k2 : ¬ d < q := h1
  have hm1 : q * t ≤ 18446744073709551615 := by
    have h2 : q * t ≤ d * t := Nat.mul_le_mul_right t (by omega)
    have h3 : d * t ≤ 18446744073709551615 := by rw [← hd]; exact Nat.div_mul_le_self _ _
    omega
  have hm0 : 0 < q * t := Nat.mul_pos (by omega) HT3.out
  have gm : IntKind.u64.wrap ((q : Int) * (t : Int)) = ((q * t : Nat) : Int) := by rw [← Int.natCast_mul]; exact u64_id (by omega)
  have hassoc : ∀ a, q * (t * a) = q * t * a := fun a => (Nat.mul_assoc _ _ _).symm
  have hq0 : 0 < q := Nat.pos_of_ne_zero h0
  have HMT2 := Lib.hid (fun a (h2 : q * t * a ≤ 18446744073709551616) (h3 : x < q * t * a) => HMT.out a hq0 (by rw [hassoc]; exact h2) (by rw [hassoc]; exact h3))
  have HMM2 := Lib.hid (fun a => HMM.out a hq0)
  clear hq0
  have HNQ := Lib.hid (HNA.out q HQ.out)
  have HNM := Lib.hid (HNA.out (q * t) (by omega))
  clear hassoc HMT HMM hd hdl h1
  generalize hmm0 : q * t = mm at *
  have j1 : ¬ (mm : Int) = 0 := by omega
  have j2 : ((mm : Int) == 0) = false := by simp; omega
  obtain ⟨a2, ha2⟩ : ∃ a2, 18446744073709551615 / mm = a2 := ⟨_, rfl⟩
  have ja : (18446744073709551615 : Int) / (mm : Int) = (a2 : Int) := by rw [← ha2]; rfl
  have hal : a2 ≤ 18446744073709551615 := by rw [← ha2]; exact Nat.div_le_self _ _
  have jw : IntKind.u64.wrap (a2 : Int) = (a2 : Int) := u64_id (by omega)
  have hprod : a2 * mm ≤ 18446744073709551615 := by rw [← ha2]; exact Nat.div_mul_le_self _ _
  have jp : IntKind.u64.wrap ((a2 : Int) * (mm : Int)) = ((a2 * mm : Nat) : Int) := by rw [← Int.natCast_mul]; exact u64_id (by omega)
  have HPR : Hid (a2 * mm = mm * a2) := Lib.hid (Nat.mul_comm _ _)
  generalize a2 * mm = pr at *
  clear ha2 hal
  by_cases h2 : pr ≤ x
  · have l1 : (pr : Int) ≤ (x : Int) := by omega
    have l2 : decide ((pr : Int) ≤ (x : Int)) = true := decide_eq_true l1
    clear hmm0 hm1 hm0 hprod
    go_wp2_with fail
    go_ret
    exact ⟨rfl, HB2.out⟩
  · have l1 : ¬ (pr : Int) ≤ (x : Int) := by omega
    have l2 : decide ((pr : Int) ≤ (x : Int)) = false := decide_eq_false l1
    have l3 : ¬ pr ≤ x := h2
    have hvq := HMT2.out a2 (by rw [← HPR.out]; omega) (by rw [← HPR.out]; omega)
    have hvm := HMM2.out a2 (by rw [← HPR.out]; omega) (by rw [← HPR.out]; omega)
    rw [hvq] at HNQ
    rw [hvm] at HNM
    have n1 : (x : Int) % (q : Int) = ((x % q : Nat) : Int) := rfl
    have n2 : (x : Int) % (mm : Int) = ((x % mm : Nat) : Int) := rfl
    have n3 : ((x % mm : Nat) : Int) % (q : Int) = ((x % q : Nat) : Int) := by rw [← HDD.out]; rfl
    have t1 : (x : Int).tmod (q : Int) = ((x % q : Nat) : Int) := rfl
    have t2 : (x : Int).tmod (mm : Int) = ((x % mm : Nat) : Int) := rfl
    have t3 : ((x % mm : Nat) : Int).tmod (q : Int) = ((x % q : Nat) : Int) := by rw [← HDD.out]; rfl
    have hmz : ¬ mm = 0 := Nat.pos_iff_ne_zero.1 hm0
    clear hvq hvm HMT2 HMM2 HPR HDD hmm0 hm1 hm0 hprod HNA
    generalize x % mm = xm at *
    generalize x % q = xq at *
    go_upto_region 13 with fail
    refine RK.region (fun _ => True) 32 (by kernel_rfl) ?_
    have HB3 : Hid (Below W.heap.size W v1.drew) := Lib.hid (bnext HB2.out (below_drewN v1 1))
    generalize v1.drew = we at *
    refine RK.Any.take 0 51 (.int .u64 (s : Int)) rfl rfl (by kernel_rfl) (by kernel_rfl) (by kernel_rfl) (by kernel_rfl) (fun _ _ _ h => h) (by rfl) (fun W' hb => ?_) trivial ?_
    · go_simp
    try simp only [List.setIfInBounds_toArray, List.set_cons_zero, List.set_cons_succ]
    refine RK.Any.take 2 53 (.int .u64 (q : Int)) rfl rfl (by kernel_rfl) (by kernel_rfl) (by kernel_rfl) (by kernel_rfl) (fun _ _ _ h => h) (by rfl) (fun W' hb => ?_) trivial ?_
    · go_simp
    try simp only [List.setIfInBounds_toArray, List.set_cons_zero, List.set_cons_succ]
    refine RK.Any.take 4 55 (.int .u64 (x : Int)) rfl rfl (by kernel_rfl) (by kernel_rfl) (by kernel_rfl) (by kernel_rfl) (fun _ _ _ h => h) (by rfl) (fun W' hb => ?_) trivial ?_
    · go_simp
    try simp only [List.setIfInBounds_toArray, List.set_cons_zero, List.set_cons_succ]
    refine RK.Any.take 5 56 (.int .u64 (q : Int)) rfl rfl (by kernel_rfl) (by kernel_rfl) (by kernel_rfl) (by kernel_rfl) (fun _ _ _ h => h) (by rfl) (fun W' hb => ?_) trivial ?_
    · go_simp
    try simp only [List.setIfInBounds_toArray, List.set_cons_zero, List.set_cons_succ]
    refine RK.Any.take 6 57 (.int .u64 (xq : Int)) rfl rfl (by kernel_rfl) (by kernel_rfl) (by kernel_rfl) (by kernel_rfl) (fun _ _ _ h => h) (by rfl) (fun W' hb => ?_) trivial ?_
    · go_simp
    try simp only [List.setIfInBounds_toArray, List.set_cons_zero, List.set_cons_succ]
    refine RK.Any.call 1 52 15 #[.int .u64 (s : Int)] (by kernel_rfl) rfl rfl (by rfl) (by go_simp) (Calls.mono ((HNW.out _ HB3.out)) ?_)
    rintro e u3 ⟨C3, rfl, h⟩
    have HT3 : Hid (Tz W [(true, C3, Tp.new s)] u3) := Lib.hid h
    clear h
    refine ⟨_, rfl, fun _ => trivial, ?_⟩
    try simp only [List.setIfInBounds_toArray, List.set_cons_zero, List.set_cons_succ]
    refine RK.Any.call 3 54 11 #[ptr C3, .int .u64 (q : Int)] (by kernel_rfl) rfl rfl (by rfl) (by go_simp) (Calls.mono ((HNQ.out _ _ HT3.out)) ?_)
    rintro e v3 ⟨rfl, h⟩
    have HB4 := Lib.hid h
    clear h
    refine ⟨_, rfl, fun _ => trivial, ?_⟩
    try simp only [List.setIfInBounds_toArray, List.set_cons_zero, List.set_cons_succ]
    refine RK.Any.take 7 58 (.bool true) rfl rfl (by kernel_rfl) (by kernel_rfl) (by kernel_rfl) (by kernel_rfl) (fun _ _ _ h => h) (by rfl) (fun W' hb => ?_) trivial ?_
    · go_simp
    try simp only [List.setIfInBounds_toArray, List.set_cons_zero, List.set_cons_succ]
    refine RK.Any.take 8 59 (.bool true) rfl rfl (by kernel_rfl) (by kernel_rfl) (by kernel_rfl) (by kernel_rfl) (fun _ _ _ h => h) (by rfl) (fun W' hb => ?_) trivial ?_
    · go_simp
    try simp only [List.setIfInBounds_toArray, List.set_cons_zero, List.set_cons_succ]
    refine RK.Any.take 9 60 (.int .u64 (s : Int)) rfl rfl (by kernel_rfl) (by kernel_rfl) (by kernel_rfl) (by kernel_rfl) (fun _ _ _ h => h) (by rfl) (fun W' hb => ?_) trivial ?_
    · go_simp
    try simp only [List.setIfInBounds_toArray, List.set_cons_zero, List.set_cons_succ]
    refine RK.Any.take 11 62 (.int .u64 (mm : Int)) rfl rfl (by kernel_rfl) (by kernel_rfl) (by kernel_rfl) (by kernel_rfl) (fun _ _ _ h => h) (by rfl) (fun W' hb => ?_) trivial ?_
    · go_simp
    try simp only [List.setIfInBounds_toArray, List.set_cons_zero, List.set_cons_succ]
    refine RK.Any.take 13 64 (.int .u64 (x : Int)) rfl rfl (by kernel_rfl) (by kernel_rfl) (by kernel_rfl) (by kernel_rfl) (fun _ _ _ h => h) (by rfl) (fun W' hb => ?_) trivial ?_
    · go_simp
    try simp only [List.setIfInBounds_toArray, List.set_cons_zero, List.set_cons_succ]
    refine RK.Any.take 14 65 (.int .u64 (mm : Int)) rfl rfl (by kernel_rfl) (by kernel_rfl) (by kernel_rfl) (by kernel_rfl) (fun _ _ _ h => h) (by rfl) (fun W' hb => ?_) trivial ?_
    · go_simp
    try simp only [List.setIfInBounds_toArray, List.set_cons_zero, List.set_cons_succ]
    refine RK.Any.take 15 66 (.int .u64 (xm : Int)) rfl rfl (by kernel_rfl) (by kernel_rfl) (by kernel_rfl) (by kernel_rfl) (fun _ _ _ h => h) (by rfl) (fun W' hb => ?_) trivial ?_
    · go_simp
    try simp only [List.setIfInBounds_toArray, List.set_cons_zero, List.set_cons_succ]
    refine RK.Any.call 10 61 15 #[.int .u64 (s : Int)] (by kernel_rfl) rfl rfl (by rfl) (by go_simp) (Calls.mono ((HNW.out _ HB4.out)) ?_)
    rintro e u4 ⟨C4, rfl, h⟩
    have HT4 : Hid (Tz W [(true, C4, Tp.new s)] u4) := Lib.hid h
    clear h
    refine ⟨_, rfl, fun _ => trivial, ?_⟩
    try simp only [List.setIfInBounds_toArray, List.set_cons_zero, List.set_cons_succ]
    refine RK.Any.call 12 63 11 #[ptr C4, .int .u64 (mm : Int)] (by kernel_rfl) rfl rfl (by rfl) (by go_simp) (Calls.mono ((HNM.out _ _ HT4.out)) ?_)
    rintro e v4 ⟨rfl, h⟩
    have HB5 := Lib.hid h
    clear h
    refine ⟨_, rfl, fun _ => trivial, ?_⟩
    try simp only [List.setIfInBounds_toArray, List.set_cons_zero, List.set_cons_succ]
    refine RK.Any.take 16 67 (.bool true) rfl rfl (by kernel_rfl) (by kernel_rfl) (by kernel_rfl) (by kernel_rfl) (fun _ _ _ h => h) (by rfl) (fun W' hb => ?_) trivial ?_
    · go_simp
    try simp only [List.setIfInBounds_toArray, List.set_cons_zero, List.set_cons_succ]
    refine RK.Any.take 17 68 (.bool true) rfl rfl (by kernel_rfl) (by kernel_rfl) (by kernel_rfl) (by kernel_rfl) (fun _ _ _ h => h) (by rfl) (fun W' hb => ?_) trivial ?_
    · go_simp
    try simp only [List.setIfInBounds_toArray, List.set_cons_zero, List.set_cons_succ]
    refine RK.Any.take 18 69 (.bool true) rfl rfl (by kernel_rfl) (by kernel_rfl) (by kernel_rfl) (by kernel_rfl) (fun _ _ _ h => h) (by rfl) (fun W' hb => ?_) trivial ?_
    · go_simp
    try simp only [List.setIfInBounds_toArray, List.set_cons_zero, List.set_cons_succ]
    refine RK.Any.take 19 70 (.int .u64 (s : Int)) rfl rfl (by kernel_rfl) (by kernel_rfl) (by kernel_rfl) (by kernel_rfl) (fun _ _ _ h => h) (by rfl) (fun W' hb => ?_) trivial ?_
    · go_simp
    try simp only [List.setIfInBounds_toArray, List.set_cons_zero, List.set_cons_succ]
    refine RK.Any.take 21 72 (.int .u64 (mm : Int)) rfl rfl (by kernel_rfl) (by kernel_rfl) (by kernel_rfl) (by kernel_rfl) (fun _ _ _ h => h) (by rfl) (fun W' hb => ?_) trivial ?_
    · go_simp
    try simp only [List.setIfInBounds_toArray, List.set_cons_zero, List.set_cons_succ]
    refine RK.Any.take 23 74 (.int .u64 (q : Int)) rfl rfl (by kernel_rfl) (by kernel_rfl) (by kernel_rfl) (by kernel_rfl) (fun _ _ _ h => h) (by rfl) (fun W' hb => ?_) trivial ?_
    · go_simp
    try simp only [List.setIfInBounds_toArray, List.set_cons_zero, List.set_cons_succ]
    refine RK.Any.take 25 76 (.int .u64 (s : Int)) rfl rfl (by kernel_rfl) (by kernel_rfl) (by kernel_rfl) (by kernel_rfl) (fun _ _ _ h => h) (by rfl) (fun W' hb => ?_) trivial ?_
    · go_simp
    try simp only [List.setIfInBounds_toArray, List.set_cons_zero, List.set_cons_succ]
    refine RK.Any.take 27 78 (.int .u64 (q : Int)) rfl rfl (by kernel_rfl) (by kernel_rfl) (by kernel_rfl) (by kernel_rfl) (fun _ _ _ h => h) (by rfl) (fun W' hb => ?_) trivial ?_
    · go_simp
    try simp only [List.setIfInBounds_toArray, List.set_cons_zero, List.set_cons_succ]
    refine RK.Any.call 20 71 15 #[.int .u64 (s : Int)] (by kernel_rfl) rfl rfl (by rfl) (by go_simp) (Calls.mono ((HNW.out _ HB5.out)) ?_)
    rintro e u5 ⟨C5, rfl, h⟩
    have HT5 : Hid (Tz W [(true, C5, Tp.new s)] u5) := Lib.hid h
    clear h
    refine ⟨_, rfl, fun _ => trivial, ?_⟩
    try simp only [List.setIfInBounds_toArray, List.set_cons_zero, List.set_cons_succ]
    refine RK.Any.call 22 73 11 #[ptr C5, .int .u64 (mm : Int)] (by kernel_rfl) rfl rfl (by rfl) (by go_simp) (Calls.mono ((HNM.out _ _ HT5.out)) ?_)
    rintro e v5 ⟨rfl, h⟩
    have HB6 := Lib.hid h
    clear h
    refine ⟨_, rfl, fun _ => trivial, ?_⟩
    try simp only [List.setIfInBounds_toArray, List.set_cons_zero, List.set_cons_succ]
    refine RK.Any.take 24 75 (.int .u64 (xq : Int)) rfl rfl (by kernel_rfl) (by kernel_rfl) (by kernel_rfl) (by kernel_rfl) (fun _ _ _ h => h) (by rfl) (fun W' hb => ?_) trivial ?_
    · go_simp
    try simp only [List.setIfInBounds_toArray, List.set_cons_zero, List.set_cons_succ]
    refine RK.Any.call 26 77 15 #[.int .u64 (s : Int)] (by kernel_rfl) rfl rfl (by rfl) (by go_simp) (Calls.mono ((HNW.out _ HB6.out)) ?_)
    rintro e u6 ⟨C6, rfl, h⟩
    have HT6 : Hid (Tz W [(true, C6, Tp.new s)] u6) := Lib.hid h
    clear h
    refine ⟨_, rfl, fun _ => trivial, ?_⟩
    try simp only [List.setIfInBounds_toArray, List.set_cons_zero, List.set_cons_succ]
    refine RK.Any.call 28 79 11 #[ptr C6, .int .u64 (q : Int)] (by kernel_rfl) rfl rfl (by rfl) (by go_simp) (Calls.mono ((HNQ.out _ _ HT6.out)) ?_)
    rintro e v6 ⟨rfl, h⟩
    have HB7 := Lib.hid h
    clear h
    refine ⟨_, rfl, fun _ => trivial, ?_⟩
    try simp only [List.setIfInBounds_toArray, List.set_cons_zero, List.set_cons_succ]
    refine RK.Any.take 29 80 (.bool true) rfl rfl (by kernel_rfl) (by kernel_rfl) (by kernel_rfl) (by kernel_rfl) (fun _ _ _ h => h) (by rfl) (fun W' hb => ?_) trivial ?_
    · go_simp
    try simp only [List.setIfInBounds_toArray, List.set_cons_zero, List.set_cons_succ]
    refine RK.Any.take 30 81 (.bool true) rfl rfl (by kernel_rfl) (by kernel_rfl) (by kernel_rfl) (by kernel_rfl) (fun _ _ _ h => h) (by rfl) (fun W' hb => ?_) trivial ?_
    · go_simp
    try simp only [List.setIfInBounds_toArray, List.set_cons_zero, List.set_cons_succ]
    refine RK.Any.take 31 8 (.bool true) rfl rfl (by kernel_rfl) (by kernel_rfl) (by kernel_rfl) (by kernel_rfl) (fun _ _ _ h => h) (by rfl) (fun W' hb => ?_) trivial ?_
    · go_simp
    try simp only [List.setIfInBounds_toArray, List.set_cons_zero, List.set_cons_succ]
    refine RK.Any.done (by kernel_rfl) ?_
    clear n1 n2 n3 t1 t2 t3 HNQ HNM
    go_wp2_with fail
    go_ret
    exact ⟨rfl, HB7.out⟩

set_option maxRecDepth 100000 in
theorem lifted (os : Os) (started : os.Started) (H : Type) (enc : TypeId × Value → H) :
    ReturnsInHanded {} Try.checked os 8 .any (Rows.tapeEvenlySpec.pre6 enc Try.prog Try.f8 Rows.tapeEvenlyRow.domain false) (Rows.tapeEvenlySpec.post enc Try.prog Try.f8 false true false false) := by
  refine returnsInHanded_of_change (C := Try.checked) M.own started (by kernel_rfl) Try.func8
    (ChangeSpec.witness6 (enc := enc) (C := Try.checked) false ⟨#[], #[.int .u64 0, .int .u64 0, .int .u64 0, .int .i64 0], []⟩ 8 (by kernel_rfl) (by kernel_rfl) (by kernel_rfl) (by kernel_rfl)) ?_
  intro W base args ds gs before hval0 hW _ _
  have hval : ∀ (j : Nat) t v, Try.f8.params[j]? = some t → args[j]? = some v → Value.okWide Try.prog W .any base t v := hval0
  have hW' := hW
  obtain ⟨p, q, hA0, hV, rfl, _, _⟩ := hW
  have hA : DataW.TrodAll enc Try.prog W 0 (fun _ => true) true Try.f8.params.toList args.toList ds p := hA0
  rw [Try.params8] at hA hval
  obtain ⟨v0, vs0, d0, ds0, p0, q0, hargs, rfl, rfl, h0, r0⟩ := trodAll_cons hA
  obtain ⟨v1, vs1, d1, ds1, p1, q1, rfl, rfl, rfl, h1, r1⟩ := trodAll_cons r0
  obtain ⟨v2, vs2, d2, ds2, p2, q2, rfl, rfl, rfl, h2, r2⟩ := trodAll_cons r1
  obtain ⟨v3, vs3, d3, ds3, p3, q3, rfl, rfl, rfl, h3, r3⟩ := trodAll_cons r2
  obtain ⟨rfl, rfl, rfl⟩ := trodAll_nil r3
  obtain rfl : args = #[v0, v1, v2, v3] := by cases args; simp_all
  obtain ⟨rfl, rfl⟩ := trodVars_none hV
  have k0 := h0
  have lt0 : ∀ x ∈ p0, x.block < W.heap.size := by obtain ⟨m, hm⟩ := k0; exact DataW.trod_lt m _ _ _ hm
  obtain ⟨x0, rfl, rfl, rfl, w0⟩ := open_int Try.underlying24 (hval 0 24 v0 rfl rfl) h0
  obtain ⟨lo0, hi0⟩ := M.u64_bounds w0
  obtain ⟨a0, rfl⟩ : ∃ a : Nat, x0 = a := ⟨x0.toNat, by omega⟩
  have k1 := h1
  have lt1 : ∀ x ∈ p1, x.block < W.heap.size := by obtain ⟨m, hm⟩ := k1; exact DataW.trod_lt m _ _ _ hm
  obtain ⟨x1, rfl, rfl, rfl, w1⟩ := open_int Try.underlying24 (hval 1 24 v1 rfl rfl) h1
  obtain ⟨lo1, hi1⟩ := M.u64_bounds w1
  obtain ⟨a1, rfl⟩ : ∃ a : Nat, x1 = a := ⟨x1.toNat, by omega⟩
  have k2 := h2
  have lt2 : ∀ x ∈ p2, x.block < W.heap.size := by obtain ⟨m, hm⟩ := k2; exact DataW.trod_lt m _ _ _ hm
  obtain ⟨x2, rfl, rfl, rfl, w2⟩ := open_int Try.underlying24 (hval 2 24 v2 rfl rfl) h2
  obtain ⟨lo2, hi2⟩ := M.u64_bounds w2
  obtain ⟨a2, rfl⟩ : ∃ a : Nat, x2 = a := ⟨x2.toNat, by omega⟩
  have k3 := h3
  have lt3 : ∀ x ∈ p3, x.block < W.heap.size := by obtain ⟨m, hm⟩ := k3; exact DataW.trod_lt m _ _ _ hm
  obtain ⟨x3, rfl, rfl, rfl, w3⟩ := open_int Try.underlying3 (hval 3 3 v3 rfl rfl) h3
  clear hA0 hval0
  simp only [List.append_nil] at hW'
  refine (walk a0 a1 a2 x3 (by omega) (by omega) (by omega) W ).mono fun e W' ⟨he, bel⟩ => ?_
  subst he
  exact ⟨_, rfl, _, _, _, [], _, [], hW', (trodAll_cons_mk (shut_bool Try.underlying4 _) trodAll_mk0), (trodAll_cons_mk (Below.trod M.laidOut (by kernel_rfl) (of_decide_eq_true (by kernel_rfl)) k0 bel lt0) (trodAll_cons_mk (Below.trod M.laidOut (by kernel_rfl) (of_decide_eq_true (by kernel_rfl)) k1 bel lt1) (trodAll_cons_mk (Below.trod M.laidOut (by kernel_rfl) (of_decide_eq_true (by kernel_rfl)) k2 bel lt2) (trodAll_cons_mk (Below.trod M.laidOut (by kernel_rfl) (of_decide_eq_true (by kernel_rfl)) k3 bel lt3) trodAll_mk0)))), rfl, bel.frame _, fun h => by cases h⟩

theorem holds : Rows.TapeEvenlySaid :=
  OpenClaim.holds_of_wide 8 Try.f8 rfl rfl rfl rfl rfl rfl rfl ⟨rfl, rfl, rfl, rfl, rfl⟩ rfl rfl rfl rfl rfl (by kernel_rfl) Try.func8 (by kernel_rfl)
    (of_decide_eq_true (by kernel_rfl)) (by unfold Func.isWrapper; first | (rw [if_pos (by decide +kernel)]; kernel_rfl) | (rw [if_neg (by decide +kernel)]; exact ⟨rfl, rfl⟩))
    (fun os started H enc _ => lifted os started H enc)

end TapeEvenly

theorem tapeEvenly_holds : Rows.TapeEvenlySaid := TapeEvenly.holds
#print axioms tapeEvenly_holds
end Go.Proofs.Ytbappohnljlchaa

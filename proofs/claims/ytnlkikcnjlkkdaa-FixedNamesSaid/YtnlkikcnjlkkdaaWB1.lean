/- The texts ModShelf, ModW1, ModMath, ModDiv, ModDivN, ModMath2, ModW2, one behind the other. -/
import Derived.Test.YtnlkikcnjlkkdaaProg
import Derived.Shelf.Small.Bits
import Derived.Shelf.Strconv.Itoa0
import Derived.Shelf.Bits.Mul64
import Derived.WalkKit
import Derived.WalkSpells
import Derived.Lib.Hide
import Derived.Lib.Mul64
import Derived.Laws.Bits64b
import Derived.KernelRfl
import Derived.Lib.Small
import Derived.Lib.Walk
import Derived.Lib.BitFns
import Derived.Lib.TrailingZeros
import Derived.Deep.QuietTactic
import Derived.BigQuiet
import Derived.Deep.DeepCutAuto
import Derived.Deep.CutBlock
import Derived.Deep.LoopGhost
import Derived.WalkSmall
import Derived.Deep.RegionWith
/- The contracts of the library's functions on bits, as they lie proved on the shelf, laid at this translation. -/
namespace Go.Proofs
open Go.Shelf
def Try.lays134_ren : Go.Shelf.Ren := ⟨fun | 134 => 31 | 129 => 32 | n => n, fun | 53 => 23 | 3 => 3 | 4 => 4 | 46 => 60 | 5 => 5 | 9 => 9 | n => n, fun | n => n⟩
theorem Try.lays134 : Go.Proofs.Lays.n134 Try.prog Try.lays134_ren := {
  mixed := by kernel_rfl
  f129 := Try.func32.trans (congrArg some (by kernel_rfl))
  f134 := Try.func31.trans (congrArg some (by kernel_rfl))
  t3 := Try.underlying3
  a3 := Try.isAgg3
  z3 := Try.sizeOf3
  v3 := Try.zeroValue3
  t4 := Try.underlying4
  a4 := Try.isAgg4
  z4 := Try.sizeOf4
  v4 := Try.zeroValue4
  t5 := Try.underlying5
  a5 := Try.isAgg5
  z5 := Try.sizeOf5
  v5 := Try.zeroValue5
  t9 := Try.underlying9
  a9 := Try.isAgg9
  z9 := Try.sizeOf9
  v9 := Try.zeroValue9
  t46 := Try.underlying60
  a46 := Try.isAgg60
  z46 := Try.sizeOf60
  v46 := Try.zeroValue60
  t53 := Try.underlying23
  a53 := Try.isAgg23
  z53 := Try.sizeOf23
  v53 := Try.zeroValue23 }
theorem Try.bits_LeadingZeros64 (x : Int) (w : World) (h0 : 0 ≤ x) (h1 : x ≤ 18446744073709551615) :
    Calls Try.prog 31 #[.int .u64 x] w fun e w' => e = .returned (.int .i64 (64 - (Lib.bitLen x.toNat : Int))) ∧ w' = w := Any.bits_LeadingZeros64 Try.lays134 x w h0 h1
def Try.lays129_ren : Go.Shelf.Ren := ⟨fun | 129 => 32 | n => n, fun | 53 => 23 | 3 => 3 | 4 => 4 | 46 => 60 | 5 => 5 | 9 => 9 | n => n, fun | n => n⟩
theorem Try.lays129 : Go.Proofs.Lays.n129 Try.prog Try.lays129_ren := {
  mixed := by kernel_rfl
  f129 := Try.func32.trans (congrArg some (by kernel_rfl))
  t3 := Try.underlying3
  a3 := Try.isAgg3
  z3 := Try.sizeOf3
  v3 := Try.zeroValue3
  t4 := Try.underlying4
  a4 := Try.isAgg4
  z4 := Try.sizeOf4
  v4 := Try.zeroValue4
  t5 := Try.underlying5
  a5 := Try.isAgg5
  z5 := Try.sizeOf5
  v5 := Try.zeroValue5
  t9 := Try.underlying9
  a9 := Try.isAgg9
  z9 := Try.sizeOf9
  v9 := Try.zeroValue9
  t46 := Try.underlying60
  a46 := Try.isAgg60
  z46 := Try.sizeOf60
  v46 := Try.zeroValue60
  t53 := Try.underlying23
  a53 := Try.isAgg23
  z53 := Try.sizeOf23
  v53 := Try.zeroValue23 }
theorem Try.bits_Len64 (x : Int) (w : World) (h0 : 0 ≤ x) (h1 : x ≤ 18446744073709551615) :
    Calls Try.prog 32 #[.int .u64 x] w fun e w' => e = .returned (.int .i64 (Lib.bitLen x.toNat)) ∧ w' = w := Any.bits_Len64 Try.lays129 x w h0 h1
def Try.lays264_ren : Go.Shelf.Ren := ⟨fun | 264 => 28 | n => n, fun | 53 => 23 | 46 => 60 | n => n, fun | n => n⟩
theorem Try.lays264 : Go.Proofs.Lays.n264 Try.prog Try.lays264_ren := {
  mixed := by kernel_rfl
  f264 := Try.func28.trans (congrArg some (by kernel_rfl))
  t46 := Try.underlying60
  a46 := Try.isAgg60
  z46 := Try.sizeOf60
  v46 := Try.zeroValue60
  t53 := Try.underlying23
  a53 := Try.isAgg23
  z53 := Try.sizeOf23
  v53 := Try.zeroValue23 }
open Go.RowKit Go.Lib in
theorem Try.bits_Mul64 (x y : Nat) (hx : x < 18446744073709551616) (hy : y < 18446744073709551616) (w : World) :
    Calls Try.prog 28 #[.int .u64 x, .int .u64 y] w fun e w' => e = .returned (.tuple #[.int .u64 ((x * y / 18446744073709551616 : Nat) : Int), .int .u64 ((x * y % 18446744073709551616 : Nat) : Int)]) ∧ w' = w := Any.bits_Mul64 Try.lays264 x y hx hy w
end Go.Proofs
/- The first walks over package mod: whether there are numbers modulo m (allowed); the product of two numbers of 64 bits (bits.Mul64); how long a number is (bits.Len64, bits.LeadingZeros64). -/
namespace Go.Proofs.Ytnlkikcnjlkkdaa
open Go Go.RowKit Go.Lib
namespace M

theorem allowed_ok (m : Nat) (h0 : 0 < m) (h1 : m ≤ 2305843009213693952) (w : World) :
    Calls Try.prog 25 #[.int .u64 m] w fun e w' => e = .returned (.bool true) ∧ w = w' := by
  have hb : ((0 : Int) < (m : Int)) := by omega
  have hc : decide ((m : Int) ≤ 2305843009213693952) = true := decide_eq_true (by omega)
  go_enter Try.func25, Try.ntmps25
  go_wp2_with fail
  go_ret
  exact ⟨rfl, rfl⟩

theorem allowed_no (m : Nat) (h : m = 0 ∨ 2305843009213693952 < m) (w : World) :
    Calls Try.prog 25 #[.int .u64 m] w fun e w' => e = .returned (.bool false) ∧ w = w' := by
  rcases h with rfl | h
  · go_enter Try.func25, Try.ntmps25
    go_wp2_with fail
    go_ret
    exact ⟨rfl, rfl⟩
  · have hb : ((0 : Int) < (m : Int)) := by omega
    have hc : decide ((m : Int) ≤ 2305843009213693952) = false := decide_eq_false (by omega)
    go_enter Try.func25, Try.ntmps25
    go_wp2_with fail
    go_ret
    exact ⟨rfl, rfl⟩

theorem maskN (a : Nat) (ha : a < 18446744073709551616) : bits .and .u64 (a : Int) 4294967295 = ((a % 4294967296 : Nat) : Int) := by
  have h := bits_and_u64_nat a 4294967295 ha (by omega)
  have e : a &&& 4294967295 = a % 4294967296 := Nat.and_two_pow_sub_one_eq_mod a 32
  rw [e] at h
  exact h
theorem divN (a : Nat) : (a : Int) / 4294967296 = ((a / 4294967296 : Nat) : Int) := by omega
theorem mulN (a b : Nat) : (a : Int) * (b : Int) = ((a * b : Nat) : Int) := (Int.natCast_mul a b).symm
theorem addN (a b : Nat) : (a : Int) + (b : Int) = ((a + b : Nat) : Int) := (Int.natCast_add a b).symm
theorem wrapN (a : Nat) (ha : a < 18446744073709551616) : IntKind.u64.wrap (a : Int) = (a : Int) := by rw [IntKind.wrap_u64]; omega
theorem wrapM (a : Nat) : IntKind.u64.wrap (a : Int) = ((a % 18446744073709551616 : Nat) : Int) := by rw [IntKind.wrap_u64]; omega

theorem mul64_any (x y : Nat) (hx : x < 18446744073709551616) (hy : y < 18446744073709551616) (w : World) :
    Calls Try.prog 28 #[.int .u64 x, .int .u64 y] w fun e w' => e = .returned (.tuple #[.int .u64 ((x * y / 18446744073709551616 : Nat) : Int), .int .u64 ((x * y % 18446744073709551616 : Nat) : Int)]) ∧ w = w' :=
  (Try.bits_Mul64 x y hx hy w).mono fun _ _ h => ⟨h.1, h.2.symm⟩

theorem lead64_any (x : Int) (w : World) (h0 : 0 ≤ x) (h1 : x ≤ 18446744073709551615) :
    Calls Try.prog 31 #[.int .u64 x] w fun e w' => e = .returned (.int .i64 (64 - (Lib.bitLen x.toNat : Int))) ∧ w = w' :=
  (Try.bits_LeadingZeros64 x w h0 h1).mono fun _ _ h => ⟨h.1, h.2.symm⟩

end M
end Go.Proofs.Ytnlkikcnjlkkdaa
/- Plain facts on numbers that the walks over package mod lean on: a long division digit by digit, sums and products modulo a number, powers, the common divisor. Nothing here speaks of the program. -/
namespace Go.Proofs.Ytnlkikcnjlkkdaa
namespace MM

/-- What the correcting loop of one digit keeps: D = v1 * 2^32 + v0, the number is U * 2^32 + z; q is never below the digit. -/
structure Dig (U D v1 v0 z q r : Nat) : Prop where
  eD : D = v1 * 4294967296 + v0
  h1 : 2147483648 ≤ v1
  h1' : v1 < 4294967296
  h0 : v0 < 4294967296
  hU : U < D
  hz : z < 4294967296
  sum : q * v1 + r = U
  low : (U * 4294967296 + z) / D ≤ q
  rr : r < 4294967296
  qq : q < 17179869184

theorem mulD (q v1 v0 D : Nat) (e : D = v1 * 4294967296 + v0) : q * D = q * v1 * 4294967296 + q * v0 := by
  rw [e, Nat.mul_add, ← Nat.mul_assoc]

theorem dig_start (U D v1 v0 z : Nat) (eD : D = v1 * 4294967296 + v0) (h1 : 2147483648 ≤ v1) (h1' : v1 < 4294967296) (h0 : v0 < 4294967296) (hU : U < D) (hz : z < 4294967296) :
    Dig U D v1 v0 z (U / v1) (U % v1) := by
  have hs : U / v1 * v1 + U % v1 = U := Nat.div_add_mod' U v1
  have hr := Nat.mod_lt U (show 0 < v1 by omega)
  have hq : U / v1 < 17179869184 := by
    rw [Nat.div_lt_iff_lt_mul (by omega)]
    have : 17179869184 * 2147483648 ≤ 17179869184 * v1 := Nat.mul_le_mul_left _ h1
    omega
  refine ⟨eD, h1, h1', h0, hU, hz, hs, ?_, by omega, hq⟩
  generalize U / v1 = q at *
  generalize U % v1 = r at *
  have : (U * 4294967296 + z) / D < q + 1 := by
    rw [Nat.div_lt_iff_lt_mul (by omega), Nat.succ_mul, mulD q v1 v0 D eD]
    generalize q * v1 = a at *
    generalize q * v0 = b at *
    omega
  omega

theorem Dig.more {U D v1 v0 z q r : Nat} (h : Dig U D v1 v0 z q r) (hc : 4294967296 ≤ q ∨ 4294967296 * r + z < q * v0) :
    1 ≤ q ∧ (q - 1) * v1 + (r + v1) = U ∧ (U * 4294967296 + z) / D ≤ q - 1 := by
  have hq : 1 ≤ q := by
    rcases hc with hc | hc
    · omega
    · rcases Nat.eq_zero_or_pos q with e | e
      · subst e; simp at hc
      · exact e
  have hs := h.sum
  have hlt : (U * 4294967296 + z) / D < q := by
    have hD := h.h1
    have e0 := h.eD
    rw [Nat.div_lt_iff_lt_mul (by omega), mulD q v1 v0 D h.eD]
    rcases hc with hc | hc
    · have := h.hU
      have := h.hz
      have h2 : 4294967296 * D ≤ q * D := Nat.mul_le_mul_right _ hc
      rw [mulD q v1 v0 D h.eD] at h2
      omega
    · generalize q * v1 = a at *
      generalize q * v0 = b at *
      omega
  refine ⟨hq, ?_, by omega⟩
  obtain ⟨p, rfl⟩ : ∃ p, q = p + 1 := ⟨q - 1, by omega⟩
  rw [Nat.succ_mul] at hs
  show (p + 1 - 1) * v1 + (r + v1) = U
  rw [Nat.add_sub_cancel]
  omega

theorem Dig.next {U D v1 v0 z q r : Nat} (h : Dig U D v1 v0 z q r) (hc : 4294967296 ≤ q ∨ 4294967296 * r + z < q * v0) (hr : r + v1 < 4294967296) :
    Dig U D v1 v0 z (q - 1) (r + v1) := by
  obtain ⟨a, b, c⟩ := h.more hc
  exact ⟨h.eD, h.h1, h.h1', h.h0, h.hU, h.hz, b, c, hr, by have := h.qq; omega⟩

theorem Dig.out1 {U D v1 v0 z q r : Nat} (h : Dig U D v1 v0 z q r) (hc : 4294967296 ≤ q ∨ 4294967296 * r + z < q * v0) (hr : 4294967296 ≤ r + v1) :
    q - 1 = (U * 4294967296 + z) / D := by
  obtain ⟨a, b, c⟩ := h.more hc
  have hq : q - 1 < 4294967296 := by
    have hlt : (q - 1) * v1 < 4294967296 * v1 := by
      have := h.hU
      have := h.eD
      have := h.h0
      omega
    exact Nat.lt_of_mul_lt_mul_right hlt
  refine Nat.le_antisymm ?_ c
  have e0 := h.eD
  have := h.h1
  rw [Nat.le_div_iff_mul_le (by omega), mulD (q - 1) v1 v0 D h.eD]
  have h3 : (q - 1) * v0 ≤ 4294967296 * v0 := Nat.mul_le_mul_right _ (by omega)
  have := h.h0
  generalize (q - 1) * v1 = x at *
  generalize (q - 1) * v0 = y at *
  omega

theorem Dig.out2 {U D v1 v0 z q r : Nat} (h : Dig U D v1 v0 z q r) (hc : q * v0 ≤ 4294967296 * r + z) :
    q = (U * 4294967296 + z) / D := by
  refine Nat.le_antisymm ?_ h.low
  have e0 := h.eD
  have := h.h1
  have hs := h.sum
  rw [Nat.le_div_iff_mul_le (by omega), mulD q v1 v0 D h.eD]
  generalize q * v1 = x at *
  generalize q * v0 = y at *
  omega

theorem Dig.prod {U D v1 v0 z q r : Nat} (h : Dig U D v1 v0 z q r) (hq : q < 4294967296) : q * v0 < 18446744073709551616 := by
  have h1 : q * v0 ≤ 4294967295 * v0 := Nat.mul_le_mul_right _ (by omega)
  have := h.h0
  omega

/-- What is left after one digit, reckoned with numbers that go round at 2^64. -/
theorem left_round (U D z q : Nat) (hU : U < D) (hD : D < 18446744073709551616) (hq : q = (U * 4294967296 + z) / D) :
    ((U * 4294967296 : Int) + z - (q : Int) * D) % 18446744073709551616 = (((U * 4294967296 + z) % D : Nat) : Int) := by
  have h1 := Nat.div_add_mod' (U * 4294967296 + z) D
  rw [← hq] at h1
  have h2 := Nat.mod_lt (U * 4294967296 + z) (show 0 < D by omega)
  generalize (U * 4294967296 + z) % D = m at *
  have h3 : (q : Int) * D = ((q * D : Nat) : Int) := (Int.natCast_mul q D).symm
  rw [h3]
  generalize q * D = p at *
  omega

end MM
end Go.Proofs.Ytnlkikcnjlkkdaa
/- The walk of bits.Div64, the long division of a number of 128 bits by one of 64: what is left over. -/
namespace Go.Proofs.Ytnlkikcnjlkkdaa
open Go Go.RowKit Go.Lib
namespace M

theorem int_eq {k : IntKind} {a b : Int} (h : a = b) : Value.int k a = Value.int k b := by rw [h]

set_option maxHeartbeats 1000000 in
theorem div64_core (hi lo y s D U L v1 v0 z1 z0 q0 r0 T R q1 r1 T2 R2 rem : Nat) (hy : 0 < y) (hhi : hi < y) (hpos : 0 < hi)
   (hD : IntKind.u64.wrap ((y : Int) * 2 ^ s) = (D : Int)) (hU : bits BinOp.or IntKind.u64 (IntKind.u64.wrap ((hi : Int) * 2 ^ s)) ((lo : Int) / 2 ^ (64 - s)) = (U : Int))
   (hL : IntKind.u64.wrap ((lo : Int) * 2 ^ s) = (L : Int)) (hv1 : (D : Int) / 4294967296 = (v1 : Int)) (hv0 : bits BinOp.and IntKind.u64 (D : Int) 4294967295 = (v0 : Int))
   (hz1 : (L : Int) / 4294967296 = (z1 : Int)) (hz0 : bits BinOp.and IntKind.u64 (L : Int) 4294967295 = (z0 : Int))
   (hq0 : IntKind.u64.wrap ((U : Int) / (v1 : Int)) = (q0 : Int)) (hr0 : IntKind.u64.wrap ((U : Int) - IntKind.u64.wrap ((q0 : Int) * (v1 : Int))) = (r0 : Int))
   (hR : IntKind.u64.wrap (IntKind.u64.wrap (IntKind.u64.wrap ((U : Int) * 4294967296) + (z1 : Int)) - IntKind.u64.wrap ((T : Int) * (D : Int))) = (R : Int))
   (hq1 : IntKind.u64.wrap ((R : Int) / (v1 : Int)) = (q1 : Int)) (hr1 : IntKind.u64.wrap ((R : Int) - IntKind.u64.wrap ((q1 : Int) * (v1 : Int))) = (r1 : Int))
   (hR2 : IntKind.u64.wrap (IntKind.u64.wrap (IntKind.u64.wrap ((R : Int) * 4294967296) + (z0 : Int)) - IntKind.u64.wrap ((T2 : Int) * (D : Int))) = (R2 : Int))
   (hrem : (R2 : Int) / 2 ^ s = (rem : Int))
   (hv1p : 0 < v1)
   (hd1 : MM.Dig U D v1 v0 z1 q0 r0) (hT1 : T = (U * 4294967296 + z1) / D)
   (hd2 : MM.Dig R D v1 v0 z0 q1 r1) (hT2 : T2 = (R * 4294967296 + z0) / D)
   (hs2 : 2 ≤ s) (hs3 : s ≤ 62) (w : World)
   (hc : ∀ W : World, Calls Try.prog 31 #[.int .u64 y] W fun e w' => e = .returned (.int .i64 (s : Int)) ∧ W = w') :
    Calls Try.prog 30 #[.int .u64 hi, .int .u64 lo, .int .u64 y] w fun e w' => (∃ q : Int, e = .returned (.tuple #[.int .u64 q, .int .u64 (rem : Int)])) ∧ ∃ n, w' = w.drewN n := by
  have h0 : ((y : Int) == 0) = false := by simp; omega
  have h1 : ¬ ((y : Int) ≤ hi) := by omega
  have h2 : ((hi : Int) == 0) = false := by simp; omega
  have HC := Lib.hid hc
  clear hc
  have HDz1 := Lib.hid hd1
  have HDz0 := Lib.hid hd2
  have HTz1 := Lib.hid hT1
  have HTz0 := Lib.hid hT2
  clear hd1 hd2 hT1 hT2
  go_enter Try.func30, Try.ntmps30
  go_upto_block 0 with (go_at_call 31; refine (HC.out _).mono ?_; rintro e w' ⟨rfl, rfl⟩)
  clear hD hU hL hv1 hv0 hz1 hz0 hq0 hr0
  go_cut [15, 16] (fun s15 _ wx => wx = w ∧ s15 = .int .u64 (T : Int))
  case first =>
    go_wp2_with fail
    go_loopg [15, 16] q0 (fun g s15 s16 wx => wx = w ∧ ∃ q r : Nat, q = g ∧ s15 = .int .u64 (q : Int) ∧ s16 = .int .u64 (r : Int) ∧ MM.Dig U D v1 v0 z1 q r)
    case atStart => exact ⟨rfl, _, _, rfl, rfl, rfl, HDz1.out⟩
    case round =>
      obtain ⟨rfl, q, r, rfl, rfl, rfl, hdig⟩ := hrel
      have b1 := hdig.h1'
      have b2 := hdig.hz
      have b3 := hdig.rr
      have b4 := hdig.qq
      by_cases hq : 4294967296 ≤ q
      · have hm := (hdig.more (.inl hq)).1
        have hqd : decide ((4294967296 : Int) ≤ (q : Int)) = true := decide_eq_true (by omega)
        by_cases hr : 4294967296 ≤ r + v1
        · have hT := Lib.hid (hdig.out1 (.inl hq) hr)
          clear hdig
          have hrd : decide ((4294967296 : Int) ≤ (r : Int) + (v1 : Int)) = true := decide_eq_true (by omega)
          go_wp2
          go_meet
          exact ⟨rfl, int_eq (by have h := hT.out; have h' := HTz1.out; omega)⟩
        · have hN := Lib.hid (hdig.next (.inl hq) (by omega))
          clear hdig
          have hrd : decide ((4294967296 : Int) ≤ (r : Int) + (v1 : Int)) = false := decide_eq_false (by omega)
          go_wp2
          go_roundg (q - 1)
          case measure => omega
          case rel => exact ⟨rfl, q - 1, r + v1, rfl, int_eq (by omega), int_eq (by omega), hN.out⟩
      · have hx := hdig.prod (by omega)
        obtain ⟨x, hxe⟩ : ∃ x, q * v0 = x := ⟨_, rfl⟩
        rw [hxe] at hx
        have exw : IntKind.u64.wrap ((q : Int) * (v0 : Int)) = (x : Int) := by rw [mulN, hxe, wrapN _ hx]
        have hqd : decide ((4294967296 : Int) ≤ (q : Int)) = false := decide_eq_false (by omega)
        by_cases ht : 4294967296 * r + z1 < x
        · have htd : decide ((4294967296 : Int) * (r : Int) + (z1 : Int) < (x : Int)) = true := decide_eq_true (by omega)
          have hm := (hdig.more (.inr (by rw [hxe]; exact ht))).1
          by_cases hr : 4294967296 ≤ r + v1
          · have hT := Lib.hid (hdig.out1 (.inr (by rw [hxe]; exact ht)) hr)
            clear hdig
            have HX := Lib.hid hxe
            clear hxe
            have hrd : decide ((4294967296 : Int) ≤ (r : Int) + (v1 : Int)) = true := decide_eq_true (by omega)
            go_wp2
            go_meet
            exact ⟨rfl, int_eq (by have h := hT.out; have h' := HTz1.out; omega)⟩
          · have hN := Lib.hid (hdig.next (.inr (by rw [hxe]; exact ht)) (by omega))
            clear hdig
            have HX := Lib.hid hxe
            clear hxe
            have hrd : decide ((4294967296 : Int) ≤ (r : Int) + (v1 : Int)) = false := decide_eq_false (by omega)
            go_wp2
            go_roundg (q - 1)
            case measure => omega
            case rel => exact ⟨rfl, q - 1, r + v1, rfl, int_eq (by omega), int_eq (by omega), hN.out⟩
        · have hT := Lib.hid (hdig.out2 (by rw [hxe]; omega))
          clear hdig
          have HX := Lib.hid hxe
          clear hxe
          have htd : decide ((4294967296 : Int) * (r : Int) + (z1 : Int) < (x : Int)) = false := decide_eq_false (by omega)
          go_wp2
          go_meet
          exact ⟨rfl, int_eq (by have h := hT.out; have h' := HTz1.out; omega)⟩
  case rest =>
    obtain ⟨rfl, rfl⟩ := hcut
    go_upto_block 2 with fail
    clear hR hq1 hr1
    go_cut [18, 16] (fun s18 _ wx => wx = wc ∧ s18 = .int .u64 (T2 : Int))
    case first =>
      go_wp2_with fail
      go_loopg [18, 16] q1 (fun g s15 s16 wx => wx = wc ∧ ∃ q r : Nat, q = g ∧ s15 = .int .u64 (q : Int) ∧ s16 = .int .u64 (r : Int) ∧ MM.Dig R D v1 v0 z0 q r)
      case atStart => exact ⟨rfl, _, _, rfl, rfl, rfl, HDz0.out⟩
      case round =>
        obtain ⟨rfl, q, r, rfl, rfl, rfl, hdig⟩ := hrel
        have b1 := hdig.h1'
        have b2 := hdig.hz
        have b3 := hdig.rr
        have b4 := hdig.qq
        by_cases hq : 4294967296 ≤ q
        · have hm := (hdig.more (.inl hq)).1
          have hqd : decide ((4294967296 : Int) ≤ (q : Int)) = true := decide_eq_true (by omega)
          by_cases hr : 4294967296 ≤ r + v1
          · have hT := Lib.hid (hdig.out1 (.inl hq) hr)
            clear hdig
            have hrd : decide ((4294967296 : Int) ≤ (r : Int) + (v1 : Int)) = true := decide_eq_true (by omega)
            go_wp2
            go_meet
            exact ⟨rfl, int_eq (by have h := hT.out; have h' := HTz0.out; omega)⟩
          · have hN := Lib.hid (hdig.next (.inl hq) (by omega))
            clear hdig
            have hrd : decide ((4294967296 : Int) ≤ (r : Int) + (v1 : Int)) = false := decide_eq_false (by omega)
            go_wp2
            go_roundg (q - 1)
            case measure => omega
            case rel => exact ⟨rfl, q - 1, r + v1, rfl, int_eq (by omega), int_eq (by omega), hN.out⟩
        · have hx := hdig.prod (by omega)
          obtain ⟨x, hxe⟩ : ∃ x, q * v0 = x := ⟨_, rfl⟩
          rw [hxe] at hx
          have exw : IntKind.u64.wrap ((q : Int) * (v0 : Int)) = (x : Int) := by rw [mulN, hxe, wrapN _ hx]
          have hqd : decide ((4294967296 : Int) ≤ (q : Int)) = false := decide_eq_false (by omega)
          by_cases ht : 4294967296 * r + z0 < x
          · have htd : decide ((4294967296 : Int) * (r : Int) + (z0 : Int) < (x : Int)) = true := decide_eq_true (by omega)
            have hm := (hdig.more (.inr (by rw [hxe]; exact ht))).1
            by_cases hr : 4294967296 ≤ r + v1
            · have hT := Lib.hid (hdig.out1 (.inr (by rw [hxe]; exact ht)) hr)
              clear hdig
              have HX := Lib.hid hxe
              clear hxe
              have hrd : decide ((4294967296 : Int) ≤ (r : Int) + (v1 : Int)) = true := decide_eq_true (by omega)
              go_wp2
              go_meet
              exact ⟨rfl, int_eq (by have h := hT.out; have h' := HTz0.out; omega)⟩
            · have hN := Lib.hid (hdig.next (.inr (by rw [hxe]; exact ht)) (by omega))
              clear hdig
              have HX := Lib.hid hxe
              clear hxe
              have hrd : decide ((4294967296 : Int) ≤ (r : Int) + (v1 : Int)) = false := decide_eq_false (by omega)
              go_wp2
              go_roundg (q - 1)
              case measure => omega
              case rel => exact ⟨rfl, q - 1, r + v1, rfl, int_eq (by omega), int_eq (by omega), hN.out⟩
          · have hT := Lib.hid (hdig.out2 (by rw [hxe]; omega))
            clear hdig
            have HX := Lib.hid hxe
            clear hxe
            have htd : decide ((4294967296 : Int) * (r : Int) + (z0 : Int) < (x : Int)) = false := decide_eq_false (by omega)
            go_wp2
            go_meet
            exact ⟨rfl, int_eq (by have h := hT.out; have h' := HTz0.out; omega)⟩
    case rest =>
      obtain ⟨rfl, rfl⟩ := hcut
      go_wp2_with fail
      go_ret2
      exact ⟨⟨_, rfl⟩, ⟨0, rfl⟩⟩
end M
end Go.Proofs.Ytnlkikcnjlkkdaa
/- What bits.Div64 and bits.Rem64 leave over, in plain numbers: the remainder of hi * 2^64 + lo by y, for every y from 1 to 2^61. -/
namespace Go.Proofs.Ytnlkikcnjlkkdaa
open Go Go.RowKit Go.Lib
namespace MM

theorem bitLen_bounds : ∀ (k y : Nat), 0 < y → y < 2 ^ k → k ≤ 64 → y < 2 ^ Lib.bitLen y ∧ 2 ^ Lib.bitLen y ≤ 2 * y
  | 0, y, h, h1, _ => by simp at h1; omega
  | k + 1, y, h, h1, hk => by
    have h64 : y < 2 ^ 64 := Nat.lt_of_lt_of_le h1 (Nat.pow_le_pow_right (by omega) hk)
    rw [Lib.bitLen_half y (by omega) h64]
    rcases Nat.eq_zero_or_pos (y / 2) with e | e
    · rw [e]
      have hz : Lib.bitLen 0 = 0 := by decide
      rw [hz]
      constructor <;> simp <;> omega
    · have h2 : y / 2 < 2 ^ k := by rw [Nat.pow_succ] at h1; omega
      obtain ⟨a, b⟩ := bitLen_bounds k (y / 2) e h2 (by omega)
      rw [Nat.pow_add, Nat.pow_one]
      generalize 2 ^ Lib.bitLen (y / 2) = p at *
      constructor <;> omega

theorem shift_or (a b s : Nat) (h : b < 2 ^ s) : (a * 2 ^ s) ||| b = a * 2 ^ s + b := by
  rw [Nat.mul_comm]; exact (Nat.two_pow_add_eq_or_of_lt h a).symm

theorem split_shift (lo s t : Nat) (hst : s + t = 64) : lo * 2 ^ s / 18446744073709551616 = lo / 2 ^ t := by
  have e : (18446744073709551616 : Nat) = 2 ^ s * 2 ^ t := by rw [← Nat.pow_add, hst]
  rw [e, Nat.mul_comm lo, Nat.mul_div_mul_left _ _ (Nat.two_pow_pos s)]

theorem rem_all (hi lo y s U z1 z0 : Nat) (hU : U = hi * 2 ^ s + lo * 2 ^ s / 18446744073709551616) (h1 : z1 = lo * 2 ^ s % 18446744073709551616 / 4294967296) (h0 : z0 = lo * 2 ^ s % 18446744073709551616 % 4294967296) :
    ((U * 4294967296 + z1) % (y * 2 ^ s) * 4294967296 + z0) % (y * 2 ^ s) / 2 ^ s = (hi * 18446744073709551616 + lo) % y := by
  have e : (U * 4294967296 + z1) * 4294967296 + z0 = (hi * 18446744073709551616 + lo) * 2 ^ s := by
    rw [Nat.add_mul, Nat.add_mul (hi * 18446744073709551616), Nat.mul_right_comm hi]
    generalize lo * 2 ^ s = x at *
    generalize hi * 2 ^ s = g at *
    omega
  have e2 : ((U * 4294967296 + z1) % (y * 2 ^ s) * 4294967296 + z0) % (y * 2 ^ s) = ((U * 4294967296 + z1) * 4294967296 + z0) % (y * 2 ^ s) := by
    rw [Nat.add_mod, Nat.mul_mod, Nat.mod_mod, ← Nat.mul_mod, ← Nat.add_mod]
  rw [e2, e, Nat.mul_mod_mul_right, Nat.mul_div_cancel _ (Nat.two_pow_pos s)]
end MM

namespace M
theorem wrap_left (U D z T : Nat) (hU : U < D) (hD : D < 18446744073709551616) (hT : T = (U * 4294967296 + z) / D) :
    IntKind.u64.wrap (IntKind.u64.wrap (IntKind.u64.wrap ((U : Int) * 4294967296) + (z : Int)) - IntKind.u64.wrap ((T : Int) * (D : Int))) = (((U * 4294967296 + z) % D : Nat) : Int) := by
  have h := MM.left_round U D z T hU hD hT
  simp only [IntKind.wrap_u64]
  rw [← h]
  generalize (T : Int) * (D : Int) = p at *
  omega

theorem wrap_rest (U v : Nat) (hU : U < 18446744073709551616) (hv : 0 < v) :
    IntKind.u64.wrap ((U : Int) - IntKind.u64.wrap (((U / v : Nat) : Int) * (v : Int))) = ((U % v : Nat) : Int) := by
  have h := Nat.div_add_mod' U v
  have h2 := Nat.mod_lt U hv
  rw [mulN]
  generalize U % v = m at *
  generalize U / v * v = p at *
  rw [wrapN p (by omega), IntKind.wrap_u64]
  omega

theorem wrap_quo (U v : Nat) (hU : U < 18446744073709551616) : IntKind.u64.wrap ((U : Int) / (v : Int)) = ((U / v : Nat) : Int) := by
  have h : (U : Int) / (v : Int) = ((U / v : Nat) : Int) := by simp
  rw [h, wrapN]
  exact Nat.lt_of_le_of_lt (Nat.div_le_self _ _) hU

set_option maxHeartbeats 1000000 in
theorem div64_any (hi lo y : Nat) (hy : 0 < y) (hhi : hi < y) (hb : y ≤ 2305843009213693952) (hlo : lo < 18446744073709551616) (w : World) :
    Calls Try.prog 30 #[.int .u64 hi, .int .u64 lo, .int .u64 y] w fun e w' => (∃ q : Int, e = .returned (.tuple #[.int .u64 q, .int .u64 (((hi * 18446744073709551616 + lo) % y : Nat) : Int)])) ∧ ∃ n, w' = w.drewN n := by
  rcases Nat.eq_zero_or_pos hi with rfl | hpos
  · have h0 : ((y : Int) == 0) = false := by simp; omega
    have h1 : ¬ ((y : Int) ≤ 0) := by omega
    have hm := Nat.mod_lt lo hy
    have em : (0 * 18446744073709551616 + lo) % y = lo % y := by simp
    rw [em]
    go_enter Try.func30, Try.ntmps30
    go_wp2_with fail
    go_quiet (fail)
    go_wp2_with fail
    go_ret2
    exact ⟨⟨_, by first | rfl | simp⟩, ⟨_, rfl⟩⟩
  · obtain ⟨hb1, hb2⟩ := MM.bitLen_bounds 64 y hy (by omega) (by omega)
    have hL : Lib.bitLen y ≤ 62 := Lib.bitLen_le y 62 (by omega) (by omega)
    have hL2 : 2 ≤ Lib.bitLen y := by
      rcases Nat.lt_or_ge (Lib.bitLen y) 2 with h | h
      · have : 2 ^ Lib.bitLen y ≤ 2 ^ 1 := Nat.pow_le_pow_right (by omega) (by omega)
        omega
      · exact h
    obtain ⟨s, hs⟩ : ∃ s, s + Lib.bitLen y = 64 := ⟨64 - Lib.bitLen y, by omega⟩
    have hc : ∀ W : World, Calls Try.prog 31 #[.int .u64 y] W fun e w' => e = .returned (.int .i64 (s : Int)) ∧ W = w' := by
      intro W
      have h := lead64_any y W (by omega) (by omega)
      rw [Int.toNat_natCast, show (64 - (Lib.bitLen y : Int)) = (s : Int) by omega] at h
      exact h
    generalize hbl : Lib.bitLen y = t at *
    have hp : 2 ^ s * 2 ^ t = 18446744073709551616 := by rw [← Nat.pow_add, hs]
    have hpt := Nat.two_pow_pos t
    have hps := Nat.two_pow_pos s
    -- D
    have hD1 : y * 2 ^ s < 18446744073709551616 := by
      rw [← hp, Nat.mul_comm]; exact Nat.mul_lt_mul_of_pos_left hb1 hps
    have hD2 : 9223372036854775808 ≤ y * 2 ^ s := by
      have : 2 ^ t * 2 ^ s ≤ 2 * y * 2 ^ s := Nat.mul_le_mul_right _ hb2
      rw [Nat.mul_comm, hp, Nat.mul_assoc] at this
      omega
    have hspl := MM.split_shift lo s t hs
    have hH : hi * 2 ^ s + 2 ^ s ≤ y * 2 ^ s := by rw [← Nat.succ_mul]; exact Nat.mul_le_mul_right _ hhi
    have hlo2 : lo / 2 ^ t < 2 ^ s := by
      rw [Nat.div_lt_iff_lt_mul hpt, hp]; exact hlo
    have eU : (hi * 2 ^ s) ||| (lo / 2 ^ t) = hi * 2 ^ s + lo * 2 ^ s / 18446744073709551616 := by rw [MM.shift_or _ _ _ hlo2, hspl]
    have hUlt : hi * 2 ^ s + lo * 2 ^ s / 18446744073709551616 < y * 2 ^ s := by rw [hspl]; omega
    obtain ⟨U, hUe⟩ : ∃ U, U = hi * 2 ^ s + lo * 2 ^ s / 18446744073709551616 := ⟨_, rfl⟩
    rw [← hUe] at eU hUlt
    have hts : 64 - s = t := by omega
    have c2 : ∀ a : Nat, ((a : Int) * 2 ^ s) = ((a * 2 ^ s : Nat) : Int) := fun a => by rw [Int.natCast_mul, Int.natCast_pow]; rfl
    have c3 : ((lo : Int) / 2 ^ (64 - s)) = ((lo / 2 ^ t : Nat) : Int) := by rw [hts, Int.natCast_ediv, Int.natCast_pow]; rfl
    have hlt2 : lo / 2 ^ t < 18446744073709551616 := Nat.lt_of_le_of_lt (Nat.div_le_self _ _) hlo
    have hH2 : hi * 2 ^ s < 18446744073709551616 := by omega
    have R1 := Nat.mod_lt (U * 4294967296 + lo * 2 ^ s % 18446744073709551616 / 4294967296) (show 0 < y * 2 ^ s by omega)
    have hv1 : 2147483648 ≤ y * 2 ^ s / 4294967296 := by omega
    have hd1 : MM.Dig U (y * 2 ^ s) (y * 2 ^ s / 4294967296) (y * 2 ^ s % 4294967296) (lo * 2 ^ s % 18446744073709551616 / 4294967296) _ _ :=
      MM.dig_start U _ _ _ _ (by omega) hv1 (by omega) (by omega) hUlt (by omega)
    have hd2 : MM.Dig ((U * 4294967296 + lo * 2 ^ s % 18446744073709551616 / 4294967296) % (y * 2 ^ s)) (y * 2 ^ s) (y * 2 ^ s / 4294967296) (y * 2 ^ s % 4294967296) (lo * 2 ^ s % 18446744073709551616 % 4294967296) _ _ :=
      MM.dig_start _ _ _ _ _ (by omega) hv1 (by omega) (by omega) R1 (by omega)
    have hrem := MM.rem_all hi lo y s U _ _ hUe rfl rfl
    rw [← hrem]
    refine div64_core hi lo y s (y * 2 ^ s) U (lo * 2 ^ s % 18446744073709551616) _ _ _ _ _ _ _ _ _ _ _ _ _ hy hhi hpos
      (by rw [c2, wrapN _ hD1]) ?_ (by rw [c2, wrapM]) (divN _) (maskN _ hD1) (divN _) (maskN _ (by omega))
      (wrap_quo _ _ (by omega)) (wrap_rest _ _ (by omega) (by omega)) (wrap_left _ _ _ _ hUlt hD1 rfl) (wrap_quo _ _ (by omega)) (wrap_rest _ _ (by omega) (by omega))
      (wrap_left _ _ _ _ R1 hD1 rfl) ?_ (by omega) hd1 rfl hd2 rfl (by omega) (by omega) w hc
    · rw [c2, wrapN _ hH2, c3, bits_or_u64_nat _ _ hH2 hlt2, eU]
    · rw [Int.natCast_ediv, Int.natCast_pow]; rfl

theorem rem64_core (hi lo y h r : Nat) (hy : 0 < y) (e1 : ((hi : Int) % (y : Int)) = (h : Int))
    (hc : ∀ W : World, Calls Try.prog 30 #[.int .u64 h, .int .u64 lo, .int .u64 y] W fun e w' => (∃ q : Int, e = .returned (.tuple #[.int .u64 q, .int .u64 (r : Int)])) ∧ ∃ n, w' = W.drewN n) (w : World) :
    Calls Try.prog 29 #[.int .u64 hi, .int .u64 lo, .int .u64 y] w fun e w' => e = .returned (.int .u64 (r : Int)) ∧ ∃ n, w' = w.drewN n := by
  have HC := Lib.hid hc
  clear hc
  go_enter Try.func29, Try.ntmps29
  go_wp2_with (go_at_call 30; refine (HC.out _).mono ?_; rintro e w' ⟨⟨q, rfl⟩, n, rfl⟩)
  go_ret
  exact ⟨rfl, ⟨_, rfl⟩⟩

theorem rem64_any (hi lo y : Nat) (hy : 0 < y) (hb : y ≤ 2305843009213693952) (hlo : lo < 18446744073709551616) (w : World) :
    Calls Try.prog 29 #[.int .u64 hi, .int .u64 lo, .int .u64 y] w fun e w' => e = .returned (.int .u64 (((hi * 18446744073709551616 + lo) % y : Nat) : Int)) ∧ ∃ n, w' = w.drewN n := by
  have hm := Nat.mod_lt hi hy
  have e3 : (hi % y * 18446744073709551616 + lo) % y = (hi * 18446744073709551616 + lo) % y := by
    rw [Nat.add_mod, Nat.mul_mod, Nat.mod_mod, ← Nat.mul_mod, ← Nat.add_mod]
  rw [← e3]
  exact rem64_core hi lo y (hi % y) _ hy (Int.natCast_emod hi y).symm (div64_any (hi % y) lo y hy hm hb hlo) w
end M
end Go.Proofs.Ytnlkikcnjlkkdaa
/- Plain facts on sums, products, powers and inverses modulo a number. Nothing here speaks of the program. -/
namespace Go.Proofs.Ytnlkikcnjlkkdaa
namespace MM
/-- The difference modulo m, as the program reckons it. -/
def subm (a b m : Nat) : Nat := (a % m + m - b % m) % m
/-- The power modulo m. -/
def powm (a e m : Nat) : Nat := a ^ e % m

/-- What the loop of the power keeps. -/
structure PowAt (a0 e0 m p a e : Nat) : Prop where
  lt : p < m
  eq : p * a ^ e % m = powm a0 e0 m

theorem mul_mod_left' (a b m : Nat) : (a % m) * b % m = a * b % m := by rw [Nat.mul_mod, Nat.mod_mod, ← Nat.mul_mod]
theorem mul_mod_right' (a b m : Nat) : a * (b % m) % m = a * b % m := by rw [Nat.mul_mod, Nat.mod_mod, ← Nat.mul_mod]
theorem pow_mod' (a e m : Nat) : (a % m) ^ e % m = a ^ e % m := (Nat.pow_mod a e m).symm

theorem PowAt.start (a e m : Nat) (hm : 0 < m) : PowAt a e m (1 % m) a e :=
  ⟨Nat.mod_lt _ hm, by rw [mul_mod_left', Nat.one_mul]; rfl⟩
theorem PowAt.even {a0 e0 m p a e : Nat} (h : PowAt a0 e0 m p a e) (he : e % 2 = 0) : PowAt a0 e0 m p (a * a % m) (e / 2) := by
  refine ⟨h.lt, ?_⟩
  rw [← h.eq, ← mul_mod_right', pow_mod', mul_mod_right']
  have e2 : e = 2 * (e / 2) := by omega
  have : a ^ e = (a * a) ^ (e / 2) := by
    rw [show a * a = a ^ 2 by rw [Nat.pow_two], ← Nat.pow_mul, ← e2]
  rw [this]
theorem PowAt.odd {a0 e0 m p a e : Nat} (h : PowAt a0 e0 m p a e) (he : e % 2 = 1) : PowAt a0 e0 m (p * a % m) (a * a % m) (e / 2) := by
  refine ⟨Nat.mod_lt _ (by have := h.lt; omega), ?_⟩
  rw [← h.eq, mul_mod_left', ← mul_mod_right', pow_mod', mul_mod_right']
  have e2 : e = 2 * (e / 2) + 1 := by omega
  have : a ^ e = a * (a * a) ^ (e / 2) := by
    rw [show a * a = a ^ 2 by rw [Nat.pow_two], ← Nat.pow_mul, Nat.mul_comm a, ← Nat.pow_succ, Nat.succ_eq_add_one, ← e2]
  rw [this, Nat.mul_assoc]
theorem PowAt.done {a0 e0 m p a : Nat} (h : PowAt a0 e0 m p a 0) : p = powm a0 e0 m := by
  rw [← h.eq, Nat.pow_zero, Nat.mul_one, Nat.mod_eq_of_lt h.lt]

end MM
end Go.Proofs.Ytnlkikcnjlkkdaa
/- The walks of mod.Add, mod.Sub, mod.Mul and mod.Pow: for m from 1 to 2^61 the sum, the difference, the product and the power modulo m; for any other m 0. -/
namespace Go.Proofs.Ytnlkikcnjlkkdaa
open Go Go.RowKit Go.Lib
namespace M

theorem add_core (a b m r : Nat) (hm : 0 < m) (hr : (IntKind.u64.wrap ((a : Int) % (m : Int) + (b : Int) % (m : Int))).tmod (m : Int) = (r : Int)) (w : World)
    (hc : ∀ W : World, Calls Try.prog 25 #[.int .u64 m] W fun e w' => e = .returned (.bool true) ∧ W = w') :
    Calls Try.prog 19 #[.int .u64 a, .int .u64 b, .int .u64 m] w fun e w' => e = .returned (.int .u64 (r : Int)) ∧ ∃ n, w' = w.drewN n := by
  have HC := Lib.hid hc
  clear hc
  go_enter Try.func19, Try.ntmps19
  go_wp2_with (go_at_call 25; refine (HC.out _).mono ?_; rintro e w' ⟨rfl, rfl⟩)
  go_quiet (fail)
  go_wp2_with fail
  go_ret
  exact ⟨rfl, ⟨_, rfl⟩⟩

theorem sub_core (a b m r : Nat) (hm : 0 < m) (hr : (IntKind.u64.wrap (IntKind.u64.wrap ((a : Int) % (m : Int) + (m : Int)) - (b : Int) % (m : Int))).tmod (m : Int) = (r : Int)) (w : World)
    (hc : ∀ W : World, Calls Try.prog 25 #[.int .u64 m] W fun e w' => e = .returned (.bool true) ∧ W = w') :
    Calls Try.prog 18 #[.int .u64 a, .int .u64 b, .int .u64 m] w fun e w' => e = .returned (.int .u64 (r : Int)) ∧ ∃ n, w' = w.drewN n := by
  have HC := Lib.hid hc
  clear hc
  go_enter Try.func18, Try.ntmps18
  go_wp2_with (go_at_call 25; refine (HC.out _).mono ?_; rintro e w' ⟨rfl, rfl⟩)
  go_quiet (fail)
  go_wp2_with fail
  go_ret
  exact ⟨rfl, ⟨_, rfl⟩⟩

theorem add_any (a b m : Nat) (hm : 0 < m) (hb : m ≤ 2305843009213693952) (w : World) :
    Calls Try.prog 19 #[.int .u64 a, .int .u64 b, .int .u64 m] w fun e w' => e = .returned (.int .u64 (((a + b) % m : Nat) : Int)) ∧ ∃ n, w' = w.drewN n := by
  have h1 := Nat.mod_lt a hm
  have h2 := Nat.mod_lt b hm
  refine add_core a b m _ hm ?_ w (allowed_ok m hm hb)
  rw [← Int.natCast_emod, ← Int.natCast_emod, addN, wrapN _ (by omega), ← Int.ofNat_tmod, ← Nat.add_mod]

theorem sub_any (a b m : Nat) (hm : 0 < m) (hb : m ≤ 2305843009213693952) (w : World) :
    Calls Try.prog 18 #[.int .u64 a, .int .u64 b, .int .u64 m] w fun e w' => e = .returned (.int .u64 ((MM.subm a b m : Nat) : Int)) ∧ ∃ n, w' = w.drewN n := by
  have h1 := Nat.mod_lt a hm
  have h2 := Nat.mod_lt b hm
  refine sub_core a b m _ hm ?_ w (allowed_ok m hm hb)
  unfold MM.subm
  rw [← Int.natCast_emod, ← Int.natCast_emod, addN, wrapN _ (by omega), ← Int.ofNat_sub (by omega), wrapN _ (by omega), ← Int.ofNat_tmod]

theorem mul_core (a b m p q r : Nat)
    (hc : ∀ W : World, Calls Try.prog 25 #[.int .u64 m] W fun e w' => e = .returned (.bool true) ∧ W = w')
    (hc2 : ∀ W : World, Calls Try.prog 28 #[.int .u64 a, .int .u64 b] W fun e w' => e = .returned (.tuple #[.int .u64 p, .int .u64 q]) ∧ W = w')
    (hc3 : ∀ W : World, Calls Try.prog 29 #[.int .u64 p, .int .u64 q, .int .u64 m] W fun e w' => e = .returned (.int .u64 (r : Int)) ∧ ∃ n, w' = W.drewN n) (w : World) :
    Calls Try.prog 27 #[.int .u64 a, .int .u64 b, .int .u64 m] w fun e w' => e = .returned (.int .u64 (r : Int)) ∧ ∃ n, w' = w.drewN n := by
  have HC := Lib.hid hc
  have HC2 := Lib.hid hc2
  have HC3 := Lib.hid hc3
  clear hc hc2 hc3
  go_enter Try.func27, Try.ntmps27
  go_wp2_with (first | (go_at_call 25; refine (HC.out _).mono ?_; rintro e w' ⟨rfl, rfl⟩) | (go_at_call 28; refine (HC2.out _).mono ?_; rintro e w' ⟨rfl, rfl⟩) | (go_at_call 29; refine (HC3.out _).mono ?_; rintro e w' ⟨rfl, n, rfl⟩))
  go_ret
  exact ⟨rfl, ⟨_, rfl⟩⟩

theorem mul_any (a b m : Nat) (hm : 0 < m) (hb : m ≤ 2305843009213693952) (ha : a < 18446744073709551616) (hb' : b < 18446744073709551616) (w : World) :
    Calls Try.prog 27 #[.int .u64 a, .int .u64 b, .int .u64 m] w fun e w' => e = .returned (.int .u64 ((a * b % m : Nat) : Int)) ∧ ∃ n, w' = w.drewN n := by
  have e : a * b = a * b / 18446744073709551616 * 18446744073709551616 + a * b % 18446744073709551616 := (Nat.div_add_mod' _ _).symm
  have h3 := rem64_any (a * b / 18446744073709551616) (a * b % 18446744073709551616) m hm hb (Nat.mod_lt _ (by omega))
  rw [← e] at h3
  exact mul_core a b m _ _ _ (allowed_ok m hm hb) (mul64_any a b ha hb') h3 w

theorem no_add (a b m : Nat) (h : m = 0 ∨ 2305843009213693952 < m) (w : World) :
    Calls Try.prog 19 #[.int .u64 a, .int .u64 b, .int .u64 m] w fun e w' => e = .returned (.int .u64 0) ∧ ∃ n, w' = w.drewN n := by
  have HC := Lib.hid (allowed_no m h)
  clear h
  go_enter Try.func19, Try.ntmps19
  go_wp2_with (go_at_call 25; refine (HC.out _).mono ?_; rintro e w' ⟨rfl, rfl⟩)
  go_ret
  exact ⟨rfl, ⟨0, rfl⟩⟩
theorem no_sub (a b m : Nat) (h : m = 0 ∨ 2305843009213693952 < m) (w : World) :
    Calls Try.prog 18 #[.int .u64 a, .int .u64 b, .int .u64 m] w fun e w' => e = .returned (.int .u64 0) ∧ ∃ n, w' = w.drewN n := by
  have HC := Lib.hid (allowed_no m h)
  clear h
  go_enter Try.func18, Try.ntmps18
  go_wp2_with (go_at_call 25; refine (HC.out _).mono ?_; rintro e w' ⟨rfl, rfl⟩)
  go_ret
  exact ⟨rfl, ⟨0, rfl⟩⟩
theorem no_mul (a b m : Nat) (h : m = 0 ∨ 2305843009213693952 < m) (w : World) :
    Calls Try.prog 27 #[.int .u64 a, .int .u64 b, .int .u64 m] w fun e w' => e = .returned (.int .u64 0) ∧ ∃ n, w' = w.drewN n := by
  have HC := Lib.hid (allowed_no m h)
  clear h
  go_enter Try.func27, Try.ntmps27
  go_wp2_with (go_at_call 25; refine (HC.out _).mono ?_; rintro e w' ⟨rfl, rfl⟩)
  go_ret
  exact ⟨rfl, ⟨0, rfl⟩⟩

end M
end Go.Proofs.Ytnlkikcnjlkkdaa

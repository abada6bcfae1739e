/- The walk of bits.Div64, the long division of a number of 128 bits by one of 64: what is left over. -/
import Derived.Test.YtdblijpoelcghaaModW1
import Derived.Test.YtdblijpoelcghaaModMath
import Derived.Deep.QuietTactic
import Derived.BigQuiet
import Derived.Deep.DeepCutAuto
import Derived.Deep.CutBlock
import Derived.Deep.LoopGhost
namespace Go.Proofs.Ytdblijpoelcghaa
open Go Go.RowKit Go.Lib
namespace M

theorem int_eq {k : IntKind} {a b : Int} (h : a = b) : Value.int k a = Value.int k b := by rw [h]

set_option maxHeartbeats 1000000 in
theorem div64_core (hi lo y s D U L v1 v0 z1 z0 q0 r0 T R q1 r1 T2 R2 rem : Nat) (hy : 0 < y) (hhi : hi < y) (hpos : 0 < hi)
   (hD : IntKind.u64.wrap ((y : Int) * 2 ^ s) = (D : Int)) (hU : bits BinOp.or IntKind.u64 (IntKind.u64.wrap ((hi : Int) * 2 ^ s)) ((lo : Int) / 2 ^ (64 - s)) = (U : Int))
   (hL : IntKind.u64.wrap ((lo : Int) * 2 ^ s) = (L : Int)) (hv1 : (D : Int) / 4294967296 = (v1 : Int)) (hv0 : bits BinOp.and IntKind.u64 (D : Int) 4294967295 = (v0 : Int))
   (hz1 : (L : Int) / 4294967296 = (z1 : Int)) (hz0 : bits BinOp.and IntKind.u64 (L : Int) 4294967295 = (z0 : Int))
   (hq0 : IntKind.u64.wrap ((U : Int) / (v1 : Int)) = (q0 : Int)) (hr0 : IntKind.u64.wrap ((U : Int) - IntKind.u64.wrap ((q0 : Int) * (v1 : Int))) = (r0 : Int))
   (hR : IntKind.u64.wrap (IntKind.u64.wrap (IntKind.u64.wrap ((U : Int) * 4294967296) + (z1 : Int)) - IntKind.u64.wrap ((T : Int) * (D : Int))) = (R : Int))
   (hq1 : IntKind.u64.wrap ((R : Int) / (v1 : Int)) = (q1 : Int)) (hr1 : IntKind.u64.wrap ((R : Int) - IntKind.u64.wrap ((q1 : Int) * (v1 : Int))) = (r1 : Int))
   (hR2 : IntKind.u64.wrap (IntKind.u64.wrap (IntKind.u64.wrap ((R : Int) * 4294967296) + (z0 : Int)) - IntKind.u64.wrap ((T2 : Int) * (D : Int))) = (R2 : Int))
   (hrem : (R2 : Int) / 2 ^ s = (rem : Int))
   (hv1p : 0 < v1)
   (hd1 : MM.Dig U D v1 v0 z1 q0 r0) (hT1 : T = (U * 4294967296 + z1) / D)
   (hd2 : MM.Dig R D v1 v0 z0 q1 r1) (hT2 : T2 = (R * 4294967296 + z0) / D)
   (hs2 : 2 ≤ s) (hs3 : s ≤ 62) (w : World)
   (hc : ∀ W : World, Calls Try.prog 51 #[.int .u64 y] W fun e w' => e = .returned (.int .i64 (s : Int)) ∧ W = w') :
    Calls Try.prog 50 #[.int .u64 hi, .int .u64 lo, .int .u64 y] w fun e w' => (∃ q : Int, e = .returned (.tuple #[.int .u64 q, .int .u64 (rem : Int)])) ∧ ∃ n, w' = w.drewN n := by
  have h0 : ((y : Int) == 0) = false := by simp; omega
  have h1 : ¬ ((y : Int) ≤ hi) := by omega
  have h2 : ((hi : Int) == 0) = false := by simp; omega
  have HC := Lib.hid hc
  clear hc
  have HDz1 := Lib.hid hd1
  have HDz0 := Lib.hid hd2
  have HTz1 := Lib.hid hT1
  have HTz0 := Lib.hid hT2
  clear hd1 hd2 hT1 hT2
  go_enter Try.func50, Try.ntmps50
  go_upto_block 0 with (go_at_call 51; refine (HC.out _).mono ?_; rintro e w' ⟨rfl, rfl⟩)
  clear hD hU hL hv1 hv0 hz1 hz0 hq0 hr0
  go_cut [15, 16] (fun s15 _ wx => wx = w ∧ s15 = .int .u64 (T : Int))
  case first =>
    go_wp2_with fail
    go_loopg [15, 16] q0 (fun g s15 s16 wx => wx = w ∧ ∃ q r : Nat, q = g ∧ s15 = .int .u64 (q : Int) ∧ s16 = .int .u64 (r : Int) ∧ MM.Dig U D v1 v0 z1 q r)
    case atStart => exact ⟨rfl, _, _, rfl, rfl, rfl, HDz1.out⟩
    case round =>
      obtain ⟨rfl, q, r, rfl, rfl, rfl, hdig⟩ := hrel
      have b1 := hdig.h1'
      have b2 := hdig.hz
      have b3 := hdig.rr
      have b4 := hdig.qq
      by_cases hq : 4294967296 ≤ q
      · have hm := (hdig.more (.inl hq)).1
        have hqd : decide ((4294967296 : Int) ≤ (q : Int)) = true := decide_eq_true (by omega)
        by_cases hr : 4294967296 ≤ r + v1
        · have hT := Lib.hid (hdig.out1 (.inl hq) hr)
          clear hdig
          have hrd : decide ((4294967296 : Int) ≤ (r : Int) + (v1 : Int)) = true := decide_eq_true (by omega)
          go_wp2
          go_meet
          exact ⟨rfl, int_eq (by have h := hT.out; have h' := HTz1.out; omega)⟩
        · have hN := Lib.hid (hdig.next (.inl hq) (by omega))
          clear hdig
          have hrd : decide ((4294967296 : Int) ≤ (r : Int) + (v1 : Int)) = false := decide_eq_false (by omega)
          go_wp2
          go_roundg (q - 1)
          case measure => omega
          case rel => exact ⟨rfl, q - 1, r + v1, rfl, int_eq (by omega), int_eq (by omega), hN.out⟩
      · have hx := hdig.prod (by omega)
        obtain ⟨x, hxe⟩ : ∃ x, q * v0 = x := ⟨_, rfl⟩
        rw [hxe] at hx
        have exw : IntKind.u64.wrap ((q : Int) * (v0 : Int)) = (x : Int) := by rw [mulN, hxe, wrapN _ hx]
        have hqd : decide ((4294967296 : Int) ≤ (q : Int)) = false := decide_eq_false (by omega)
        by_cases ht : 4294967296 * r + z1 < x
        · have htd : decide ((4294967296 : Int) * (r : Int) + (z1 : Int) < (x : Int)) = true := decide_eq_true (by omega)
          have hm := (hdig.more (.inr (by rw [hxe]; exact ht))).1
          by_cases hr : 4294967296 ≤ r + v1
          · have hT := Lib.hid (hdig.out1 (.inr (by rw [hxe]; exact ht)) hr)
            clear hdig
            have HX := Lib.hid hxe
            clear hxe
            have hrd : decide ((4294967296 : Int) ≤ (r : Int) + (v1 : Int)) = true := decide_eq_true (by omega)
            go_wp2
            go_meet
            exact ⟨rfl, int_eq (by have h := hT.out; have h' := HTz1.out; omega)⟩
          · have hN := Lib.hid (hdig.next (.inr (by rw [hxe]; exact ht)) (by omega))
            clear hdig
            have HX := Lib.hid hxe
            clear hxe
            have hrd : decide ((4294967296 : Int) ≤ (r : Int) + (v1 : Int)) = false := decide_eq_false (by omega)
            go_wp2
            go_roundg (q - 1)
            case measure => omega
            case rel => exact ⟨rfl, q - 1, r + v1, rfl, int_eq (by omega), int_eq (by omega), hN.out⟩
        · have hT := Lib.hid (hdig.out2 (by rw [hxe]; omega))
          clear hdig
          have HX := Lib.hid hxe
          clear hxe
          have htd : decide ((4294967296 : Int) * (r : Int) + (z1 : Int) < (x : Int)) = false := decide_eq_false (by omega)
          go_wp2
          go_meet
          exact ⟨rfl, int_eq (by have h := hT.out; have h' := HTz1.out; omega)⟩
  case rest =>
    obtain ⟨rfl, rfl⟩ := hcut
    go_upto_block 2 with fail
    clear hR hq1 hr1
    go_cut [18, 16] (fun s18 _ wx => wx = wc ∧ s18 = .int .u64 (T2 : Int))
    case first =>
      go_wp2_with fail
      go_loopg [18, 16] q1 (fun g s15 s16 wx => wx = wc ∧ ∃ q r : Nat, q = g ∧ s15 = .int .u64 (q : Int) ∧ s16 = .int .u64 (r : Int) ∧ MM.Dig R D v1 v0 z0 q r)
      case atStart => exact ⟨rfl, _, _, rfl, rfl, rfl, HDz0.out⟩
      case round =>
        obtain ⟨rfl, q, r, rfl, rfl, rfl, hdig⟩ := hrel
        have b1 := hdig.h1'
        have b2 := hdig.hz
        have b3 := hdig.rr
        have b4 := hdig.qq
        by_cases hq : 4294967296 ≤ q
        · have hm := (hdig.more (.inl hq)).1
          have hqd : decide ((4294967296 : Int) ≤ (q : Int)) = true := decide_eq_true (by omega)
          by_cases hr : 4294967296 ≤ r + v1
          · have hT := Lib.hid (hdig.out1 (.inl hq) hr)
            clear hdig
            have hrd : decide ((4294967296 : Int) ≤ (r : Int) + (v1 : Int)) = true := decide_eq_true (by omega)
            go_wp2
            go_meet
            exact ⟨rfl, int_eq (by have h := hT.out; have h' := HTz0.out; omega)⟩
          · have hN := Lib.hid (hdig.next (.inl hq) (by omega))
            clear hdig
            have hrd : decide ((4294967296 : Int) ≤ (r : Int) + (v1 : Int)) = false := decide_eq_false (by omega)
            go_wp2
            go_roundg (q - 1)
            case measure => omega
            case rel => exact ⟨rfl, q - 1, r + v1, rfl, int_eq (by omega), int_eq (by omega), hN.out⟩
        · have hx := hdig.prod (by omega)
          obtain ⟨x, hxe⟩ : ∃ x, q * v0 = x := ⟨_, rfl⟩
          rw [hxe] at hx
          have exw : IntKind.u64.wrap ((q : Int) * (v0 : Int)) = (x : Int) := by rw [mulN, hxe, wrapN _ hx]
          have hqd : decide ((4294967296 : Int) ≤ (q : Int)) = false := decide_eq_false (by omega)
          by_cases ht : 4294967296 * r + z0 < x
          · have htd : decide ((4294967296 : Int) * (r : Int) + (z0 : Int) < (x : Int)) = true := decide_eq_true (by omega)
            have hm := (hdig.more (.inr (by rw [hxe]; exact ht))).1
            by_cases hr : 4294967296 ≤ r + v1
            · have hT := Lib.hid (hdig.out1 (.inr (by rw [hxe]; exact ht)) hr)
              clear hdig
              have HX := Lib.hid hxe
              clear hxe
              have hrd : decide ((4294967296 : Int) ≤ (r : Int) + (v1 : Int)) = true := decide_eq_true (by omega)
              go_wp2
              go_meet
              exact ⟨rfl, int_eq (by have h := hT.out; have h' := HTz0.out; omega)⟩
            · have hN := Lib.hid (hdig.next (.inr (by rw [hxe]; exact ht)) (by omega))
              clear hdig
              have HX := Lib.hid hxe
              clear hxe
              have hrd : decide ((4294967296 : Int) ≤ (r : Int) + (v1 : Int)) = false := decide_eq_false (by omega)
              go_wp2
              go_roundg (q - 1)
              case measure => omega
              case rel => exact ⟨rfl, q - 1, r + v1, rfl, int_eq (by omega), int_eq (by omega), hN.out⟩
          · have hT := Lib.hid (hdig.out2 (by rw [hxe]; omega))
            clear hdig
            have HX := Lib.hid hxe
            clear hxe
            have htd : decide ((4294967296 : Int) * (r : Int) + (z0 : Int) < (x : Int)) = false := decide_eq_false (by omega)
            go_wp2
            go_meet
            exact ⟨rfl, int_eq (by have h := hT.out; have h' := HTz0.out; omega)⟩
    case rest =>
      obtain ⟨rfl, rfl⟩ := hcut
      go_wp2_with fail
      go_ret2
      exact ⟨⟨_, rfl⟩, ⟨0, rfl⟩⟩
end M
end Go.Proofs.Ytdblijpoelcghaa

/- The texts WirDig, WirPut, WirRef, WirThg, WirAwk, one behind the other. -/
import Derived.Test.YtaijnejbffnfpaaWB6
import Derived.Laws.Bits64b
import Derived.Test.YtaijnejbffnfpaaWB1
/- The walk of wire.digits: the last bytes of a number. -/
namespace Go.Proofs.Ytaijnejbffnfpaa
open Go Go.RowKit Go.Lib
namespace M
/-- What stands in the row behind k rounds. -/
def digZ (n w k : Nat) (j : Nat) : UInt8 := if j < k then UInt8.ofNat (n / 256 ^ (w - 1 - j)) else 0
theorem digZ_all (n w j : Nat) (hj : j < w) : digZ n w w j = (MM.dig n w).getD j 0 := by
  rw [List.getD_eq_getElem?_getD, MM.dig_get hj]
  simp [digZ, hj]
theorem digZ_succ (n w k : Nat) : ∀ j, j < w → digZ n w (k + 1) j = if j = k then UInt8.ofNat (n / 256 ^ (w - 1 - k)) else digZ n w k j := fun j _ => by
  unfold digZ
  by_cases e : j = k
  · subst e; simp
  · rw [if_neg e]
    by_cases h : j < k
    · rw [if_pos h, if_pos (by omega)]
    · rw [if_neg h, if_neg (by omega)]
theorem dig_int (n e : Nat) : (n : Int) / 2 ^ (8 * e) % 256 = ((UInt8.ofNat (n / 256 ^ e)).toNat : Int) := by
  have h : (2 : Nat) ^ (8 * e) = 256 ^ e := by rw [Nat.pow_mul]
  have h2 : ((2 : Int) ^ (8 * e)) = ((256 ^ e : Nat) : Int) := by rw [← h]; simp
  rw [h2, UInt8.toNat_ofNat']
  simp
set_option maxHeartbeats 1000000 in
theorem digits_any (n w : Nat) (hw : 1 ≤ w) (hw8 : w ≤ 8) :
    RetB 62 #[.int .u64 (n : Int), .int .i64 (w : Int)] (.string ⟨(MM.dig n w).toArray⟩) := by
  intro W
  have hm := fun W => run_made8 w (by omega) W
  have HM := Lib.hid (MineB.made W w)
  go_enter Try.func62, Try.ntmps62
  go_upto_region 2 with fail
  generalize hW1 : W.alloc (.cells (madeCells #[.int .u8 0] w) 5) = w1 at *
  generalize hg : W.heap.size = B at *
  clear hm hW1
  go_wp2_with fail
  go_loopw [11] (fun s11 wx => ∃ k : Nat, k ≤ w ∧ s11 = .int .i64 (k : Int) ∧ MineB W B w (digZ n w k) wx) (fun s11 _ => w - (RowKit.intOf s11).toNat)
  case atStart => exact ⟨0, Nat.zero_le _, rfl, HM.out.congr fun k _ => rfl⟩
  case round =>
    obtain ⟨k, hk, rfl, hM⟩ := hrel
    have HK := Lib.hid hM
    clear hM
    by_cases hlt : k < w
    · have hfr := HK.out.free k
      have hcl := HK.out.cell hlt
      go_wp2_with fail
      go_roundw
      case rel => exact ⟨k + 1, by omega, by go_num, HK.out.set k (UInt8.ofNat (n / 256 ^ (w - 1 - k))) _ (dig_int n (w - 1 - k)) (digZ_succ n w k)⟩
      case measure => simp [RowKit.intOf]; omega
    · obtain rfl : k = w := by omega
      have hc := HK.out.text (MM.dig n k) k (by simp) (fun j hj => digZ_all n k j hj)
      go_wp2_with fail
      go_ret
      exact ⟨rfl, HK.out.below⟩
end M
end Go.Proofs.Ytaijnejbffnfpaa
/- The walks of what writes: the program's and the document's bytes of a byte, a number, a whole number, a text and a list. -/
namespace Go.Proofs.Ytaijnejbffnfpaa
open Go Go.RowKit Go.Lib
namespace MM
/-- The bytes of the first n numbers of a row. -/
def nums (z : Nat → Nat) (n : Nat) : List UInt8 := (List.range n).flatMap fun k => dig (z k) 8
theorem nums_succ (z : Nat → Nat) (n : Nat) : nums z (n + 1) = nums z n ++ dig (z n) 8 := by simp [nums, List.range_succ]
@[simp] theorem nums_len (z : Nat → Nat) : ∀ n, (nums z n).length = 8 * n
  | 0 => by simp [nums]
  | n + 1 => by rw [nums_succ, List.length_append, nums_len z n, dig_len]; omega
/-- The number that a whole number is modulo 2^64. -/
def u64 (n : Int) : Nat := (n % 18446744073709551616).toNat
theorem u64_int (n : Int) : ((u64 n : Nat) : Int) = n % 18446744073709551616 := by unfold u64; omega
theorem u64_lt (n : Int) : u64 n < 18446744073709551616 := by unfold u64; omega
theorem wrap_u64 (n : Int) : IntKind.u64.wrap n = ((u64 n : Nat) : Int) := by
  rw [u64_int]; simp [IntKind.wrap, IntKind.bits, IntKind.signed]
/-- A text's bytes, a list's. -/
def textB (t : List UInt8) : List UInt8 := dig t.length 2 ++ t
def listB (n : Nat) (z : Nat → Nat) : List UInt8 := dig n 2 ++ nums z n
end MM
namespace M
theorem add_str (x y : List UInt8) (hx : x.length ≤ 8388608) (hy : y.length ≤ 8388608) (W : World) : (Op.stringOp .add ⟨x.toArray⟩ ⟨y.toArray⟩).run Try.prog W = .ok (.string ⟨(x ++ y).toArray⟩) W :=
  run_string_add_lists W x y (by omega) (by omega)
theorem byte_any (s : List UInt8) (b : Nat) (hs : s.length ≤ 8000000) (hb : b < 256) :
    RetB 26 #[.string ⟨s.toArray⟩, .int .u8 (b : Int)] (.string ⟨(s ++ MM.dig b 1).toArray⟩) := by
  intro W
  have H : RetB 62 #[.int .u64 (b : Int), .int .i64 1] (.string ⟨(MM.dig b 1).toArray⟩) := digits_any b 1 (by omega) (by omega)
  have ha := add_str s (MM.dig b 1) (by omega) (by simp)
  have hm : (b : Int) % 18446744073709551616 = (b : Int) := by omega
  go_enter Try.func26, Try.ntmps26
  go_wp2_with (go_at_call 62; (with_reducible refine (H.at _).mono ?_); rintro e w' ⟨rfl, hb⟩)
  go_ret
  exact ⟨rfl, hb⟩
theorem num_any (s : List UInt8) (n : Nat) (hs : s.length ≤ 8000000) :
    RetB 28 #[.string ⟨s.toArray⟩, .int .u64 (n : Int)] (.string ⟨(s ++ MM.dig n 8).toArray⟩) := by
  intro W
  have H : RetB 62 #[.int .u64 (n : Int), .int .i64 8] (.string ⟨(MM.dig n 8).toArray⟩) := digits_any n 8 (by omega) (by omega)
  have ha := add_str s (MM.dig n 8) (by omega) (by simp)
  go_enter Try.func28, Try.ntmps28
  go_wp2_with (go_at_call 62; (with_reducible refine (H.at _).mono ?_); rintro e w' ⟨rfl, hb⟩)
  go_ret
  exact ⟨rfl, hb⟩
theorem int_any (s : List UInt8) (n : Int) (hs : s.length ≤ 8000000) :
    RetB 30 #[.string ⟨s.toArray⟩, .int .i64 n] (.string ⟨(s ++ MM.dig (MM.u64 n) 8).toArray⟩) := by
  intro W
  have H := num_any s (MM.u64 n) hs
  have hw := MM.wrap_u64 n
  go_enter Try.func30, Try.ntmps30
  go_wp2_with (go_at_call 28; (with_reducible refine (H.at _).mono ?_); rintro e w' ⟨rfl, hb⟩)
  go_ret
  exact ⟨rfl, hb⟩
theorem text_yes (s t : List UInt8) (hs : s.length ≤ 8000000) (ht : t.length ≤ 2048) :
    RetB 22 #[.string ⟨s.toArray⟩, .string ⟨t.toArray⟩] (.tuple #[.string ⟨(s ++ MM.textB t).toArray⟩, .int .i64 0]) := by
  intro W
  have H : RetB 62 #[.int .u64 (t.length : Int), .int .i64 2] (.string ⟨(MM.dig t.length 2).toArray⟩) := digits_any t.length 2 (by omega) (by omega)
  have ha := add_str s (MM.dig t.length 2) (by omega) (by simp)
  have ha2 := add_str (s ++ MM.dig t.length 2) t (by simp; omega) (by omega)
  rw [List.append_assoc] at ha2
  have hl : ¬ (2048 : Int) < (t.length : Int) := by omega
  have hl2 : ¬ 2048 < t.length := by omega
  have hm : (t.length : Int) % 18446744073709551616 = (t.length : Int) := by omega
  go_enter Try.func22, Try.ntmps22
  go_wp2_with (go_at_call 62; (with_reducible refine (H.at _).mono ?_); rintro e w' ⟨rfl, hb⟩)
  go_ret2
  exact ⟨rfl, hb⟩
theorem text_no (s t : List UInt8) (hs : s.length ≤ 8000000) (ht : 2048 < t.length) :
    RetB 22 #[.string ⟨s.toArray⟩, .string ⟨t.toArray⟩] (.tuple #[.string ⟨s.toArray⟩, .int .i64 40]) := by
  intro W
  have H := clone_any s (by omega)
  have hl : (2048 : Int) < (t.length : Int) := by omega
  go_enter Try.func22, Try.ntmps22
  go_wp2_with (go_at_call 56; (with_reducible refine (H.at _).mono ?_); rintro e w' ⟨rfl, hb⟩)
  go_ret2
  exact ⟨rfl, hb⟩
theorem list_no (s : List UInt8) (ao : Option Addr) (n cap : Nat) (hs : s.length ≤ 8000000) (hn : 1024 < n) :
    RetB 23 #[.string ⟨s.toArray⟩, .slice ao n cap] (.tuple #[.string ⟨s.toArray⟩, .int .i64 40]) := by
  intro W
  have H := clone_any s (by omega)
  have hl : (1024 : Int) < (n : Int) := by omega
  go_enter Try.func23, Try.ntmps23
  go_wp2_with (go_at_call 56; (with_reducible refine (H.at _).mono ?_); rintro e w' ⟨rfl, hb⟩)
  go_ret2
  exact ⟨rfl, hb⟩
/-- What a call that builds a text carries along. -/
structure LBld (w0 : World) (b : Nat) (l : List UInt8) (w : World) : Prop where
  bld : Bld w0.heap.size b l w
  below : Below w0.heap.size w0 w
theorem Bld.step {B b : Nat} {l : List UInt8} {w w' : World} (h : Bld B b l w) (hb : Below w.heap.size w w') : Bld B b l w' := by
  have go : ∀ p, Lib.BuilderAt 89 5 B b p (Lib.byteCells l) w → Lib.BuilderAt 89 5 B b p (Lib.byteCells l) w' := fun p ⟨hB, v, h1, h2, h3⟩ =>
    ⟨hB, v, (hb.block b (row_lt h1)).trans h1, h2.kept (row := none) ⟨hb.os, hb.tape, hb.output, hb.size, fun k hk _ => hb.block k hk⟩ (by cases v.ownBlock <;> simp), h3⟩
  exact h.imp (go _) (go _)
theorem LBld.step {w0 : World} {b : Nat} {l : List UInt8} {w w' : World} (h : LBld w0 b l w) (hb : Below w.heap.size w w') : LBld w0 b l w' :=
  ⟨h.bld.step hb, h.below.trans (hb.mono h.below.size)⟩
theorem LBld.write {w0 : World} {b : Nat} {l : List UInt8} {w : World} (h : LBld w0 b l w) (s : List UInt8) (hl : l.length + s.length ≤ 140737488355328) :
    Calls Try.prog 63 #[.pointer (some ⟨b, 0, none⟩), .string ⟨s.toArray⟩] w fun e w' => (∃ v, e = .returned v) ∧ LBld w0 b (l ++ s) w' :=
  (write_any _ b l s w h.bld hl h.below.size).mono fun _ _ ⟨he, hb, hw⟩ => ⟨he, hb, h.below.trans hw⟩
theorem LBld.text {w0 : World} {b : Nat} {l : List UInt8} {w : World} (h : LBld w0 b l w) :
    Calls Try.prog 64 #[.pointer (some ⟨b, 0, none⟩)] w fun e w' => e = .returned (.string ⟨l.toArray⟩) ∧ Below w0.heap.size w0 w' :=
  (Try.Builder_String_any _ b l w h.bld h.below.size).mono fun _ _ ⟨he, hw⟩ => ⟨he, h.below.trans hw⟩
set_option maxHeartbeats 2000000 in
theorem list_yes (s : List UInt8) (ao : Option Addr) (n cap : Nat) (z : Nat → Nat) (hs : s.length ≤ 8000000) (hn : n ≤ 1024) (W : World) (hr : Rd W ao n z) :
    Calls Try.prog 23 #[.string ⟨s.toArray⟩, .slice ao n cap] W fun e w' => e = .returned (.tuple #[.string ⟨(s ++ MM.listB n z).toArray⟩, .int .i64 0]) ∧ Below W.heap.size W w' := by
  have hl : ¬ (1024 : Int) < (n : Int) := by omega
  have H2 : RetB 62 #[.int .u64 (n : Int), .int .i64 2] (.string ⟨(MM.dig n 2).toArray⟩) := digits_any n 2 (by omega) (by omega)
  have hm : (n : Int) % 18446744073709551616 = (n : Int) := by omega
  have HB : Hid (LBld W W.heap.size [] (W.alloc (.cells #[.pointer none, .slice none 0 0] 89))) := Lib.hid ⟨bld_new W, below_box _ _⟩
  have HR := Lib.hid hr
  have H8 : Hid (∀ k, RetB 62 #[.int .u64 ((z k : Nat) : Int), .int .i64 8] (.string ⟨(MM.dig (z k) 8).toArray⟩)) := Lib.hid fun k => digits_any (z k) 8 (by omega) (by omega)
  clear hr
  go_enter Try.func23, Try.ntmps23
  go_upto_region 4 with fail
  generalize W.alloc (.cells #[.pointer none, .slice none 0 0] 89) = w1 at *
  generalize hg : W.heap.size = b at *
  have HG := Lib.hid hg
  clear hg
  go_wp2_with (go_at_call 63; (with_reducible refine (HB.out.write s (by simp; omega)).mono ?_); rintro e w2 ⟨⟨v2, rfl⟩, HB2⟩; replace HB2 := Lib.hid HB2)
  go_wp2_with (go_at_call 62; (with_reducible refine (H2.at _).mono ?_); rintro e w3 ⟨rfl, hb3⟩; have HB3 := Lib.hid (HB2.out.step hb3); clear hb3)
  go_wp2_with (go_at_call 63; (with_reducible refine (HB3.out.write (MM.dig n 2) (by simp; omega)).mono ?_); rintro e w4 ⟨⟨v4, rfl⟩, HB4⟩; replace HB4 := Lib.hid HB4)
  go_loopw [23] (fun s23 wx => ∃ k : Nat, k ≤ n ∧ s23 = .int .i64 (k : Int) ∧ LBld W b (s ++ MM.dig n 2 ++ MM.nums z k) wx) (fun s23 _ => n - (RowKit.intOf s23).toNat)
  case atStart => exact ⟨0, Nat.zero_le _, rfl, by simpa [MM.nums] using HB4.out⟩
  case round =>
    obtain ⟨k, hk, rfl, hM⟩ := hrel
    have HK := Lib.hid hM
    clear hM
    by_cases hlt : k < n
    · obtain ⟨ad, had, hcl⟩ := (HR.out.below HK.out.below).at_ hlt
      subst had
      have Hk := H8.out k
      go_wp2_with (go_at_call 62; (with_reducible refine (Hk.at _).mono ?_); rintro e w5 ⟨rfl, hb5⟩; have HB5 := Lib.hid (HK.out.step hb5); clear hb5)
      go_wp2_with (go_at_call 63; (with_reducible refine (HB5.out.write (MM.dig (z k) 8) (by simp; omega)).mono ?_); rintro e w6 ⟨⟨v6, rfl⟩, HB6⟩; replace HB6 := Lib.hid HB6)
      go_roundw
      case rel => exact ⟨k + 1, by omega, by go_num, by rw [MM.nums_succ, ← List.append_assoc]; exact HB6.out⟩
      case measure => simp [RowKit.intOf]; omega
    · obtain rfl : k = n := by omega
      go_wp2_with (go_at_call 64; (with_reducible refine (HK.out.text).mono ?_); rintro e w7 ⟨rfl, hb7⟩)
      go_ret2
      exact ⟨rfl, hb7⟩
end M
end Go.Proofs.Ytaijnejbffnfpaa
/- The walks of the document's own writers: the bytes of a byte, a number, a whole number, a text and a list. -/
namespace Go.Proofs.Ytaijnejbffnfpaa
open Go Go.RowKit Go.Lib
namespace M
set_option maxHeartbeats 1000000 in
set_option maxRecDepth 100000 in
theorem two_any (n : Nat) (hn : n ≤ 9223372036854775807) : RetB 65 #[.int .i64 (n : Int)] (.string ⟨(MM.dig n 2).toArray⟩) := by
  intro W
  obtain ⟨a, ha, ea⟩ : ∃ a : UInt8, a = UInt8.ofNat (n / 256) ∧ (n : Int) / 256 % 256 = (a.toNat : Int) := ⟨_, rfl, by rw [UInt8.toNat_ofNat']; simp⟩
  obtain ⟨b, hb, eb⟩ : ∃ b : UInt8, b = UInt8.ofNat n ∧ (n : Int) % 256 = (b.toNat : Int) := ⟨_, rfl, by rw [UInt8.toNat_ofNat']; simp⟩
  have hd : MM.dig n 2 = [a, b] := by subst ha hb; simp [MM.dig, List.range_succ]
  have e1 : wrap64 ((n : Int) / 256) = (n : Int) / 256 := by unfold wrap64; omega
  have ht : ∀ w : World, (convert 49 9 (.slice (some ⟨w.heap.size, 0, none⟩) 2 2)).run Try.prog (w.alloc (.cells #[.int .u8 (a.toNat : Int), .int .u8 (b.toNat : Int)] 5)) = .ok (.string ⟨[a, b].toArray⟩) (w.alloc (.cells #[.int .u8 (a.toNat : Int), .int .u8 (b.toNat : Int)] 5)) := fun w => by
    refine run_text _ _ [a, b] 2 fun j hj => ?_
    match j, hj with
    | 0, _ => simp [Addr.add]
    | 1, _ => simp [Addr.add]
  have hB := fun o => below_box W o
  clear ha hb
  rw [hd]
  go_enter Try.func65, Try.ntmps65
  go_wp2_with fail
  go_ret
  exact ⟨rfl, hB _⟩
/-- What stands in the row behind j rounds. -/
def eigZ (n j c : Nat) : UInt8 := if 8 - j ≤ c then UInt8.ofNat (n / 256 ^ (7 - c)) else 0
theorem eigZ_all (n c : Nat) (hc : c < 8) : eigZ n 8 c = (MM.dig n 8).getD c 0 := by
  rw [List.getD_eq_getElem?_getD, MM.dig_get hc]
  simp [eigZ]
theorem eigZ_succ (n j : Nat) (hj : j < 8) : ∀ c, c < 8 → eigZ n (j + 1) c = if c = 7 - j then UInt8.ofNat (n / 256 ^ j) else eigZ n j c := fun c hc => by
  unfold eigZ
  by_cases e : c = 7 - j
  · subst e
    rw [if_pos (by omega), if_pos rfl]
    congr 3
    omega
  · rw [if_neg e]
    by_cases h : 8 - j ≤ c
    · rw [if_pos h, if_pos (by omega)]
    · rw [if_neg h, if_neg (by omega)]
set_option maxHeartbeats 1000000 in
theorem eight_any (n : Nat) (hn : n < 18446744073709551616) : RetB 66 #[.int .u64 (n : Int)] (.string ⟨(MM.dig n 8).toArray⟩) := by
  intro W
  have hm : ∀ w : World, (Instr.makeSlice 49 (.int .i64 8) (.int .i64 8)).run Try.prog w = .ok (.slice (some ⟨w.heap.size, 0, none⟩) 8 8) (w.alloc (.cells (madeCells #[.int .u8 0] 8) 5)) := fun w => run_made8 8 (by omega) w
  have HM := Lib.hid (MineB.made W 8)
  go_enter Try.func66, Try.ntmps66
  go_upto_region 2 with fail
  generalize hW1 : W.alloc (.cells (madeCells #[.int .u8 0] 8) 5) = w1 at *
  generalize hg : W.heap.size = B at *
  have HG := Lib.hid hg
  clear hm hW1 hg
  go_wp2_with fail
  go_loopw [0, 4] (fun s0 s4 wx => ∃ j x : Nat, j ≤ 8 ∧ s4 = .int .i64 (7 - (j : Int)) ∧ s0 = .int .u64 (x : Int) ∧ Hid (x = n / 256 ^ j) ∧ x < 18446744073709551616 ∧ MineB W B 8 (eigZ n j) wx) (fun _ s4 _ => (1 + RowKit.intOf s4).toNat)
  case atStart => exact ⟨0, n, Nat.zero_le _, rfl, rfl, Lib.hid (by simp), hn, HM.out.congr fun k hk => by simp [eigZ]; omega⟩
  case round =>
    obtain ⟨j, x, hj, rfl, rfl, hx, hx2, hM⟩ := hrel
    have HK := Lib.hid hM
    clear hM
    by_cases hlt : j < 8
    · have hfr := HK.out.free (7 - j)
      have hcl := HK.out.cell (k := 7 - j) (by omega)
      have ei : (7 - (j : Int)) = ((7 - j : Nat) : Int) := by omega
      rw [ei]
      have hi0 : (0 : Int) ≤ ((7 - j : Nat) : Int) := by omega
      have hi8 : 7 - j < 8 := by omega
      have e2 : IntKind.u64.wrap ((x : Int) / 256) = ((x / 256 : Nat) : Int) := by simp [IntKind.wrap, IntKind.bits, IntKind.signed]; omega
      go_wp2_with fail
      go_roundw
      case rel =>
        refine ⟨j + 1, x / 256, by omega, by congr 1; omega, rfl, Lib.hid ?_, by omega, HK.out.set (7 - j) (UInt8.ofNat (n / 256 ^ j)) _ ?_ (eigZ_succ n j hlt)⟩
        · rw [hx.out, Nat.pow_succ, Nat.div_div_eq_div_mul]
        · rw [← hx.out, UInt8.toNat_ofNat']; simp
      case measure => simp [RowKit.intOf]; omega
    · obtain rfl : j = 8 := by omega
      have hc : (convert 49 9 (.slice (some ⟨B, 0, none⟩) 8 8)).run Try.prog wr = .ok (.string ⟨(MM.dig n 8).toArray⟩) wr := HK.out.text (MM.dig n 8) 8 (by simp) (fun c hc => eigZ_all n c hc)
      go_wp2_with fail
      go_ret
      exact ⟨rfl, HK.out.below⟩
theorem rbyte_any (s : List UInt8) (b : Nat) (hs : s.length ≤ 8000000) (hb : b < 256) :
    RetB 27 #[.string ⟨s.toArray⟩, .int .u8 (b : Int)] (.string ⟨(s ++ MM.dig b 1).toArray⟩) := by
  intro W
  have hd : MM.dig b 1 = [UInt8.ofNat b] := by simp [MM.dig]
  have ha := add_str s (MM.dig b 1) (by omega) (by simp)
  have ht : ∀ w : World, (convert 49 9 (.slice (some ⟨w.heap.size, 0, none⟩) 1 1)).run Try.prog (w.alloc (.cells #[.int .u8 (b : Int)] 5)) = .ok (.string ⟨(MM.dig b 1).toArray⟩) (w.alloc (.cells #[.int .u8 (b : Int)] 5)) := fun w => by
    rw [hd]
    refine run_text _ _ [UInt8.ofNat b] 1 fun j hj => ?_
    match j, hj with
    | 0, _ => simp [Addr.add]; omega
  have hB := fun o => below_box W o
  clear hd
  go_enter Try.func27, Try.ntmps27
  go_wp2_with fail
  go_ret
  exact ⟨rfl, hB _⟩
theorem rnum_any (s : List UInt8) (n : Nat) (hs : s.length ≤ 8000000) (hn : n < 18446744073709551616) :
    RetB 29 #[.string ⟨s.toArray⟩, .int .u64 (n : Int)] (.string ⟨(s ++ MM.dig n 8).toArray⟩) := by
  intro W
  have H := eight_any n hn
  have ha := add_str s (MM.dig n 8) (by omega) (by simp)
  go_enter Try.func29, Try.ntmps29
  go_wp2_with (go_at_call 66; (with_reducible refine (H.at _).mono ?_); rintro e w' ⟨rfl, hb⟩)
  go_ret
  exact ⟨rfl, hb⟩
theorem rint_any (s : List UInt8) (n : Int) (hs : s.length ≤ 8000000) :
    RetB 31 #[.string ⟨s.toArray⟩, .int .i64 n] (.string ⟨(s ++ MM.dig (MM.u64 n) 8).toArray⟩) := by
  intro W
  have H := eight_any (MM.u64 n) (MM.u64_lt n)
  have ha := add_str s (MM.dig (MM.u64 n) 8) (by omega) (by simp)
  have hw := MM.wrap_u64 n
  go_enter Try.func31, Try.ntmps31
  go_wp2_with (go_at_call 66; (with_reducible refine (H.at _).mono ?_); rintro e w' ⟨rfl, hb⟩)
  go_ret
  exact ⟨rfl, hb⟩
theorem rtext_yes (s t : List UInt8) (hs : s.length ≤ 8000000) (ht : t.length ≤ 2048) :
    RetB 24 #[.string ⟨s.toArray⟩, .string ⟨t.toArray⟩] (.tuple #[.string ⟨(s ++ MM.textB t).toArray⟩, .int .i64 0]) := by
  intro W
  have H := two_any t.length (by omega)
  have ha := add_str s (MM.dig t.length 2) (by omega) (by simp)
  have ha2 := add_str (s ++ MM.dig t.length 2) t (by simp; omega) (by omega)
  rw [List.append_assoc] at ha2
  have hl : ¬ (2048 : Int) < (t.length : Int) := by omega
  have hl2 : ¬ 2048 < t.length := by omega
  go_enter Try.func24, Try.ntmps24
  go_wp2_with (go_at_call 65; (with_reducible refine (H.at _).mono ?_); rintro e w' ⟨rfl, hb⟩)
  go_ret2
  exact ⟨rfl, hb⟩
theorem rtext_no (s t : List UInt8) (ht : 2048 < t.length) :
    RetB 24 #[.string ⟨s.toArray⟩, .string ⟨t.toArray⟩] (.tuple #[.string ⟨s.toArray⟩, .int .i64 40]) := by
  intro W
  have hl : (2048 : Int) < (t.length : Int) := by omega
  go_enter Try.func24, Try.ntmps24
  go_wp2_with fail
  go_ret2
  exact ⟨rfl, Below.refl _ _⟩
theorem rlist_no (s : List UInt8) (ao : Option Addr) (n cap : Nat) (hn : 1024 < n) :
    RetB 25 #[.string ⟨s.toArray⟩, .slice ao n cap] (.tuple #[.string ⟨s.toArray⟩, .int .i64 40]) := by
  intro W
  have hl : (1024 : Int) < (n : Int) := by omega
  go_enter Try.func25, Try.ntmps25
  go_wp2_with fail
  go_ret2
  exact ⟨rfl, Below.refl _ _⟩
set_option maxHeartbeats 2000000 in
theorem rlist_yes (s : List UInt8) (ao : Option Addr) (n cap : Nat) (z : Nat → Nat) (hs : s.length ≤ 7000000) (hn : n ≤ 1024) (hz : ∀ k, z k < 18446744073709551616) (W : World) (hr : Rd W ao n z) :
    Calls Try.prog 25 #[.string ⟨s.toArray⟩, .slice ao n cap] W fun e w' => e = .returned (.tuple #[.string ⟨(s ++ MM.listB n z).toArray⟩, .int .i64 0]) ∧ Below W.heap.size W w' := by
  have hl : ¬ (1024 : Int) < (n : Int) := by omega
  have H2 := two_any n (by omega)
  have ha := add_str s (MM.dig n 2) (by omega) (by simp)
  have HR := Lib.hid hr
  have H8 : Hid (∀ k, RetB 66 #[.int .u64 ((z k : Nat) : Int)] (.string ⟨(MM.dig (z k) 8).toArray⟩)) := Lib.hid fun k => eight_any (z k) (hz k)
  clear hr
  go_enter Try.func25, Try.ntmps25
  go_wp2_with (go_at_call 65; (with_reducible refine (H2.at _).mono ?_); rintro e w1 ⟨rfl, hb⟩; have HB := Lib.hid hb; clear hb)
  go_loopw [6, 7] (fun s6 s7 wx => ∃ (k : Nat) (l : List UInt8), k ≤ n ∧ s7 = .int .i64 (k : Int) ∧ s6 = .string ⟨l.toArray⟩ ∧ Hid (l = s ++ MM.dig n 2 ++ MM.nums z k) ∧ Below W.heap.size W wx) (fun _ s7 _ => n - (RowKit.intOf s7).toNat)
  case atStart => exact ⟨0, _, Nat.zero_le _, rfl, rfl, Lib.hid (by simp [MM.nums]), HB.out⟩
  case round =>
    obtain ⟨k, l, hk, rfl, rfl, hL, hM⟩ := hrel
    have HK := Lib.hid hM
    clear hM
    by_cases hlt : k < n
    · obtain ⟨ad, had, hcl⟩ := (HR.out.below HK.out).at_ hlt
      subst had
      have Hk := H8.out k
      have hll : l.length ≤ 8000000 := by rw [hL.out]; simp; omega
      have hak := add_str l (MM.dig (z k) 8) (by omega) (by simp)
      go_wp2_with (go_at_call 66; (with_reducible refine (Hk.at _).mono ?_); rintro e w5 ⟨rfl, hb5⟩; have HB5 := Lib.hid (HK.out.trans (hb5.mono HK.out.size)); clear hb5)
      go_roundw
      case rel => exact ⟨k + 1, _, by omega, by go_num, rfl, Lib.hid (by rw [hL.out, MM.nums_succ, ← List.append_assoc]), HB5.out⟩
      case measure => simp [RowKit.intOf]; omega
    · obtain rfl : k = n := by omega
      have hL2 : l = s ++ MM.listB k z := by rw [hL.out, MM.listB, List.append_assoc]
      subst hL2
      go_wp2_with fail
      go_ret2
      exact ⟨rfl, HK.out⟩
end M
end Go.Proofs.Ytaijnejbffnfpaa
/- A thing as it is handed on; what puts it behind bytes. -/
namespace Go.Proofs.Ytaijnejbffnfpaa
open Go Go.RowKit Go.Lib
/-- A thing: its kind, its number, its text, its list (where it lies, how many, which), its bound. -/
structure Th where
  k : Nat
  n : Nat
  s : List UInt8
  ao : Option Addr
  len : Nat
  cap : Nat
  z : Nat → Nat
  m : Int
namespace Th
abbrev cells (t : Th) : Array Value := #[.int .u8 (t.k : Int), .int .u64 (t.n : Int), .string ⟨t.s.toArray⟩, .slice t.ao t.len t.cap, .int .i64 t.m]
/-- Its numbers have their bounds. -/
structure Ok (t : Th) : Prop where
  k : t.k < 256
  n : t.n < 18446744073709551616
  z : ∀ k, t.z k < 18446744073709551616
  m : t.m ≤ 9223372036854775807
  s : t.s.length ≤ 9223372036854775807
  len : t.len ≤ 9223372036854775807
/-- Its bytes, if it may be. -/
def bytes (t : Th) : List UInt8 :=
  if t.k = 0 then MM.dig (t.n % 256) 1 else if t.k = 3 then (if t.s.length ≤ 2048 then MM.textB t.s else []) else if t.k = 4 then (if t.len ≤ 1024 then MM.listB t.len t.z else []) else MM.dig t.n 8
/-- May it be written, and read as a count? -/
def may (t : Th) : Bool := (t.k != 3 || decide (t.s.length ≤ 2048)) && (t.k != 4 || decide (t.len ≤ 1024)) && (decide (t.k < 5) || decide (t.n < 4611686018427387904))
theorem bytes_len (t : Th) : t.bytes.length ≤ 10000 := by
  unfold bytes
  split
  · simp
  · split
    · split
      · simp [MM.textB]; omega
      · simp
    · split
      · split
        · simp [MM.listB]; omega
        · simp
      · simp
end Th
namespace M
theorem u64_i64 (n : Nat) (h : n < 18446744073709551616) : MM.u64 (MM.i64 n) = n := by
  unfold MM.u64 MM.i64
  simp [IntKind.wrap, IntKind.bits, IntKind.signed]
  omega
section
variable (k n : Nat) (s : List UInt8) (ao : Option Addr) (len cap : Nat) (z : Nat → Nat) (m : Int) (x : List UInt8)
set_option maxHeartbeats 2000000 in
theorem put_0 (hx : x.length ≤ 7000000) (W : World) :
    Calls Try.prog 43 #[.agg #[.int .u8 0, .int .u64 (n : Int), .string ⟨s.toArray⟩, .slice ao len cap, .int .i64 m], .string ⟨x.toArray⟩] W fun e w' => e = .returned (.string ⟨(x ++ MM.dig (n % 256) 1).toArray⟩) ∧ Below W.heap.size W w' := by
  have H := byte_any x (n % 256) (by omega) (by omega)
  have hw : IntKind.u8.wrap (n : Int) = ((n % 256 : Nat) : Int) := by simp [IntKind.wrap, IntKind.bits, IntKind.signed]
  generalize n % 256 = b at *
  have HB := Lib.hid (below_box W (.cells #[.int .u8 0, .int .u64 (n : Int), .string ⟨s.toArray⟩, .slice ao len cap, .int .i64 m] 45))
  go_enter Try.func43, Try.ntmps43
  go_wp2_with (go_at_call 26; (with_reducible refine (H.at _).mono ?_); rintro e w' ⟨rfl, hb⟩)
  go_ret
  exact ⟨rfl, HB.out.trans (hb.mono HB.out.size)⟩
set_option maxHeartbeats 2000000 in
theorem put_1 (hx : x.length ≤ 7000000) (W : World) :
    Calls Try.prog 43 #[.agg #[.int .u8 1, .int .u64 (n : Int), .string ⟨s.toArray⟩, .slice ao len cap, .int .i64 m], .string ⟨x.toArray⟩] W fun e w' => e = .returned (.string ⟨(x ++ MM.dig n 8).toArray⟩) ∧ Below W.heap.size W w' := by
  have H := num_any x n (by omega)
  have HB := Lib.hid (below_box W (.cells #[.int .u8 1, .int .u64 (n : Int), .string ⟨s.toArray⟩, .slice ao len cap, .int .i64 m] 45))
  go_enter Try.func43, Try.ntmps43
  go_wp2_with (go_at_call 28; (with_reducible refine (H.at _).mono ?_); rintro e w' ⟨rfl, hb⟩)
  go_ret
  exact ⟨rfl, HB.out.trans (hb.mono HB.out.size)⟩
set_option maxHeartbeats 2000000 in
theorem put_2 (hx : x.length ≤ 7000000) (hn : n < 18446744073709551616) (W : World) :
    Calls Try.prog 43 #[.agg #[.int .u8 2, .int .u64 (n : Int), .string ⟨s.toArray⟩, .slice ao len cap, .int .i64 m], .string ⟨x.toArray⟩] W fun e w' => e = .returned (.string ⟨(x ++ MM.dig n 8).toArray⟩) ∧ Below W.heap.size W w' := by
  have H := int_any x (MM.i64 n) (by omega)
  rw [u64_i64 n hn] at H
  have hw : IntKind.i64.wrap (n : Int) = MM.i64 n := rfl
  have HB := Lib.hid (below_box W (.cells #[.int .u8 2, .int .u64 (n : Int), .string ⟨s.toArray⟩, .slice ao len cap, .int .i64 m] 45))
  go_enter Try.func43, Try.ntmps43
  go_wp2_with (go_at_call 30; (with_reducible refine (H.at _).mono ?_); rintro e w' ⟨rfl, hb⟩)
  go_ret
  exact ⟨rfl, HB.out.trans (hb.mono HB.out.size)⟩
set_option maxHeartbeats 2000000 in
theorem put_3 (hx : x.length ≤ 7000000) (hs : s.length ≤ 2048) (W : World) :
    Calls Try.prog 43 #[.agg #[.int .u8 3, .int .u64 (n : Int), .string ⟨s.toArray⟩, .slice ao len cap, .int .i64 m], .string ⟨x.toArray⟩] W fun e w' => e = .returned (.string ⟨(x ++ MM.textB s).toArray⟩) ∧ Below W.heap.size W w' := by
  have H := text_yes x s (by omega) hs
  have HB := Lib.hid (below_box W (.cells #[.int .u8 3, .int .u64 (n : Int), .string ⟨s.toArray⟩, .slice ao len cap, .int .i64 m] 45))
  go_enter Try.func43, Try.ntmps43
  go_wp2_with (go_at_call 22; (with_reducible refine (H.at _).mono ?_); rintro e w' ⟨rfl, hb⟩)
  go_ret
  exact ⟨rfl, HB.out.trans (hb.mono HB.out.size)⟩
set_option maxHeartbeats 2000000 in
theorem put_3n (hx : x.length ≤ 7000000) (hs : 2048 < s.length) (W : World) :
    Calls Try.prog 43 #[.agg #[.int .u8 3, .int .u64 (n : Int), .string ⟨s.toArray⟩, .slice ao len cap, .int .i64 m], .string ⟨x.toArray⟩] W fun e w' => e = .returned (.string ⟨(x).toArray⟩) ∧ Below W.heap.size W w' := by
  have H := text_no x s (by omega) hs
  have HB := Lib.hid (below_box W (.cells #[.int .u8 3, .int .u64 (n : Int), .string ⟨s.toArray⟩, .slice ao len cap, .int .i64 m] 45))
  go_enter Try.func43, Try.ntmps43
  go_wp2_with (go_at_call 22; (with_reducible refine (H.at _).mono ?_); rintro e w' ⟨rfl, hb⟩)
  go_ret
  exact ⟨rfl, HB.out.trans (hb.mono HB.out.size)⟩
set_option maxHeartbeats 2000000 in
theorem put_4 (hx : x.length ≤ 7000000) (hl : len ≤ 1024) (W : World) (hr : Rd W ao len z) :
    Calls Try.prog 43 #[.agg #[.int .u8 4, .int .u64 (n : Int), .string ⟨s.toArray⟩, .slice ao len cap, .int .i64 m], .string ⟨x.toArray⟩] W fun e w' => e = .returned (.string ⟨(x ++ MM.listB len z).toArray⟩) ∧ Below W.heap.size W w' := by
  have H := list_yes x ao len cap z (by omega) hl _ (hr.below (below_box W (.cells #[.int .u8 4, .int .u64 (n : Int), .string ⟨s.toArray⟩, .slice ao len cap, .int .i64 m] 45)))
  have HB := Lib.hid (below_box W (.cells #[.int .u8 4, .int .u64 (n : Int), .string ⟨s.toArray⟩, .slice ao len cap, .int .i64 m] 45))
  go_enter Try.func43, Try.ntmps43
  go_wp2_with (go_at_call 23; (with_reducible refine (H).mono ?_); rintro e w' ⟨rfl, hb⟩)
  go_ret
  exact ⟨rfl, HB.out.trans (hb.mono HB.out.size)⟩
set_option maxHeartbeats 2000000 in
theorem put_4n (hx : x.length ≤ 7000000) (hl : 1024 < len) (W : World) :
    Calls Try.prog 43 #[.agg #[.int .u8 4, .int .u64 (n : Int), .string ⟨s.toArray⟩, .slice ao len cap, .int .i64 m], .string ⟨x.toArray⟩] W fun e w' => e = .returned (.string ⟨(x).toArray⟩) ∧ Below W.heap.size W w' := by
  have H := list_no x ao len cap (by omega) hl
  have HB := Lib.hid (below_box W (.cells #[.int .u8 4, .int .u64 (n : Int), .string ⟨s.toArray⟩, .slice ao len cap, .int .i64 m] 45))
  go_enter Try.func43, Try.ntmps43
  go_wp2_with (go_at_call 23; (with_reducible refine (H.at _).mono ?_); rintro e w' ⟨rfl, hb⟩)
  go_ret
  exact ⟨rfl, HB.out.trans (hb.mono HB.out.size)⟩
set_option maxHeartbeats 2000000 in
theorem put_5 (hx : x.length ≤ 7000000) (hk : 5 ≤ k) (W : World) :
    Calls Try.prog 43 #[.agg #[.int .u8 (k : Int), .int .u64 (n : Int), .string ⟨s.toArray⟩, .slice ao len cap, .int .i64 m], .string ⟨x.toArray⟩] W fun e w' => e = .returned (.string ⟨(x ++ MM.dig n 8).toArray⟩) ∧ Below W.heap.size W w' := by
  have H := num_any x n (by omega)
  have h0 : ¬ (k : Int) = 0 := by omega
  have h1 : ¬ (k : Int) = 1 := by omega
  have h2 : ¬ (k : Int) = 2 := by omega
  have h3 : ¬ (k : Int) = 3 := by omega
  have h4 : ¬ (k : Int) = 4 := by omega
  have g0 : ¬ k = 0 := by omega
  have g1 : ¬ k = 1 := by omega
  have g2 : ¬ k = 2 := by omega
  have g3 : ¬ k = 3 := by omega
  have g4 : ¬ k = 4 := by omega
  have HB := Lib.hid (below_box W (.cells #[.int .u8 (k : Int), .int .u64 (n : Int), .string ⟨s.toArray⟩, .slice ao len cap, .int .i64 m] 45))
  go_enter Try.func43, Try.ntmps43
  go_wp2_with (go_at_call 28; (with_reducible refine (H.at _).mono ?_); rintro e w' ⟨rfl, hb⟩)
  go_ret
  exact ⟨rfl, HB.out.trans (hb.mono HB.out.size)⟩
end
theorem put_any (t : Th) (ht : t.Ok) (x : List UInt8) (hx : x.length ≤ 7000000) (W : World) (hr : Rd W t.ao t.len t.z) :
    Calls Try.prog 43 #[.agg t.cells, .string ⟨x.toArray⟩] W fun e w' => e = .returned (.string ⟨(x ++ t.bytes).toArray⟩) ∧ Below W.heap.size W w' := by
  obtain ⟨k, n, s, ao, len, cap, z, m⟩ := t
  unfold Th.bytes
  simp only at hr ⊢
  match k with
  | 0 => exact put_0 n s ao len cap m x hx W
  | 1 => exact put_1 n s ao len cap m x hx W
  | 2 => exact put_2 n s ao len cap m x hx ht.n W
  | 3 =>
    simp only [show ((3 : Nat) = 0) = False by simp, if_false, if_true]
    by_cases h : s.length ≤ 2048
    · rw [if_pos h]; exact put_3 n s ao len cap m x hx h W
    · rw [if_neg h, List.append_nil]; exact put_3n n s ao len cap m x hx (Nat.lt_of_not_le h) W
  | 4 =>
    simp only [show ((4 : Nat) = 0) = False by simp, show ((4 : Nat) = 3) = False by simp, if_false, if_true]
    by_cases h : len ≤ 1024
    · rw [if_pos h]; exact put_4 n s ao len cap z m x hx h W hr
    · rw [if_neg h, List.append_nil]; exact put_4n n s ao len cap m x hx (Nat.lt_of_not_le h) W
  | k + 5 =>
    rw [if_neg (by omega), if_neg (by omega), if_neg (by omega)]
    exact put_5 (k + 5) n s ao len cap m x hx (by omega) W
end M
end Go.Proofs.Ytaijnejbffnfpaa
/- The examples that each statement of layer 9 asks for besides its own. -/
namespace Go.Proofs.Ytaijnejbffnfpaa
open Go Go.RowKit Go.Lib
namespace MM
def ex1 : List UInt8 := [7]
def ex2 : List UInt8 := [7, 0, 0, 0, 0, 0, 0, 1, 2]
def ex3 : List UInt8 := [7, 0, 0, 0, 0, 0, 0, 1, 2, 255, 255, 255, 255, 255, 255, 255, 254]
def ex4 : List UInt8 := [7, 0, 0, 0, 0, 0, 0, 1, 2, 255, 255, 255, 255, 255, 255, 255, 254, 0, 2, 97, 98]
def ex5 : List UInt8 := [7, 0, 0, 0, 0, 0, 0, 1, 2, 255, 255, 255, 255, 255, 255, 255, 254, 0, 2, 97, 98, 0, 1, 0, 0, 0, 0, 0, 0, 0, 5]
def exR (k : Nat) : List UInt8 := ex5.drop k
end MM
namespace M
/-- The world so far: nothing old has changed, and the first new block holds 5. -/
structure AwkS (W w : World) : Prop where
  below : Below W.heap.size W w
  five : w.cell? ⟨W.heap.size, 0, none⟩ = some (.int .u64 5)
theorem AwkS.step {W w w' : World} (h : AwkS W w) (hb : Below w.heap.size w w') : AwkS W w' :=
  ⟨h.below.trans (hb.mono h.below.size), (hb.cell (p := ⟨W.heap.size, 0, none⟩) (World.block_lt_of_cell? w _ h.five)).trans h.five⟩
section
variable (g : Nat) (w : World)
theorem ex_byte (h : RAt WR g MM.ex5 0 w) : Calls Try.prog 10 #[.pointer (some ⟨g, 0, none⟩)] w fun e' w' => e' = .returned (.tuple #[.int .u8 7, .int .i64 0]) ∧ RAt WR g (MM.exR 1) 0 w' ∧ Turn g w w' := by
  have H := byte_ask g MM.ex5 0 w h
  rw [show MM.rOff 1 MM.ex5 0 = (7, 0, MM.exR 1) by decide +kernel] at H
  exact H
theorem ex_num (h : RAt WR g (MM.exR 1) 0 w) : Calls Try.prog 11 #[.pointer (some ⟨g, 0, none⟩)] w fun e' w' => e' = .returned (.tuple #[.int .u64 258, .int .i64 0]) ∧ RAt WR g (MM.exR 9) 0 w' ∧ Turn g w w' := by
  have H := num_ask g (MM.exR 1) 0 w h
  rw [show MM.rOff 8 (MM.exR 1) 0 = (258, 0, MM.exR 9) by decide +kernel] at H
  exact H
theorem ex_int (h : RAt WR g (MM.exR 9) 0 w) : Calls Try.prog 12 #[.pointer (some ⟨g, 0, none⟩)] w fun e' w' => e' = .returned (.tuple #[.int .i64 (-2), .int .i64 0]) ∧ RAt WR g (MM.exR 17) 0 w' ∧ Turn g w w' := by
  have H := int_ask g (MM.exR 9) 0 w h
  rw [show MM.rOff 8 (MM.exR 9) 0 = (18446744073709551614, 0, MM.exR 17) by decide +kernel] at H
  rw [show MM.i64 (18446744073709551614, (0 : Int), MM.exR 17).1 = -2 by decide +kernel] at H
  exact H
theorem ex_text (h : RAt WR g (MM.exR 17) 0 w) : Calls Try.prog 14 #[.pointer (some ⟨g, 0, none⟩)] w fun e' w' => e' = .returned (.tuple #[.string ⟨#[97, 98]⟩, .int .i64 0]) ∧ RAt WR g (MM.exR 21) 0 w' ∧ Turn g w w' := by
  have H := text_ask g (MM.exR 17) 0 w h
  rw [show MM.rText (MM.exR 17) 0 = ([97, 98], 0, MM.exR 21) by decide +kernel] at H
  exact H
theorem ex_list (h : RAt WR g (MM.exR 21) 0 w) : Calls Try.prog 15 #[.pointer (some ⟨g, 0, none⟩)] w fun e' w' => ∃ ao, e' = .returned (.tuple #[.slice ao 1 1, .int .i64 0]) ∧ RAt WR g [] 0 w' ∧ Turn g w w' := by
  have H := list_ask g (MM.exR 21) 0 w h
  have h1 : (MM.rList (MM.exR 21) 0).1 = 0 := by decide +kernel
  have h2 : (MM.rList (MM.exR 21) 0).2.1 = 1 := by decide +kernel
  have h3 : (MM.rList (MM.exR 21) 0).2.2.2 = [] := by decide +kernel
  rw [h1, h2, h3] at H
  refine H.mono ?_
  rintro e w' ⟨v, rfl, ⟨_, h0⟩ | ⟨B, rfl, _, _⟩, hr, ht⟩
  · cases h0
  · exact ⟨_, rfl, hr, ht⟩
end
set_option maxHeartbeats 4000000 in
set_option maxRecDepth 100000 in
theorem awake_any (W : World) : Calls Try.prog 16 #[] W fun e w' => e = .returned (.bool true) ∧ Below W.heap.size W w' := by
  have H1 : RetB 26 #[.string ⟨#[]⟩, .int .u8 7] (.string ⟨MM.ex1.toArray⟩) := byte_any [] 7 (by simp) (by omega)
  have H2 : RetB 28 #[.string ⟨MM.ex1.toArray⟩, .int .u64 258] (.string ⟨MM.ex2.toArray⟩) := by
    have h := num_any MM.ex1 258 (by decide)
    rw [show MM.ex1 ++ MM.dig 258 8 = MM.ex2 by decide +kernel] at h
    exact h
  have H3 : RetB 30 #[.string ⟨MM.ex2.toArray⟩, .int .i64 (-2)] (.string ⟨MM.ex3.toArray⟩) := by
    have h := int_any MM.ex2 (-2) (by decide)
    rw [show MM.ex2 ++ MM.dig (MM.u64 (-2)) 8 = MM.ex3 by decide +kernel] at h
    exact h
  have H4 : RetB 43 #[.agg #[.int .u8 3, .int .u64 0, .string ⟨#[97, 98]⟩, .slice none 0 0, .int .i64 0], .string ⟨MM.ex3.toArray⟩] (.string ⟨MM.ex4.toArray⟩) := fun w => by
    have h := put_3 0 [97, 98] none 0 0 0 MM.ex3 (by decide) (by decide) w
    rw [show MM.ex3 ++ MM.textB [97, 98] = MM.ex4 by decide +kernel] at h
    exact h
  have H5 : ∀ (B : Nat) (w : World), w.cell? ⟨B, 0, none⟩ = some (.int .u64 5) → Calls Try.prog 43 #[.agg #[.int .u8 4, .int .u64 0, .string ⟨#[]⟩, .slice (some ⟨B, 0, none⟩) 1 1, .int .i64 0], .string ⟨MM.ex4.toArray⟩] w fun e w' => e = .returned (.string ⟨MM.ex5.toArray⟩) ∧ Below w.heap.size w w' := fun B w hb => by
    have h := put_4 0 [] (some ⟨B, 0, none⟩) 1 1 (fun _ => 5) 0 MM.ex4 (by decide) (by omega) w (fun _ => ⟨_, rfl, fun t ht => by
      obtain rfl : t = 0 := by omega
      exact hb⟩)
    rw [show MM.ex4 ++ MM.listB 1 (fun _ => 5) = MM.ex5 by decide +kernel] at h
    exact h
  have HO := fun w => open_any MM.ex5 (by decide) w
  have HB0 : Hid (AwkS W (W.alloc (.cells #[.int .u64 5] 26))) := Lib.hid ⟨below_box _ _, by simp [go_sem]⟩
  go_enter Try.func16, Try.ntmps16
  go_wp2_with (go_at_call 26; (with_reducible refine (H1.at _).mono ?_); rintro e w1 ⟨rfl, hb⟩; have HS1 := Lib.hid (HB0.out.step hb); clear hb)
  go_wp2_with (go_at_call 28; (with_reducible refine (H2.at _).mono ?_); rintro e w2 ⟨rfl, hb⟩; have HS2 := Lib.hid (HS1.out.step hb); clear hb)
  go_wp2_with (go_at_call 30; (with_reducible refine (H3.at _).mono ?_); rintro e w3 ⟨rfl, hb⟩; have HS3 := Lib.hid (HS2.out.step hb); clear hb)
  go_wp2_with (go_at_call 43; (with_reducible refine (H4.at _).mono ?_); rintro e w4 ⟨rfl, hb⟩; have HS4 := Lib.hid (HS3.out.step hb); clear hb)
  go_wp2_with (go_at_call 43; (with_reducible refine (H5 _ _ HS4.out.five).mono ?_); rintro e w5 ⟨rfl, hb⟩; have HS5 := Lib.hid (HS4.out.step hb); clear hb)
  go_wp2_with (go_at_call 20; (with_reducible refine (HO _).mono ?_); rintro e w6 ⟨g, rfl, hg, hr, hb⟩; have HR6 := Lib.hid hr; have HS6 := Lib.hid (HS5.out.step hb); have HG : Hid (W.heap.size ≤ g) := Lib.hid (Nat.le_trans HS5.out.below.size hg); clear hb hr hg)
  go_wp2_with (go_at_call 10; (with_reducible refine (ex_byte g _ HR6.out).mono ?_); rintro e w7 ⟨rfl, hr, ht⟩; have HR7 := Lib.hid hr; have HB7 : Hid (Below W.heap.size W w7) := Lib.hid (HS6.out.below.trans (ht.below HG.out HS6.out.below.size)); clear hr ht)
  go_wp2_with (go_at_call 11; (with_reducible refine (ex_num g _ HR7.out).mono ?_); rintro e w8 ⟨rfl, hr, ht⟩; have HR8 := Lib.hid hr; have HB8 : Hid (Below W.heap.size W w8) := Lib.hid (HB7.out.trans (ht.below HG.out HB7.out.size)); clear hr ht)
  go_wp2_with (go_at_call 12; (with_reducible refine (ex_int g _ HR8.out).mono ?_); rintro e w9 ⟨rfl, hr, ht⟩; have HR9 := Lib.hid hr; have HB9 : Hid (Below W.heap.size W w9) := Lib.hid (HB8.out.trans (ht.below HG.out HB8.out.size)); clear hr ht)
  go_wp2_with (go_at_call 14; (with_reducible refine (ex_text g _ HR9.out).mono ?_); rintro e w10 ⟨rfl, hr, ht⟩; have HR10 := Lib.hid hr; have HB10 : Hid (Below W.heap.size W w10) := Lib.hid (HB9.out.trans (ht.below HG.out HB9.out.size)); clear hr ht)
  go_wp2_with (go_at_call 15; (with_reducible refine (ex_list g _ HR10.out).mono ?_); rintro e w11 ⟨ao, rfl, hr, ht⟩; have HR11 := Lib.hid hr; have HB11 : Hid (Below W.heap.size W w11) := Lib.hid (HB10.out.trans (ht.below HG.out HB10.out.size)); clear hr ht)
  go_wp2_with (go_at_call 17; (with_reducible refine (end_none g 0 _ HR11.out).mono ?_); rintro e w12 ⟨rfl, rfl⟩)
  go_ret
  exact ⟨rfl, HB11.out⟩
end M
end Go.Proofs.Ytaijnejbffnfpaa

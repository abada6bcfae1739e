/- The texts SltMem, ByteRow, WirDig, WirPut, SltW2, one behind the other. -/
import Derived.Test.YtoacmingocmaaaaGreatDoorWB2
import Derived.Maps.Range
import Derived.Test.YtoacmingocmaaaaGreatDoorWB10
import Derived.Test.YtoacmingocmaaaaGreatDoorWB8
import Derived.Laws.Cells
import Derived.Laws.Bits64b
import Derived.Test.YtoacmingocmaaaaGreatDoorWB11
import Derived.Test.YtoacmingocmaaaaGreatDoorWB9
import Derived.Test.YtoacmingocmaaaaGreatDoorWB4
import Derived.Test.YtoacmingocmaaaaGreatDoorWB5
/- A map of sectors has no more entries than there are sectors; a disk whose cache is empty. -/
namespace Go.Proofs.YtoacmingocmaaaaGreatDoor
open Go Go.RowKit Go.Lib
open Go.Maps (Keyed)
namespace M
open MM
theorem pigeon : ∀ (n : Nat) (l : List Nat), l.Nodup → (∀ x ∈ l, x < n) → l.length ≤ n
  | 0, l, _, h => by
    cases l with
    | nil => simp
    | cons x l => exact absurd (h x (by simp)) (by omega)
  | n + 1, l, hd, h => by
    have h1 := pigeon n (l.erase n) (hd.erase n) (fun x hx => by
      have h2 := (hd.mem_erase_iff).1 hx
      have h3 := h x h2.2
      have h4 : x ≠ n := h2.1
      omega)
    rw [List.length_erase] at h1
    split at h1 <;> omega
theorem ownsMap_tight {P : Program} {k : TypeId} {R : Value → Option (DataW Value × List MemPlace)} {w : World} {m n : Nat} {D : DataW Value} (h : w.ownsMap P k R m n D) : w.ownsMap P k R m (Maps.size D) D := by
  obtain ⟨es, clock, hb, F, _, rfl⟩ := h
  exact ⟨es, clock, hb, F, by simp [Maps.size, length_sorted], rfl⟩
theorem MapAt.small {w : World} {m n : Nat} {p : Int → By} (h : MapAt w m n p) (hp : PWf p) : MapAt w m 65536 p := by
  obtain ⟨D, h1, h2, h3⟩ := h
  refine ⟨D, (ownsMap_tight h1).mono ?_, h2, h3⟩
  obtain ⟨es, hD, hne, hlit⟩ := h1.entries keyInt
  obtain ⟨es', hD', hko⟩ := h1.keysOf
  obtain rfl : es = es' := by rw [hD] at hD'; simpa using hD'
  subst hD
  have hz : ∀ x ∈ es, ∃ a : Int, x.1 = key a ∧ 0 ≤ a ∧ a < 65536 := fun x hx => by
    obtain ⟨v, hv⟩ := hko x hx
    obtain ⟨a, _, ha, _⟩ := Go.Maps.keyOf_i64 Tryz.underlying3 hv
    refine ⟨a, ha, ?_⟩
    have hh := h2 a
    rw [Go.Maps.has_eq] at hh
    have : (es.any fun p => p.1.sameKey (key a)) = true := by
      rw [List.any_eq_true]
      exact ⟨x, hx, by rw [ha]; simp [Lit.sameKey, key]⟩
    rw [this] at hh
    have hpz : p a ≠ zero := by simpa using hh.symm
    cases hs : sec a with
    | true => exact sec_yes.1 hs
    | false => exact absurd (hp.out a hs) hpz
  show es.length ≤ 65536
  have hmap : (es.map fun x => (Go.intOf x.1).toNat).Nodup := by
    unfold List.Nodup
    rw [List.pairwise_map]
    refine List.Pairwise.imp_of_mem (fun {x y} hx hy hxy e => hxy ?_) hne
    obtain ⟨a, ha, a1, _⟩ := hz x hx
    obtain ⟨b, hb, b1, _⟩ := hz y hy
    rw [ha, hb] at e ⊢
    have : a = b := by simp [Go.intOf, key] at e; omega
    rw [this]
  have := pigeon 65536 _ hmap (fun k hk => by
    obtain ⟨x, hx, rfl⟩ := List.mem_map.1 hk
    obtain ⟨a, ha, a1, a2⟩ := hz x hx
    rw [ha]
    simp [Go.intOf, key]; omega)
  rwa [List.length_map] at this
section
variable {w w' : World} {F : Nat → Prop} {B N : Nat} {s : Dsk}
theorem Dk.small (h : Dk w F B N s) (hc : s.c = []) : Dk w F B 65536 s := by
  obtain ⟨m, v, fu, le, n, h1⟩ := h.lies
  refine ⟨h.wf, ⟨m, v, fu, le, 65536, { h1 with plat := ?_, few := by rw [hc]; exact Nat.le_refl _ }⟩, h.FB, h.old, by omega⟩
  rcases h1.plat with h2 | ⟨m', e, h2⟩
  · exact .inl h2
  · exact .inr ⟨m', e, h2.small h.wf.p⟩
theorem Did.small (h : Did w F B N s w') (hc : s.c = []) : Did w F B 65536 s w' := by
  obtain ⟨F', h1, h2, h3⟩ := h
  exact ⟨F', h1.small hc, h2, h3⟩
end
end M
end Go.Proofs.YtoacmingocmaaaaGreatDoor
/- A row of bytes that a call itself makes whole, and writes cell by cell; as a text. -/
namespace Go.Proofs.YtoacmingocmaaaaGreatDoor
open Go Go.RowKit Go.Lib
namespace M
/-- Block B holds the n bytes z, one a cell, none frozen; it lies behind all that was there at w0; nothing of that has changed. -/
structure MineB (w0 : World) (B n : Nat) (z : Nat → UInt8) (w : World) : Prop where
  block : ∃ cs : Array Value, w.heap[B]? = some (.cells cs 5 (0, 0)) ∧ cs.size = n ∧ ∀ k, k < n → cs[k]? = some (.int .u8 ((z k).toNat : Int))
  low : w0.heap.size ≤ B
  below : Below w0.heap.size w0 w
section
variable {w0 w w' : World} {B n : Nat} {z y : Nat → UInt8}
theorem MineB.lt (h : MineB w0 B n z w) : B < w.heap.size := by obtain ⟨cs, h1, _⟩ := h.block; exact row_lt h1
theorem MineB.drewN (h : MineB w0 B n z w) (m : Nat) : MineB w0 B n z (w.drewN m) := ⟨h.block, h.low, Below.drawn h.below m⟩
theorem MineB.congr (h : MineB w0 B n z w) (hz : ∀ k, k < n → z k = y k) : MineB w0 B n y w :=
  ⟨by obtain ⟨cs, h1, h2, h3⟩ := h.block; exact ⟨cs, h1, h2, fun k hk => by rw [h3 k hk, hz k hk]⟩, h.low, h.below⟩
theorem MineB.cell (h : MineB w0 B n z w) {k : Nat} (hk : k < n) : w.cell? ⟨B, k, none⟩ = some (.int .u8 ((z k).toNat : Int)) := by
  obtain ⟨cs, h1, _, h3⟩ := h.block
  rw [cell_of_row w B k _ _ _ h1, h3 k hk]
theorem MineB.free (h : MineB w0 B n z w) (k : Nat) : w.frozen? ⟨B, k, none⟩ = false := by
  obtain ⟨cs, h1, _⟩ := h.block
  simp [World.frozen?, h1]
/-- One cell is written. -/
theorem MineB.set (h : MineB w0 B n z w) (k : Nat) (x : UInt8) (u : Int) (hu : u = (x.toNat : Int)) (hy : ∀ j, j < n → y j = if j = k then x else z j) : MineB w0 B n y (w.setCell ⟨B, k, none⟩ (.int .u8 u)) := by
  subst hu
  refine ⟨?_, h.low, h.below.setCell (p := ⟨B, k, none⟩) h.low _⟩
  obtain ⟨cs, h1, h2, h3⟩ := h.block
  refine ⟨_, heap_setCell_same w B k cs _ _ h1, by simpa using h2, fun j hj => ?_⟩
  rw [hy j hj, Array.getElem?_setIfInBounds]
  by_cases e : k = j
  · subst e; rw [if_pos rfl, if_pos (by omega), if_pos rfl]
  · rw [if_neg e, if_neg (fun h => e h.symm), h3 j hj]
/-- The row as make leaves it. -/
theorem MineB.made (w0 : World) (n : Nat) : MineB w0 w0.heap.size n (fun _ => 0) (w0.alloc (.cells (madeCells #[.int .u8 0] n) 5)) := by
  refine ⟨⟨_, heap_alloc_new _ _, by rw [size_madeCells], fun k hk => ?_⟩, Nat.le_refl _, below_box _ _⟩
  simp [madeCells, hk, Nat.mod_one]
theorem MineB.text (h : MineB w0 B n z w) (l : List UInt8) (cap : Nat) (hl : l.length = n) (hz : ∀ k, k < n → z k = l.getD k 0) :
    (convert 64 9 (.slice (some ⟨B, 0, none⟩) n cap)).run Tryz.prog w = .ok (.string ⟨l.toArray⟩) w := by
  subst hl
  refine run_text w _ l cap fun j hj => ?_
  have e : (⟨B, 0, none⟩ : Addr).add j = ⟨B, j, none⟩ := by
    unfold Addr.add
    by_cases h0 : j = 0
    · subst h0; rfl
    · rw [if_neg h0]; simp
  rw [e, h.cell hj, hz j hj]
end
end M
end Go.Proofs.YtoacmingocmaaaaGreatDoor
/- The walk of wire.digits: the last bytes of a number. -/
namespace Go.Proofs.YtoacmingocmaaaaGreatDoor
open Go Go.RowKit Go.Lib
namespace M
/-- What stands in the row behind k rounds. -/
def digZ (n w k : Nat) (j : Nat) : UInt8 := if j < k then UInt8.ofNat (n / 256 ^ (w - 1 - j)) else 0
theorem digZ_all (n w j : Nat) (hj : j < w) : digZ n w w j = (MM.dig n w).getD j 0 := by
  rw [List.getD_eq_getElem?_getD, MM.dig_get hj]
  simp [digZ, hj]
theorem digZ_succ (n w k : Nat) : ∀ j, j < w → digZ n w (k + 1) j = if j = k then UInt8.ofNat (n / 256 ^ (w - 1 - k)) else digZ n w k j := fun j _ => by
  unfold digZ
  by_cases e : j = k
  · subst e; simp
  · rw [if_neg e]
    by_cases h : j < k
    · rw [if_pos h, if_pos (by omega)]
    · rw [if_neg h, if_neg (by omega)]
theorem dig_int (n e : Nat) : (n : Int) / 2 ^ (8 * e) % 256 = ((UInt8.ofNat (n / 256 ^ e)).toNat : Int) := by
  have h : (2 : Nat) ^ (8 * e) = 256 ^ e := by rw [Nat.pow_mul]
  have h2 : ((2 : Int) ^ (8 * e)) = ((256 ^ e : Nat) : Int) := by rw [← h]; simp
  rw [h2, UInt8.toNat_ofNat']
  simp
set_option maxHeartbeats 1000000 in
theorem digits_any (n w : Nat) (hw : 1 ≤ w) (hw8 : w ≤ 8) :
    RetB 87 #[.int .u64 (n : Int), .int .i64 (w : Int)] (.string ⟨(MM.dig n w).toArray⟩) := by
  intro W
  have hm := fun W => run_made8 w (by omega) W
  have HM := Lib.hid (MineB.made W w)
  go_enter Tryz.func87, Tryz.ntmps87
  go_upto_region 2 with fail
  generalize hW1 : W.alloc (.cells (madeCells #[.int .u8 0] w) 5) = w1 at *
  generalize hg : W.heap.size = B at *
  clear hm hW1
  go_wp2_with fail
  go_loopw [11] (fun s11 wx => ∃ k : Nat, k ≤ w ∧ s11 = .int .i64 (k : Int) ∧ MineB W B w (digZ n w k) wx) (fun s11 _ => w - (RowKit.intOf s11).toNat)
  case atStart => exact ⟨0, Nat.zero_le _, rfl, HM.out.congr fun k _ => rfl⟩
  case round =>
    obtain ⟨k, hk, rfl, hM⟩ := hrel
    have HK := Lib.hid hM
    clear hM
    by_cases hlt : k < w
    · have hfr := HK.out.free k
      have hcl := HK.out.cell hlt
      go_wp2_with fail
      go_roundw
      case rel => exact ⟨k + 1, by omega, by go_num, HK.out.set k (UInt8.ofNat (n / 256 ^ (w - 1 - k))) _ (dig_int n (w - 1 - k)) (digZ_succ n w k)⟩
      case measure => simp [RowKit.intOf]; omega
    · obtain rfl : k = w := by omega
      have hc := HK.out.text (MM.dig n k) k (by simp) (fun j hj => digZ_all n k j hj)
      go_wp2_with fail
      go_ret
      exact ⟨rfl, HK.out.below⟩
end M
end Go.Proofs.YtoacmingocmaaaaGreatDoor
/- The walks of what writes: the program's and the document's bytes of a byte, a number, a whole number, a text and a list. -/
namespace Go.Proofs.YtoacmingocmaaaaGreatDoor
open Go Go.RowKit Go.Lib
namespace MM
/-- The bytes of the first n numbers of a row. -/
def nums (z : Nat → Nat) (n : Nat) : List UInt8 := (List.range n).flatMap fun k => dig (z k) 8
theorem nums_succ (z : Nat → Nat) (n : Nat) : nums z (n + 1) = nums z n ++ dig (z n) 8 := by simp [nums, List.range_succ]
@[simp] theorem nums_len (z : Nat → Nat) : ∀ n, (nums z n).length = 8 * n
  | 0 => by simp [nums]
  | n + 1 => by rw [nums_succ, List.length_append, nums_len z n, dig_len]; omega
/-- The number that a whole number is modulo 2^64. -/
def u64 (n : Int) : Nat := (n % 18446744073709551616).toNat
theorem u64_int (n : Int) : ((u64 n : Nat) : Int) = n % 18446744073709551616 := by unfold u64; omega
theorem u64_lt (n : Int) : u64 n < 18446744073709551616 := by unfold u64; omega
theorem wrap_u64 (n : Int) : IntKind.u64.wrap n = ((u64 n : Nat) : Int) := by
  rw [u64_int]; simp [IntKind.wrap, IntKind.bits, IntKind.signed]
/-- A text's bytes, a list's. -/
def textB (t : List UInt8) : List UInt8 := dig t.length 2 ++ t
def listB (n : Nat) (z : Nat → Nat) : List UInt8 := dig n 2 ++ nums z n
end MM
namespace M
theorem add_str (x y : List UInt8) (hx : x.length ≤ 8388608) (hy : y.length ≤ 8388608) (W : World) : (Op.stringOp .add ⟨x.toArray⟩ ⟨y.toArray⟩).run Tryz.prog W = .ok (.string ⟨(x ++ y).toArray⟩) W :=
  run_string_add_lists W x y (by omega) (by omega)
theorem num_any (s : List UInt8) (n : Nat) (hs : s.length ≤ 8000000) :
    RetB 69 #[.string ⟨s.toArray⟩, .int .u64 (n : Int)] (.string ⟨(s ++ MM.dig n 8).toArray⟩) := by
  intro W
  have H : RetB 87 #[.int .u64 (n : Int), .int .i64 8] (.string ⟨(MM.dig n 8).toArray⟩) := digits_any n 8 (by omega) (by omega)
  have ha := add_str s (MM.dig n 8) (by omega) (by simp)
  go_enter Tryz.func69, Tryz.ntmps69
  go_wp2_with (go_at_call 87; (with_reducible refine (H.at _).mono ?_); rintro e w' ⟨rfl, hb⟩)
  go_ret
  exact ⟨rfl, hb⟩
/-- What a call that builds a text carries along. -/
structure LBld (w0 : World) (b : Nat) (l : List UInt8) (w : World) : Prop where
  bld : Bld w0.heap.size b l w
  below : Below w0.heap.size w0 w
theorem Bld.step {B b : Nat} {l : List UInt8} {w w' : World} (h : Bld B b l w) (hb : Below w.heap.size w w') : Bld B b l w' := by
  have go : ∀ p, Lib.BuilderAt 66 5 B b p (Lib.byteCells l) w → Lib.BuilderAt 66 5 B b p (Lib.byteCells l) w' := fun p ⟨hB, v, h1, h2, h3⟩ =>
    ⟨hB, v, (hb.block b (row_lt h1)).trans h1, h2.kept (row := none) ⟨hb.os, hb.tape, hb.output, hb.size, fun k hk _ => hb.block k hk⟩ (by cases v.ownBlock <;> simp), h3⟩
  exact h.imp (go _) (go _)
theorem LBld.step {w0 : World} {b : Nat} {l : List UInt8} {w w' : World} (h : LBld w0 b l w) (hb : Below w.heap.size w w') : LBld w0 b l w' :=
  ⟨h.bld.step hb, h.below.trans (hb.mono h.below.size)⟩
theorem LBld.write {w0 : World} {b : Nat} {l : List UInt8} {w : World} (h : LBld w0 b l w) (s : List UInt8) (hl : l.length + s.length ≤ 140737488355328) :
    Calls Tryz.prog 35 #[.pointer (some ⟨b, 0, none⟩), .string ⟨s.toArray⟩] w fun e w' => (∃ v, e = .returned v) ∧ LBld w0 b (l ++ s) w' :=
  (bwrite_any _ b l s w h.bld hl h.below.size).mono fun _ _ ⟨he, hb, hw⟩ => ⟨he, hb, h.below.trans hw⟩
theorem LBld.text {w0 : World} {b : Nat} {l : List UInt8} {w : World} (h : LBld w0 b l w) :
    Calls Tryz.prog 37 #[.pointer (some ⟨b, 0, none⟩)] w fun e w' => e = .returned (.string ⟨l.toArray⟩) ∧ Below w0.heap.size w0 w' :=
  (Tryz.Builder_String_any _ b l w h.bld h.below.size).mono fun _ _ ⟨he, hw⟩ => ⟨he, h.below.trans hw⟩
end M
end Go.Proofs.YtoacmingocmaaaaGreatDoor
/- The walks of what writes a slot's parts: how many sectors, a header, the text sector by sector, the sectors that are wiped. -/
namespace Go.Proofs.YtoacmingocmaaaaGreatDoor
open Go Go.RowKit Go.Lib
namespace M
open MM
theorem slotSectors_any (t : By) (ht : t.length ≤ most) : Ret 65 #[.string ⟨t.toArray⟩] (.int .i64 (secs t.length : Int)) := fun W => by
  have hl : ((t.length : Int) + 511) / 512 = (secs t.length : Int) := by unfold secs; omega
  have h1 : t.length ≤ 16776704 := ht
  have hq : ((t.length : Int) + 512 - 1).tdiv 512 = (secs t.length : Int) := by rw [Int.tdiv_eq_ediv_of_nonneg (by omega)]; unfold secs; omega
  go_enter Tryz.func65, Tryz.ntmps65
  go_wp2_with fail
  go_ret
  exact ⟨rfl, 0, rfl⟩
theorem header_any (a n : Nat) (ha : a ≤ top) (hn : n ≤ most) : RetB 67 #[.int .i64 (a : Int), .int .i64 (n : Int)] (.string ⟨(hdr a n).toArray⟩) := fun W => by
  have h1 : a ≤ 1099511627776 := ha
  have h2 : n ≤ 16776704 := hn
  have w1 : IntKind.u64.wrap (a : Int) = (a : Int) := by simp [IntKind.wrap, IntKind.bits, IntKind.signed]; omega
  have w2 : IntKind.u64.wrap (n : Int) = (n : Int) := by simp [IntKind.wrap, IntKind.bits, IntKind.signed]; omega
  have H1 : RetB 69 #[.string ⟨#[]⟩, .int .u64 (a : Int)] (.string ⟨(dig a 8).toArray⟩) := num_any [] a (by simp)
  have H2 := num_any (dig a 8) n (by simp)
  have H3 : RetB 69 #[.string ⟨(dig a 8 ++ dig n 8).toArray⟩, .int .u64 (a : Int)] (.string ⟨(hdr a n).toArray⟩) := num_any (dig a 8 ++ dig n 8) a (by simp)
  have HB0 := Lib.hid (Below.refl W.heap.size W)
  go_enter Tryz.func67, Tryz.ntmps67
  go_wp2_with (first
    | (go_at_call 69; (with_reducible refine (H1.at _).mono ?_); rintro e w1 ⟨rfl, hb⟩; have HB1 := Lib.hid hb; clear hb)
    | (go_at_call 69; (with_reducible refine (H2.at _).mono ?_); rintro e w2 ⟨rfl, hb⟩; have HB2 := Lib.hid (bnext HB1.out hb); clear hb)
    | (go_at_call 69; (with_reducible refine (H3.at _).mono ?_); rintro e w3 ⟨rfl, hb⟩; have HB3 := Lib.hid (bnext HB2.out hb); clear hb))
  go_ret
  exact ⟨rfl, HB3.out⟩
section
variable {w : World} {F : Nat → Prop} {B N : Nat} {s : Dsk}
theorem ops_snoc {l : List SOp} {o : SOp} (h : (s.ops l).1 = 0) : s.ops (l ++ [o]) = (s.ops l).2.op o := by rw [ops_append, if_pos h, ops_one]
theorem Did.comp {F' : Nat → Prop} {w1 w2 : World} {N' : Nat} {s2 : Dsk} (h2 : ∀ k, F' k → F k ∨ w.heap.size ≤ k) (h3 : Chg F w w1) (h : Did w1 F' B N' s2 w2) : Did w F B N' s2 w2 := by
  obtain ⟨F2, k1, k2, k3⟩ := h
  refine ⟨F2, k1, fun j hj => ?_, h3.trans k3 h2⟩
  rcases k2 j hj with h5 | h5
  · exact h2 j h5
  · exact .inr (Nat.le_trans h3.size h5)
theorem Did.upN {w' : World} {M M' : Nat} {s' : Dsk} (h : Did w F B M s' w') (hM : M ≤ M') (hM' : M' ≤ 1000000) : Did w F B M' s' w' := by
  obtain ⟨F', h1, h2, h3⟩ := h
  exact ⟨F', h1.up hM hM', h2, h3⟩
theorem Did.base {w1 w' : World} {M : Nat} {s' : Dsk} (h : Did w1 F B M s' w') (hb : Below w.heap.size w w1) : Did w F B M s' w' := by
  obtain ⟨F', h1, h2, h3⟩ := h
  exact ⟨F', h1, fun k hk => (h2 k hk).imp id fun h => Nat.le_trans hb.size h, (Chg.of_below F hb).trans h3 fun _ h => .inl h⟩
/-- A call behind others. -/
theorem Did.goes {f : FuncId} {args : Array Value} {w1 : World} {M M' : Nat} {s1 s2 : Dsk} {R : Ending → Prop} (h : Did w F B M s1 w1) (hc : ∀ F', Dk w1 F' B M s1 → Calls Tryz.prog f args w1 fun e w' => R e ∧ Did w1 F' B M' s2 w') : Calls Tryz.prog f args w1 fun e w' => R e ∧ Did w F B M' s2 w' := by
  obtain ⟨F', h1, h2, h3⟩ := h
  exact (hc F' h1).mono fun e w' ⟨he, hd⟩ => ⟨he, hd.comp h2 h3⟩
theorem texts_take {k : Int} {t : By} {i : Nat} (h : i < secs t.length) : (texts k t).take (i + 1) = (texts k t).take i ++ [(k + (i : Int), pce t i)] := by
  rw [List.take_add_one]
  congr 1
  unfold texts
  rw [List.getElem?_map, List.getElem?_range h]
  rfl
/-- Behind i sectors of a text. -/
abbrev fillS (s : Dsk) (k : Int) (t : By) (i : Nat) : Nat × Dsk := s.ops (wrs ((texts k t).take i))
theorem fillS_succ {k : Int} {t : By} {i : Nat} (h : i < secs t.length) (h0 : (fillS s k t i).1 = 0) : fillS s k t (i + 1) = (fillS s k t i).2.write (k + (i : Int)) (pce t i) := by
  unfold fillS
  rw [texts_take h, wrs_append]
  exact ops_snoc h0
theorem fillS_stop {k : Int} {t : By} {i : Nat} (h0 : (fillS s k t i).1 ≠ 0) : s.ops (wrs (texts k t)) = fillS s k t i := by
  conv => lhs; rw [← List.take_append_drop i (texts k t)]
  rw [wrs_append, ops_append, if_neg h0]
theorem ext_take' (t : By) (n : Nat) : (⟨t.toArray⟩ : ByteArray).extract 0 n = ⟨(t.take n).toArray⟩ := by rw [ByteArray.extract_mk]; simp
theorem ext_from (t : By) (n : Nat) : (⟨t.toArray⟩ : ByteArray).extract n t.length = ⟨(t.drop n).toArray⟩ := by rw [ByteArray.extract_mk, List.take_of_length_le (by simp)]
set_option maxRecDepth 100000 in
set_option maxHeartbeats 8000000 in
theorem fill_any (h : Dk w F B N s) (k : Int) (hk : -1000000 ≤ k ∧ k ≤ 1000000) (t : By) (ht : t.length ≤ most) (hN : N + secs t.length ≤ 1000000) : Calls Tryz.prog 62 #[ptr B, .int .i64 k, .string ⟨t.toArray⟩] w fun e w' => e = .returned (.int .i64 ((s.ops (wrs (texts k t))).1 : Int)) ∧ Did w F B (N + secs t.length) (s.ops (wrs (texts k t))).2 w' := by
  have H0 : Hid (Did w F B (N + 0) (fillS s k t 0).2 w) := Lib.hid (.refl h)
  have hsec := secs_le ht
  have hm : t.length ≤ 16776704 := ht
  have HN := Lib.hid hN
  clear h
  go_enter Tryz.func62, Tryz.ntmps62
  go_wp2_with fail
  go_loopw [1, 2, 7, 8] (fun s1 s2 s7 s8 wx => ∃ i : Nat, i ≤ secs t.length ∧ s1 = .int .i64 (k + (i : Int)) ∧ s2 = .string ⟨(t.drop (512 * i)).toArray⟩ ∧ Hid ((fillS s k t i).1 = 0) ∧ Hid (Did w F B (N + i) (fillS s k t i).2 wx)) (fun s1 _ _ _ _ => (k + (secs t.length : Int) - RowKit.intOf s1).toNat)
  case atStart => exact ⟨0, Nat.zero_le _, by simp, by simp, Lib.hid rfl, H0⟩
  case round =>
    obtain ⟨i, hi, rfl, rfl, HZ, HD⟩ := hrel
    by_cases hlt : i < secs t.length
    · obtain ⟨u, hu⟩ : ∃ u, t.drop (512 * i) = u := ⟨_, rfl⟩
      have hul : u.length = t.length - 512 * i := by rw [← hu, List.length_drop]
      have hlt5 := secs_lt hlt
      have hpc : pce t i = u.take 512 := by unfold pce; rw [hu]
      have HW := Lib.hid (HD.out.goes fun F' hF => write_any hF (by have := HN.out; omega) (k + (i : Int)) (pce t i))
      have HS := Lib.hid (fillS_succ (s := s) (k := k) hlt HZ.out)
      rw [hu]
      rw [hpc] at HW HS
      rw [← HS.out] at HW
      have hune : u ≠ [] := fun e => by rw [e] at hul; simp at hul; omega
      obtain ⟨v, hv⟩ : ∃ v, u.take 512 = v := ⟨_, rfl⟩
      obtain ⟨mn, hmn⟩ : ∃ mn : Nat, min u.length 512 = mn := ⟨_, rfl⟩
      have hx1 : (⟨u.toArray⟩ : ByteArray).extract 0 mn = ⟨v.toArray⟩ := by
        rw [ext_take' u mn, ← hv]
        congr 2
        rw [← hmn, Nat.min_comm, ← List.take_eq_take_min]
      have hx2 : (⟨u.toArray⟩ : ByteArray).extract mn u.length = ⟨(t.drop (512 * (i + 1))).toArray⟩ := by
        rw [ext_from u mn]
        congr 2
        rw [show 512 * (i + 1) = 512 * i + 512 by omega, ← List.drop_drop, hu, ← hmn]
        by_cases h5 : u.length ≤ 512
        · rw [Nat.min_eq_left h5, List.drop_length, List.drop_eq_nil_of_le h5]
        · rw [Nat.min_eq_right (by omega)]
      rw [hv] at HW
      have hmi : min (u.length : Int) 512 = (mn : Int) := by omega
      have hm0 : (0 : Int) ≤ (mn : Int) := Int.natCast_nonneg _
      have hm1 : (mn : Int) ≤ (u.length : Int) := by omega
      have hne : u.isEmpty = false := by cases u with
        | nil => exact absurd rfl hune
        | cons _ _ => rfl
      clear hune hu hpc hv hmn hul
      obtain ⟨u2, hu2⟩ : ∃ u2, t.drop (512 * (i + 1)) = u2 := ⟨_, rfl⟩
      rw [hu2] at hx2
      have HU2 := Lib.hid hu2
      clear hu2
      obtain ⟨E, hE⟩ : ∃ E, (fillS s k t (i + 1)).1 = E := ⟨_, rfl⟩
      rw [hE] at HW
      by_cases hz : E = 0
      · subst hz
        have HZ2 := Lib.hid hE
        clear hE
        go_wp2_with (go_at_call 22; (with_reducible refine HW.out.mono ?_); rintro e w' ⟨rfl, hd⟩; have HD2 := Lib.hid hd; clear hd)
        go_roundw
        case rel => exact ⟨i + 1, by omega, by go_num, by rw [HU2.out], HZ2, HD2⟩
        case measure => simp [RowKit.intOf]; omega
      · have hzi : ((E : Int) != 0) = true := by simpa using (by omega : ¬ (E : Int) = 0)
        have HST := Lib.hid (fillS_stop (s := s) (k := k) (t := t) (i := i + 1) (by rw [hE]; exact hz))
        have HE := Lib.hid hE
        clear hE hz
        go_wp2_with (go_at_call 22; (with_reducible refine HW.out.mono ?_); rintro e w' ⟨rfl, hd⟩; have HD2 := Lib.hid hd; clear hd)
        go_ret
        rw [HST.out, HE.out]
        exact ⟨rfl, HD2.out.upN (by omega) HN.out⟩
    · obtain rfl : i = secs t.length := by omega
      have hnil : t.drop (512 * secs t.length) = [] := List.drop_eq_nil_of_le (secs_ge _)
      rw [hnil]
      have hall : (texts k t).take (secs t.length) = texts k t := by rw [← texts_len k t, List.take_length]
      unfold fillS at HZ HD
      rw [hall] at HZ HD
      go_wp2_with fail
      go_ret
      exact ⟨by rw [HZ.out]; rfl, HD.out⟩
theorem used_len {s : Dsk} {l : List Int} (h : UsedIs s l) (hs : s.Wf) : l.length ≤ 65536 := by
  have hsec : ∀ k ∈ l, 0 ≤ k ∧ k < 65536 := fun k hk => by
    rw [← sec_yes]
    rcases (h.mem k).1 hk with h1 | ⟨x, hx, rfl⟩
    · cases e : sec k with
      | true => rfl
      | false => exact absurd (hs.p.out k e) h1
    · exact (hs.c x hx).1
  have hn : (l.map Int.toNat).Nodup := by
    unfold List.Nodup
    rw [List.pairwise_map]
    refine List.Pairwise.imp_of_mem (fun {x y} hx hy hxy => ?_) h.asc
    have := hsec x hx
    have := hsec y hy
    omega
  have := pigeon 65536 _ hn (fun k hk => by
    obtain ⟨x, hx, rfl⟩ := List.mem_map.1 hk
    have := hsec x hx
    omega)
  rwa [List.length_map] at this
/-- The range of a slot. -/
def inR (a b x : Int) : Bool := decide (a ≤ x) && decide (x < b)
theorem used_in {s : Dsk} {l : List Int} {a b : Int} (h : UsedIs s l) (hc : ∀ x ∈ s.c, ¬ (a ≤ x.1 ∧ x.1 < b)) : l.filter (inR a b) = wipeL s.p a b := by
  refine asc_ext (List.Pairwise.filter _ h.asc) (wipeL_asc _ _ _) fun k => ?_
  rw [List.mem_filter, h.mem, mem_wipeL]
  unfold inR
  simp only [Bool.and_eq_true, decide_eq_true_eq]
  constructor
  · rintro ⟨h1, h2, h3⟩
    refine ⟨h2, h3, ?_⟩
    rcases h1 with h1 | ⟨x, hx, rfl⟩
    · exact h1
    · exact absurd ⟨h2, h3⟩ (hc x hx)
  · rintro ⟨h1, h2, h3⟩
    exact ⟨.inl h3, h1, h2⟩
/-- Behind i sectors that are used. -/
abbrev wipS (s : Dsk) (a b : Int) (l : List Int) (i : Nat) : Nat × Dsk := s.ops (wrs (wipes ((l.take i).filter (inR a b))))
abbrev wipN (a b : Int) (l : List Int) (i : Nat) : Nat := ((l.take i).filter (inR a b)).length
theorem wip_snoc {s : Dsk} {a b z : Int} {l : List Int} {i : Nat} (hz : l[i]? = some z) (hi : inR a b z = true) (h0 : (wipS s a b l i).1 = 0) : wipS s a b l (i + 1) = (wipS s a b l i).2.write z [] ∧ wipN a b l (i + 1) = wipN a b l i + 1 := by
  have e : (l.take (i + 1)).filter (inR a b) = (l.take i).filter (inR a b) ++ [z] := by
    rw [List.take_add_one, hz, List.filter_append]; simp [hi]
  unfold wipS wipN
  rw [e]
  refine ⟨?_, by simp⟩
  have : wrs (wipes ((l.take i).filter (inR a b) ++ [z])) = wrs (wipes ((l.take i).filter (inR a b))) ++ [.wr z []] := by simp [wrs, wipes]
  rw [this]
  exact ops_snoc h0
theorem wip_skip {s : Dsk} {a b z : Int} {l : List Int} {i : Nat} (hz : l[i]? = some z) (hi : inR a b z = false) : wipS s a b l (i + 1) = wipS s a b l i ∧ wipN a b l (i + 1) = wipN a b l i := by
  have e : (l.take (i + 1)).filter (inR a b) = (l.take i).filter (inR a b) := by
    rw [List.take_add_one, hz, List.filter_append]; simp [hi]
  unfold wipS wipN
  rw [e]; exact ⟨rfl, rfl⟩
theorem wip_stop {s : Dsk} {a b : Int} {l : List Int} {i : Nat} (h0 : (wipS s a b l i).1 ≠ 0) : s.ops (wrs (wipes (l.filter (inR a b)))) = wipS s a b l i := by
  conv => lhs; rw [← List.take_append_drop i l]
  rw [List.filter_append]
  have : wrs (wipes ((l.take i).filter (inR a b) ++ (l.drop i).filter (inR a b))) = wrs (wipes ((l.take i).filter (inR a b))) ++ wrs (wipes ((l.drop i).filter (inR a b))) := by simp [wrs, wipes]
  rw [this, ops_append, if_neg h0]
theorem wipN_le (a b : Int) (l : List Int) (i : Nat) : wipN a b l i ≤ (l.filter (inR a b)).length := by
  unfold wipN
  conv => rhs; rw [← List.take_append_drop i l]
  rw [List.filter_append, List.length_append]
  exact Nat.le_add_right _ _
theorem vals_chg {w w' : World} {F : Nat → Prop} {v : Value} {l : List Value} (h : ValsAt w v l) (hn : ∀ ad n c, v = .slice (some ad) n c → ¬ F ad.block) (hc : Chg F w w') : ValsAt w' v l := by
  obtain ⟨ao, c, hv, hcell⟩ := h
  refine ⟨ao, c, hv, fun i u hi => ?_⟩
  obtain ⟨ad, e, hcl⟩ := hcell i u hi
  refine ⟨ad, e, ?_⟩
  have hb : (ad.add i).block = ad.block := by unfold Addr.add; split <;> rfl
  have hlt := World.block_lt_of_cell? w _ hcl
  rw [World.cell?_of_block (w := w) (hc.block _ hlt (by rw [hb]; exact hn ad _ c (by rw [hv, e])))]
  exact hcl
set_option maxRecDepth 100000 in
set_option maxHeartbeats 8000000 in
theorem wipe_any (h : Dk w F B N s) (a b : Int) (hc : ∀ x ∈ s.c, ¬ (a ≤ x.1 ∧ x.1 < b)) (hN : N + (wipeL s.p a b).length ≤ 1000000) : Calls Tryz.prog 64 #[ptr B, .int .i64 a, .int .i64 b] w fun e w' => e = .returned (.int .i64 ((s.ops (wrs (wipes (wipeL s.p a b)))).1 : Int)) ∧ Did w F B (N + (wipeL s.p a b).length) (s.ops (wrs (wipes (wipeL s.p a b)))).2 w' := by
  have HUS := Lib.hid (used_new h)
  have HF : Hid (∀ l, UsedIs s l → l.filter (inR a b) = wipeL s.p a b) := Lib.hid fun l hl => used_in hl hc
  have HD0 := Lib.hid h
  have HN := Lib.hid hN
  generalize wipeL s.p a b = wl at *
  clear h hc
  go_enter Tryz.func64, Tryz.ntmps64
  go_upto_region 2 with (go_at_call 51; (with_reducible refine HUS.out.mono ?_); rintro e w2 ⟨v, l, rfl, hu, hv, hb, hn⟩; obtain ⟨ao, cc, hvv, _⟩ := id hv; rw [ints_len] at hvv; subst hvv; have HU := Lib.hid (HF.out l hu); have HL := Lib.hid (used_len hu HD0.out.wf); have HV := Lib.hid hv; have HB := Lib.hid hb; have HNW := Lib.hid hn; clear hu hv hb hn)
  have HD1 : Hid (Did w2 F B (N + wipN a b l 0) (wipS s a b l 0).2 w2) := Lib.hid (.refl (HD0.out.step HB.out))
  have HRL : Hid (∀ ad n c, (Value.slice ao l.length cc) = .slice (some ad) n c → 0 < l.length → ad.block < w2.heap.size) := Lib.hid fun ad n c e h0 => by
    obtain ⟨ao2, c2, hva, hcell⟩ := HV.out
    injection hva with e1 _ _
    injection e with e2 _ _
    obtain ⟨ad2, e3, hcl⟩ := hcell 0 _ (ints_get (List.getElem?_eq_getElem h0))
    rw [← e1, e2] at e3
    injection e3 with e3
    have := World.block_lt_of_cell? w2 _ hcl
    rw [← e3] at this
    have hb : (ad.add 0).block = ad.block := by unfold Addr.add; split <;> rfl
    rwa [hb] at this
  have hl6 : l.length ≤ 65536 := HL.out
  have HNE : Hid (∀ ad n c, (Value.slice ao l.length cc) = .slice (some ad) n c → ¬ F ad.block) := Lib.hid fun ad n c e hf => by
    have h1 := HNW.out ad n c e
    have h2 := HD0.out.old _ hf
    omega
  clear HUS HF HD0 HNW
  go_loopw [8, 9, 13] (fun s8 s9 s13 wx => ∃ i : Nat, i ≤ l.length ∧ s13 = .int .i64 (i : Int) ∧ Hid ((wipS s a b l i).1 = 0) ∧ Hid (Did w2 F B (N + wipN a b l i) (wipS s a b l i).2 wx) ∧ Hid (ValsAt wx (.slice ao l.length cc) (ints l))) (fun _ _ s13 _ => l.length - (RowKit.intOf s13).toNat)
  case atStart => exact ⟨0, Nat.zero_le _, rfl, Lib.hid rfl, HD1, HV⟩
  case round =>
    obtain ⟨i, hi, rfl, HZ, HD, HVA⟩ := hrel
    by_cases hlt : i < l.length
    · obtain ⟨z, hz⟩ : ∃ z, l[i]? = some z := ⟨_, List.getElem?_eq_getElem hlt⟩
      obtain ⟨ao2, c2, hva, hcell⟩ := id HVA.out
      injection hva with e1 e4 e5
      clear e4 e5
      subst e1
      obtain ⟨ad, rfl, hcl⟩ := hcell i (.int .i64 z) (ints_get hz)
      clear hcell
      cases hin : inR a b z with
      | false =>
        obtain ⟨k1, k2⟩ := wip_skip (s := s) hz hin
        have HZ2 := Lib.hid (k1 ▸ HZ.out)
        have HDN : Hid (Did w2 F B (N + wipN a b l (i + 1)) (wipS s a b l (i + 1)).2 wr) := Lib.hid (by rw [k1, k2]; exact HD.out)
        have hcases : z < a ∨ (¬ z < a ∧ b ≤ z) := by
          unfold inR at hin
          simp only [Bool.and_eq_false_iff, decide_eq_false_iff_not] at hin
          omega
        clear k1 k2 hin hz HD HZ
        rcases hcases with hza | ⟨hza, hzb⟩
        · go_wp2_with fail
          go_roundw
          case rel => exact ⟨i + 1, by omega, by go_num, HZ2, HDN, HVA⟩
          case measure => simp [RowKit.intOf]; omega
        · go_wp2_with fail
          go_roundw
          case rel => exact ⟨i + 1, by omega, by go_num, HZ2, HDN, HVA⟩
          case measure => simp [RowKit.intOf]; omega
      | true =>
        obtain ⟨k1, k2⟩ := wip_snoc (s := s) hz hin HZ.out
        have hle := wipN_le a b l (i + 1)
        rw [HU.out] at hle
        have HLE := Lib.hid hle
        have HW : Hid (Calls Tryz.prog 22 #[ptr B, .int .i64 z, .string ⟨#[]⟩] wr fun e w' => e = .returned (.int .i64 ((wipS s a b l (i + 1)).1 : Int)) ∧ Did w2 F B (N + wipN a b l (i + 1)) (wipS s a b l (i + 1)).2 w' ∧ ValsAt w' (.slice (some ad) l.length cc) (ints l)) := Lib.hid (by
          obtain ⟨F', h1, h2, h3⟩ := HD.out
          rw [k1, k2]
          refine (write_any h1 (by have := HN.out; omega) z []).mono fun e w' ⟨he, hd⟩ => ⟨he, hd.comp h2 h3, ?_⟩
          obtain ⟨_, _, _, q3⟩ := hd
          refine vals_chg HVA.out (fun ad2 n2 c3 e2 hf => ?_) q3
          rcases h2 _ hf with q | q
          · exact HNE.out ad2 n2 c3 e2 q
          · have := HRL.out ad2 n2 c3 e2 (by omega)
            omega)
        have hza : ¬ z < a := by unfold inR at hin; simp at hin; omega
        have hzb : ¬ b ≤ z := by unfold inR at hin; simp at hin; omega
        clear k1 k2 hin hz HD HZ hle
        obtain ⟨E, hE⟩ : ∃ E, (wipS s a b l (i + 1)).1 = E := ⟨_, rfl⟩
        rw [hE] at HW
        by_cases hz0 : E = 0
        · subst hz0
          have HZ2 := Lib.hid hE
          clear hE
          go_wp2_with (go_at_call 22; (with_reducible refine HW.out.mono ?_); rintro e w' ⟨rfl, hd, hv2⟩; have HD2 := Lib.hid hd; have HV2 := Lib.hid hv2; clear hd hv2)
          go_roundw
          case rel => first | exact ⟨i + 1, by omega, by go_num, HZ2, HD2, HV2⟩ | ((repeat apply Exists.intro); exact ⟨⟨i + 1, by omega, by go_num, HZ2, HD2, HV2⟩, rfl⟩)
          case measure => simp [RowKit.intOf]; omega
        · have hzi : ((E : Int) != 0) = true := by simpa using (by omega : ¬ (E : Int) = 0)
          have HST := Lib.hid (wip_stop (s := s) (a := a) (b := b) (l := l) (i := i + 1) (by rw [hE]; exact hz0))
          have HE := Lib.hid hE
          clear hE hz0
          go_wp2_with (go_at_call 22; (with_reducible refine HW.out.mono ?_); rintro e w' ⟨rfl, hd, hv2⟩; have HD2 := Lib.hid hd; clear hd hv2)
          go_ret
          rw [← HU.out, HST.out, HE.out]
          refine ⟨rfl, (HD2.out.base HB.out).upN ?_ ?_⟩
          · rw [HU.out]; have := HLE.out; omega
          · rw [HU.out]; exact HN.out
    · obtain rfl : i = l.length := by omega
      unfold wipS at HZ HD
      unfold wipN at HD
      rw [List.take_length, HU.out] at HZ HD
      go_wp2_with fail
      go_ret
      exact ⟨by rw [HZ.out]; rfl, HD.out.base HB.out⟩
end
end M
end Go.Proofs.YtoacmingocmaaaaGreatDoor

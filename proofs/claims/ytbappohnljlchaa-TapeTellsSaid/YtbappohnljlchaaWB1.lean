/- The texts Shelf9, WirFrame, WirMath, Num, Own, WirOpen, TapMath, Mine, WirRd, one behind the other. -/
import Derived.Test.YtbappohnljlchaaProg
import Derived.Shelf.Lay
import Derived.Shelf.LaySoft
import Derived.Test.YtbappohnljlchaaRows
import Derived.ProofKit
import Derived.OpenShut
import Derived.WalkKit
import Derived.Below
import Derived.Stop.Joined
import Derived.Deep.RegionHeld
import Derived.LoopTactic
import Derived.LoopN
import Derived.Deep.QuietTactic
import Derived.BigQuiet
import Derived.Lib.Strings
import Derived.Lib.ByteType
import Derived.Laws.BytesString
import Derived.Laws.Shifts
import Derived.Laws.ShiftsVar
import Derived.Laws.Concat
import Derived.Deep.Cut
import Derived.Deep.CutBlock
import Derived.Deep.RegionWith
import Derived.Laws.Rows
import Derived.OwnWalk
import Derived.Maps.AppendAt
import Derived.ChangeOld
import Derived.ChangeSlices
import Derived.ChangeMaps5
import Derived.Laws.MakeOwn
/- The contracts of the library's functions, as they lie proved on the shelf, laid at this translation. -/

namespace Go.Proofs
open Go.Shelf
shelf_tried
end Go.Proofs
/- What every text of layer 9 stands on: bounds of what comes in, calls that answer in every world. -/
namespace Go.Proofs.Ytbappohnljlchaa
open Go.ChangeShapes Go.WideShapes Go.ChangeAt Go.RowKit
namespace M
theorem u64_bounds {n : Int} (h : (Lit.int .u64 n).wf = true) : 0 ≤ n ∧ n ≤ 18446744073709551615 := by
  simp [Lit.wf, IntKind.min, IntKind.max, IntKind.signed, IntKind.bits] at h
  omega
theorem u8_bounds {n : Int} (h : (Lit.int .u8 n).wf = true) : 0 ≤ n ∧ n ≤ 255 := by
  simp [Lit.wf, IntKind.min, IntKind.max, IntKind.signed, IntKind.bits] at h
  omega
theorem i64_bounds {n : Int} (h : (Lit.int .i64 n).wf = true) : -9223372036854775808 ≤ n ∧ n ≤ 9223372036854775807 := by
  simp [Lit.wf, IntKind.min, IntKind.max, IntKind.signed, IntKind.bits] at h
  omega
theorem grown_drewN {W w' : World} (h : Grown W w') (n : Nat) : Grown W (w'.drewN n) := h
/-- A call that answers v in every world, and leaves the world as it was but for draws. A plain definition: the walk does not look into it. -/
def Ret (f : FuncId) (args : Array Value) (v : Value) : Prop := ∀ W : World, Calls Try.prog f args W fun e w' => e = .returned v ∧ ∃ n, w' = W.drewN n
end M
end Go.Proofs.Ytbappohnljlchaa
/- Numbers as bytes, the most significant one first, and back. -/
namespace Go.Proofs.Ytbappohnljlchaa
namespace MM
/-- The last w bytes of a number. -/
def dig (n w : Nat) : List UInt8 := (List.range w).map fun i => UInt8.ofNat (n / 256 ^ (w - 1 - i))
/-- The number that bytes are. -/
def val (l : List UInt8) : Nat := l.foldl (fun n b => n * 256 + b.toNat) 0
@[simp] theorem dig_len (n w : Nat) : (dig n w).length = w := by simp [dig]
theorem dig_get {n w i : Nat} (h : i < w) : (dig n w)[i]? = some (UInt8.ofNat (n / 256 ^ (w - 1 - i))) := by simp [dig, h]
theorem dig_succ (n w : Nat) : dig n (w + 1) = dig (n / 256) w ++ [UInt8.ofNat n] := by
  unfold dig
  rw [List.range_succ, List.map_append]
  congr 1
  · refine List.map_congr_left fun i hi => ?_
    have hi := List.mem_range.1 hi
    have e : w + 1 - 1 - i = (w - 1 - i) + 1 := by omega
    rw [e, Nat.pow_succ, Nat.mul_comm, ← Nat.div_div_eq_div_mul]
  · simp
theorem val_snoc (l : List UInt8) (b : UInt8) : val (l ++ [b]) = val l * 256 + b.toNat := by simp [val]
theorem val_lt : ∀ (k : Nat) (l : List UInt8), l.length = k → val l < 256 ^ k
  | 0, l, h => by
    obtain rfl := List.length_eq_zero_iff.1 h
    simp [val]
  | k + 1, l, h => by
    obtain ⟨m, b, rfl⟩ : ∃ m b, l = m ++ [b] := by
      rcases List.eq_nil_or_concat l with rfl | ⟨m, b, rfl⟩
      · simp at h
      · exact ⟨m, b, by simp⟩
    have h1 := val_lt k m (by simpa using h)
    have hb := b.toNat_lt
    rw [val_snoc, Nat.pow_succ]
    omega
theorem val_dig : ∀ (w n : Nat), val (dig n w) = n % 256 ^ w
  | 0, n => by simp [dig, val, Nat.mod_one]
  | w + 1, n => by
    rw [dig_succ, val_snoc, val_dig w, Nat.pow_succ, Nat.mul_comm (256 ^ w) 256, Nat.mod_mul]
    have : (UInt8.ofNat n).toNat = n % 256 := by simp [UInt8.toNat_ofNat']
    rw [this]
    omega
theorem dig_val : ∀ (k : Nat) (l : List UInt8), l.length = k → dig (val l) k = l
  | 0, l, h => by
    obtain rfl := List.length_eq_zero_iff.1 h
    simp [dig]
  | k + 1, l, h => by
    obtain ⟨m, b, rfl⟩ : ∃ m b, l = m ++ [b] := by
      rcases List.eq_nil_or_concat l with rfl | ⟨m, b, rfl⟩
      · simp at h
      · exact ⟨m, b, by simp⟩
    have hb := b.toNat_lt
    rw [dig_succ, val_snoc]
    have e1 : (val m * 256 + b.toNat) / 256 = val m := by omega
    rw [e1, dig_val k m (by simpa using h)]
    congr 2
    apply UInt8.toNat_inj.1
    simp
/-- One byte more: shifted, and put below. -/
theorem shl_or (n b : Nat) (hn : n < 72057594037927936) (hb : b < 256) : (n * 256 % 18446744073709551616) ||| b = n * 256 + b := by
  rw [Nat.mod_eq_of_lt (by omega)]
  have h := Nat.shiftLeft_add_eq_or_of_lt (a := n) (b := b) (i := 8) (by simpa using hb)
  rw [Nat.shiftLeft_eq] at h
  exact h.symm
/-- .. of a row's beginning. -/
theorem val_take (l : List UInt8) (k : Nat) (h : k < l.length) : val (l.take (k + 1)) = val (l.take k) * 256 + (l.getD k 0).toNat := by
  rw [List.take_add_one, List.getElem?_eq_getElem h]
  simp only [Option.toList_some]
  rw [val_snoc, List.getD_eq_getElem?_getD, List.getElem?_eq_getElem h]
  rfl
end MM
end Go.Proofs.Ytbappohnljlchaa
/- What calls answer at whatever modulus, rows of numbers that a slice reads, and calls that make new memory at most. -/
namespace Go.Proofs.Ytbappohnljlchaa
open Go Go.RowKit Go.Lib
namespace M
/-- A call that answers v in every world and makes new memory at most: what was there stays. A plain definition: the walk does not look into it. -/
def RetB (f : FuncId) (args : Array Value) (v : Value) : Prop := ∀ W : World, Calls Try.prog f args W fun e w' => e = .returned v ∧ Below W.heap.size W w'
theorem RetB.at {f : FuncId} {args : Array Value} {v : Value} (h : RetB f args v) (W : World) : Calls Try.prog f args W fun e w' => e = .returned v ∧ Below W.heap.size W w' := h W
theorem below_drewN (w : World) (n : Nat) : Below w.heap.size w (w.drewN n) := ⟨rfl, rfl, rfl, Nat.le_refl _, fun _ _ => rfl⟩
theorem Ret.toB {f : FuncId} {args : Array Value} {v : Value} (h : Ret f args v) : RetB f args v := fun W => (h W).mono fun _ _ ⟨he, n, hn⟩ => ⟨he, by rw [hn]; exact below_drewN _ _⟩
theorem bcell {W w1 : World} (hb : Below W.heap.size W w1) : (∀ b o, b < W.heap.size → w1.cell? ⟨b, o, none⟩ = W.cell? ⟨b, o, none⟩) ∧ (∀ b o, b < W.heap.size → w1.frozen? ⟨b, o, none⟩ = W.frozen? ⟨b, o, none⟩) :=
  ⟨fun b o h => hb.cell (p := ⟨b, o, none⟩) h, fun b o h => hb.frozen (p := ⟨b, o, none⟩) h⟩
theorem setCell_drewN (w : World) (n : Nat) (a : Addr) (v : Value) : (w.drewN n).setCell a v = (w.setCell a v).drewN n := rfl
theorem alloc_drewN (w : World) (n : Nat) (o : Obj) : (w.drewN n).alloc o = (w.alloc o).drewN n := rfl
theorem below_drewN' (w : World) (n B : Nat) : Below B w (w.drewN n) := ⟨rfl, rfl, rfl, Nat.le_refl _, fun _ _ => rfl⟩
theorem row_lt {w : World} {b : Nat} {o : Obj} (h : w.heap[b]? = some o) : b < w.heap.size := by
  rcases Nat.lt_or_ge b w.heap.size with h' | h'
  · exact h'
  · rw [Array.getElem?_eq_none h'] at h; cases h
theorem below_box (w : World) (o : Obj) : Below w.heap.size w (w.alloc o) := (Below.refl _ _).alloc (Nat.le_refl _) _
theorem Below.drawn {B : Nat} {w w' : World} (h : Below B w w') (n : Nat) : Below B w (w'.drewN n) := h.trans (below_drewN' w' n _)

/-- A row of numbers that a slice reads. -/
def Row (W : World) (a : Addr) (n : Nat) (z : Nat → Nat) : Prop := ∀ t, t < n → W.cell? (a.add t) = some (.int .u64 (z t : Int))
theorem Row.below {W W' : World} {a : Addr} {n : Nat} {z : Nat → Nat} (h : Row W a n z) (hb : Below W.heap.size W W') : Row W' a n z := fun t ht => by
  have h1 := h t ht
  have hs : (a.add t).block < W.heap.size := World.block_lt_of_cell? W _ h1
  rw [hb.cell hs]; exact h1
theorem Row.of_block {W : World} {b : Nat} {cs : Array Value} {t : TypeId} {n : Nat} {z : Nat → Nat} (h : W.heap[b]? = some (.cells cs t (0, 0))) (hz : ∀ k, k < n → cs[k]? = some (.int .u64 (z k : Int))) : Row W ⟨b, 0, none⟩ n z := fun k hk => by
  have e : (⟨b, 0, none⟩ : Addr).add k = ⟨b, k, none⟩ := by
    unfold Addr.add
    by_cases h0 : k = 0
    · subst h0; rfl
    · rw [if_neg h0]; simp
  rw [e, cell_of_row W b k _ _ _ h, hz k hk]

theorem row_cell {W : World} {b : Nat} {n : Nat} {z : Nat → Nat} (h : Row W ⟨b, 0, none⟩ n z) {k : Nat} (hk : k < n) : W.cell? ⟨b, k, none⟩ = some (.int .u64 ((z k : Nat) : Int)) := by
  have e : (⟨b, 0, none⟩ : Addr).add k = ⟨b, k, none⟩ := by
    unfold Addr.add
    by_cases h0 : k = 0
    · subst h0; rfl
    · rw [if_neg h0]; simp
  rw [← e]; exact h k hk
end M
end Go.Proofs.Ytbappohnljlchaa
/- A row of numbers that a call itself makes, one append behind the other: what it holds, what is kept over steps, appends and the end. -/
namespace Go.Proofs.Ytbappohnljlchaa
open Go Go.RowKit Go.Lib
namespace M
theorem info_u64 : (Try.prog.info? 24).map (fun i => (i.zero, i.size, i.bytes)) = some (some (.int .u64 0), 1, 8) := by kernel_rfl
/-- A row's first numbers, as values. -/
def zlist (n : Nat) (z : Nat → Nat) : List Value := (List.range n).map fun k => .int .u64 ((z k : Nat) : Int)
theorem zlist_len (n : Nat) (z : Nat → Nat) : (zlist n z).length = n * 1 := by simp [zlist]
theorem zlist_get {n : Nat} {z : Nat → Nat} {k : Nat} (h : k < n) : (zlist n z)[k]? = some (.int .u64 ((z k : Nat) : Int)) := by simp [zlist, h]
theorem zlist_succ (n : Nat) (z : Nat → Nat) : zlist n z ++ [.int .u64 ((z n : Nat) : Int)] = zlist (n + 1) z := by simp [zlist, List.range_succ]
theorem zlist_congr {n : Nat} {y z : Nat → Nat} (h : ∀ k, k < n → y k = z k) : zlist n y = zlist n z := by
  unfold zlist
  exact List.map_congr_left fun k hk => by rw [h k (List.mem_range.1 hk)]
theorem zlist_cells {W : World} {a : Addr} {n : Nat} {z : Nat → Nat} (h : Row W a n z) : ∀ j u, (zlist n z)[j]? = some u → W.cell? (a.add j) = some u := fun j u hj => by
  have hl := (List.getElem?_eq_some_iff.1 hj).1
  rw [zlist_len] at hl
  rw [zlist_get (by omega)] at hj
  rw [← hj]; exact h j (by omega)
theorem zlist_one (n : Nat) (z : Nat → Nat) : ∀ u ∈ zlist n z, u.oneCell' = true := fun u hu => by
  simp [zlist] at hu
  obtain ⟨k, _, rfl⟩ := hu
  rfl
/-- The row so far: of the call's own memory, behind block B; nothing old has changed. -/
structure Own (w0 : World) (B : Nat) (v : Value) (k : Nat) (z : Nat → Nat) (w : World) : Prop where
  own : w.ownsRow B 24 1 v k (zlist k z)
  size : B ≤ w.heap.size
  low : w0.heap.size ≤ B
  below : Below w0.heap.size w0 w
section
variable {w0 w w' : World} {B k : Nat} {v : Value} {z : Nat → Nat}
theorem Own.start (w0 : World) (z : Nat → Nat) : Own w0 w0.heap.size (.slice none 0 0) 0 z w0 := ⟨⟨by simp [zlist], .inl ⟨rfl, rfl⟩⟩, Nat.le_refl _, Nat.le_refl _, Below.refl _ _⟩
theorem Own.step (h : Own w0 B v k z w) (hb : Below w.heap.size w w') : Own w0 B v k z w' :=
  ⟨h.own.kept (row := none) ⟨hb.os, hb.tape, hb.output, hb.size, fun k hk _ => hb.block k hk⟩ (by cases v.ownBlock <;> simp), Nat.le_trans h.size hb.size, h.low, h.below.trans (hb.mono h.below.size)⟩
theorem Own.drewN (h : Own w0 B v k z w) (n : Nat) : Own w0 B v k z (w.drewN n) := h.step (below_drewN' w n _)
theorem Own.drew (h : Own w0 B v k z w) : Own w0 B v k z w.drew := h.drewN 1
theorem Own.alloc (h : Own w0 B v k z w) (o : Obj) : Own w0 B v k z (w.alloc o) := h.step (below_box _ _)
theorem Own.grow (h : Own w0 B v k z w) {v' : Value} {k' : Nat} {xs : List Value} (ho : w'.ownsRow B 24 1 v' k' xs) (hx : xs = zlist k' z) (hg : w.grownBy w' v.ownBlock) : Own w0 B v' k' z w' :=
  ⟨hx ▸ ho, Nat.le_trans h.size hg.size, h.low,
   h.below.trans ⟨hg.os, hg.tape, hg.output, hg.size, fun j hj => hg.block j (Nat.lt_of_lt_of_le hj h.below.size) (fun e => by have := (h.own.lt j e.symm).1; have := h.low; omega)⟩⟩
/-- What the row reads as. -/
theorem Own.row (h : Own w0 B v k z w) : (v = .slice none 0 0 ∧ k = 0) ∨ ∃ g c, v = .slice (some ⟨g, 0, none⟩) k c ∧ B ≤ g ∧ k ≤ c ∧ c ≤ maxLen ∧ Row w ⟨g, 0, none⟩ k z := by
  obtain ⟨_, h1 | ⟨g, cap, cur, h1, h2, h3, h4, h5, _, h7⟩⟩ := h.own
  · exact .inl h1
  · refine .inr ⟨g, cap, h1, h2, h4, h5, Row.of_block h3 fun j hj => ?_⟩
    have e1 : (cur.toList.take (k * 1))[j]? = (zlist k z)[j]? := by rw [h7]
    rw [zlist_get hj, List.getElem?_take_of_lt (by omega)] at e1
    simpa using e1
end
/-- A call that hands back a row of its own: n numbers z, in new memory; nothing old has changed. A plain definition: the walk does not look into it. -/
def Gives (W : World) (n : Nat) (z : Nat → Nat) (e : Ending) (w' : World) : Prop := ∃ v, e = .returned v ∧ w'.ownsRow W.heap.size 24 1 v n (zlist n z) ∧ Below W.heap.size W w'
theorem Own.gives {w0 w : World} {B k : Nat} {v : Value} {z : Nat → Nat} (h : Own w0 B v k z w) : Gives w0 k z (.returned v) w := ⟨v, rfl, by
  obtain ⟨h1, h2⟩ := h.own
  refine ⟨h1, h2.imp id fun ⟨g, cap, cur, a, b, c⟩ => ⟨g, cap, cur, a, Nat.le_trans h.low b, c⟩⟩, h.below⟩
/-- Numbers that a slice reads, whatever its address while there is none. -/
def Rd (W : World) (ao : Option Addr) (n : Nat) (z : Nat → Nat) : Prop := 0 < n → ∃ ad, ao = some ad ∧ Row W ad n z
theorem Rd.below {W W' : World} {ao : Option Addr} {n : Nat} {z : Nat → Nat} (h : Rd W ao n z) (hb : Below W.heap.size W W') : Rd W' ao n z := fun hn => let ⟨ad, e, hr⟩ := h hn; ⟨ad, e, hr.below hb⟩
theorem Rd.at_ {W : World} {ao : Option Addr} {n : Nat} {z : Nat → Nat} (h : Rd W ao n z) {k : Nat} (hk : k < n) : ∃ ad, ao = some ad ∧ W.cell? (ad.add k) = some (.int .u64 ((z k : Nat) : Int)) := let ⟨ad, e, hr⟩ := h (by omega); ⟨ad, e, hr k hk⟩
theorem Own.rd {w0 w : World} {B k : Nat} {v : Value} {z : Nat → Nat} (h : Own w0 B v k z w) : ∃ ao c, v = .slice ao k c ∧ k ≤ c ∧ c ≤ maxLen ∧ Rd w ao k z := by
  rcases h.row with ⟨rfl, rfl⟩ | ⟨g, c, rfl, _, h1, h2, hr⟩
  · exact ⟨none, 0, rfl, Nat.le_refl _, Nat.zero_le _, fun hn => absurd hn (by omega)⟩
  · exact ⟨_, c, rfl, h1, h2, fun _ => ⟨_, rfl, hr⟩⟩
end M
end Go.Proofs.Ytbappohnljlchaa
/- How texts and rows of numbers that come in are opened. -/
namespace Go.Proofs.Ytbappohnljlchaa
open Go.ChangeShapes Go.WideShapes Go.ChangeAt Go.RowKit
namespace M
theorem laidOut : laidOutB Try.prog = true := by kernel_rfl
theorem own : ownKnob Try.prog.godebug = none := by kernel_rfl
/-- A row of numbers that came in. -/
def NumsIn (w : World) (v : Value) : Prop := ∃ (ao : Option Addr) (n c : Nat) (z : Nat → Nat), v = .slice ao n c ∧ n ≤ c ∧ n ≤ 9223372036854775807 ∧ (∀ k, z k < 18446744073709551616) ∧ Rd w ao n z ∧ (ao = none → n = 0 ∧ c = 0)
section
variable {H : Type} {enc : TypeId × Value → H} {w : World} {base : Nat} {held : Bool}
set_option maxRecDepth 100000 in
theorem trod_nums {spare : Nat → Bool} {fuel : Nat} {cs : List Value} {x : DataW H × List MemPlace} (h : DataW.trod enc Try.prog w base spare held fuel 26 cs = some x) : ∃ v, cs = [v] ∧ NumsIn w v := by
  rcases open_ints Try.underlying26 Try.underlying24 (by kernel_rfl) h with ⟨hcs, _⟩ | ⟨a, len, cap, zs, hcs, _, hl, hm, hz, _, hcell, hwf⟩
  · exact ⟨_, hcs, none, 0, 0, fun _ => 0, rfl, Nat.le_refl _, by omega, fun _ => by show (0 : Nat) < _; omega, fun h => absurd h (by omega), fun _ => ⟨rfl, rfl⟩⟩
  · unfold maxLen at hm
    have hle : len ≤ zs.length := by rw [hz]; split <;> omega
    have hb : ∀ k, k < zs.length → 0 ≤ zs.getD k 0 ∧ zs.getD k 0 ≤ 18446744073709551615 := fun k hk => by
      have hmem : zs.getD k 0 ∈ zs := by rw [List.getD_eq_getElem?_getD, List.getElem?_eq_getElem hk]; exact List.getElem_mem hk
      exact M.u64_bounds (hwf _ hmem)
    refine ⟨_, hcs, some a, len, cap, fun k => if k < zs.length then (zs.getD k 0).toNat else 0, rfl, hl, by omega, fun k => ?_, fun _ => ⟨a, rfl, fun k hk => ?_⟩, fun h => by cases h⟩
    · by_cases h : k < zs.length
      · have := hb k h; simp only [if_pos h]; omega
      · simp only [if_neg h]; omega
    · have h : k < zs.length := by omega
      have := hb k h
      rw [hcell k h]
      simp only [if_pos h]
      congr 2
      omega
theorem open_nums {spare : Nat → Bool} {r : Reach} {b0 : Nat} {v : Value} {d : DataW H} {pl : List MemPlace} (hv : Value.okWide Try.prog w r b0 26 v) (h : DataW.Trod enc Try.prog w base spare held 26 v d pl) : NumsIn w v := by
  obtain ⟨ad, len0, cap0, rfl⟩ := okWide_slice Try.underlying26 hv
  obtain ⟨fuel, hf⟩ := h
  obtain ⟨v, hv2, hn⟩ := trod_nums hf
  obtain rfl : Value.slice ad len0 cap0 = v := by simpa [Value.cells] using hv2
  exact hn
end
end M
end Go.Proofs.Ytbappohnljlchaa
/- The maths of a tape: the state's step, the number that a state gives, which number is taken for a draw, and that one is met. -/
namespace Go.Proofs.Ytbappohnljlchaa
namespace MM
/-- The state that follows. -/
def nxt (s : Nat) : Nat := (s + 11400714819323198485) % 18446744073709551616
def mixA (s : Nat) : Nat := (s ^^^ s / 1073741824) * 13787848793156543929 % 18446744073709551616
def mixB (s : Nat) : Nat := (s ^^^ s / 134217728) * 10723151780598845931 % 18446744073709551616
def mixC (s : Nat) : Nat := s ^^^ s / 2147483648
/-- The number that a state gives. -/
def mix (s : Nat) : Nat := mixC (mixB (mixA s))
theorem nxt_lt (s : Nat) : nxt s < 18446744073709551616 := Nat.mod_lt _ (by decide)
theorem mixA_lt (s : Nat) : mixA s < 18446744073709551616 := Nat.mod_lt _ (by decide)
theorem mixB_lt (s : Nat) : mixB s < 18446744073709551616 := Nat.mod_lt _ (by decide)
theorem mixC_lt {s : Nat} (h : s < 18446744073709551616) : mixC s < 18446744073709551616 := by
  have : s ^^^ s / 2147483648 < 2 ^ 64 := Nat.xor_lt_two_pow (by omega) (by omega)
  unfold mixC
  omega
theorem mix_lt (s : Nat) : mix s < 18446744073709551616 := mixC_lt (mixB_lt _)
theorem mix_zero : mix 0 = 0 := by decide +kernel
/-- How many steps are left to the state 0. -/
def left (s : Nat) : Nat := (18446744073709551616 - s) * 17428512612931826493 % 18446744073709551616
theorem left_zero_of {M S I K d : Nat} (hk : S * I = M * K + 1) (h : d * I % M = 0) : M ∣ d := by
  have h1 : M ∣ d * I := Nat.dvd_of_mod_eq_zero h
  have h2 : M ∣ d * I * S := Nat.dvd_trans h1 (Nat.dvd_mul_right _ _)
  have h3 : d * I * S = M * (d * K) + d := by
    rw [Nat.mul_assoc, Nat.mul_comm I S, hk, Nat.mul_add, Nat.mul_one, Nat.mul_left_comm]
  rw [h3] at h2
  exact (Nat.dvd_add_right (Nat.dvd_mul_right _ _)).1 h2
theorem left_next_of {M S I K d e c : Nat} (hk : S * I = M * K + 1) (h : e + S = M * c + d) (h0 : d * I % M ≠ 0) (hM : 1 < M) : e * I % M + 1 = d * I % M := by
  have h1 : e * I + (M * K + 1) = M * (c * I) + d * I := by
    rw [← hk, ← Nat.add_mul, h, Nat.add_mul, Nat.mul_assoc]
  have h2 : (e * I + 1) % M = d * I % M := by
    have := congrArg (· % M) (show e * I + 1 + M * K = d * I + M * (c * I) by omega)
    simpa [Nat.add_mul_mod_self_left] using this
  have h3 : (e * I % M + 1) % M = d * I % M := by rw [← h2, Nat.mod_add_mod]
  have h4 : e * I % M < M := Nat.mod_lt _ (by omega)
  rcases Nat.lt_or_ge (e * I % M + 1) M with h5 | h5
  · rwa [Nat.mod_eq_of_lt h5] at h3
  · have h6 : e * I % M + 1 = M := by omega
    rw [h6, Nat.mod_self] at h3
    exact absurd h3.symm h0
theorem step_inv : 11400714819323198485 * 17428512612931826493 = 18446744073709551616 * 10771413168148108919 + 1 := by decide +kernel
theorem left_zero {s : Nat} (hs : s < 18446744073709551616) (h : left s = 0) : s = 0 := by
  obtain ⟨k, hk⟩ := left_zero_of step_inv h
  rcases k with _ | _ | k
  · rw [Nat.mul_zero] at hk; omega
  · rw [Nat.mul_one] at hk; omega
  · rw [Nat.mul_add] at hk; omega
theorem left_next {s : Nat} (hs : s < 18446744073709551616) (h : s ≠ 0) : left (nxt s) + 1 = left s := by
  have h0 : left s ≠ 0 := fun e => h (left_zero hs e)
  have h1 : nxt s + 18446744073709551616 * ((s + 11400714819323198485) / 18446744073709551616) = s + 11400714819323198485 := Nat.mod_add_div _ _
  have h2 := nxt_lt s
  generalize (s + 11400714819323198485) / 18446744073709551616 = c at h1
  unfold left at *
  exact left_next_of (c := c) step_inv (by omega) h0 (by decide)
/-- The number is taken for a draw below q. -/
def taken (q z : Nat) : Bool := decide (q = 0) || decide (z ≤ 18446744073709551615 - 18446744073709551616 % q)
/-- A number modulo q. -/
def red (z q : Nat) : Nat := if q = 0 then z else z % q
theorem taken_zero (q : Nat) : taken q (mix 0) = true := by
  rw [mix_zero]
  unfold taken
  simp
theorem red_lt {z q : Nat} (hz : z < 18446744073709551616) : red z q < 18446744073709551616 := by
  unfold red
  split
  · exact hz
  · exact Nat.lt_of_le_of_lt (Nat.mod_le _ _) hz
theorem red_below {z q : Nat} (h : 0 < q) : red z q < q := by
  unfold red
  rw [if_neg (by omega)]
  exact Nat.mod_lt _ h
def search : Nat → Nat → Nat → Nat
  | 0, _, s => s
  | f + 1, q, s => if taken q (mix s) = true then s else search f q (nxt s)
/-- The first state, from s on, whose number is taken. -/
def acc (q s : Nat) : Nat := search (left s) q s
theorem search_yes {f q s : Nat} (h : taken q (mix s) = true) : search f q s = s := by
  cases f with
  | zero => rfl
  | succ f => unfold search; rw [if_pos h]
theorem search_no {f q s : Nat} (h : taken q (mix s) = false) : search (f + 1) q s = search f q (nxt s) := by
  rw [search, if_neg (by rw [h]; exact Bool.false_ne_true)]
theorem acc_yes {q s : Nat} (h : taken q (mix s) = true) : acc q s = s := search_yes h
theorem acc_no {q s : Nat} (hs : s < 18446744073709551616) (h : taken q (mix s) = false) : acc q s = acc q (nxt s) ∧ left (nxt s) + 1 = left s := by
  have h0 : s ≠ 0 := fun e => by
    rw [e, taken_zero] at h
    cases h
  have h1 := left_next hs h0
  refine ⟨?_, h1⟩
  unfold acc
  generalize left (nxt s) = f at *
  rw [← h1]
  exact search_no h
theorem acc_both (q : Nat) (k : Nat) : ∀ (s : Nat), left s = k → s < 18446744073709551616 → taken q (mix (acc q s)) = true ∧ acc q s < 18446744073709551616 := by
  induction k with
  | zero =>
    intro s h hs
    have h0 := left_zero hs h
    have h1 : taken q (mix s) = true := by rw [h0]; exact taken_zero q
    rw [acc_yes h1]
    exact ⟨h1, hs⟩
  | succ k ih =>
    intro s h hs
    cases e : taken q (mix s) with
    | true => rw [acc_yes e]; exact ⟨e, hs⟩
    | false =>
      obtain ⟨h1, h2⟩ := acc_no hs e
      have h3 : left (nxt s) = k := Nat.succ.inj (h2.trans h)
      rw [h1]
      exact ih (nxt s) h3 (nxt_lt s)
theorem acc_lt (q : Nat) {s : Nat} (hs : s < 18446744073709551616) : acc q s < 18446744073709551616 := (acc_both q _ s rfl hs).2
theorem acc_taken (q : Nat) {s : Nat} (hs : s < 18446744073709551616) : taken q (mix (acc q s)) = true := (acc_both q _ s rfl hs).1
/-- The document's way to ask whether a number is taken. -/
theorem taken_base {q z : Nat} (hq : 0 < q) (hq2 : q < 18446744073709551616) (hz : z < 18446744073709551616) : taken q z = decide (z - z % q + (q - 1) < 18446744073709551616) := by
  have h1 : z = q * (z / q) + z % q := (Nat.div_add_mod z q).symm
  have h2 : 18446744073709551616 = q * (18446744073709551616 / q) + 18446744073709551616 % q := (Nat.div_add_mod _ q).symm
  have h3 : z % q < q := Nat.mod_lt _ hq
  have h4 : 18446744073709551616 % q < q := Nat.mod_lt _ hq
  have h5 : taken q z = decide (z ≤ 18446744073709551615 - 18446744073709551616 % q) := by
    unfold taken
    rw [decide_eq_false (by omega : ¬ q = 0), Bool.false_or]
  rw [h5]
  generalize 18446744073709551616 % q = r at *
  generalize z % q = y at *
  generalize 18446744073709551616 / q = a at *
  generalize z / q = b at *
  congr 1
  apply propext
  constructor
  · intro h
    have hb : b < a := by
      rcases Nat.lt_or_ge b a with h' | h'
      · exact h'
      · have := Nat.mul_le_mul_left q h'
        omega
    have h6 := Nat.mul_le_mul_left q (show b + 1 ≤ a from hb)
    rw [Nat.mul_add, Nat.mul_one] at h6
    omega
  · intro h
    have hb : b < a := by
      rcases Nat.lt_or_ge b a with h' | h'
      · exact h'
      · have := Nat.mul_le_mul_left q h'
        omega
    have h6 := Nat.mul_le_mul_left q (show b + 1 ≤ a from hb)
    rw [Nat.mul_add, Nat.mul_one] at h6
    omega
/-- A tape: what was told ahead and is still to come, the state, how many draws were made. -/
structure Tp where
  fs : List Nat
  st : Nat
  n : Nat
/-- All numbers are of 64 bits. -/
structure Tp.Ok (t : Tp) : Prop where
  fs : ∀ x ∈ t.fs, x < 18446744073709551616
  st : t.st < 18446744073709551616
/-- The draw below q. -/
def Tp.val (t : Tp) (q : Nat) : Nat := match t.fs with
  | x :: _ => red x q
  | [] => red (mix (acc q (nxt t.st))) q
/-- The tape behind it. -/
def Tp.next (t : Tp) (q : Nat) : Tp := match t.fs with
  | _ :: r => ⟨r, t.st, t.n + 1⟩
  | [] => ⟨[], acc q (nxt t.st), t.n + 1⟩
def Tp.new (s : Nat) : Tp := ⟨[], s, 0⟩
def Tp.of (l : List Nat) (s : Nat) : Tp := ⟨l, s, 0⟩
theorem Tp.next_nil (st n q : Nat) : (Tp.mk [] st n).next q = ⟨[], acc q (nxt st), n + 1⟩ := rfl
theorem Tp.next_cons (x : Nat) (r : List Nat) (st n q : Nat) : (Tp.mk (x :: r) st n).next q = ⟨r, st, n + 1⟩ := rfl
theorem Tp.val_nil (st n q : Nat) : (Tp.mk [] st n).val q = red (mix (acc q (nxt st))) q := rfl
theorem Tp.val_cons (x : Nat) (r : List Nat) (st n q : Nat) : (Tp.mk (x :: r) st n).val q = red x q := rfl
theorem Tp.Ok.next {t : Tp} (h : t.Ok) (q : Nat) : (t.next q).Ok := by
  obtain ⟨fs, st, n⟩ := t
  cases fs with
  | nil =>
    have h1 := acc_lt q (nxt_lt st)
    rw [Tp.next_nil]
    generalize acc q (nxt st) = y at *
    exact ⟨fun x hx => (by cases hx), h1⟩
  | cons x r => exact ⟨fun y hy => h.fs y (List.mem_cons_of_mem _ hy), h.st⟩
theorem Tp.Ok.val {t : Tp} (h : t.Ok) (q : Nat) : t.val q < 18446744073709551616 := by
  obtain ⟨fs, st, n⟩ := t
  cases fs with
  | nil => exact red_lt (mix_lt _)
  | cons x r => exact red_lt (h.fs x List.mem_cons_self)
theorem Tp.next_n (t : Tp) (q : Nat) : (t.next q).n = t.n + 1 := by
  obtain ⟨fs, st, n⟩ := t
  cases fs <;> rfl
theorem Tp.val_below (t : Tp) {q : Nat} (h : 0 < q) : t.val q < q := by
  obtain ⟨fs, st, n⟩ := t
  cases fs <;> exact red_below h
theorem Tp.Ok.new {s : Nat} (h : s < 18446744073709551616) : (Tp.new s).Ok := ⟨fun x hx => (by cases hx), h⟩
theorem Tp.Ok.of {l : List Nat} {s : Nat} (hl : ∀ x ∈ l, x < 18446744073709551616) (h : s < 18446744073709551616) : (Tp.of l s).Ok := ⟨hl, h⟩
/-- The tape behind k draws below q 0, q 1, .. -/
def Tp.run (t : Tp) (q : Nat → Nat) : Nat → Tp
  | 0 => t
  | k + 1 => (t.run q k).next (q k)
/-- The draws. -/
def Tp.get (t : Tp) (q : Nat → Nat) (k : Nat) : Nat := (t.run q k).val (q k)
theorem Tp.Ok.run {t : Tp} (h : t.Ok) (q : Nat → Nat) : ∀ k, (t.run q k).Ok
  | 0 => h
  | k + 1 => (h.run q k).next _
theorem Tp.run_n (t : Tp) (q : Nat → Nat) : ∀ k, (t.run q k).n = t.n + k
  | 0 => rfl
  | k + 1 => by show ((t.run q k).next (q k)).n = _; rw [Tp.next_n, Tp.run_n t q k]; omega
theorem Tp.run_add (t : Tp) (q : Nat → Nat) (a : Nat) : ∀ b, t.run q (a + b) = (t.run q a).run (fun k => q (a + k)) b
  | 0 => rfl
  | b + 1 => by
    show (t.run q (a + b)).next (q (a + b)) = _
    rw [Tp.run_add t q a b]
    rfl
theorem Tp.run_congr (t : Tp) {p q : Nat → Nat} : ∀ {n}, (∀ k, k < n → p k = q k) → t.run p n = t.run q n
  | 0, _ => rfl
  | n + 1, h => by
    show (t.run p n).next (p n) = (t.run q n).next (q n)
    rw [Tp.run_congr t (n := n) (fun k hk => h k (by omega)), h n (by omega)]
end MM
end Go.Proofs.Ytbappohnljlchaa
/- A row of numbers that a call itself makes whole (make), and writes cell by cell: what it holds, what is kept, what it is at the end. -/
namespace Go.Proofs.Ytbappohnljlchaa
open Go Go.RowKit Go.Lib
namespace M
/-- Block B holds the n numbers z, one a cell, none frozen; it lies behind all that was there at w0; nothing of that has changed. -/
structure Mine (w0 : World) (B n : Nat) (z : Nat → Nat) (w : World) : Prop where
  block : ∃ cs : Array Value, w.heap[B]? = some (.cells cs 24 (0, 0)) ∧ cs.size = n ∧ ∀ k, k < n → cs[k]? = some (.int .u64 ((z k : Nat) : Int))
  low : w0.heap.size ≤ B
  below : Below w0.heap.size w0 w
section
variable {w0 w w' : World} {B n : Nat} {z y : Nat → Nat}
theorem Mine.lt (h : Mine w0 B n z w) : B < w.heap.size := by obtain ⟨cs, h1, _⟩ := h.block; exact row_lt h1
theorem Mine.step (h : Mine w0 B n z w) (hb : Below w.heap.size w w') : Mine w0 B n z w' :=
  ⟨by obtain ⟨cs, h1, h2⟩ := h.block; exact ⟨cs, (hb.block B h.lt).trans h1, h2⟩, h.low, h.below.trans (hb.mono h.below.size)⟩
theorem Mine.drewN (h : Mine w0 B n z w) (m : Nat) : Mine w0 B n z (w.drewN m) := h.step (below_drewN' w m _)
theorem Mine.alloc (h : Mine w0 B n z w) (o : Obj) : Mine w0 B n z (w.alloc o) := h.step (below_box _ _)
theorem Mine.congr (h : Mine w0 B n z w) (hz : ∀ k, k < n → z k = y k) : Mine w0 B n y w :=
  ⟨by obtain ⟨cs, h1, h2, h3⟩ := h.block; exact ⟨cs, h1, h2, fun k hk => by rw [h3 k hk, hz k hk]⟩, h.low, h.below⟩
theorem Mine.cell (h : Mine w0 B n z w) {k : Nat} (hk : k < n) : w.cell? ⟨B, k, none⟩ = some (.int .u64 ((z k : Nat) : Int)) := by
  obtain ⟨cs, h1, _, h3⟩ := h.block
  rw [cell_of_row w B k _ _ _ h1, h3 k hk]
theorem Mine.free (h : Mine w0 B n z w) (k : Nat) : w.frozen? ⟨B, k, none⟩ = false := by
  obtain ⟨cs, h1, _⟩ := h.block
  simp [World.frozen?, h1]
/-- One cell is written. -/
theorem Mine.set (h : Mine w0 B n z w) (k x : Nat) (hy : ∀ j, j < n → y j = if j = k then x else z j) : Mine w0 B n y (w.setCell ⟨B, k, none⟩ (.int .u64 (x : Int))) := by
  refine ⟨?_, h.low, h.below.setCell (p := ⟨B, k, none⟩) h.low _⟩
  obtain ⟨cs, h1, h2, h3⟩ := h.block
  refine ⟨_, heap_setCell_same w B k cs _ _ h1, by simpa using h2, fun j hj => ?_⟩
  rw [hy j hj, Array.getElem?_setIfInBounds]
  by_cases e : k = j
  · subst e; rw [if_pos rfl, if_pos (by omega), if_pos rfl]
  · rw [if_neg e, if_neg (fun h => e h.symm), h3 j hj]
theorem Mine.row (h : Mine w0 B n z w) : Row w ⟨B, 0, none⟩ n z := by
  obtain ⟨cs, h1, _, h3⟩ := h.block
  exact Row.of_block h1 h3
theorem Mine.rd (h : Mine w0 B n z w) : Rd w (some ⟨B, 0, none⟩) n z := fun _ => ⟨_, rfl, h.row⟩
theorem Mine.own (h : Mine w0 B n z w) (hn : n ≤ maxLen) : w.ownsRow w0.heap.size 24 1 (.slice (some ⟨B, 0, none⟩) n n) n (zlist n z) := by
  obtain ⟨cs, h1, h2, h3⟩ := h.block
  refine ⟨by simp [zlist], .inr ⟨B, n, cs, rfl, h.low, h1, Nat.le_refl _, hn, by omega, ?_⟩⟩
  apply List.ext_getElem?
  intro k
  by_cases hk : k < n
  · rw [zlist_get hk, List.getElem?_take_of_lt (by omega), Array.getElem?_toList, h3 k hk]
  · rw [List.getElem?_eq_none (by simp; omega), List.getElem?_eq_none (by rw [zlist_len]; omega)]
theorem Mine.gives (h : Mine w0 B n z w) (hn : n ≤ maxLen) : Gives w0 n z (.returned (.slice (some ⟨B, 0, none⟩) n n)) w := ⟨_, rfl, h.own hn, h.below⟩
/-- The row as make leaves it. -/
theorem Mine.made (w0 : World) (n : Nat) : Mine w0 w0.heap.size n (fun _ => 0) (w0.alloc (.cells (madeCells (Value.int .u64 0).cells (n * 1)) 24)) := by
  refine ⟨⟨_, heap_alloc_new _ _, by rw [size_madeCells, Nat.mul_one], fun k hk => ?_⟩, Nat.le_refl _, below_box _ _⟩
  simp [madeCells, hk, Value.cells, Nat.mod_one]
end
/-- All old blocks but B are as they were. -/
def Kept (B : Nat) (W w : World) : Prop := ∀ k, k < W.heap.size → k ≠ B → w.heap[k]? = W.heap[k]?
theorem Kept.refl (B : Nat) (W : World) : Kept B W W := fun _ _ _ => rfl
theorem Kept.drewN {B : Nat} {W w : World} (h : Kept B W w) (n : Nat) : Kept B W (w.drewN n) := fun k a b => h k a b
theorem Kept.setCell {B : Nat} {W w : World} (h : Kept B W w) (i : Nat) (v : Value) : Kept B W (w.setCell ⟨B, i, none⟩ v) := fun k a b => (Below.heap_setCell w ⟨B, i, none⟩ v k b).trans (h k a b)
theorem Kept.below {B : Nat} {W w w' : World} (h : Kept B W w) (hb : Below W.heap.size w w') : Kept B W w' := fun k a b => (hb.block k a).trans (h k a b)
theorem run_made (n : Nat) (hn : n ≤ 1000000000) (w : World) :
    (Instr.makeSlice 26 (.int .i64 (n : Int)) (.int .i64 (n : Int))).run Try.prog w = .ok (.slice (some ⟨w.heap.size, 0, none⟩) n n) (w.alloc (.cells (madeCells (Value.int .u64 0).cells (n * 1)) 24)) := by
  obtain ⟨i0, hi, hz0, hz1, hz2⟩ := info_parts info_u64
  have hr := run_make (P := Try.prog) w 26 24 i0 (.int .u64 0) Try.underlying26 hi hz0 .i64 .i64 n n (by omega) (by omega) (by rw [hz2]; omega) (by omega)
  simp only [Int.toNat_natCast, hz1] at hr
  exact hr
end M
end Go.Proofs.Ytbappohnljlchaa
/- A reader as it lies; what a call may turn: the reader's own block, and new memory. -/
namespace Go.Proofs.Ytbappohnljlchaa
open Go Go.RowKit Go.Lib
namespace M
/-- Block g is a struct of type T of a text and a whole number. -/
def RAt (T : TypeId) (g : Nat) (s : List UInt8) (e : Int) (w : World) : Prop := w.heap[g]? = some (.cells #[.string ⟨s.toArray⟩, .int .i64 e] T (0, 0))
/-- Nothing that was there has changed, but block g. -/
structure Turn (g : Nat) (w w' : World) : Prop where
  os : w'.os = w.os
  tape : w'.tape = w.tape
  output : w'.output = w.output
  size : w.heap.size ≤ w'.heap.size
  block : ∀ k, k < w.heap.size → k ≠ g → w'.heap[k]? = w.heap[k]?
theorem Turn.refl (g : Nat) (w : World) : Turn g w w := ⟨rfl, rfl, rfl, Nat.le_refl _, fun _ _ _ => rfl⟩
theorem Turn.trans {g : Nat} {a b c : World} (h : Turn g a b) (k : Turn g b c) : Turn g a c :=
  ⟨k.os.trans h.os, k.tape.trans h.tape, k.output.trans h.output, Nat.le_trans h.size k.size, fun i hi hg => (k.block i (Nat.lt_of_lt_of_le hi h.size) hg).trans (h.block i hi hg)⟩
theorem Turn.of {g : Nat} {w w' : World} (h : Below w.heap.size w w') : Turn g w w' := ⟨h.os, h.tape, h.output, h.size, fun k hk _ => h.block k hk⟩
theorem Turn.below {g B : Nat} {w w' : World} (h : Turn g w w') (hB : B ≤ g) (hw : B ≤ w.heap.size) : Below B w w' := ⟨h.os, h.tape, h.output, h.size, fun k hk => h.block k (by omega) (by omega)⟩
theorem Turn.set {g : Nat} {a w : World} (h : Turn g a w) (i : Nat) (v : Value) : Turn g a (w.setCell ⟨g, i, none⟩ v) :=
  h.trans ⟨rfl, rfl, rfl, by simp [World.setCell], fun k _ hk => Below.heap_setCell w ⟨g, i, none⟩ v k hk⟩
theorem Turn.cell {g : Nat} {w w' : World} (h : Turn g w w') {p : Addr} {v : Value} (hc : w.cell? p = some v) (hp : p.block ≠ g) : w'.cell? p = some v := by
  rw [World.cell?_of_block (w := w) (h.block p.block (World.block_lt_of_cell? w _ hc) hp)]; exact hc
theorem Turn.frozen {g : Nat} {w w' : World} (h : Turn g w w') {p : Addr} (hl : p.block < w.heap.size) (hp : p.block ≠ g) : w'.frozen? p = w.frozen? p :=
  World.frozen?_of_block (w := w) (h.block p.block hl hp)
theorem Turn.drewN {g : Nat} {a w : World} (h : Turn g a w) (n : Nat) : Turn g a (w.drewN n) := h.trans ⟨rfl, rfl, rfl, Nat.le_refl _, fun _ _ _ => rfl⟩
theorem Turn.setNew {g : Nat} {a w : World} (h : Turn g a w) {b : Nat} (hb : a.heap.size ≤ b) (i : Nat) (v : Value) : Turn g a (w.setCell ⟨b, i, none⟩ v) :=
  ⟨h.os, h.tape, h.output, by simpa [World.setCell] using h.size, fun k hk hg => (Below.heap_setCell w ⟨b, i, none⟩ v k (by have : (⟨b, i, none⟩ : Addr).block = b := rfl; omega)).trans (h.block k hk hg)⟩
theorem setCell_same {w : World} {b i : Nat} {v : Value} (h : w.cell? ⟨b, i, none⟩ = some v) : w.setCell ⟨b, i, none⟩ v = w := by
  unfold World.cell? at h
  have e : (w.setCell ⟨b, i, none⟩ v).heap = w.heap := by
    apply Array.ext_getElem?
    intro k
    simp only [World.setCell]
    rw [Array.getElem?_modify]
    by_cases hk : b = k
    · subst hk
      rw [if_pos rfl]
      cases hb : w.heap[b]? with
      | none => rfl
      | some o =>
        rw [hb] at h
        cases o with
        | cells c t fr =>
          simp at h
          have : c.setIfInBounds i v = c := by
            apply Array.ext_getElem?
            intro j
            rw [Array.getElem?_setIfInBounds]
            by_cases hj : i = j
            · subst hj
              rw [if_pos rfl, h]
              by_cases hl : i < c.size
              · rw [if_pos hl]
              · rw [Array.getElem?_eq_none (by omega)] at h; cases h
            · rw [if_neg hj]
          simp [this]
        | _ => rfl
    · rw [if_neg hk]
  have e2 : w.setCell ⟨b, i, none⟩ v = { w with heap := (w.setCell ⟨b, i, none⟩ v).heap } := rfl
  rw [e2, e]
section
variable {T : TypeId} {g : Nat} {s : List UInt8} {e : Int} {w w' : World}
theorem RAt.lt (h : RAt T g s e w) : g < w.heap.size := row_lt h
theorem RAt.rest (h : RAt T g s e w) : w.cell? ⟨g, 0, none⟩ = some (.string ⟨s.toArray⟩) := by rw [cell_of_row w g 0 _ _ _ h]; rfl
theorem RAt.wrong (h : RAt T g s e w) : w.cell? ⟨g, 1, none⟩ = some (.int .i64 e) := by rw [cell_of_row w g 1 _ _ _ h]; rfl
theorem RAt.free (h : RAt T g s e w) (j : Nat) : w.frozen? ⟨g, j, none⟩ = false := by
  unfold RAt at h
  simp [World.frozen?, h]
theorem RAt.put0 (h : RAt T g s e w) (t : List UInt8) : RAt T g t e (w.setCell ⟨g, 0, none⟩ (.string ⟨t.toArray⟩)) := heap_setCell_same w g 0 _ _ _ h
theorem RAt.put1 (h : RAt T g s e w) (f : Int) : RAt T g s f (w.setCell ⟨g, 1, none⟩ (.int .i64 f)) := heap_setCell_same w g 1 _ _ _ h
theorem RAt.step (h : RAt T g s e w) (hb : Below w.heap.size w w') : RAt T g s e w' := (hb.block g h.lt).trans h
theorem RAt.turn {g2 : Nat} (h : RAt T g s e w) (hb : Turn g2 w w') (hg : g ≠ g2) : RAt T g s e w' := (hb.block g h.lt hg).trans h
theorem RAt.drewN (h : RAt T g s e w) (n : Nat) : RAt T g s e (w.drewN n) := h
end
theorem RAt.new (T : TypeId) (w : World) (s : List UInt8) : RAt T w.heap.size s 0 (w.alloc (.cells #[.string ⟨s.toArray⟩, .int .i64 0] T)) := heap_alloc_new w _
end M
end Go.Proofs.Ytbappohnljlchaa

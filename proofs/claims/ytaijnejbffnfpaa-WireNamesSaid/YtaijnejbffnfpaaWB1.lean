/- The texts Shelf9, WirFrame, WirMath, Num, Own, WirOpen, Mine, WirRd, WirBld, one behind the other. -/
import Derived.Test.YtaijnejbffnfpaaProg
import Derived.Shelf.Strings.Builder1
import Derived.Shelf.LaysM
import Derived.Shelf.Strconv.Clone
import Derived.Test.YtaijnejbffnfpaaRows
import Derived.ProofKit
import Derived.OpenShut
import Derived.WalkKit
import Derived.Below
import Derived.Stop.Joined
import Derived.Deep.RegionHeld
import Derived.LoopTactic
import Derived.LoopN
import Derived.Deep.QuietTactic
import Derived.BigQuiet
import Derived.Lib.Strings
import Derived.Lib.ByteType
import Derived.Laws.BytesString
import Derived.Laws.Shifts
import Derived.Laws.ShiftsVar
import Derived.Laws.Concat
import Derived.Deep.Cut
import Derived.Deep.CutBlock
import Derived.Deep.RegionWith
import Derived.Laws.Rows
import Derived.OwnWalk
import Derived.Maps.AppendAt
import Derived.ChangeOld
import Derived.ChangeSlices
import Derived.ChangeMaps5
import Derived.Laws.MakeOwn
import Derived.Lib.Walk
import Derived.Lib.Builder
import Derived.Lib.AppendStr
import Derived.Lib.UnsafeStr
import Derived.Laws.Externs
/- The contracts of the library's functions, as they lie proved on the shelf, laid at this translation. -/
namespace Go.Proofs
open Go.Shelf
def Try.lays169_ren : Go.Shelf.Ren := ⟨fun | 169 => 64 | n => n, fun | 70 => 87 | 9 => 9 | 0 => 0 | 72 => 89 | 37 => 49 | 127 => 98 | 3 => 3 | 5 => 5 | n => n, fun | n => n⟩
theorem Try.lays169 : Go.Proofs.Lays.n169 Try.prog Try.lays169_ren := {
  mixed := by kernel_rfl
  f169 := Try.func64.trans (congrArg some (by kernel_rfl))
  t0 := Try.underlying0
  a0 := Try.isAgg0
  z0 := Try.sizeOf0
  v0 := Try.zeroValue0
  t3 := Try.underlying3
  a3 := Try.isAgg3
  z3 := Try.sizeOf3
  v3 := Try.zeroValue3
  t9 := Try.underlying9
  a9 := Try.isAgg9
  z9 := Try.sizeOf9
  v9 := Try.zeroValue9
  t37 := Try.underlying49
  a37 := Try.isAgg49
  z37 := Try.sizeOf49
  v37 := Try.zeroValue49
  t70 := Try.underlying87
  a70 := Try.isAgg87
  z70 := Try.sizeOf87
  v70 := Try.zeroValue87
  t72 := Try.underlying89
  a72 := Try.isAgg89
  z72 := Try.sizeOf89
  v72 := Try.zeroValue89
  t127 := Try.underlying98
  a127 := Try.isAgg98
  z127 := Try.sizeOf98
  v127 := Try.zeroValue98 }
theorem Try.Builder_Extra_169 : Builder.Extra Try.prog Try.lays169_ren := {
  sizeBuilder := by kernel_rfl
  liesBuilder := by kernel_rfl
  t5 := Try.underlying5
  a5 := Try.isAgg5
  z5 := Try.sizeOf5
  v5 := Try.zeroValue5
  infoByte := by kernel_rfl
  cellsByte := by kernel_rfl
  sizeByte := by kernel_rfl
  neB5 := by decide }
open Go.RowKit in
theorem Try.Builder_String (B b : Nat) (l : List UInt8) (w : World) (h : Lib.IsBuilder 89 5 B b (Lib.byteCells l) w) (h0 : l ≠ []) :
    Calls Try.prog 64 #[.pointer (some ⟨b, 0, none⟩)] w fun e w' => e = .returned (.string ⟨l.toArray⟩) ∧ Below B w w' := Any.Builder_String Try.lays169 Try.Builder_Extra_169 B b l w h h0
open Go.RowKit in
theorem Try.Builder_String_empty (B b : Nat) (w : World) (h : Lib.IsBuilder 89 5 B b [] w) (hBw : B ≤ w.heap.size) :
    Calls Try.prog 64 #[.pointer (some ⟨b, 0, none⟩)] w fun e w' => e = .returned (.string ⟨#[]⟩) ∧ Below B w w' := Any.Builder_String_empty Try.lays169 Try.Builder_Extra_169 B b w h hBw
open Go.RowKit in
theorem Try.Builder_String_any (B b : Nat) (l : List UInt8) (w : World) (h : Lib.IsBuilder 89 5 B b (Lib.byteCells l) w) (hBw : B ≤ w.heap.size) :
    Calls Try.prog 64 #[.pointer (some ⟨b, 0, none⟩)] w fun e w' => e = .returned (.string ⟨l.toArray⟩) ∧ Below B w w' := Any.Builder_String_any Try.lays169 Try.Builder_Extra_169 B b l w h hBw
def Try.laysM316_ren : Go.Shelf.Ren := ⟨fun | 316 => 74 | n => n, fun | 9 => 9 | 3 => 3 | 4 => 4 | 37 => 49 | 0 => 0 | 127 => 98 | 5 => 5 | n => n, fun | n => n⟩
theorem Try.laysM316 : Go.Proofs.LaysM.n316 Try.prog Try.laysM316_ren := {
  mixed := by kernel_rfl
  f316 := Try.func74.trans (congrArg some (by kernel_rfl))
  t0 := Try.underlying0
  a0 := Try.isAgg0
  z0 := Try.sizeOf0
  v0 := Try.zeroValue0
  t3 := Try.underlying3
  a3 := Try.isAgg3
  z3 := Try.sizeOf3
  v3 := Try.zeroValue3
  t4 := Try.underlying4
  a4 := Try.isAgg4
  z4 := Try.sizeOf4
  v4 := Try.zeroValue4
  t9 := Try.underlying9
  a9 := Try.isAgg9
  z9 := Try.sizeOf9
  v9 := Try.zeroValue9
  t37 := Try.underlying49
  a37 := Try.isAgg49
  z37 := Try.sizeOf49
  v37 := Try.zeroValue49
  t127 := Try.underlying98
  a127 := Try.isAgg98
  z127 := Try.sizeOf98
  v127 := Try.zeroValue98
  t5 := Try.underlying5
  a5 := Try.isAgg5
  z5 := Try.sizeOf5
  v5 := Try.zeroValue5
  i0 := by kernel_rfl
  i3 := by kernel_rfl
  i4 := by kernel_rfl
  i5 := by kernel_rfl
  i9 := by kernel_rfl
  i37 := by kernel_rfl
  i127 := by kernel_rfl }
open Go.RowKit in
theorem Try.stringslite_Clone (s : ByteArray) (w : World) (hlim : s.size ≤ 281474976710656) :
    Calls Try.prog 74 #[.string s] w fun e w' => e = .returned (.string s) ∧ Below w.heap.size w w' := Any.stringslite_Clone Try.laysM316 s w hlim
end Go.Proofs
/- What every text of layer 9 stands on: bounds of what comes in, calls that answer in every world. -/
namespace Go.Proofs.Ytaijnejbffnfpaa
open Go.ChangeShapes Go.WideShapes Go.ChangeAt Go.RowKit
namespace M
theorem u64_bounds {n : Int} (h : (Lit.int .u64 n).wf = true) : 0 ≤ n ∧ n ≤ 18446744073709551615 := by
  simp [Lit.wf, IntKind.min, IntKind.max, IntKind.signed, IntKind.bits] at h
  omega
theorem u8_bounds {n : Int} (h : (Lit.int .u8 n).wf = true) : 0 ≤ n ∧ n ≤ 255 := by
  simp [Lit.wf, IntKind.min, IntKind.max, IntKind.signed, IntKind.bits] at h
  omega
theorem i64_bounds {n : Int} (h : (Lit.int .i64 n).wf = true) : -9223372036854775808 ≤ n ∧ n ≤ 9223372036854775807 := by
  simp [Lit.wf, IntKind.min, IntKind.max, IntKind.signed, IntKind.bits] at h
  omega
theorem grown_drewN {W w' : World} (h : Grown W w') (n : Nat) : Grown W (w'.drewN n) := h
/-- A call that answers v in every world, and leaves the world as it was but for draws. A plain definition: the walk does not look into it. -/
def Ret (f : FuncId) (args : Array Value) (v : Value) : Prop := ∀ W : World, Calls Try.prog f args W fun e w' => e = .returned v ∧ ∃ n, w' = W.drewN n
end M
end Go.Proofs.Ytaijnejbffnfpaa
/- Numbers as bytes, the most significant one first, and back. -/
namespace Go.Proofs.Ytaijnejbffnfpaa
namespace MM
/-- The last w bytes of a number. -/
def dig (n w : Nat) : List UInt8 := (List.range w).map fun i => UInt8.ofNat (n / 256 ^ (w - 1 - i))
/-- The number that bytes are. -/
def val (l : List UInt8) : Nat := l.foldl (fun n b => n * 256 + b.toNat) 0
@[simp] theorem dig_len (n w : Nat) : (dig n w).length = w := by simp [dig]
theorem dig_get {n w i : Nat} (h : i < w) : (dig n w)[i]? = some (UInt8.ofNat (n / 256 ^ (w - 1 - i))) := by simp [dig, h]
theorem dig_succ (n w : Nat) : dig n (w + 1) = dig (n / 256) w ++ [UInt8.ofNat n] := by
  unfold dig
  rw [List.range_succ, List.map_append]
  congr 1
  · refine List.map_congr_left fun i hi => ?_
    have hi := List.mem_range.1 hi
    have e : w + 1 - 1 - i = (w - 1 - i) + 1 := by omega
    rw [e, Nat.pow_succ, Nat.mul_comm, ← Nat.div_div_eq_div_mul]
  · simp
theorem val_snoc (l : List UInt8) (b : UInt8) : val (l ++ [b]) = val l * 256 + b.toNat := by simp [val]
theorem val_lt : ∀ (k : Nat) (l : List UInt8), l.length = k → val l < 256 ^ k
  | 0, l, h => by
    obtain rfl := List.length_eq_zero_iff.1 h
    simp [val]
  | k + 1, l, h => by
    obtain ⟨m, b, rfl⟩ : ∃ m b, l = m ++ [b] := by
      rcases List.eq_nil_or_concat l with rfl | ⟨m, b, rfl⟩
      · simp at h
      · exact ⟨m, b, by simp⟩
    have h1 := val_lt k m (by simpa using h)
    have hb := b.toNat_lt
    rw [val_snoc, Nat.pow_succ]
    omega
theorem val_dig : ∀ (w n : Nat), val (dig n w) = n % 256 ^ w
  | 0, n => by simp [dig, val, Nat.mod_one]
  | w + 1, n => by
    rw [dig_succ, val_snoc, val_dig w, Nat.pow_succ, Nat.mul_comm (256 ^ w) 256, Nat.mod_mul]
    have : (UInt8.ofNat n).toNat = n % 256 := by simp [UInt8.toNat_ofNat']
    rw [this]
    omega
theorem dig_val : ∀ (k : Nat) (l : List UInt8), l.length = k → dig (val l) k = l
  | 0, l, h => by
    obtain rfl := List.length_eq_zero_iff.1 h
    simp [dig]
  | k + 1, l, h => by
    obtain ⟨m, b, rfl⟩ : ∃ m b, l = m ++ [b] := by
      rcases List.eq_nil_or_concat l with rfl | ⟨m, b, rfl⟩
      · simp at h
      · exact ⟨m, b, by simp⟩
    have hb := b.toNat_lt
    rw [dig_succ, val_snoc]
    have e1 : (val m * 256 + b.toNat) / 256 = val m := by omega
    rw [e1, dig_val k m (by simpa using h)]
    congr 2
    apply UInt8.toNat_inj.1
    simp
/-- One byte more: shifted, and put below. -/
theorem shl_or (n b : Nat) (hn : n < 72057594037927936) (hb : b < 256) : (n * 256 % 18446744073709551616) ||| b = n * 256 + b := by
  rw [Nat.mod_eq_of_lt (by omega)]
  have h := Nat.shiftLeft_add_eq_or_of_lt (a := n) (b := b) (i := 8) (by simpa using hb)
  rw [Nat.shiftLeft_eq] at h
  exact h.symm
/-- .. of a row's beginning. -/
theorem val_take (l : List UInt8) (k : Nat) (h : k < l.length) : val (l.take (k + 1)) = val (l.take k) * 256 + (l.getD k 0).toNat := by
  rw [List.take_add_one, List.getElem?_eq_getElem h]
  simp only [Option.toList_some]
  rw [val_snoc, List.getD_eq_getElem?_getD, List.getElem?_eq_getElem h]
  rfl
end MM
end Go.Proofs.Ytaijnejbffnfpaa
/- What calls answer at whatever modulus, rows of numbers that a slice reads, and calls that make new memory at most. -/
namespace Go.Proofs.Ytaijnejbffnfpaa
open Go Go.RowKit Go.Lib
namespace M
/-- A call that answers v in every world and makes new memory at most: what was there stays. A plain definition: the walk does not look into it. -/
def RetB (f : FuncId) (args : Array Value) (v : Value) : Prop := ∀ W : World, Calls Try.prog f args W fun e w' => e = .returned v ∧ Below W.heap.size W w'
theorem RetB.at {f : FuncId} {args : Array Value} {v : Value} (h : RetB f args v) (W : World) : Calls Try.prog f args W fun e w' => e = .returned v ∧ Below W.heap.size W w' := h W
theorem below_drewN (w : World) (n : Nat) : Below w.heap.size w (w.drewN n) := ⟨rfl, rfl, rfl, Nat.le_refl _, fun _ _ => rfl⟩
theorem Ret.toB {f : FuncId} {args : Array Value} {v : Value} (h : Ret f args v) : RetB f args v := fun W => (h W).mono fun _ _ ⟨he, n, hn⟩ => ⟨he, by rw [hn]; exact below_drewN _ _⟩
theorem bcell {W w1 : World} (hb : Below W.heap.size W w1) : (∀ b o, b < W.heap.size → w1.cell? ⟨b, o, none⟩ = W.cell? ⟨b, o, none⟩) ∧ (∀ b o, b < W.heap.size → w1.frozen? ⟨b, o, none⟩ = W.frozen? ⟨b, o, none⟩) :=
  ⟨fun b o h => hb.cell (p := ⟨b, o, none⟩) h, fun b o h => hb.frozen (p := ⟨b, o, none⟩) h⟩
theorem setCell_drewN (w : World) (n : Nat) (a : Addr) (v : Value) : (w.drewN n).setCell a v = (w.setCell a v).drewN n := rfl
theorem alloc_drewN (w : World) (n : Nat) (o : Obj) : (w.drewN n).alloc o = (w.alloc o).drewN n := rfl
theorem below_drewN' (w : World) (n B : Nat) : Below B w (w.drewN n) := ⟨rfl, rfl, rfl, Nat.le_refl _, fun _ _ => rfl⟩
theorem row_lt {w : World} {b : Nat} {o : Obj} (h : w.heap[b]? = some o) : b < w.heap.size := by
  rcases Nat.lt_or_ge b w.heap.size with h' | h'
  · exact h'
  · rw [Array.getElem?_eq_none h'] at h; cases h
theorem below_box (w : World) (o : Obj) : Below w.heap.size w (w.alloc o) := (Below.refl _ _).alloc (Nat.le_refl _) _
theorem Below.drawn {B : Nat} {w w' : World} (h : Below B w w') (n : Nat) : Below B w (w'.drewN n) := h.trans (below_drewN' w' n _)

/-- A row of numbers that a slice reads. -/
def Row (W : World) (a : Addr) (n : Nat) (z : Nat → Nat) : Prop := ∀ t, t < n → W.cell? (a.add t) = some (.int .u64 (z t : Int))
theorem Row.below {W W' : World} {a : Addr} {n : Nat} {z : Nat → Nat} (h : Row W a n z) (hb : Below W.heap.size W W') : Row W' a n z := fun t ht => by
  have h1 := h t ht
  have hs : (a.add t).block < W.heap.size := World.block_lt_of_cell? W _ h1
  rw [hb.cell hs]; exact h1
theorem Row.of_block {W : World} {b : Nat} {cs : Array Value} {t : TypeId} {n : Nat} {z : Nat → Nat} (h : W.heap[b]? = some (.cells cs t (0, 0))) (hz : ∀ k, k < n → cs[k]? = some (.int .u64 (z k : Int))) : Row W ⟨b, 0, none⟩ n z := fun k hk => by
  have e : (⟨b, 0, none⟩ : Addr).add k = ⟨b, k, none⟩ := by
    unfold Addr.add
    by_cases h0 : k = 0
    · subst h0; rfl
    · rw [if_neg h0]; simp
  rw [e, cell_of_row W b k _ _ _ h, hz k hk]

theorem row_cell {W : World} {b : Nat} {n : Nat} {z : Nat → Nat} (h : Row W ⟨b, 0, none⟩ n z) {k : Nat} (hk : k < n) : W.cell? ⟨b, k, none⟩ = some (.int .u64 ((z k : Nat) : Int)) := by
  have e : (⟨b, 0, none⟩ : Addr).add k = ⟨b, k, none⟩ := by
    unfold Addr.add
    by_cases h0 : k = 0
    · subst h0; rfl
    · rw [if_neg h0]; simp
  rw [← e]; exact h k hk
end M
end Go.Proofs.Ytaijnejbffnfpaa
/- A row of numbers that a call itself makes, one append behind the other: what it holds, what is kept over steps, appends and the end. -/
namespace Go.Proofs.Ytaijnejbffnfpaa
open Go Go.RowKit Go.Lib
namespace M
theorem info_u64 : (Try.prog.info? 26).map (fun i => (i.zero, i.size, i.bytes)) = some (some (.int .u64 0), 1, 8) := by kernel_rfl
/-- A row's first numbers, as values. -/
def zlist (n : Nat) (z : Nat → Nat) : List Value := (List.range n).map fun k => .int .u64 ((z k : Nat) : Int)
theorem zlist_len (n : Nat) (z : Nat → Nat) : (zlist n z).length = n * 1 := by simp [zlist]
theorem zlist_get {n : Nat} {z : Nat → Nat} {k : Nat} (h : k < n) : (zlist n z)[k]? = some (.int .u64 ((z k : Nat) : Int)) := by simp [zlist, h]
theorem zlist_succ (n : Nat) (z : Nat → Nat) : zlist n z ++ [.int .u64 ((z n : Nat) : Int)] = zlist (n + 1) z := by simp [zlist, List.range_succ]
theorem zlist_congr {n : Nat} {y z : Nat → Nat} (h : ∀ k, k < n → y k = z k) : zlist n y = zlist n z := by
  unfold zlist
  exact List.map_congr_left fun k hk => by rw [h k (List.mem_range.1 hk)]
theorem zlist_cells {W : World} {a : Addr} {n : Nat} {z : Nat → Nat} (h : Row W a n z) : ∀ j u, (zlist n z)[j]? = some u → W.cell? (a.add j) = some u := fun j u hj => by
  have hl := (List.getElem?_eq_some_iff.1 hj).1
  rw [zlist_len] at hl
  rw [zlist_get (by omega)] at hj
  rw [← hj]; exact h j (by omega)
theorem zlist_one (n : Nat) (z : Nat → Nat) : ∀ u ∈ zlist n z, u.oneCell' = true := fun u hu => by
  simp [zlist] at hu
  obtain ⟨k, _, rfl⟩ := hu
  rfl
/-- The row so far: of the call's own memory, behind block B; nothing old has changed. -/
structure Own (w0 : World) (B : Nat) (v : Value) (k : Nat) (z : Nat → Nat) (w : World) : Prop where
  own : w.ownsRow B 26 1 v k (zlist k z)
  size : B ≤ w.heap.size
  low : w0.heap.size ≤ B
  below : Below w0.heap.size w0 w
section
variable {w0 w w' : World} {B k : Nat} {v : Value} {z : Nat → Nat}
theorem Own.start (w0 : World) (z : Nat → Nat) : Own w0 w0.heap.size (.slice none 0 0) 0 z w0 := ⟨⟨by simp [zlist], .inl ⟨rfl, rfl⟩⟩, Nat.le_refl _, Nat.le_refl _, Below.refl _ _⟩
theorem Own.step (h : Own w0 B v k z w) (hb : Below w.heap.size w w') : Own w0 B v k z w' :=
  ⟨h.own.kept (row := none) ⟨hb.os, hb.tape, hb.output, hb.size, fun k hk _ => hb.block k hk⟩ (by cases v.ownBlock <;> simp), Nat.le_trans h.size hb.size, h.low, h.below.trans (hb.mono h.below.size)⟩
theorem Own.drewN (h : Own w0 B v k z w) (n : Nat) : Own w0 B v k z (w.drewN n) := h.step (below_drewN' w n _)
theorem Own.drew (h : Own w0 B v k z w) : Own w0 B v k z w.drew := h.drewN 1
theorem Own.alloc (h : Own w0 B v k z w) (o : Obj) : Own w0 B v k z (w.alloc o) := h.step (below_box _ _)
theorem Own.grow (h : Own w0 B v k z w) {v' : Value} {k' : Nat} {xs : List Value} (ho : w'.ownsRow B 26 1 v' k' xs) (hx : xs = zlist k' z) (hg : w.grownBy w' v.ownBlock) : Own w0 B v' k' z w' :=
  ⟨hx ▸ ho, Nat.le_trans h.size hg.size, h.low,
   h.below.trans ⟨hg.os, hg.tape, hg.output, hg.size, fun j hj => hg.block j (Nat.lt_of_lt_of_le hj h.below.size) (fun e => by have := (h.own.lt j e.symm).1; have := h.low; omega)⟩⟩
/-- What the row reads as. -/
theorem Own.row (h : Own w0 B v k z w) : (v = .slice none 0 0 ∧ k = 0) ∨ ∃ g c, v = .slice (some ⟨g, 0, none⟩) k c ∧ B ≤ g ∧ k ≤ c ∧ c ≤ maxLen ∧ Row w ⟨g, 0, none⟩ k z := by
  obtain ⟨_, h1 | ⟨g, cap, cur, h1, h2, h3, h4, h5, _, h7⟩⟩ := h.own
  · exact .inl h1
  · refine .inr ⟨g, cap, h1, h2, h4, h5, Row.of_block h3 fun j hj => ?_⟩
    have e1 : (cur.toList.take (k * 1))[j]? = (zlist k z)[j]? := by rw [h7]
    rw [zlist_get hj, List.getElem?_take_of_lt (by omega)] at e1
    simpa using e1
end
/-- A call that hands back a row of its own: n numbers z, in new memory; nothing old has changed. A plain definition: the walk does not look into it. -/
def Gives (W : World) (n : Nat) (z : Nat → Nat) (e : Ending) (w' : World) : Prop := ∃ v, e = .returned v ∧ w'.ownsRow W.heap.size 26 1 v n (zlist n z) ∧ Below W.heap.size W w'
theorem Own.gives {w0 w : World} {B k : Nat} {v : Value} {z : Nat → Nat} (h : Own w0 B v k z w) : Gives w0 k z (.returned v) w := ⟨v, rfl, by
  obtain ⟨h1, h2⟩ := h.own
  refine ⟨h1, h2.imp id fun ⟨g, cap, cur, a, b, c⟩ => ⟨g, cap, cur, a, Nat.le_trans h.low b, c⟩⟩, h.below⟩
/-- Numbers that a slice reads, whatever its address while there is none. -/
def Rd (W : World) (ao : Option Addr) (n : Nat) (z : Nat → Nat) : Prop := 0 < n → ∃ ad, ao = some ad ∧ Row W ad n z
theorem Rd.below {W W' : World} {ao : Option Addr} {n : Nat} {z : Nat → Nat} (h : Rd W ao n z) (hb : Below W.heap.size W W') : Rd W' ao n z := fun hn => let ⟨ad, e, hr⟩ := h hn; ⟨ad, e, hr.below hb⟩
theorem Rd.at_ {W : World} {ao : Option Addr} {n : Nat} {z : Nat → Nat} (h : Rd W ao n z) {k : Nat} (hk : k < n) : ∃ ad, ao = some ad ∧ W.cell? (ad.add k) = some (.int .u64 ((z k : Nat) : Int)) := let ⟨ad, e, hr⟩ := h (by omega); ⟨ad, e, hr k hk⟩
theorem Own.rd {w0 w : World} {B k : Nat} {v : Value} {z : Nat → Nat} (h : Own w0 B v k z w) : ∃ ao c, v = .slice ao k c ∧ k ≤ c ∧ c ≤ maxLen ∧ Rd w ao k z := by
  rcases h.row with ⟨rfl, rfl⟩ | ⟨g, c, rfl, _, h1, h2, hr⟩
  · exact ⟨none, 0, rfl, Nat.le_refl _, Nat.zero_le _, fun hn => absurd hn (by omega)⟩
  · exact ⟨_, c, rfl, h1, h2, fun _ => ⟨_, rfl, hr⟩⟩
end M
end Go.Proofs.Ytaijnejbffnfpaa
/- How texts and rows of numbers that come in are opened. -/
namespace Go.Proofs.Ytaijnejbffnfpaa
open Go.ChangeShapes Go.WideShapes Go.ChangeAt Go.RowKit
namespace M
theorem laidOut : laidOutB Try.prog = true := by kernel_rfl
theorem own : ownKnob Try.prog.godebug = none := by kernel_rfl
/-- A row of numbers that came in. -/
def NumsIn (w : World) (v : Value) : Prop := ∃ (ao : Option Addr) (n c : Nat) (z : Nat → Nat), v = .slice ao n c ∧ n ≤ c ∧ n ≤ 9223372036854775807 ∧ (∀ k, z k < 18446744073709551616) ∧ Rd w ao n z ∧ (ao = none → n = 0 ∧ c = 0)
section
variable {H : Type} {enc : TypeId × Value → H} {w : World} {base : Nat} {held : Bool}
set_option maxRecDepth 100000 in
theorem trod_nums {spare : Nat → Bool} {fuel : Nat} {cs : List Value} {x : DataW H × List MemPlace} (h : DataW.trod enc Try.prog w base spare held fuel 35 cs = some x) : ∃ v, cs = [v] ∧ NumsIn w v := by
  rcases open_ints Try.underlying35 Try.underlying26 (by kernel_rfl) h with ⟨hcs, _⟩ | ⟨a, len, cap, zs, hcs, _, hl, hm, hz, _, hcell, hwf⟩
  · exact ⟨_, hcs, none, 0, 0, fun _ => 0, rfl, Nat.le_refl _, by omega, fun _ => by show (0 : Nat) < _; omega, fun h => absurd h (by omega), fun _ => ⟨rfl, rfl⟩⟩
  · unfold maxLen at hm
    have hle : len ≤ zs.length := by rw [hz]; split <;> omega
    have hb : ∀ k, k < zs.length → 0 ≤ zs.getD k 0 ∧ zs.getD k 0 ≤ 18446744073709551615 := fun k hk => by
      have hmem : zs.getD k 0 ∈ zs := by rw [List.getD_eq_getElem?_getD, List.getElem?_eq_getElem hk]; exact List.getElem_mem hk
      exact M.u64_bounds (hwf _ hmem)
    refine ⟨_, hcs, some a, len, cap, fun k => if k < zs.length then (zs.getD k 0).toNat else 0, rfl, hl, by omega, fun k => ?_, fun _ => ⟨a, rfl, fun k hk => ?_⟩, fun h => by cases h⟩
    · by_cases h : k < zs.length
      · have := hb k h; simp only [if_pos h]; omega
      · simp only [if_neg h]; omega
    · have h : k < zs.length := by omega
      have := hb k h
      rw [hcell k h]
      simp only [if_pos h]
      congr 2
      omega
theorem open_nums {spare : Nat → Bool} {r : Reach} {b0 : Nat} {v : Value} {d : DataW H} {pl : List MemPlace} (hv : Value.okWide Try.prog w r b0 35 v) (h : DataW.Trod enc Try.prog w base spare held 35 v d pl) : NumsIn w v := by
  obtain ⟨ad, len0, cap0, rfl⟩ := okWide_slice Try.underlying35 hv
  obtain ⟨fuel, hf⟩ := h
  obtain ⟨v, hv2, hn⟩ := trod_nums hf
  obtain rfl : Value.slice ad len0 cap0 = v := by simpa [Value.cells] using hv2
  exact hn
end
end M
end Go.Proofs.Ytaijnejbffnfpaa
/- A row of numbers that a call itself makes whole (make), and writes cell by cell: what it holds, what is kept, what it is at the end. -/
namespace Go.Proofs.Ytaijnejbffnfpaa
open Go Go.RowKit Go.Lib
namespace M
/-- Block B holds the n numbers z, one a cell, none frozen; it lies behind all that was there at w0; nothing of that has changed. -/
structure Mine (w0 : World) (B n : Nat) (z : Nat → Nat) (w : World) : Prop where
  block : ∃ cs : Array Value, w.heap[B]? = some (.cells cs 26 (0, 0)) ∧ cs.size = n ∧ ∀ k, k < n → cs[k]? = some (.int .u64 ((z k : Nat) : Int))
  low : w0.heap.size ≤ B
  below : Below w0.heap.size w0 w
section
variable {w0 w w' : World} {B n : Nat} {z y : Nat → Nat}
theorem Mine.lt (h : Mine w0 B n z w) : B < w.heap.size := by obtain ⟨cs, h1, _⟩ := h.block; exact row_lt h1
theorem Mine.step (h : Mine w0 B n z w) (hb : Below w.heap.size w w') : Mine w0 B n z w' :=
  ⟨by obtain ⟨cs, h1, h2⟩ := h.block; exact ⟨cs, (hb.block B h.lt).trans h1, h2⟩, h.low, h.below.trans (hb.mono h.below.size)⟩
theorem Mine.drewN (h : Mine w0 B n z w) (m : Nat) : Mine w0 B n z (w.drewN m) := h.step (below_drewN' w m _)
theorem Mine.alloc (h : Mine w0 B n z w) (o : Obj) : Mine w0 B n z (w.alloc o) := h.step (below_box _ _)
theorem Mine.congr (h : Mine w0 B n z w) (hz : ∀ k, k < n → z k = y k) : Mine w0 B n y w :=
  ⟨by obtain ⟨cs, h1, h2, h3⟩ := h.block; exact ⟨cs, h1, h2, fun k hk => by rw [h3 k hk, hz k hk]⟩, h.low, h.below⟩
theorem Mine.cell (h : Mine w0 B n z w) {k : Nat} (hk : k < n) : w.cell? ⟨B, k, none⟩ = some (.int .u64 ((z k : Nat) : Int)) := by
  obtain ⟨cs, h1, _, h3⟩ := h.block
  rw [cell_of_row w B k _ _ _ h1, h3 k hk]
theorem Mine.free (h : Mine w0 B n z w) (k : Nat) : w.frozen? ⟨B, k, none⟩ = false := by
  obtain ⟨cs, h1, _⟩ := h.block
  simp [World.frozen?, h1]
/-- One cell is written. -/
theorem Mine.set (h : Mine w0 B n z w) (k x : Nat) (hy : ∀ j, j < n → y j = if j = k then x else z j) : Mine w0 B n y (w.setCell ⟨B, k, none⟩ (.int .u64 (x : Int))) := by
  refine ⟨?_, h.low, h.below.setCell (p := ⟨B, k, none⟩) h.low _⟩
  obtain ⟨cs, h1, h2, h3⟩ := h.block
  refine ⟨_, heap_setCell_same w B k cs _ _ h1, by simpa using h2, fun j hj => ?_⟩
  rw [hy j hj, Array.getElem?_setIfInBounds]
  by_cases e : k = j
  · subst e; rw [if_pos rfl, if_pos (by omega), if_pos rfl]
  · rw [if_neg e, if_neg (fun h => e h.symm), h3 j hj]
theorem Mine.row (h : Mine w0 B n z w) : Row w ⟨B, 0, none⟩ n z := by
  obtain ⟨cs, h1, _, h3⟩ := h.block
  exact Row.of_block h1 h3
theorem Mine.rd (h : Mine w0 B n z w) : Rd w (some ⟨B, 0, none⟩) n z := fun _ => ⟨_, rfl, h.row⟩
theorem Mine.own (h : Mine w0 B n z w) (hn : n ≤ maxLen) : w.ownsRow w0.heap.size 26 1 (.slice (some ⟨B, 0, none⟩) n n) n (zlist n z) := by
  obtain ⟨cs, h1, h2, h3⟩ := h.block
  refine ⟨by simp [zlist], .inr ⟨B, n, cs, rfl, h.low, h1, Nat.le_refl _, hn, by omega, ?_⟩⟩
  apply List.ext_getElem?
  intro k
  by_cases hk : k < n
  · rw [zlist_get hk, List.getElem?_take_of_lt (by omega), Array.getElem?_toList, h3 k hk]
  · rw [List.getElem?_eq_none (by simp; omega), List.getElem?_eq_none (by rw [zlist_len]; omega)]
theorem Mine.gives (h : Mine w0 B n z w) (hn : n ≤ maxLen) : Gives w0 n z (.returned (.slice (some ⟨B, 0, none⟩) n n)) w := ⟨_, rfl, h.own hn, h.below⟩
/-- The row as make leaves it. -/
theorem Mine.made (w0 : World) (n : Nat) : Mine w0 w0.heap.size n (fun _ => 0) (w0.alloc (.cells (madeCells (Value.int .u64 0).cells (n * 1)) 26)) := by
  refine ⟨⟨_, heap_alloc_new _ _, by rw [size_madeCells, Nat.mul_one], fun k hk => ?_⟩, Nat.le_refl _, below_box _ _⟩
  simp [madeCells, hk, Value.cells, Nat.mod_one]
end
/-- All old blocks but B are as they were. -/
def Kept (B : Nat) (W w : World) : Prop := ∀ k, k < W.heap.size → k ≠ B → w.heap[k]? = W.heap[k]?
theorem Kept.refl (B : Nat) (W : World) : Kept B W W := fun _ _ _ => rfl
theorem Kept.drewN {B : Nat} {W w : World} (h : Kept B W w) (n : Nat) : Kept B W (w.drewN n) := fun k a b => h k a b
theorem Kept.setCell {B : Nat} {W w : World} (h : Kept B W w) (i : Nat) (v : Value) : Kept B W (w.setCell ⟨B, i, none⟩ v) := fun k a b => (Below.heap_setCell w ⟨B, i, none⟩ v k b).trans (h k a b)
theorem Kept.below {B : Nat} {W w w' : World} (h : Kept B W w) (hb : Below W.heap.size w w') : Kept B W w' := fun k a b => (hb.block k a).trans (h k a b)
theorem run_made (n : Nat) (hn : n ≤ 1000000000) (w : World) :
    (Instr.makeSlice 35 (.int .i64 (n : Int)) (.int .i64 (n : Int))).run Try.prog w = .ok (.slice (some ⟨w.heap.size, 0, none⟩) n n) (w.alloc (.cells (madeCells (Value.int .u64 0).cells (n * 1)) 26)) := by
  obtain ⟨i0, hi, hz0, hz1, hz2⟩ := info_parts info_u64
  have hr := run_make (P := Try.prog) w 35 26 i0 (.int .u64 0) Try.underlying35 hi hz0 .i64 .i64 n n (by omega) (by omega) (by rw [hz2]; omega) (by omega)
  simp only [Int.toNat_natCast, hz1] at hr
  exact hr
end M
end Go.Proofs.Ytaijnejbffnfpaa
/- A reader as it lies; what a call may turn: the reader's own block, and new memory. -/
namespace Go.Proofs.Ytaijnejbffnfpaa
open Go Go.RowKit Go.Lib
namespace M
/-- Block g is a struct of type T of a text and a whole number. -/
def RAt (T : TypeId) (g : Nat) (s : List UInt8) (e : Int) (w : World) : Prop := w.heap[g]? = some (.cells #[.string ⟨s.toArray⟩, .int .i64 e] T (0, 0))
/-- Nothing that was there has changed, but block g. -/
structure Turn (g : Nat) (w w' : World) : Prop where
  os : w'.os = w.os
  tape : w'.tape = w.tape
  output : w'.output = w.output
  size : w.heap.size ≤ w'.heap.size
  block : ∀ k, k < w.heap.size → k ≠ g → w'.heap[k]? = w.heap[k]?
theorem Turn.refl (g : Nat) (w : World) : Turn g w w := ⟨rfl, rfl, rfl, Nat.le_refl _, fun _ _ _ => rfl⟩
theorem Turn.trans {g : Nat} {a b c : World} (h : Turn g a b) (k : Turn g b c) : Turn g a c :=
  ⟨k.os.trans h.os, k.tape.trans h.tape, k.output.trans h.output, Nat.le_trans h.size k.size, fun i hi hg => (k.block i (Nat.lt_of_lt_of_le hi h.size) hg).trans (h.block i hi hg)⟩
theorem Turn.of {g : Nat} {w w' : World} (h : Below w.heap.size w w') : Turn g w w' := ⟨h.os, h.tape, h.output, h.size, fun k hk _ => h.block k hk⟩
theorem Turn.below {g B : Nat} {w w' : World} (h : Turn g w w') (hB : B ≤ g) (hw : B ≤ w.heap.size) : Below B w w' := ⟨h.os, h.tape, h.output, h.size, fun k hk => h.block k (by omega) (by omega)⟩
theorem Turn.set {g : Nat} {a w : World} (h : Turn g a w) (i : Nat) (v : Value) : Turn g a (w.setCell ⟨g, i, none⟩ v) :=
  h.trans ⟨rfl, rfl, rfl, by simp [World.setCell], fun k _ hk => Below.heap_setCell w ⟨g, i, none⟩ v k hk⟩
theorem Turn.cell {g : Nat} {w w' : World} (h : Turn g w w') {p : Addr} {v : Value} (hc : w.cell? p = some v) (hp : p.block ≠ g) : w'.cell? p = some v := by
  rw [World.cell?_of_block (w := w) (h.block p.block (World.block_lt_of_cell? w _ hc) hp)]; exact hc
theorem Turn.frozen {g : Nat} {w w' : World} (h : Turn g w w') {p : Addr} (hl : p.block < w.heap.size) (hp : p.block ≠ g) : w'.frozen? p = w.frozen? p :=
  World.frozen?_of_block (w := w) (h.block p.block hl hp)
theorem Turn.drewN {g : Nat} {a w : World} (h : Turn g a w) (n : Nat) : Turn g a (w.drewN n) := h.trans ⟨rfl, rfl, rfl, Nat.le_refl _, fun _ _ _ => rfl⟩
theorem Turn.setNew {g : Nat} {a w : World} (h : Turn g a w) {b : Nat} (hb : a.heap.size ≤ b) (i : Nat) (v : Value) : Turn g a (w.setCell ⟨b, i, none⟩ v) :=
  ⟨h.os, h.tape, h.output, by simpa [World.setCell] using h.size, fun k hk hg => (Below.heap_setCell w ⟨b, i, none⟩ v k (by have : (⟨b, i, none⟩ : Addr).block = b := rfl; omega)).trans (h.block k hk hg)⟩
theorem setCell_same {w : World} {b i : Nat} {v : Value} (h : w.cell? ⟨b, i, none⟩ = some v) : w.setCell ⟨b, i, none⟩ v = w := by
  unfold World.cell? at h
  have e : (w.setCell ⟨b, i, none⟩ v).heap = w.heap := by
    apply Array.ext_getElem?
    intro k
    simp only [World.setCell]
    rw [Array.getElem?_modify]
    by_cases hk : b = k
    · subst hk
      rw [if_pos rfl]
      cases hb : w.heap[b]? with
      | none => rfl
      | some o =>
        rw [hb] at h
        cases o with
        | cells c t fr =>
          simp at h
          have : c.setIfInBounds i v = c := by
            apply Array.ext_getElem?
            intro j
            rw [Array.getElem?_setIfInBounds]
            by_cases hj : i = j
            · subst hj
              rw [if_pos rfl, h]
              by_cases hl : i < c.size
              · rw [if_pos hl]
              · rw [Array.getElem?_eq_none (by omega)] at h; cases h
            · rw [if_neg hj]
          simp [this]
        | _ => rfl
    · rw [if_neg hk]
  have e2 : w.setCell ⟨b, i, none⟩ v = { w with heap := (w.setCell ⟨b, i, none⟩ v).heap } := rfl
  rw [e2, e]
section
variable {T : TypeId} {g : Nat} {s : List UInt8} {e : Int} {w w' : World}
theorem RAt.lt (h : RAt T g s e w) : g < w.heap.size := row_lt h
theorem RAt.rest (h : RAt T g s e w) : w.cell? ⟨g, 0, none⟩ = some (.string ⟨s.toArray⟩) := by rw [cell_of_row w g 0 _ _ _ h]; rfl
theorem RAt.wrong (h : RAt T g s e w) : w.cell? ⟨g, 1, none⟩ = some (.int .i64 e) := by rw [cell_of_row w g 1 _ _ _ h]; rfl
theorem RAt.free (h : RAt T g s e w) (j : Nat) : w.frozen? ⟨g, j, none⟩ = false := by
  unfold RAt at h
  simp [World.frozen?, h]
theorem RAt.put0 (h : RAt T g s e w) (t : List UInt8) : RAt T g t e (w.setCell ⟨g, 0, none⟩ (.string ⟨t.toArray⟩)) := heap_setCell_same w g 0 _ _ _ h
theorem RAt.put1 (h : RAt T g s e w) (f : Int) : RAt T g s f (w.setCell ⟨g, 1, none⟩ (.int .i64 f)) := heap_setCell_same w g 1 _ _ _ h
theorem RAt.step (h : RAt T g s e w) (hb : Below w.heap.size w w') : RAt T g s e w' := (hb.block g h.lt).trans h
theorem RAt.turn {g2 : Nat} (h : RAt T g s e w) (hb : Turn g2 w w') (hg : g ≠ g2) : RAt T g s e w' := (hb.block g h.lt hg).trans h
theorem RAt.drewN (h : RAt T g s e w) (n : Nat) : RAt T g s e (w.drewN n) := h
end
theorem RAt.new (T : TypeId) (w : World) (s : List UInt8) : RAt T w.heap.size s 0 (w.alloc (.cells #[.string ⟨s.toArray⟩, .int .i64 0] T)) := heap_alloc_new w _
end M
end Go.Proofs.Ytaijnejbffnfpaa
/- The walks of strings.Builder's copyCheck and WriteString at this translation; strings.Clone. -/
namespace Go.Proofs.Ytaijnejbffnfpaa
open Go Go.RowKit Go.Lib
namespace M
/-- A builder in a block of its own. -/
abbrev Bld (B b : Nat) (l : List UInt8) (w : World) : Prop := Lib.IsBuilder 89 5 B b (Lib.byteCells l) w
theorem sizeBuilder : (Try.prog.info? 89).map (·.size) = some 2 := by kernel_rfl
theorem liesBuilder : liesAt Try.prog Try.prog.depth 89 (2 / Try.prog.cellsOf 89) 0 89 1 = true := by kernel_rfl
theorem infoByte : (Try.prog.info? 5).map (fun i => (i.zero, i.size, i.bytes)) = some (some (.int .u8 0), 1, 1) := by kernel_rfl
set_option maxHeartbeats 1000000 in
set_option maxRecDepth 100000 in
theorem check_used (b : Nat) (w : World) (h0 : w.cell? ⟨b, 0, none⟩ = some (.pointer (some ⟨b, 0, none⟩))) :
    Calls Try.prog 76 #[.pointer (some ⟨b, 0, none⟩)] w fun e w' => e = .returned (.tuple #[]) ∧ w' = w := by
  obtain ⟨j, hj, _⟩ := Option.map_eq_some_iff.1 sizeBuilder
  have hn := Lib.run_neq_ptr_same (P := Try.prog) w (⟨b, 0, none⟩ : Addr) Try.underlying87 hj
  go_enter Try.func76, Try.ntmps76
  go_wp2
  go_end0
  exact ⟨rfl, rfl⟩
set_option maxHeartbeats 1000000 in
set_option maxRecDepth 100000 in
theorem check_fresh (b : Nat) (w : World) (h0 : w.cell? ⟨b, 0, none⟩ = some (.pointer none)) (hsh : w.shape? b = some (89, 2)) (hfz : w.frozen? ⟨b, 0, none⟩ = false) :
    Calls Try.prog 76 #[.pointer (some ⟨b, 0, none⟩)] w fun e w' => e = .returned (.tuple #[]) ∧ w' = w.setCell ⟨b, 0, none⟩ (.pointer (some ⟨b, 0, none⟩)) := by
  obtain ⟨j, hj, hjs⟩ := Option.map_eq_some_iff.1 sizeBuilder
  have h1 := Lib.run_to_unsafe (P := Try.prog) w ⟨b, 0, none⟩ Try.underlying87 Try.underlying99 hj (by rw [hjs]; decide) hsh (Nat.zero_lt_succ 1)
  have h2 : (callFunc 77 #[.pointer (some ⟨b, 0, none⟩)]).run Try.prog w = .ok (.value (.pointer (some ⟨b, 0, none⟩))) w := by
    rw [run_callFunc_extern Try.func77 (by kernel_rfl) (by kernel_rfl) (by kernel_rfl) (e := Extern.AbiNoEscape.same) (by kernel_rfl)]
    rw [Lib.run_noEscape]
    rfl
  have h3 := Lib.run_from_unsafe (P := Try.prog) w ⟨b, 0, none⟩ Try.underlying99 Try.underlying87 hj hsh liesBuilder
  go_enter Try.func76, Try.ntmps76
  go_wp2
  go_end0
  exact ⟨rfl, rfl⟩
theorem check_any (B b : Nat) (bs : List Value) (w : World) (h : Lib.IsBuilder 89 5 B b bs w) :
    Calls Try.prog 76 #[.pointer (some ⟨b, 0, none⟩)] w fun e w' => e = .returned (.tuple #[]) ∧ (Lib.BuilderAt 89 5 B b (.pointer (some ⟨b, 0, none⟩)) bs w' ∧ Below B w w') := by
  rcases h with h | h
  · refine (check_fresh b w h.cell0 h.shape h.frozen0).mono ?_
    rintro e w' ⟨rfl, rfl⟩
    exact ⟨rfl, h.used _, (Below.refl B w).setCell (p := ⟨b, 0, none⟩) h.1 _⟩
  · refine (check_used b w h.cell0).mono ?_
    rintro e w' ⟨rfl, rfl⟩
    exact ⟨rfl, h, Below.refl B _⟩
set_option maxHeartbeats 2000000 in
set_option maxRecDepth 100000 in
theorem write_any (B b : Nat) (l : List UInt8) (s : List UInt8) (w : World) (h : Bld B b l w) (hlen : l.length + s.length ≤ 140737488355328) (hBw : B ≤ w.heap.size) :
    Calls Try.prog 63 #[.pointer (some ⟨b, 0, none⟩), .string ⟨s.toArray⟩] w fun e w' => (∃ v, e = .returned v) ∧ Bld B b (l ++ s) w' ∧ Below B w w' := by
  obtain ⟨i0, hi, hz0, hz1, hz2⟩ := info_parts infoByte
  go_enter Try.func63, Try.ntmps63
  go_wp2_with (go_at_call 76; refine (check_any B b _ _ h).mono ?_)
  rintro e w1 ⟨rfl, h1, hb1⟩
  obtain ⟨hB, v, hbk, hown, hne⟩ := h1
  have c0 : w1.cell? ⟨b, 0, none⟩ = some (.pointer (some ⟨b, 0, none⟩)) := by rw [Lib.cell_of_heap hbk]; rfl
  have c1 : w1.cell? ⟨b, 1, none⟩ = some v := by rw [Lib.cell_of_heap hbk]; rfl
  go_wp2_with (at_builtin; refine Lib.wpList_append_own_string _ rfl _ _ 49 9 rfl B 5 i0 Try.underlying49 Try.underlying9 hi hz0 hz1 hz2 _ _ _ rfl hown ⟨s.toArray⟩ rfl ?c3 ?c4 ?c5 ?_)
  case c3 => unfold maxLen; simp [ByteArray.size_mk', Lib.byteCells_length]; omega
  case c4 => simp [ByteArray.size_mk', Lib.byteCells_length]; omega
  case c5 => have := hb1.size; omega
  intro v' w2 hown' hgrow _
  have hlt : b < w1.heap.size := row_lt hbk
  have hb2 : w2.heap[b]? = some (.cells #[.pointer (some ⟨b, 0, none⟩), v] 89 (0, 0)) := by
    rw [hgrow.block b hlt (fun e => hne e.symm)]
    exact hbk
  have d0 : w2.cell? ⟨b, 0, none⟩ = some (.pointer (some ⟨b, 0, none⟩)) := by rw [Lib.cell_of_heap hb2]; rfl
  have d1 : w2.cell? ⟨b, 1, none⟩ = some v := by rw [Lib.cell_of_heap hb2]; rfl
  have f1 : w2.frozen? ⟨b, 1, none⟩ = false := Lib.frozen_of_heap hb2 1
  obtain ⟨ao, n', cap, rfl⟩ : ∃ ao n' cap, v' = .slice ao n' cap := by
    rcases hown'.2 with ⟨hv, _⟩ | ⟨g, cap, cur, hv, _⟩
    · exact ⟨_, _, _, hv⟩
    · exact ⟨_, _, _, hv⟩
  go_wp2
  go_ret2
  refine ⟨⟨_, rfl⟩, .inr ?_, ?_⟩
  · rw [Lib.byteCells_append]
    exact Lib.BuilderAt.put (T := 89) (e := 5) hB hb2 (bs' := Lib.byteCells l ++ Lib.byteCells s) (by simpa [Lib.byteCells_length, Lib.strCells_eq, ByteArray.size_mk'] using hown') (by decide)
  · exact (hb1.grown hgrow (by have := hb1.size; omega) (fun k hk => (hown.lt k hk).1)).setCell (p := ⟨b, 1, none⟩) hB _
theorem bld_new (w : World) : Bld w.heap.size w.heap.size [] (w.alloc (.cells #[.pointer none, .slice none 0 0] 89)) := Lib.fresh_isBuilder _ _ w
theorem clone_any (s : List UInt8) (hs : s.length ≤ 281474976710656) : RetB 56 #[.string ⟨s.toArray⟩] (.string ⟨s.toArray⟩) := by
  intro W
  have H := fun w => Try.stringslite_Clone ⟨s.toArray⟩ w (by simpa [ByteArray.size_mk'] using hs)
  go_enter Try.func56, Try.ntmps56
  go_wp2_with (go_at_call 74; refine (H _).mono ?_; rintro e w' ⟨rfl, hb⟩)
  go_ret
  exact ⟨rfl, hb⟩
end M
end Go.Proofs.Ytaijnejbffnfpaa

/- The texts DskFrame, DskMath, Shelf10, one behind the other. -/
import Derived.Test.YtoacmingocmaaaaGreatDoorRows
import Derived.ProofKit
import Derived.OpenShut
import Derived.WalkKit
import Derived.Below
import Derived.Lib.Hide
import Derived.Stop.Joined
import Derived.Laws.Rows
import Derived.Deep.RegionHeld
import Derived.LoopTactic
import Derived.LoopN
import Derived.Deep.QuietTactic
import Derived.BigQuiet
import Derived.Lib.Strings
import Derived.Lib.ByteType
import Derived.Laws.BytesString
import Derived.Laws.Concat
import Derived.Deep.Cut
import Derived.Deep.CutBlock
import Derived.Deep.RegionWith
import Derived.Test.YtoacmingocmaaaaGreatDoorProg
import Derived.Shelf.SlMaps.Clone
import Derived.Shelf.SlicesE.Clone
import Derived.Shelf.SlIterI.Nil
import Derived.Ground.GgzProg
import Derived.Ground.SlgnProg
import Derived.Ground.SlmcProg
import Derived.Shelf.SlGeneric
import Derived.Shelf.Strings.Builder1
import Derived.Shelf.Strings.Trim
import Derived.Shelf.LaysM
import Derived.Shelf.Strconv.Clone
import Derived.Shelf.Sort.Plain
import Derived.Ground.Names2Prog
import Derived.Shelf.Slices.CompactI
import Derived.Shelf.Slices.In.SortNone
/- What every text of layer 10 stands on: bounds of what comes in, calls that answer in every world, what a call may turn. -/
namespace Go.Proofs.YtoacmingocmaaaaGreatDoor
open Go.ChangeShapes Go.WideShapes Go.ChangeAt Go.RowKit
namespace M
theorem u8_bounds {n : Int} (h : (Lit.int .u8 n).wf = true) : 0 ≤ n ∧ n ≤ 255 := by
  simp [Lit.wf, IntKind.min, IntKind.max, IntKind.signed, IntKind.bits] at h
  omega
theorem i64_bounds {n : Int} (h : (Lit.int .i64 n).wf = true) : -9223372036854775808 ≤ n ∧ n ≤ 9223372036854775807 := by
  simp [Lit.wf, IntKind.min, IntKind.max, IntKind.signed, IntKind.bits] at h
  omega
theorem grown_drewN {W w' : World} (h : Grown W w') (n : Nat) : Grown W (w'.drewN n) := h
/-- A call that answers v in every world, and leaves the world as it was but for draws. A plain definition: the walk does not look into it. -/
def Ret (f : FuncId) (args : Array Value) (v : Value) : Prop := ∀ W : World, Calls Tryz.prog f args W fun e w' => e = .returned v ∧ ∃ n, w' = W.drewN n
theorem Ret.at {f : FuncId} {args : Array Value} {v : Value} (h : Ret f args v) (W : World) : Calls Tryz.prog f args W fun e w' => e = .returned v ∧ ∃ n, w' = W.drewN n := h W
/-- A call that answers v in every world and makes new memory at most: what was there stays. -/
def RetB (f : FuncId) (args : Array Value) (v : Value) : Prop := ∀ W : World, Calls Tryz.prog f args W fun e w' => e = .returned v ∧ Below W.heap.size W w'
theorem RetB.at {f : FuncId} {args : Array Value} {v : Value} (h : RetB f args v) (W : World) : Calls Tryz.prog f args W fun e w' => e = .returned v ∧ Below W.heap.size W w' := h W
theorem below_drewN (w : World) (n : Nat) : Below w.heap.size w (w.drewN n) := ⟨rfl, rfl, rfl, Nat.le_refl _, fun _ _ => rfl⟩
theorem Ret.toB {f : FuncId} {args : Array Value} {v : Value} (h : Ret f args v) : RetB f args v := fun W => (h W).mono fun _ _ ⟨he, n, hn⟩ => ⟨he, by rw [hn]; exact below_drewN _ _⟩
theorem bcell {W w1 : World} (hb : Below W.heap.size W w1) : (∀ b o, b < W.heap.size → w1.cell? ⟨b, o, none⟩ = W.cell? ⟨b, o, none⟩) ∧ (∀ b o, b < W.heap.size → w1.frozen? ⟨b, o, none⟩ = W.frozen? ⟨b, o, none⟩) :=
  ⟨fun b o h => hb.cell (p := ⟨b, o, none⟩) h, fun b o h => hb.frozen (p := ⟨b, o, none⟩) h⟩
theorem setCell_drewN (w : World) (n : Nat) (a : Addr) (v : Value) : (w.drewN n).setCell a v = (w.setCell a v).drewN n := rfl
theorem alloc_drewN (w : World) (n : Nat) (o : Obj) : (w.drewN n).alloc o = (w.alloc o).drewN n := rfl
theorem below_drewN' (w : World) (n B : Nat) : Below B w (w.drewN n) := ⟨rfl, rfl, rfl, Nat.le_refl _, fun _ _ => rfl⟩
theorem row_lt {w : World} {b : Nat} {o : Obj} (h : w.heap[b]? = some o) : b < w.heap.size := by
  rcases Nat.lt_or_ge b w.heap.size with h' | h'
  · exact h'
  · rw [Array.getElem?_eq_none h'] at h; cases h
theorem below_box (w : World) (o : Obj) : Below w.heap.size w (w.alloc o) := (Below.refl _ _).alloc (Nat.le_refl _) _
theorem Below.drawn {B : Nat} {w w' : World} (h : Below B w w') (n : Nat) : Below B w (w'.drewN n) := h.trans (below_drewN' w' n _)
theorem bnext {w w1 w2 : World} (h : Below w.heap.size w w1) (k : Below w1.heap.size w1 w2) : Below w.heap.size w w2 := h.trans (k.mono h.size)
theorem run_fail {p : Prop} (h : p) : p := h
/-- All that was there but F is as it was. -/
structure Chg (F : Nat → Prop) (w w' : World) : Prop where
  os : w'.os = w.os
  tape : w'.tape = w.tape
  output : w'.output = w.output
  size : w.heap.size ≤ w'.heap.size
  block : ∀ k, k < w.heap.size → ¬ F k → w'.heap[k]? = w.heap[k]?
section
variable {F G : Nat → Prop} {w w1 w2 w' : World}
theorem Chg.refl (F : Nat → Prop) (w : World) : Chg F w w := ⟨rfl, rfl, rfl, Nat.le_refl _, fun _ _ _ => rfl⟩
theorem Chg.trans (h : Chg F w w1) (k : Chg G w1 w2) (hG : ∀ b, G b → F b ∨ w.heap.size ≤ b) : Chg F w w2 :=
  ⟨k.os.trans h.os, k.tape.trans h.tape, k.output.trans h.output, Nat.le_trans h.size k.size, fun b hb hn => (k.block b (Nat.lt_of_lt_of_le hb h.size) fun hg => by
    rcases hG b hg with h1 | h1
    · exact hn h1
    · omega).trans (h.block b hb hn)⟩
theorem Chg.of_below (F : Nat → Prop) (h : Below w.heap.size w w') : Chg F w w' := ⟨h.os, h.tape, h.output, h.size, fun k hk _ => h.block k hk⟩
theorem Chg.step (h : Chg F w w1) (k : Below w1.heap.size w1 w2) : Chg F w w2 := h.trans (.of_below F k) fun _ h => .inl h
theorem Chg.setCell (h : Chg F w w1) {a : Addr} (ha : F a.block ∨ w.heap.size ≤ a.block) (v : Value) : Chg F w (w1.setCell a v) :=
  ⟨h.os, h.tape, h.output, by simpa using h.size, fun k hk hn => (Below.heap_setCell w1 a v k fun e => by
    subst e
    rcases ha with h1 | h1
    · exact hn h1
    · omega).trans (h.block k hk hn)⟩
theorem Chg.grown (h : Chg F w w1) {row : Option Nat} (hg : w1.grownBy w2 row) (hr : ∀ k, row = some k → F k ∨ w.heap.size ≤ k) : Chg F w w2 :=
  ⟨hg.os.trans h.os, hg.tape.trans h.tape, hg.output.trans h.output, Nat.le_trans h.size hg.size, fun k hk hn => (hg.block k (Nat.lt_of_lt_of_le hk h.size) fun e => by
    rcases hr k e.symm with h1 | h1
    · exact hn h1
    · omega).trans (h.block k hk hn)⟩
theorem Chg.drewN (h : Chg F w w1) (n : Nat) : Chg F w (w1.drewN n) := ⟨h.os, h.tape, h.output, h.size, h.block⟩
theorem Chg.mono (h : Chg F w w') (hF : ∀ k, F k → G k) : Chg G w w' := ⟨h.os, h.tape, h.output, h.size, fun k hk hn => h.block k hk fun hf => hn (hF k hf)⟩
/-- Below all that may have turned the world is as it was. -/
theorem Chg.below (h : Chg F w w') {B : Nat} (hF : ∀ k, F k → B ≤ k) (hB : B ≤ w.heap.size) : Below B w w' := ⟨h.os, h.tape, h.output, h.size, fun k hk => h.block k (by omega) fun hf => by have := hF k hf; omega⟩
end
end M
end Go.Proofs.YtoacmingocmaaaaGreatDoor
/- What a disk is, what each call makes of it, and what follows, without a program. -/
namespace Go.Proofs.YtoacmingocmaaaaGreatDoor
namespace MM
abbrev By := List UInt8
/-- A sector of 00s. -/
def zero : By := List.replicate 512 0
theorem zero_len : zero.length = 512 := List.length_replicate
/-- A text with 00s behind it. -/
def full (s : By) : By := s ++ List.replicate (512 - s.length) 0
theorem full_len {s : By} (h : s.length ≤ 512) : (full s).length = 512 := by unfold full; rw [List.length_append, List.length_replicate]; omega
theorem full_same {s : By} (h : s.length = 512) : full s = s := by unfold full; rw [h, Nat.sub_self, List.replicate_zero, List.append_nil]
theorem full_nil : full [] = zero := List.nil_append _
/-- Is there such a sector? -/
def sec (k : Int) : Bool := decide (0 ≤ k) && decide (k < 65536)
theorem sec_yes {k : Int} : sec k = true ↔ 0 ≤ k ∧ k < 65536 := by simp [sec]
theorem sec_no {k : Int} : sec k = false ↔ ¬ (0 ≤ k ∧ k < 65536) := by
  rw [← sec_yes]; cases sec k <;> simp
/-- A disk: what is on the platter, the cache, the fuse, whether it is dead. -/
structure Dsk where
  p : Int → By
  c : List (Int × By)
  fuse : Option Nat
  dead : Bool
structure PWf (p : Int → By) : Prop where
  len : ∀ k, (p k).length = 512
  out : ∀ k, sec k = false → p k = zero
def CWf (c : List (Int × By)) : Prop := ∀ x ∈ c, sec x.1 = true ∧ x.2.length = 512
structure Dsk.Wf (s : Dsk) : Prop where
  p : PWf s.p
  c : CWf s.c
def upd (p : Int → By) (x : Int × By) : Int → By := fun k => if k = x.1 then x.2 else p k
theorem upd_same (p : Int → By) (x : Int × By) : upd p x x.1 = x.2 := by simp [upd]
theorem upd_other (p : Int → By) (x : Int × By) {k : Int} (h : k ≠ x.1) : upd p x k = p k := by simp [upd, h]
theorem PWf.upd {p : Int → By} (h : PWf p) {x : Int × By} (hs : sec x.1 = true) (hl : x.2.length = 512) : PWf (upd p x) := by
  refine ⟨fun k => ?_, fun k hk => ?_⟩
  · by_cases e : k = x.1
    · subst e; rw [upd_same]; exact hl
    · rw [upd_other _ _ e]; exact h.len k
  · have e : k ≠ x.1 := fun e => by rw [e, hs] at hk; cases hk
    rw [upd_other _ _ e]; exact h.out k hk
theorem PWf.new : PWf (fun _ => zero) := ⟨fun _ => zero_len, fun _ _ => rfl⟩
def putAll (p : Int → By) (c : List (Int × By)) : Int → By := c.foldl upd p
theorem putAll_nil (p : Int → By) : putAll p [] = p := rfl
theorem putAll_cons (p : Int → By) (x : Int × By) (c : List (Int × By)) : putAll p (x :: c) = putAll (upd p x) c := rfl
theorem putAll_snoc (p : Int → By) (c : List (Int × By)) (x : Int × By) : putAll p (c ++ [x]) = upd (putAll p c) x := by simp [putAll, List.foldl_append]
theorem PWf.putAll : ∀ {c : List (Int × By)} {p : Int → By}, PWf p → CWf c → PWf (putAll p c)
  | [], _, h, _ => h
  | x :: c, _, h, hc => PWf.putAll (c := c) (h.upd (hc x (by simp)).1 (hc x (by simp)).2) (fun y hy => hc y (by simp [hy]))
/-- The last write of a sector. -/
def lastOf (c : List (Int × By)) (k : Int) : Option By := (c.reverse.find? (fun x => x.1 == k)).map (·.2)
theorem lastOf_nil (k : Int) : lastOf [] k = none := rfl
theorem lastOf_snoc (c : List (Int × By)) (x : Int × By) (k : Int) : lastOf (c ++ [x]) k = if x.1 = k then some x.2 else lastOf c k := by
  unfold lastOf
  rw [List.reverse_append]
  by_cases h : x.1 = k
  · simp [h]
  · simp [h]
/-- Searched from behind. -/
theorem lastOf_hit {c : List (Int × By)} {k : Int} {i : Nat} {x : Int × By} (hi : c[i]? = some x) (hx : x.1 = k) (h : ∀ (j : Nat) (y : Int × By), i < j → c[j]? = some y → y.1 ≠ k) : lastOf c k = some x.2 := by
  have hil := (List.getElem?_eq_some_iff.1 hi).1
  have e : c = c.take i ++ x :: c.drop (i + 1) := by
    have h1 := (List.take_append_drop i c).symm
    rw [List.drop_eq_getElem_cons hil] at h1
    rw [(List.getElem?_eq_some_iff.1 hi).2] at h1
    exact h1
  unfold lastOf
  rw [e, List.reverse_append, List.reverse_cons, List.append_assoc, List.find?_append]
  have hn : (c.drop (i + 1)).reverse.find? (fun x => x.1 == k) = none := by
    rw [List.find?_eq_none]
    intro y hy
    rw [List.mem_reverse] at hy
    obtain ⟨j, hj⟩ := List.mem_iff_getElem?.1 hy
    rw [List.getElem?_drop] at hj
    have := h (i + 1 + j) y (by omega) hj
    simpa using this
  rw [hn]
  simp [hx]
theorem lastOf_miss {c : List (Int × By)} {k : Int} (h : ∀ (j : Nat) (y : Int × By), c[j]? = some y → y.1 ≠ k) : lastOf c k = none := by
  unfold lastOf
  rw [Option.map_eq_none_iff, List.find?_eq_none]
  intro y hy
  rw [List.mem_reverse] at hy
  obtain ⟨j, hj⟩ := List.mem_iff_getElem?.1 hy
  have := h j y hj
  simpa using this
theorem lastOf_some {c : List (Int × By)} {k : Int} {t : By} (h : lastOf c k = some t) : (k, t) ∈ c := by
  unfold lastOf at h
  rw [Option.map_eq_some_iff] at h
  obtain ⟨x, hx, rfl⟩ := h
  have h1 := List.find?_some hx
  have h2 := List.mem_of_find?_eq_some hx
  rw [List.mem_reverse] at h2
  have h1 : x.1 = k := by simpa using h1
  rw [← h1]
  exact h2
theorem lastOf_cons (x : Int × By) (c : List (Int × By)) (k : Int) : lastOf (x :: c) k = (lastOf c k).or (if x.1 = k then some x.2 else none) := by
  unfold lastOf
  rw [List.reverse_cons, List.find?_append]
  cases c.reverse.find? (fun x => x.1 == k) with
  | some y => simp
  | none => by_cases h : x.1 = k <;> simp [h]
theorem putAll_last (k : Int) : ∀ (c : List (Int × By)) (p : Int → By), putAll p c k = (lastOf c k).getD (p k)
  | [], p => rfl
  | x :: c, p => by
    rw [putAll_cons, putAll_last k c, lastOf_cons]
    cases lastOf c k with
    | some y => simp
    | none =>
      by_cases h : x.1 = k
      · simp [h]; rw [← h, upd_same]
      · simp [h]; rw [upd_other _ _ (fun e => h e.symm)]
def Dsk.new : Dsk := ⟨fun _ => zero, [], none, false⟩
def Dsk.burnt (s : Dsk) : Dsk := { s with fuse := s.fuse.map (· - 1) }
def Dsk.died (s : Dsk) : Dsk := { s with dead := true }
def Dsk.write (s : Dsk) (k : Int) (t : By) : Nat × Dsk :=
  if s.dead then (42, s) else if sec k = false then (1, s) else if 512 < t.length then (10, s) else if s.fuse = some 0 then (42, s.died) else (0, { s.burnt with c := s.c ++ [(k, full t)] })
def Dsk.sync (s : Dsk) : Nat × Dsk := if s.dead then (42, s) else if s.fuse = some 0 then (42, s.died) else (0, { s.burnt with p := putAll s.p s.c, c := [] })
def Dsk.platter (s : Dsk) (k : Int) : By := if sec k then s.p k else []
def Dsk.read (s : Dsk) (k : Int) : By := if s.dead then [] else if sec k then (lastOf s.c k).getD (s.p k) else []
def Dsk.setFuse (s : Dsk) (n : Int) : Dsk := { s with fuse := if 0 ≤ n then some n.toNat else none }
def Dsk.start (s : Dsk) : Dsk := { s with dead := false, fuse := none }
def crashGo (keep : List Bool) (n : Nat) : Nat → List (Int × By) → (Int → By) → Bool → (Int → By)
  | _, [], p, _ => p
  | k, x :: r, p, torn => if keep.getD k false then crashGo keep n (k + 1) r (upd p x) torn else if torn then crashGo keep n (k + 1) r p torn else crashGo keep n (k + 1) r (upd p (x.1, x.2.take n ++ (p x.1).drop n)) true
def clamp (n : Int) : Nat := (min (max n 0) 512).toNat
theorem clamp_le (n : Int) : clamp n ≤ 512 := by unfold clamp; omega
def Dsk.crash (s : Dsk) (keep : List Bool) (n : Int) : Dsk := { s with p := crashGo keep (clamp n) 0 s.c s.p false, c := [], dead := true }
/-- A step as a statement takes it. -/
structure St where
  k : Nat
  at_ : Int
  s : By
  n : Int
  keep : List Bool
instance : Inhabited St := ⟨⟨0, 0, [], 0, []⟩⟩
def Dsk.step (d : Dsk) (x : St) : Nat × Dsk := if x.k = 0 then d.write x.at_ x.s else if x.k = 1 then d.sync else if x.k = 2 then (0, d.setFuse x.n) else if x.k = 3 then (0, d.crash x.keep x.n) else (0, d.start)
def runS (d : Dsk) (f : Nat → St) : Nat → Dsk
  | 0 => d
  | i + 1 => ((runS d f i).step (f i)).2
theorem Wf.new : Dsk.new.Wf := ⟨PWf.new, fun _ h => by cases h⟩
theorem CWf.snoc {c : List (Int × By)} (h : CWf c) {x : Int × By} (hs : sec x.1 = true) (hl : x.2.length = 512) : CWf (c ++ [x]) := fun y hy => by
  rcases List.mem_append.1 hy with h1 | h1
  · exact h y h1
  · obtain rfl : y = x := by simpa using h1
    exact ⟨hs, hl⟩
theorem Dsk.Wf.write {s : Dsk} (h : s.Wf) (k : Int) (t : By) : (s.write k t).2.Wf := by
  unfold Dsk.write
  split
  · exact h
  split
  · exact h
  split
  · exact h
  split
  · exact ⟨h.p, h.c⟩
  · rename_i h1 h2 h3 h4
    exact ⟨h.p, h.c.snoc (by simpa using h2) (full_len (by omega))⟩
theorem Dsk.Wf.sync {s : Dsk} (h : s.Wf) : s.sync.2.Wf := by
  unfold Dsk.sync
  split
  · exact h
  split
  · exact ⟨h.p, h.c⟩
  · exact ⟨h.p.putAll h.c, fun _ h => by cases h⟩
theorem torn_len {t q : By} (n : Nat) (hn : n ≤ 512) (ht : t.length = 512) (hq : q.length = 512) : (t.take n ++ q.drop n).length = 512 := by simp; omega
theorem PWf.crash {keep : List Bool} {n : Nat} (hn : n ≤ 512) : ∀ (c : List (Int × By)) (k : Nat) (p : Int → By) (torn : Bool), PWf p → CWf c → PWf (crashGo keep n k c p torn)
  | [], _, _, _, h, _ => h
  | x :: r, k, p, torn, h, hc => by
    have hx := hc x (by simp)
    have hr : CWf r := fun y hy => hc y (by simp [hy])
    unfold crashGo
    split
    · exact PWf.crash hn r _ _ _ (h.upd hx.1 hx.2) hr
    split
    · exact PWf.crash hn r _ _ _ h hr
    · exact PWf.crash hn r _ _ _ (h.upd hx.1 (torn_len n hn hx.2 (h.len _))) hr
theorem Dsk.Wf.crash {s : Dsk} (h : s.Wf) (keep : List Bool) (n : Int) : (s.crash keep n).Wf := ⟨PWf.crash (clamp_le n) _ _ _ _ h.p h.c, fun _ h => by cases h⟩
theorem Dsk.Wf.step {s : Dsk} (h : s.Wf) (x : St) : (s.step x).2.Wf := by
  unfold Dsk.step
  split
  · exact h.write _ _
  split
  · exact h.sync
  split
  · exact ⟨h.p, h.c⟩
  split
  · exact h.crash _ _
  · exact ⟨h.p, h.c⟩
theorem Wf.run {d : Dsk} (h : d.Wf) (f : Nat → St) : ∀ i, (runS d f i).Wf
  | 0 => h
  | i + 1 => (Wf.run h f i).step _
theorem read_len {s : Dsk} (h : s.Wf) {k : Int} (hd : s.dead = false) (hk : sec k = true) : (s.read k).length = 512 := by
  unfold Dsk.read
  rw [hd, hk]
  simp only [if_true]
  cases e : lastOf s.c k with
  | none => simpa using h.p.len k
  | some t => simpa using (h.c _ (lastOf_some e)).2
end MM
end Go.Proofs.YtoacmingocmaaaaGreatDoor
/- The contracts of the library's functions, as they lie proved on the shelf, laid at this translation. -/
namespace Go.Proofs
open Go.Shelf
def Tryz.lays170_ren : Go.Shelf.Ren := ⟨fun | 170 => 34 | n => n, fun | 70 => 63 | 3 => 3 | 0 => 0 | 72 => 66 | 37 => 64 | 5 => 5 | n => n, fun | n => n⟩
theorem Tryz.lays170 : Go.Proofs.Lays.n170 Tryz.prog Tryz.lays170_ren := {
  mixed := by kernel_rfl
  f170 := Tryz.func34.trans (congrArg some (by kernel_rfl))
  t0 := Tryz.underlying0
  a0 := Tryz.isAgg0
  z0 := Tryz.sizeOf0
  v0 := Tryz.zeroValue0
  t3 := Tryz.underlying3
  a3 := Tryz.isAgg3
  z3 := Tryz.sizeOf3
  v3 := Tryz.zeroValue3
  t37 := Tryz.underlying64
  a37 := Tryz.isAgg64
  z37 := Tryz.sizeOf64
  v37 := Tryz.zeroValue64
  t70 := Tryz.underlying63
  a70 := Tryz.isAgg63
  z70 := Tryz.sizeOf63
  v70 := Tryz.zeroValue63
  t72 := Tryz.underlying66
  a72 := Tryz.isAgg66
  z72 := Tryz.sizeOf66
  v72 := Tryz.zeroValue66 }
open Go.RowKit in
theorem Tryz.Builder_Len (B b : Nat) (bs : List Value) (w : World) (h : Lib.IsBuilder 66 5 B b bs w) :
    Calls Tryz.prog 34 #[.pointer (some ⟨b, 0, none⟩)] w fun e w' => e = .returned (.int .i64 bs.length) ∧ w' = w := Any.Builder_Len Tryz.lays170 B b bs w h
def Tryz.lays169_ren : Go.Shelf.Ren := ⟨fun | 169 => 37 | n => n, fun | 70 => 63 | 9 => 9 | 0 => 0 | 72 => 66 | 37 => 64 | 127 => 93 | 3 => 3 | 5 => 5 | n => n, fun | n => n⟩
theorem Tryz.lays169 : Go.Proofs.Lays.n169 Tryz.prog Tryz.lays169_ren := {
  mixed := by kernel_rfl
  f169 := Tryz.func37.trans (congrArg some (by kernel_rfl))
  t0 := Tryz.underlying0
  a0 := Tryz.isAgg0
  z0 := Tryz.sizeOf0
  v0 := Tryz.zeroValue0
  t3 := Tryz.underlying3
  a3 := Tryz.isAgg3
  z3 := Tryz.sizeOf3
  v3 := Tryz.zeroValue3
  t9 := Tryz.underlying9
  a9 := Tryz.isAgg9
  z9 := Tryz.sizeOf9
  v9 := Tryz.zeroValue9
  t37 := Tryz.underlying64
  a37 := Tryz.isAgg64
  z37 := Tryz.sizeOf64
  v37 := Tryz.zeroValue64
  t70 := Tryz.underlying63
  a70 := Tryz.isAgg63
  z70 := Tryz.sizeOf63
  v70 := Tryz.zeroValue63
  t72 := Tryz.underlying66
  a72 := Tryz.isAgg66
  z72 := Tryz.sizeOf66
  v72 := Tryz.zeroValue66
  t127 := Tryz.underlying93
  a127 := Tryz.isAgg93
  z127 := Tryz.sizeOf93
  v127 := Tryz.zeroValue93 }
theorem Tryz.Builder_Extra_169 : Builder.Extra Tryz.prog Tryz.lays169_ren := {
  sizeBuilder := by kernel_rfl
  liesBuilder := by kernel_rfl
  t5 := Tryz.underlying5
  a5 := Tryz.isAgg5
  z5 := Tryz.sizeOf5
  v5 := Tryz.zeroValue5
  infoByte := by kernel_rfl
  cellsByte := by kernel_rfl
  sizeByte := by kernel_rfl
  neB5 := by decide }
open Go.RowKit in
theorem Tryz.Builder_String_any (B b : Nat) (l : List UInt8) (w : World) (h : Lib.IsBuilder 66 5 B b (Lib.byteCells l) w) (hBw : B ≤ w.heap.size) :
    Calls Tryz.prog 37 #[.pointer (some ⟨b, 0, none⟩)] w fun e w' => e = .returned (.string ⟨l.toArray⟩) ∧ Below B w w' := Any.Builder_String_any Tryz.lays169 Tryz.Builder_Extra_169 B b l w h hBw
def Tryz.lays231_ren : Go.Shelf.Ren := ⟨fun | 231 => 83 | n => n, fun | 9 => 9 | 5 => 5 | 3 => 3 | 4 => 4 | n => n, fun | n => n⟩
theorem Tryz.lays231 : Go.Proofs.Lays.n231 Tryz.prog Tryz.lays231_ren := {
  mixed := by kernel_rfl
  f231 := Tryz.func83.trans (congrArg some (by kernel_rfl))
  t3 := Tryz.underlying3
  a3 := Tryz.isAgg3
  z3 := Tryz.sizeOf3
  v3 := Tryz.zeroValue3
  t4 := Tryz.underlying4
  a4 := Tryz.isAgg4
  z4 := Tryz.sizeOf4
  v4 := Tryz.zeroValue4
  t5 := Tryz.underlying5
  a5 := Tryz.isAgg5
  z5 := Tryz.sizeOf5
  v5 := Tryz.zeroValue5
  t9 := Tryz.underlying9
  a9 := Tryz.isAgg9
  z9 := Tryz.sizeOf9
  v9 := Tryz.zeroValue9 }
open Go.RowKit in
theorem Tryz.strings_trimLeftByte (s : ByteArray) (c : UInt8) (w : World) :
    Calls Tryz.prog 83 #[.string s, .int .u8 c.toNat] w fun e w' => e = .returned (.string ⟨(Lib.trimLeftB s.data.toList c).toArray⟩) ∧ w' = w := Any.strings_trimLeftByte Tryz.lays231 s c w
def Tryz.lays161_ren : Go.Shelf.Ren := ⟨fun | 161 => 68 | 231 => 83 | 227 => 84 | 233 => 85 | 235 => 86 | 228 => 96 | 197 => 97 | 151 => 98 | 260 => 114 | 152 => 115 | 137 => 122 | 119 => 123 | 224 => 124 | 225 => 125 | 217 => 127 | 266 => 128 | n => n, fun | 9 => 9 | 4 => 4 | 3 => 3 | 5 => 5 | 117 => 122 | 116 => 121 | 0 => 0 | 124 => 125 | 105 => 139 | 21 => 21 | 119 => 164 | 46 => 130 | 139 => 167 | 138 => 166 | n => n, fun | 3 => 0 | 4 => 1 | n => n⟩
theorem Tryz.lays161 : Go.Proofs.Lays.n161 Tryz.prog Tryz.lays161_ren := {
  mixed := by kernel_rfl
  f119 := Tryz.func123.trans (congrArg some (by kernel_rfl))
  f137 := Tryz.func122.trans (congrArg some (by kernel_rfl))
  f151 := Tryz.func98.trans (congrArg some (by kernel_rfl))
  f152 := Tryz.func115.trans (congrArg some (by kernel_rfl))
  f161 := Tryz.func68.trans (congrArg some (by kernel_rfl))
  f197 := Tryz.func97.trans (congrArg some (by kernel_rfl))
  f217 := Tryz.func127.trans (congrArg some (by kernel_rfl))
  f224 := Tryz.func124.trans (congrArg some (by kernel_rfl))
  f225 := Tryz.func125.trans (congrArg some (by kernel_rfl))
  f227 := Tryz.func84.trans (congrArg some (by kernel_rfl))
  f228 := Tryz.func96.trans (congrArg some (by kernel_rfl))
  f231 := Tryz.func83.trans (congrArg some (by kernel_rfl))
  f233 := Tryz.func85.trans (congrArg some (by kernel_rfl))
  f235 := Tryz.func86.trans (congrArg some (by kernel_rfl))
  f260 := Tryz.func114.trans (congrArg some (by kernel_rfl))
  f266 := Tryz.func128.trans (congrArg some (by kernel_rfl))
  t0 := Tryz.underlying0
  a0 := Tryz.isAgg0
  z0 := Tryz.sizeOf0
  v0 := Tryz.zeroValue0
  t3 := Tryz.underlying3
  a3 := Tryz.isAgg3
  z3 := Tryz.sizeOf3
  v3 := Tryz.zeroValue3
  t4 := Tryz.underlying4
  a4 := Tryz.isAgg4
  z4 := Tryz.sizeOf4
  v4 := Tryz.zeroValue4
  t5 := Tryz.underlying5
  a5 := Tryz.isAgg5
  z5 := Tryz.sizeOf5
  v5 := Tryz.zeroValue5
  t9 := Tryz.underlying9
  a9 := Tryz.isAgg9
  z9 := Tryz.sizeOf9
  v9 := Tryz.zeroValue9
  t21 := Tryz.underlying21
  a21 := Tryz.isAgg21
  z21 := Tryz.sizeOf21
  v21 := Tryz.zeroValue21
  t46 := Tryz.underlying130
  a46 := Tryz.isAgg130
  z46 := Tryz.sizeOf130
  v46 := Tryz.zeroValue130
  t105 := Tryz.underlying139
  a105 := Tryz.isAgg139
  z105 := Tryz.sizeOf139
  v105 := Tryz.zeroValue139
  t116 := Tryz.underlying121
  a116 := Tryz.isAgg121
  z116 := Tryz.sizeOf121
  t117 := Tryz.underlying122
  a117 := Tryz.isAgg122
  z117 := Tryz.sizeOf122
  v117 := Tryz.zeroValue122
  t119 := Tryz.underlying164
  a119 := Tryz.isAgg164
  z119 := Tryz.sizeOf164
  t124 := Tryz.underlying125
  a124 := Tryz.isAgg125
  z124 := Tryz.sizeOf125
  v124 := Tryz.zeroValue125
  t138 := Tryz.underlying166
  a138 := Tryz.isAgg166
  z138 := Tryz.sizeOf166
  v138 := Tryz.zeroValue166
  t139 := Tryz.underlying167
  a139 := Tryz.isAgg167
  z139 := Tryz.sizeOf167
  v139 := Tryz.zeroValue167
  g3 := by kernel_rfl
  g4 := by kernel_rfl }
open Go.RowKit in
theorem Tryz.strings_TrimLeft_one (s : ByteArray) (c : UInt8) (hc : c.toNat < 128) (w : World) :
    Calls Tryz.prog 68 #[.string s, .string ⟨#[c]⟩] w fun e w' => e = .returned (.string ⟨(Lib.trimLeftB s.data.toList c).toArray⟩) ∧ w' = w := Any.strings_TrimLeft_one Tryz.lays161 s c hc w
def Tryz.laysM316_ren : Go.Shelf.Ren := ⟨fun | 316 => 80 | n => n, fun | 9 => 9 | 3 => 3 | 4 => 4 | 37 => 64 | 0 => 0 | 127 => 93 | 5 => 5 | n => n, fun | n => n⟩
theorem Tryz.laysM316 : Go.Proofs.LaysM.n316 Tryz.prog Tryz.laysM316_ren := {
  mixed := by kernel_rfl
  f316 := Tryz.func80.trans (congrArg some (by kernel_rfl))
  t0 := Tryz.underlying0
  a0 := Tryz.isAgg0
  z0 := Tryz.sizeOf0
  v0 := Tryz.zeroValue0
  t3 := Tryz.underlying3
  a3 := Tryz.isAgg3
  z3 := Tryz.sizeOf3
  v3 := Tryz.zeroValue3
  t4 := Tryz.underlying4
  a4 := Tryz.isAgg4
  z4 := Tryz.sizeOf4
  v4 := Tryz.zeroValue4
  t9 := Tryz.underlying9
  a9 := Tryz.isAgg9
  z9 := Tryz.sizeOf9
  v9 := Tryz.zeroValue9
  t37 := Tryz.underlying64
  a37 := Tryz.isAgg64
  z37 := Tryz.sizeOf64
  v37 := Tryz.zeroValue64
  t127 := Tryz.underlying93
  a127 := Tryz.isAgg93
  z127 := Tryz.sizeOf93
  v127 := Tryz.zeroValue93
  t5 := Tryz.underlying5
  a5 := Tryz.isAgg5
  z5 := Tryz.sizeOf5
  v5 := Tryz.zeroValue5
  i0 := by kernel_rfl
  i3 := by kernel_rfl
  i4 := by kernel_rfl
  i5 := by kernel_rfl
  i9 := by kernel_rfl
  i37 := by kernel_rfl
  i127 := by kernel_rfl }
open Go.RowKit in
theorem Tryz.stringslite_Clone (s : ByteArray) (w : World) (hlim : s.size ≤ 281474976710656) :
    Calls Tryz.prog 80 #[.string s] w fun e w' => e = .returned (.string s) ∧ Below w.heap.size w w' := Any.stringslite_Clone Tryz.laysM316 s w hlim
def Tryz.lays189_ren : Go.Shelf.Ren := ⟨fun | 189 => 72 | 125 => 91 | 257 => 90 | 128 => 108 | 129 => 109 | 294 => 99 | 295 => 100 | 296 => 101 | 297 => 102 | 298 => 103 | 299 => 104 | 216 => 105 | 300 => 106 | 301 => 107 | 328 => 116 | 329 => 117 | 330 => 118 | 331 => 119 | 332 => 120 | 215 => 121 | 343 => 126 | n => n, fun | 28 => 84 | 3 => 3 | 46 => 130 | 0 => 0 | 51 => 152 | 53 => 88 | 4 => 4 | 183 => 144 | 182 => 143 | 131 => 149 | 5 => 5 | 9 => 9 | 218 => 158 | 222 => 162 | 228 => 172 | 229 => 94 | n => n, fun | n => n⟩
theorem Tryz.lays189 : Go.Proofs.Lays.n189 Tryz.prog Tryz.lays189_ren := {
  mixed := by kernel_rfl
  f125 := Tryz.func91.trans (congrArg some (by kernel_rfl))
  f128 := Tryz.func108.trans (congrArg some (by kernel_rfl))
  f129 := Tryz.func109.trans (congrArg some (by kernel_rfl))
  f189 := Tryz.func72.trans (congrArg some (by kernel_rfl))
  f215 := Tryz.func121.trans (congrArg some (by kernel_rfl))
  f216 := Tryz.func105.trans (congrArg some (by kernel_rfl))
  f257 := Tryz.func90.trans (congrArg some (by kernel_rfl))
  f294 := Tryz.func99.trans (congrArg some (by kernel_rfl))
  f295 := Tryz.func100.trans (congrArg some (by kernel_rfl))
  f296 := Tryz.func101.trans (congrArg some (by kernel_rfl))
  f297 := Tryz.func102.trans (congrArg some (by kernel_rfl))
  f298 := Tryz.func103.trans (congrArg some (by kernel_rfl))
  f299 := Tryz.func104.trans (congrArg some (by kernel_rfl))
  f300 := Tryz.func106.trans (congrArg some (by kernel_rfl))
  f301 := Tryz.func107.trans (congrArg some (by kernel_rfl))
  f328 := Tryz.func116.trans (congrArg some (by kernel_rfl))
  f329 := Tryz.func117.trans (congrArg some (by kernel_rfl))
  f330 := Tryz.func118.trans (congrArg some (by kernel_rfl))
  f331 := Tryz.func119.trans (congrArg some (by kernel_rfl))
  f332 := Tryz.func120.trans (congrArg some (by kernel_rfl))
  f343 := Tryz.func126.trans (congrArg some (by kernel_rfl))
  t0 := Tryz.underlying0
  a0 := Tryz.isAgg0
  z0 := Tryz.sizeOf0
  v0 := Tryz.zeroValue0
  t3 := Tryz.underlying3
  a3 := Tryz.isAgg3
  z3 := Tryz.sizeOf3
  v3 := Tryz.zeroValue3
  t4 := Tryz.underlying4
  a4 := Tryz.isAgg4
  z4 := Tryz.sizeOf4
  v4 := Tryz.zeroValue4
  t5 := Tryz.underlying5
  a5 := Tryz.isAgg5
  z5 := Tryz.sizeOf5
  v5 := Tryz.zeroValue5
  t9 := Tryz.underlying9
  a9 := Tryz.isAgg9
  z9 := Tryz.sizeOf9
  v9 := Tryz.zeroValue9
  t28 := Tryz.underlying84
  a28 := Tryz.isAgg84
  z28 := Tryz.sizeOf84
  v28 := Tryz.zeroValue84
  t46 := Tryz.underlying130
  a46 := Tryz.isAgg130
  z46 := Tryz.sizeOf130
  v46 := Tryz.zeroValue130
  t51 := Tryz.underlying152
  a51 := Tryz.isAgg152
  z51 := Tryz.sizeOf152
  v51 := Tryz.zeroValue152
  t53 := Tryz.underlying88
  a53 := Tryz.isAgg88
  z53 := Tryz.sizeOf88
  v53 := Tryz.zeroValue88
  t131 := Tryz.underlying149
  a131 := Tryz.isAgg149
  z131 := Tryz.sizeOf149
  v131 := Tryz.zeroValue149
  t182 := Tryz.underlying143
  a182 := Tryz.isAgg143
  z182 := Tryz.sizeOf143
  v182 := Tryz.zeroValue143
  t183 := Tryz.underlying144
  a183 := Tryz.isAgg144
  z183 := Tryz.sizeOf144
  v183 := Tryz.zeroValue144
  t218 := Tryz.underlying158
  a218 := Tryz.isAgg158
  z218 := Tryz.sizeOf158
  v218 := Tryz.zeroValue158
  t222 := Tryz.underlying162
  a222 := Tryz.isAgg162
  z222 := Tryz.sizeOf162
  v222 := Tryz.zeroValue162
  t228 := Tryz.underlying172
  a228 := Tryz.isAgg172
  z228 := Tryz.sizeOf172
  v228 := Tryz.zeroValue172
  t229 := Tryz.underlying94
  a229 := Tryz.isAgg94
  z229 := Tryz.sizeOf94
  v229 := Tryz.zeroValue94 }
open Go.Sort Go.RowKit in
theorem Tryz.slices_Sort_int (blk off cap : Nat) (zs : List Int) (w : World) (hH : Holds (Value.int .i64) w blk off zs.toArray) (hblk : blk < w.heap.size) (hsz : zs.length < 4611686018427387904) :
    Calls Tryz.prog 72 #[.slice (some ⟨blk, off, none⟩) zs.length cap] w fun e w' =>
      e = .returned (.tuple #[]) ∧ ∃ n os, w' = grow (putRow (Value.int .i64) (Sort.ahead w n) blk off (zs.mergeSort fun x y => decide (x ≤ y)).toArray) os := Any.slices_Sort_int Tryz.lays189 blk off cap zs w hH hblk hsz
def Tryz.laysNm220_ren : Go.Shelf.Ren := ⟨fun | 20 => 73 | n => n, fun | 22 => 84 | 3 => 3 | 4 => 4 | 0 => 0 | n => n, fun | n => n⟩
theorem Tryz.laysNm220 : Go.Proofs.Lays2.n20 Tryz.prog Tryz.laysNm220_ren := {
  mixed := by kernel_rfl
  f20 := Tryz.func73.trans (congrArg some (by kernel_rfl))
  t0 := Tryz.underlying0
  a0 := Tryz.isAgg0
  z0 := Tryz.sizeOf0
  v0 := Tryz.zeroValue0
  t3 := Tryz.underlying3
  a3 := Tryz.isAgg3
  z3 := Tryz.sizeOf3
  v3 := Tryz.zeroValue3
  t4 := Tryz.underlying4
  a4 := Tryz.isAgg4
  z4 := Tryz.sizeOf4
  v4 := Tryz.zeroValue4
  t22 := Tryz.underlying84
  a22 := Tryz.isAgg84
  z22 := Tryz.sizeOf84
  v22 := Tryz.zeroValue84
  i3 := by kernel_rfl }
open Go.RowKit Go.Lib Go.Sort in
theorem Tryz.slices_Compact_int (blk off cap : Nat) (zs : List Int) (w : World) (hH : Holds (Value.int .i64) w blk off zs.toArray) (hsz : zs.length ≤ 9223372036854775807) (hcap : zs.length ≤ cap) :
    Calls Tryz.prog 73 #[.slice (some ⟨blk, off, none⟩) zs.length cap] w fun e w' => e = .returned (.slice (some ⟨blk, off, none⟩) (Lib.compact zs).length cap) ∧ ∃ q, w' = putRow (Value.int .i64) (Sort.ahead w q) blk off (Lib.compact zs ++ List.replicate (zs.length - (Lib.compact zs).length) 0).toArray := Any.slices_Compact_int Tryz.laysNm220 blk off cap zs w hH hsz hcap
open Go.RowKit Go.Lib Go.Sort in
theorem Tryz.slices_Compact_int_empty (a : Option Addr) (cap : Nat) (w : World) :
    Calls Tryz.prog 73 #[.slice a 0 cap] w fun e w' => e = .returned (.slice a 0 cap) ∧ w' = w := Any.slices_Compact_int_empty Tryz.laysNm220 a cap w
open Go.RowKit Go.Sort in
theorem Tryz.slices_Sort_int_none (p : Option Addr) (cap : Nat) (w : World) :
    Calls Tryz.prog 72 #[.slice p 0 cap] w fun e w' => e = .returned (.tuple #[]) ∧ w' = w := Any.slices_Sort_int_none Tryz.lays189 p cap w
def Tryz.keysA_ren : Go.Shelf.Ren := ⟨fun | 7 => 71 | 10 => 89 | n => n, fun | 23 => 54 | 26 => 3 | 3 => 77 | 28 => 103 | 0 => 0 | 27 => 102 | 33 => 74 | 4 => 4 | n => n, fun | n => n⟩
theorem Tryz.keysA : Go.Proofs.SlLaysZI.n7 Tryz.prog Tryz.keysA_ren := {
  mixed := by kernel_rfl
  f7 := ⟨Tryz.f71.name, by decide, Tryz.func71.trans (congrArg some (by kernel_rfl))⟩
  f10 := ⟨Tryz.f89.name, by decide, Tryz.func89.trans (congrArg some (by kernel_rfl))⟩
  t0 := Tryz.underlying0
  a0 := Tryz.isAgg0
  z0 := Tryz.sizeOf0
  v0 := Tryz.zeroValue0
  t4 := Tryz.underlying4
  a4 := Tryz.isAgg4
  z4 := Tryz.sizeOf4
  v4 := Tryz.zeroValue4
  t23 := Tryz.underlying54
  a23 := Tryz.isAgg54
  z23 := Tryz.sizeOf54
  v23 := Tryz.zeroValue54
  t26 := Tryz.underlying3
  a26 := Tryz.isAgg3
  z26 := Tryz.sizeOf3
  v26 := Tryz.zeroValue3
  t27 := Tryz.underlying102
  a27 := Tryz.isAgg102
  z27 := Tryz.sizeOf102
  v27 := Tryz.zeroValue102
  t28 := Tryz.underlying103
  a28 := Tryz.isAgg103
  z28 := Tryz.sizeOf103
  v28 := Tryz.zeroValue103
  t33 := Tryz.underlying74
  a33 := Tryz.isAgg74
  z33 := Tryz.sizeOf74
  v33 := Tryz.zeroValue74 }
def Tryz.collectA_ren : Go.Shelf.Ren := ⟨fun | 8 => 70 | 11 => 88 | n => n, fun | 26 => 3 | 28 => 103 | 24 => 84 | 0 => 0 | 33 => 74 | 4 => 4 | n => n, fun | n => n⟩
theorem Tryz.collectA : Go.Proofs.SlLaysZI.n8 Tryz.prog Tryz.collectA_ren := {
  mixed := by kernel_rfl
  f8 := ⟨Tryz.f70.name, by decide, Tryz.func70.trans (congrArg some (by kernel_rfl))⟩
  f11 := ⟨Tryz.f88.name, by decide, Tryz.func88.trans (congrArg some (by kernel_rfl))⟩
  t0 := Tryz.underlying0
  a0 := Tryz.isAgg0
  z0 := Tryz.sizeOf0
  v0 := Tryz.zeroValue0
  t24 := Tryz.underlying84
  a24 := Tryz.isAgg84
  z24 := Tryz.sizeOf84
  v24 := Tryz.zeroValue84
  t26 := Tryz.underlying3
  a26 := Tryz.isAgg3
  z26 := Tryz.sizeOf3
  v26 := Tryz.zeroValue3
  t28 := Tryz.underlying103
  a28 := Tryz.isAgg103
  z28 := Tryz.sizeOf103
  v28 := Tryz.zeroValue103
  i26 := by kernel_rfl }
end Go.Proofs

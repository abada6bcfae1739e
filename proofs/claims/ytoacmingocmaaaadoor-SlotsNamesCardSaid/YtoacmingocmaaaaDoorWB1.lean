/- The texts DskFrame, DskMath, Shelf10, one behind the other. -/
import Derived.Test.YtoacmingocmaaaaDoorRows
import Derived.ProofKit
import Derived.OpenShut
import Derived.WalkKit
import Derived.Below
import Derived.Lib.Hide
import Derived.Stop.Joined
import Derived.Laws.Rows
import Derived.Deep.RegionHeld
import Derived.LoopTactic
import Derived.LoopN
import Derived.Deep.QuietTactic
import Derived.BigQuiet
import Derived.Lib.Strings
import Derived.Lib.ByteType
import Derived.Laws.BytesString
import Derived.Laws.Concat
import Derived.Deep.Cut
import Derived.Deep.CutBlock
import Derived.Deep.RegionWith
import Derived.Test.YtoacmingocmaaaaDoorProg
import Derived.Shelf.SlMaps.Clone
import Derived.Shelf.SlicesE.Clone
import Derived.Shelf.SlIterI.Nil
import Derived.Ground.GgzProg
import Derived.Ground.SlgnProg
import Derived.Ground.SlmcProg
import Derived.Shelf.SlGeneric
import Derived.Shelf.Strings.Builder1
import Derived.Shelf.Strings.Trim
import Derived.Shelf.LaysM
import Derived.Shelf.Strconv.Clone
import Derived.Shelf.Sort.Plain
import Derived.Ground.Names2Prog
import Derived.Shelf.Slices.CompactI
import Derived.Shelf.Slices.In.SortNone
/- What every text of layer 10 stands on: bounds of what comes in, calls that answer in every world, what a call may turn. -/
namespace Go.Proofs.YtoacmingocmaaaaDoor
open Go.ChangeShapes Go.WideShapes Go.ChangeAt Go.RowKit
namespace M
theorem u8_bounds {n : Int} (h : (Lit.int .u8 n).wf = true) : 0 ≤ n ∧ n ≤ 255 := by
  simp [Lit.wf, IntKind.min, IntKind.max, IntKind.signed, IntKind.bits] at h
  omega
theorem i64_bounds {n : Int} (h : (Lit.int .i64 n).wf = true) : -9223372036854775808 ≤ n ∧ n ≤ 9223372036854775807 := by
  simp [Lit.wf, IntKind.min, IntKind.max, IntKind.signed, IntKind.bits] at h
  omega
theorem grown_drewN {W w' : World} (h : Grown W w') (n : Nat) : Grown W (w'.drewN n) := h
/-- A call that answers v in every world, and leaves the world as it was but for draws. A plain definition: the walk does not look into it. -/
def Ret (f : FuncId) (args : Array Value) (v : Value) : Prop := ∀ W : World, Calls Tryd.prog f args W fun e w' => e = .returned v ∧ ∃ n, w' = W.drewN n
theorem Ret.at {f : FuncId} {args : Array Value} {v : Value} (h : Ret f args v) (W : World) : Calls Tryd.prog f args W fun e w' => e = .returned v ∧ ∃ n, w' = W.drewN n := h W
/-- A call that answers v in every world and makes new memory at most: what was there stays. -/
def RetB (f : FuncId) (args : Array Value) (v : Value) : Prop := ∀ W : World, Calls Tryd.prog f args W fun e w' => e = .returned v ∧ Below W.heap.size W w'
theorem RetB.at {f : FuncId} {args : Array Value} {v : Value} (h : RetB f args v) (W : World) : Calls Tryd.prog f args W fun e w' => e = .returned v ∧ Below W.heap.size W w' := h W
theorem below_drewN (w : World) (n : Nat) : Below w.heap.size w (w.drewN n) := ⟨rfl, rfl, rfl, Nat.le_refl _, fun _ _ => rfl⟩
theorem Ret.toB {f : FuncId} {args : Array Value} {v : Value} (h : Ret f args v) : RetB f args v := fun W => (h W).mono fun _ _ ⟨he, n, hn⟩ => ⟨he, by rw [hn]; exact below_drewN _ _⟩
theorem bcell {W w1 : World} (hb : Below W.heap.size W w1) : (∀ b o, b < W.heap.size → w1.cell? ⟨b, o, none⟩ = W.cell? ⟨b, o, none⟩) ∧ (∀ b o, b < W.heap.size → w1.frozen? ⟨b, o, none⟩ = W.frozen? ⟨b, o, none⟩) :=
  ⟨fun b o h => hb.cell (p := ⟨b, o, none⟩) h, fun b o h => hb.frozen (p := ⟨b, o, none⟩) h⟩
theorem setCell_drewN (w : World) (n : Nat) (a : Addr) (v : Value) : (w.drewN n).setCell a v = (w.setCell a v).drewN n := rfl
theorem alloc_drewN (w : World) (n : Nat) (o : Obj) : (w.drewN n).alloc o = (w.alloc o).drewN n := rfl
theorem below_drewN' (w : World) (n B : Nat) : Below B w (w.drewN n) := ⟨rfl, rfl, rfl, Nat.le_refl _, fun _ _ => rfl⟩
theorem row_lt {w : World} {b : Nat} {o : Obj} (h : w.heap[b]? = some o) : b < w.heap.size := by
  rcases Nat.lt_or_ge b w.heap.size with h' | h'
  · exact h'
  · rw [Array.getElem?_eq_none h'] at h; cases h
theorem below_box (w : World) (o : Obj) : Below w.heap.size w (w.alloc o) := (Below.refl _ _).alloc (Nat.le_refl _) _
theorem Below.drawn {B : Nat} {w w' : World} (h : Below B w w') (n : Nat) : Below B w (w'.drewN n) := h.trans (below_drewN' w' n _)
theorem bnext {w w1 w2 : World} (h : Below w.heap.size w w1) (k : Below w1.heap.size w1 w2) : Below w.heap.size w w2 := h.trans (k.mono h.size)
theorem run_fail {p : Prop} (h : p) : p := h
/-- All that was there but F is as it was. -/
structure Chg (F : Nat → Prop) (w w' : World) : Prop where
  os : w'.os = w.os
  tape : w'.tape = w.tape
  output : w'.output = w.output
  size : w.heap.size ≤ w'.heap.size
  block : ∀ k, k < w.heap.size → ¬ F k → w'.heap[k]? = w.heap[k]?
section
variable {F G : Nat → Prop} {w w1 w2 w' : World}
theorem Chg.refl (F : Nat → Prop) (w : World) : Chg F w w := ⟨rfl, rfl, rfl, Nat.le_refl _, fun _ _ _ => rfl⟩
theorem Chg.trans (h : Chg F w w1) (k : Chg G w1 w2) (hG : ∀ b, G b → F b ∨ w.heap.size ≤ b) : Chg F w w2 :=
  ⟨k.os.trans h.os, k.tape.trans h.tape, k.output.trans h.output, Nat.le_trans h.size k.size, fun b hb hn => (k.block b (Nat.lt_of_lt_of_le hb h.size) fun hg => by
    rcases hG b hg with h1 | h1
    · exact hn h1
    · omega).trans (h.block b hb hn)⟩
theorem Chg.of_below (F : Nat → Prop) (h : Below w.heap.size w w') : Chg F w w' := ⟨h.os, h.tape, h.output, h.size, fun k hk _ => h.block k hk⟩
theorem Chg.step (h : Chg F w w1) (k : Below w1.heap.size w1 w2) : Chg F w w2 := h.trans (.of_below F k) fun _ h => .inl h
theorem Chg.setCell (h : Chg F w w1) {a : Addr} (ha : F a.block ∨ w.heap.size ≤ a.block) (v : Value) : Chg F w (w1.setCell a v) :=
  ⟨h.os, h.tape, h.output, by simpa using h.size, fun k hk hn => (Below.heap_setCell w1 a v k fun e => by
    subst e
    rcases ha with h1 | h1
    · exact hn h1
    · omega).trans (h.block k hk hn)⟩
theorem Chg.grown (h : Chg F w w1) {row : Option Nat} (hg : w1.grownBy w2 row) (hr : ∀ k, row = some k → F k ∨ w.heap.size ≤ k) : Chg F w w2 :=
  ⟨hg.os.trans h.os, hg.tape.trans h.tape, hg.output.trans h.output, Nat.le_trans h.size hg.size, fun k hk hn => (hg.block k (Nat.lt_of_lt_of_le hk h.size) fun e => by
    rcases hr k e.symm with h1 | h1
    · exact hn h1
    · omega).trans (h.block k hk hn)⟩
theorem Chg.drewN (h : Chg F w w1) (n : Nat) : Chg F w (w1.drewN n) := ⟨h.os, h.tape, h.output, h.size, h.block⟩
theorem Chg.mono (h : Chg F w w') (hF : ∀ k, F k → G k) : Chg G w w' := ⟨h.os, h.tape, h.output, h.size, fun k hk hn => h.block k hk fun hf => hn (hF k hf)⟩
/-- Below all that may have turned the world is as it was. -/
theorem Chg.below (h : Chg F w w') {B : Nat} (hF : ∀ k, F k → B ≤ k) (hB : B ≤ w.heap.size) : Below B w w' := ⟨h.os, h.tape, h.output, h.size, fun k hk => h.block k (by omega) fun hf => by have := hF k hf; omega⟩
end
end M
end Go.Proofs.YtoacmingocmaaaaDoor
/- What a disk is, what each call makes of it, and what follows, without a program. -/
namespace Go.Proofs.YtoacmingocmaaaaDoor
namespace MM
abbrev By := List UInt8
/-- A sector of 00s. -/
def zero : By := List.replicate 512 0
theorem zero_len : zero.length = 512 := List.length_replicate
/-- A text with 00s behind it. -/
def full (s : By) : By := s ++ List.replicate (512 - s.length) 0
theorem full_len {s : By} (h : s.length ≤ 512) : (full s).length = 512 := by unfold full; rw [List.length_append, List.length_replicate]; omega
theorem full_same {s : By} (h : s.length = 512) : full s = s := by unfold full; rw [h, Nat.sub_self, List.replicate_zero, List.append_nil]
theorem full_nil : full [] = zero := List.nil_append _
/-- Is there such a sector? -/
def sec (k : Int) : Bool := decide (0 ≤ k) && decide (k < 65536)
theorem sec_yes {k : Int} : sec k = true ↔ 0 ≤ k ∧ k < 65536 := by simp [sec]
theorem sec_no {k : Int} : sec k = false ↔ ¬ (0 ≤ k ∧ k < 65536) := by
  rw [← sec_yes]; cases sec k <;> simp
/-- A disk: what is on the platter, the cache, the fuse, whether it is dead. -/
structure Dsk where
  p : Int → By
  c : List (Int × By)
  fuse : Option Nat
  dead : Bool
structure PWf (p : Int → By) : Prop where
  len : ∀ k, (p k).length = 512
  out : ∀ k, sec k = false → p k = zero
def CWf (c : List (Int × By)) : Prop := ∀ x ∈ c, sec x.1 = true ∧ x.2.length = 512
structure Dsk.Wf (s : Dsk) : Prop where
  p : PWf s.p
  c : CWf s.c
def upd (p : Int → By) (x : Int × By) : Int → By := fun k => if k = x.1 then x.2 else p k
theorem upd_same (p : Int → By) (x : Int × By) : upd p x x.1 = x.2 := by simp [upd]
theorem upd_other (p : Int → By) (x : Int × By) {k : Int} (h : k ≠ x.1) : upd p x k = p k := by simp [upd, h]
theorem PWf.upd {p : Int → By} (h : PWf p) {x : Int × By} (hs : sec x.1 = true) (hl : x.2.length = 512) : PWf (upd p x) := by
  refine ⟨fun k => ?_, fun k hk => ?_⟩
  · by_cases e : k = x.1
    · subst e; rw [upd_same]; exact hl
    · rw [upd_other _ _ e]; exact h.len k
  · have e : k ≠ x.1 := fun e => by rw [e, hs] at hk; cases hk
    rw [upd_other _ _ e]; exact h.out k hk
theorem PWf.new : PWf (fun _ => zero) := ⟨fun _ => zero_len, fun _ _ => rfl⟩
def putAll (p : Int → By) (c : List (Int × By)) : Int → By := c.foldl upd p
theorem putAll_nil (p : Int → By) : putAll p [] = p := rfl
theorem putAll_cons (p : Int → By) (x : Int × By) (c : List (Int × By)) : putAll p (x :: c) = putAll (upd p x) c := rfl
theorem putAll_snoc (p : Int → By) (c : List (Int × By)) (x : Int × By) : putAll p (c ++ [x]) = upd (putAll p c) x := by simp [putAll, List.foldl_append]
theorem PWf.putAll : ∀ {c : List (Int × By)} {p : Int → By}, PWf p → CWf c → PWf (putAll p c)
  | [], _, h, _ => h
  | x :: c, _, h, hc => PWf.putAll (c := c) (h.upd (hc x (by simp)).1 (hc x (by simp)).2) (fun y hy => hc y (by simp [hy]))
/-- The last write of a sector. -/
def lastOf (c : List (Int × By)) (k : Int) : Option By := (c.reverse.find? (fun x => x.1 == k)).map (·.2)
theorem lastOf_nil (k : Int) : lastOf [] k = none := rfl
theorem lastOf_snoc (c : List (Int × By)) (x : Int × By) (k : Int) : lastOf (c ++ [x]) k = if x.1 = k then some x.2 else lastOf c k := by
  unfold lastOf
  rw [List.reverse_append]
  by_cases h : x.1 = k
  · simp [h]
  · simp [h]
/-- Searched from behind. -/
theorem lastOf_hit {c : List (Int × By)} {k : Int} {i : Nat} {x : Int × By} (hi : c[i]? = some x) (hx : x.1 = k) (h : ∀ (j : Nat) (y : Int × By), i < j → c[j]? = some y → y.1 ≠ k) : lastOf c k = some x.2 := by
  have hil := (List.getElem?_eq_some_iff.1 hi).1
  have e : c = c.take i ++ x :: c.drop (i + 1) := by
    have h1 := (List.take_append_drop i c).symm
    rw [List.drop_eq_getElem_cons hil] at h1
    rw [(List.getElem?_eq_some_iff.1 hi).2] at h1
    exact h1
  unfold lastOf
  rw [e, List.reverse_append, List.reverse_cons, List.append_assoc, List.find?_append]
  have hn : (c.drop (i + 1)).reverse.find? (fun x => x.1 == k) = none := by
    rw [List.find?_eq_none]
    intro y hy
    rw [List.mem_reverse] at hy
    obtain ⟨j, hj⟩ := List.mem_iff_getElem?.1 hy
    rw [List.getElem?_drop] at hj
    have := h (i + 1 + j) y (by omega) hj
    simpa using this
  rw [hn]
  simp [hx]
theorem lastOf_miss {c : List (Int × By)} {k : Int} (h : ∀ (j : Nat) (y : Int × By), c[j]? = some y → y.1 ≠ k) : lastOf c k = none := by
  unfold lastOf
  rw [Option.map_eq_none_iff, List.find?_eq_none]
  intro y hy
  rw [List.mem_reverse] at hy
  obtain ⟨j, hj⟩ := List.mem_iff_getElem?.1 hy
  have := h j y hj
  simpa using this
theorem lastOf_some {c : List (Int × By)} {k : Int} {t : By} (h : lastOf c k = some t) : (k, t) ∈ c := by
  unfold lastOf at h
  rw [Option.map_eq_some_iff] at h
  obtain ⟨x, hx, rfl⟩ := h
  have h1 := List.find?_some hx
  have h2 := List.mem_of_find?_eq_some hx
  rw [List.mem_reverse] at h2
  have h1 : x.1 = k := by simpa using h1
  rw [← h1]
  exact h2
theorem lastOf_cons (x : Int × By) (c : List (Int × By)) (k : Int) : lastOf (x :: c) k = (lastOf c k).or (if x.1 = k then some x.2 else none) := by
  unfold lastOf
  rw [List.reverse_cons, List.find?_append]
  cases c.reverse.find? (fun x => x.1 == k) with
  | some y => simp
  | none => by_cases h : x.1 = k <;> simp [h]
theorem putAll_last (k : Int) : ∀ (c : List (Int × By)) (p : Int → By), putAll p c k = (lastOf c k).getD (p k)
  | [], p => rfl
  | x :: c, p => by
    rw [putAll_cons, putAll_last k c, lastOf_cons]
    cases lastOf c k with
    | some y => simp
    | none =>
      by_cases h : x.1 = k
      · simp [h]; rw [← h, upd_same]
      · simp [h]; rw [upd_other _ _ (fun e => h e.symm)]
def Dsk.new : Dsk := ⟨fun _ => zero, [], none, false⟩
def Dsk.burnt (s : Dsk) : Dsk := { s with fuse := s.fuse.map (· - 1) }
def Dsk.died (s : Dsk) : Dsk := { s with dead := true }
def Dsk.write (s : Dsk) (k : Int) (t : By) : Nat × Dsk :=
  if s.dead then (42, s) else if sec k = false then (1, s) else if 512 < t.length then (10, s) else if s.fuse = some 0 then (42, s.died) else (0, { s.burnt with c := s.c ++ [(k, full t)] })
def Dsk.sync (s : Dsk) : Nat × Dsk := if s.dead then (42, s) else if s.fuse = some 0 then (42, s.died) else (0, { s.burnt with p := putAll s.p s.c, c := [] })
def Dsk.platter (s : Dsk) (k : Int) : By := if sec k then s.p k else []
def Dsk.read (s : Dsk) (k : Int) : By := if s.dead then [] else if sec k then (lastOf s.c k).getD (s.p k) else []
def Dsk.setFuse (s : Dsk) (n : Int) : Dsk := { s with fuse := if 0 ≤ n then some n.toNat else none }
def Dsk.start (s : Dsk) : Dsk := { s with dead := false, fuse := none }
def crashGo (keep : List Bool) (n : Nat) : Nat → List (Int × By) → (Int → By) → Bool → (Int → By)
  | _, [], p, _ => p
  | k, x :: r, p, torn => if keep.getD k false then crashGo keep n (k + 1) r (upd p x) torn else if torn then crashGo keep n (k + 1) r p torn else crashGo keep n (k + 1) r (upd p (x.1, x.2.take n ++ (p x.1).drop n)) true
def clamp (n : Int) : Nat := (min (max n 0) 512).toNat
theorem clamp_le (n : Int) : clamp n ≤ 512 := by unfold clamp; omega
def Dsk.crash (s : Dsk) (keep : List Bool) (n : Int) : Dsk := { s with p := crashGo keep (clamp n) 0 s.c s.p false, c := [], dead := true }
/-- A step as a statement takes it. -/
structure St where
  k : Nat
  at_ : Int
  s : By
  n : Int
  keep : List Bool
instance : Inhabited St := ⟨⟨0, 0, [], 0, []⟩⟩
def Dsk.step (d : Dsk) (x : St) : Nat × Dsk := if x.k = 0 then d.write x.at_ x.s else if x.k = 1 then d.sync else if x.k = 2 then (0, d.setFuse x.n) else if x.k = 3 then (0, d.crash x.keep x.n) else (0, d.start)
def runS (d : Dsk) (f : Nat → St) : Nat → Dsk
  | 0 => d
  | i + 1 => ((runS d f i).step (f i)).2
theorem Wf.new : Dsk.new.Wf := ⟨PWf.new, fun _ h => by cases h⟩
theorem CWf.snoc {c : List (Int × By)} (h : CWf c) {x : Int × By} (hs : sec x.1 = true) (hl : x.2.length = 512) : CWf (c ++ [x]) := fun y hy => by
  rcases List.mem_append.1 hy with h1 | h1
  · exact h y h1
  · obtain rfl : y = x := by simpa using h1
    exact ⟨hs, hl⟩
theorem Dsk.Wf.write {s : Dsk} (h : s.Wf) (k : Int) (t : By) : (s.write k t).2.Wf := by
  unfold Dsk.write
  split
  · exact h
  split
  · exact h
  split
  · exact h
  split
  · exact ⟨h.p, h.c⟩
  · rename_i h1 h2 h3 h4
    exact ⟨h.p, h.c.snoc (by simpa using h2) (full_len (by omega))⟩
theorem Dsk.Wf.sync {s : Dsk} (h : s.Wf) : s.sync.2.Wf := by
  unfold Dsk.sync
  split
  · exact h
  split
  · exact ⟨h.p, h.c⟩
  · exact ⟨h.p.putAll h.c, fun _ h => by cases h⟩
theorem torn_len {t q : By} (n : Nat) (hn : n ≤ 512) (ht : t.length = 512) (hq : q.length = 512) : (t.take n ++ q.drop n).length = 512 := by simp; omega
theorem PWf.crash {keep : List Bool} {n : Nat} (hn : n ≤ 512) : ∀ (c : List (Int × By)) (k : Nat) (p : Int → By) (torn : Bool), PWf p → CWf c → PWf (crashGo keep n k c p torn)
  | [], _, _, _, h, _ => h
  | x :: r, k, p, torn, h, hc => by
    have hx := hc x (by simp)
    have hr : CWf r := fun y hy => hc y (by simp [hy])
    unfold crashGo
    split
    · exact PWf.crash hn r _ _ _ (h.upd hx.1 hx.2) hr
    split
    · exact PWf.crash hn r _ _ _ h hr
    · exact PWf.crash hn r _ _ _ (h.upd hx.1 (torn_len n hn hx.2 (h.len _))) hr
theorem Dsk.Wf.crash {s : Dsk} (h : s.Wf) (keep : List Bool) (n : Int) : (s.crash keep n).Wf := ⟨PWf.crash (clamp_le n) _ _ _ _ h.p h.c, fun _ h => by cases h⟩
theorem Dsk.Wf.step {s : Dsk} (h : s.Wf) (x : St) : (s.step x).2.Wf := by
  unfold Dsk.step
  split
  · exact h.write _ _
  split
  · exact h.sync
  split
  · exact ⟨h.p, h.c⟩
  split
  · exact h.crash _ _
  · exact ⟨h.p, h.c⟩
theorem Wf.run {d : Dsk} (h : d.Wf) (f : Nat → St) : ∀ i, (runS d f i).Wf
  | 0 => h
  | i + 1 => (Wf.run h f i).step _
theorem read_len {s : Dsk} (h : s.Wf) {k : Int} (hd : s.dead = false) (hk : sec k = true) : (s.read k).length = 512 := by
  unfold Dsk.read
  rw [hd, hk]
  simp only [if_true]
  cases e : lastOf s.c k with
  | none => simpa using h.p.len k
  | some t => simpa using (h.c _ (lastOf_some e)).2
end MM
end Go.Proofs.YtoacmingocmaaaaDoor
/- The contracts of the library's functions, as they lie proved on the shelf, laid at this translation. -/
namespace Go.Proofs
open Go.Shelf
def Tryd.lays170_ren : Go.Shelf.Ren := ⟨fun | 170 => 38 | n => n, fun | 70 => 66 | 3 => 3 | 0 => 0 | 72 => 68 | 37 => 34 | 5 => 5 | n => n, fun | n => n⟩
theorem Tryd.lays170 : Go.Proofs.Lays.n170 Tryd.prog Tryd.lays170_ren := {
  mixed := by kernel_rfl
  f170 := Tryd.func38.trans (congrArg some (by kernel_rfl))
  t0 := Tryd.underlying0
  a0 := Tryd.isAgg0
  z0 := Tryd.sizeOf0
  v0 := Tryd.zeroValue0
  t3 := Tryd.underlying3
  a3 := Tryd.isAgg3
  z3 := Tryd.sizeOf3
  v3 := Tryd.zeroValue3
  t37 := Tryd.underlying34
  a37 := Tryd.isAgg34
  z37 := Tryd.sizeOf34
  v37 := Tryd.zeroValue34
  t70 := Tryd.underlying66
  a70 := Tryd.isAgg66
  z70 := Tryd.sizeOf66
  v70 := Tryd.zeroValue66
  t72 := Tryd.underlying68
  a72 := Tryd.isAgg68
  z72 := Tryd.sizeOf68
  v72 := Tryd.zeroValue68 }
open Go.RowKit in
theorem Tryd.Builder_Len (B b : Nat) (bs : List Value) (w : World) (h : Lib.IsBuilder 68 5 B b bs w) :
    Calls Tryd.prog 38 #[.pointer (some ⟨b, 0, none⟩)] w fun e w' => e = .returned (.int .i64 bs.length) ∧ w' = w := Any.Builder_Len Tryd.lays170 B b bs w h
def Tryd.lays169_ren : Go.Shelf.Ren := ⟨fun | 169 => 40 | n => n, fun | 70 => 66 | 9 => 9 | 0 => 0 | 72 => 68 | 37 => 34 | 127 => 102 | 3 => 3 | 5 => 5 | n => n, fun | n => n⟩
theorem Tryd.lays169 : Go.Proofs.Lays.n169 Tryd.prog Tryd.lays169_ren := {
  mixed := by kernel_rfl
  f169 := Tryd.func40.trans (congrArg some (by kernel_rfl))
  t0 := Tryd.underlying0
  a0 := Tryd.isAgg0
  z0 := Tryd.sizeOf0
  v0 := Tryd.zeroValue0
  t3 := Tryd.underlying3
  a3 := Tryd.isAgg3
  z3 := Tryd.sizeOf3
  v3 := Tryd.zeroValue3
  t9 := Tryd.underlying9
  a9 := Tryd.isAgg9
  z9 := Tryd.sizeOf9
  v9 := Tryd.zeroValue9
  t37 := Tryd.underlying34
  a37 := Tryd.isAgg34
  z37 := Tryd.sizeOf34
  v37 := Tryd.zeroValue34
  t70 := Tryd.underlying66
  a70 := Tryd.isAgg66
  z70 := Tryd.sizeOf66
  v70 := Tryd.zeroValue66
  t72 := Tryd.underlying68
  a72 := Tryd.isAgg68
  z72 := Tryd.sizeOf68
  v72 := Tryd.zeroValue68
  t127 := Tryd.underlying102
  a127 := Tryd.isAgg102
  z127 := Tryd.sizeOf102
  v127 := Tryd.zeroValue102 }
theorem Tryd.Builder_Extra_169 : Builder.Extra Tryd.prog Tryd.lays169_ren := {
  sizeBuilder := by kernel_rfl
  liesBuilder := by kernel_rfl
  t5 := Tryd.underlying5
  a5 := Tryd.isAgg5
  z5 := Tryd.sizeOf5
  v5 := Tryd.zeroValue5
  infoByte := by kernel_rfl
  cellsByte := by kernel_rfl
  sizeByte := by kernel_rfl
  neB5 := by decide }
open Go.RowKit in
theorem Tryd.Builder_String_any (B b : Nat) (l : List UInt8) (w : World) (h : Lib.IsBuilder 68 5 B b (Lib.byteCells l) w) (hBw : B ≤ w.heap.size) :
    Calls Tryd.prog 40 #[.pointer (some ⟨b, 0, none⟩)] w fun e w' => e = .returned (.string ⟨l.toArray⟩) ∧ Below B w w' := Any.Builder_String_any Tryd.lays169 Tryd.Builder_Extra_169 B b l w h hBw
def Tryd.lays231_ren : Go.Shelf.Ren := ⟨fun | 231 => 86 | n => n, fun | 9 => 9 | 5 => 5 | 3 => 3 | 4 => 4 | n => n, fun | n => n⟩
theorem Tryd.lays231 : Go.Proofs.Lays.n231 Tryd.prog Tryd.lays231_ren := {
  mixed := by kernel_rfl
  f231 := Tryd.func86.trans (congrArg some (by kernel_rfl))
  t3 := Tryd.underlying3
  a3 := Tryd.isAgg3
  z3 := Tryd.sizeOf3
  v3 := Tryd.zeroValue3
  t4 := Tryd.underlying4
  a4 := Tryd.isAgg4
  z4 := Tryd.sizeOf4
  v4 := Tryd.zeroValue4
  t5 := Tryd.underlying5
  a5 := Tryd.isAgg5
  z5 := Tryd.sizeOf5
  v5 := Tryd.zeroValue5
  t9 := Tryd.underlying9
  a9 := Tryd.isAgg9
  z9 := Tryd.sizeOf9
  v9 := Tryd.zeroValue9 }
open Go.RowKit in
theorem Tryd.strings_trimLeftByte (s : ByteArray) (c : UInt8) (w : World) :
    Calls Tryd.prog 86 #[.string s, .int .u8 c.toNat] w fun e w' => e = .returned (.string ⟨(Lib.trimLeftB s.data.toList c).toArray⟩) ∧ w' = w := Any.strings_trimLeftByte Tryd.lays231 s c w
def Tryd.lays161_ren : Go.Shelf.Ren := ⟨fun | 161 => 74 | 231 => 86 | 227 => 87 | 233 => 88 | 235 => 89 | 228 => 104 | 197 => 105 | 151 => 106 | 260 => 116 | 152 => 117 | 137 => 119 | 119 => 120 | 224 => 121 | 225 => 122 | 217 => 123 | 266 => 124 | n => n, fun | 9 => 9 | 4 => 4 | 3 => 3 | 5 => 5 | 117 => 122 | 116 => 121 | 0 => 0 | 124 => 125 | 105 => 143 | 21 => 21 | 119 => 158 | 46 => 47 | 139 => 161 | 138 => 160 | n => n, fun | 3 => 0 | 4 => 1 | n => n⟩
theorem Tryd.lays161 : Go.Proofs.Lays.n161 Tryd.prog Tryd.lays161_ren := {
  mixed := by kernel_rfl
  f119 := Tryd.func120.trans (congrArg some (by kernel_rfl))
  f137 := Tryd.func119.trans (congrArg some (by kernel_rfl))
  f151 := Tryd.func106.trans (congrArg some (by kernel_rfl))
  f152 := Tryd.func117.trans (congrArg some (by kernel_rfl))
  f161 := Tryd.func74.trans (congrArg some (by kernel_rfl))
  f197 := Tryd.func105.trans (congrArg some (by kernel_rfl))
  f217 := Tryd.func123.trans (congrArg some (by kernel_rfl))
  f224 := Tryd.func121.trans (congrArg some (by kernel_rfl))
  f225 := Tryd.func122.trans (congrArg some (by kernel_rfl))
  f227 := Tryd.func87.trans (congrArg some (by kernel_rfl))
  f228 := Tryd.func104.trans (congrArg some (by kernel_rfl))
  f231 := Tryd.func86.trans (congrArg some (by kernel_rfl))
  f233 := Tryd.func88.trans (congrArg some (by kernel_rfl))
  f235 := Tryd.func89.trans (congrArg some (by kernel_rfl))
  f260 := Tryd.func116.trans (congrArg some (by kernel_rfl))
  f266 := Tryd.func124.trans (congrArg some (by kernel_rfl))
  t0 := Tryd.underlying0
  a0 := Tryd.isAgg0
  z0 := Tryd.sizeOf0
  v0 := Tryd.zeroValue0
  t3 := Tryd.underlying3
  a3 := Tryd.isAgg3
  z3 := Tryd.sizeOf3
  v3 := Tryd.zeroValue3
  t4 := Tryd.underlying4
  a4 := Tryd.isAgg4
  z4 := Tryd.sizeOf4
  v4 := Tryd.zeroValue4
  t5 := Tryd.underlying5
  a5 := Tryd.isAgg5
  z5 := Tryd.sizeOf5
  v5 := Tryd.zeroValue5
  t9 := Tryd.underlying9
  a9 := Tryd.isAgg9
  z9 := Tryd.sizeOf9
  v9 := Tryd.zeroValue9
  t21 := Tryd.underlying21
  a21 := Tryd.isAgg21
  z21 := Tryd.sizeOf21
  v21 := Tryd.zeroValue21
  t46 := Tryd.underlying47
  a46 := Tryd.isAgg47
  z46 := Tryd.sizeOf47
  v46 := Tryd.zeroValue47
  t105 := Tryd.underlying143
  a105 := Tryd.isAgg143
  z105 := Tryd.sizeOf143
  v105 := Tryd.zeroValue143
  t116 := Tryd.underlying121
  a116 := Tryd.isAgg121
  z116 := Tryd.sizeOf121
  t117 := Tryd.underlying122
  a117 := Tryd.isAgg122
  z117 := Tryd.sizeOf122
  v117 := Tryd.zeroValue122
  t119 := Tryd.underlying158
  a119 := Tryd.isAgg158
  z119 := Tryd.sizeOf158
  t124 := Tryd.underlying125
  a124 := Tryd.isAgg125
  z124 := Tryd.sizeOf125
  v124 := Tryd.zeroValue125
  t138 := Tryd.underlying160
  a138 := Tryd.isAgg160
  z138 := Tryd.sizeOf160
  v138 := Tryd.zeroValue160
  t139 := Tryd.underlying161
  a139 := Tryd.isAgg161
  z139 := Tryd.sizeOf161
  v139 := Tryd.zeroValue161
  g3 := by kernel_rfl
  g4 := by kernel_rfl }
open Go.RowKit in
theorem Tryd.strings_TrimLeft_one (s : ByteArray) (c : UInt8) (hc : c.toNat < 128) (w : World) :
    Calls Tryd.prog 74 #[.string s, .string ⟨#[c]⟩] w fun e w' => e = .returned (.string ⟨(Lib.trimLeftB s.data.toList c).toArray⟩) ∧ w' = w := Any.strings_TrimLeft_one Tryd.lays161 s c hc w
def Tryd.laysM316_ren : Go.Shelf.Ren := ⟨fun | 316 => 77 | n => n, fun | 9 => 9 | 3 => 3 | 4 => 4 | 37 => 34 | 0 => 0 | 127 => 102 | 5 => 5 | n => n, fun | n => n⟩
theorem Tryd.laysM316 : Go.Proofs.LaysM.n316 Tryd.prog Tryd.laysM316_ren := {
  mixed := by kernel_rfl
  f316 := Tryd.func77.trans (congrArg some (by kernel_rfl))
  t0 := Tryd.underlying0
  a0 := Tryd.isAgg0
  z0 := Tryd.sizeOf0
  v0 := Tryd.zeroValue0
  t3 := Tryd.underlying3
  a3 := Tryd.isAgg3
  z3 := Tryd.sizeOf3
  v3 := Tryd.zeroValue3
  t4 := Tryd.underlying4
  a4 := Tryd.isAgg4
  z4 := Tryd.sizeOf4
  v4 := Tryd.zeroValue4
  t9 := Tryd.underlying9
  a9 := Tryd.isAgg9
  z9 := Tryd.sizeOf9
  v9 := Tryd.zeroValue9
  t37 := Tryd.underlying34
  a37 := Tryd.isAgg34
  z37 := Tryd.sizeOf34
  v37 := Tryd.zeroValue34
  t127 := Tryd.underlying102
  a127 := Tryd.isAgg102
  z127 := Tryd.sizeOf102
  v127 := Tryd.zeroValue102
  t5 := Tryd.underlying5
  a5 := Tryd.isAgg5
  z5 := Tryd.sizeOf5
  v5 := Tryd.zeroValue5
  i0 := by kernel_rfl
  i3 := by kernel_rfl
  i4 := by kernel_rfl
  i5 := by kernel_rfl
  i9 := by kernel_rfl
  i37 := by kernel_rfl
  i127 := by kernel_rfl }
open Go.RowKit in
theorem Tryd.stringslite_Clone (s : ByteArray) (w : World) (hlim : s.size ≤ 281474976710656) :
    Calls Tryd.prog 77 #[.string s] w fun e w' => e = .returned (.string s) ∧ Below w.heap.size w w' := Any.stringslite_Clone Tryd.laysM316 s w hlim
def Tryd.lays189_ren : Go.Shelf.Ren := ⟨fun | 189 => 61 | 125 => 81 | 257 => 80 | 128 => 99 | 129 => 100 | 294 => 90 | 295 => 91 | 296 => 92 | 297 => 93 | 298 => 94 | 299 => 95 | 216 => 96 | 300 => 97 | 301 => 98 | 328 => 107 | 329 => 108 | 330 => 109 | 331 => 110 | 332 => 111 | 215 => 112 | 343 => 118 | n => n, fun | 28 => 60 | 3 => 3 | 46 => 47 | 0 => 0 | 51 => 136 | 53 => 77 | 4 => 4 | 183 => 128 | 182 => 127 | 131 => 133 | 5 => 5 | 9 => 9 | 218 => 146 | 222 => 150 | 228 => 155 | 229 => 156 | n => n, fun | n => n⟩
theorem Tryd.lays189 : Go.Proofs.Lays.n189 Tryd.prog Tryd.lays189_ren := {
  mixed := by kernel_rfl
  f125 := Tryd.func81.trans (congrArg some (by kernel_rfl))
  f128 := Tryd.func99.trans (congrArg some (by kernel_rfl))
  f129 := Tryd.func100.trans (congrArg some (by kernel_rfl))
  f189 := Tryd.func61.trans (congrArg some (by kernel_rfl))
  f215 := Tryd.func112.trans (congrArg some (by kernel_rfl))
  f216 := Tryd.func96.trans (congrArg some (by kernel_rfl))
  f257 := Tryd.func80.trans (congrArg some (by kernel_rfl))
  f294 := Tryd.func90.trans (congrArg some (by kernel_rfl))
  f295 := Tryd.func91.trans (congrArg some (by kernel_rfl))
  f296 := Tryd.func92.trans (congrArg some (by kernel_rfl))
  f297 := Tryd.func93.trans (congrArg some (by kernel_rfl))
  f298 := Tryd.func94.trans (congrArg some (by kernel_rfl))
  f299 := Tryd.func95.trans (congrArg some (by kernel_rfl))
  f300 := Tryd.func97.trans (congrArg some (by kernel_rfl))
  f301 := Tryd.func98.trans (congrArg some (by kernel_rfl))
  f328 := Tryd.func107.trans (congrArg some (by kernel_rfl))
  f329 := Tryd.func108.trans (congrArg some (by kernel_rfl))
  f330 := Tryd.func109.trans (congrArg some (by kernel_rfl))
  f331 := Tryd.func110.trans (congrArg some (by kernel_rfl))
  f332 := Tryd.func111.trans (congrArg some (by kernel_rfl))
  f343 := Tryd.func118.trans (congrArg some (by kernel_rfl))
  t0 := Tryd.underlying0
  a0 := Tryd.isAgg0
  z0 := Tryd.sizeOf0
  v0 := Tryd.zeroValue0
  t3 := Tryd.underlying3
  a3 := Tryd.isAgg3
  z3 := Tryd.sizeOf3
  v3 := Tryd.zeroValue3
  t4 := Tryd.underlying4
  a4 := Tryd.isAgg4
  z4 := Tryd.sizeOf4
  v4 := Tryd.zeroValue4
  t5 := Tryd.underlying5
  a5 := Tryd.isAgg5
  z5 := Tryd.sizeOf5
  v5 := Tryd.zeroValue5
  t9 := Tryd.underlying9
  a9 := Tryd.isAgg9
  z9 := Tryd.sizeOf9
  v9 := Tryd.zeroValue9
  t28 := Tryd.underlying60
  a28 := Tryd.isAgg60
  z28 := Tryd.sizeOf60
  v28 := Tryd.zeroValue60
  t46 := Tryd.underlying47
  a46 := Tryd.isAgg47
  z46 := Tryd.sizeOf47
  v46 := Tryd.zeroValue47
  t51 := Tryd.underlying136
  a51 := Tryd.isAgg136
  z51 := Tryd.sizeOf136
  v51 := Tryd.zeroValue136
  t53 := Tryd.underlying77
  a53 := Tryd.isAgg77
  z53 := Tryd.sizeOf77
  v53 := Tryd.zeroValue77
  t131 := Tryd.underlying133
  a131 := Tryd.isAgg133
  z131 := Tryd.sizeOf133
  v131 := Tryd.zeroValue133
  t182 := Tryd.underlying127
  a182 := Tryd.isAgg127
  z182 := Tryd.sizeOf127
  v182 := Tryd.zeroValue127
  t183 := Tryd.underlying128
  a183 := Tryd.isAgg128
  z183 := Tryd.sizeOf128
  v183 := Tryd.zeroValue128
  t218 := Tryd.underlying146
  a218 := Tryd.isAgg146
  z218 := Tryd.sizeOf146
  v218 := Tryd.zeroValue146
  t222 := Tryd.underlying150
  a222 := Tryd.isAgg150
  z222 := Tryd.sizeOf150
  v222 := Tryd.zeroValue150
  t228 := Tryd.underlying155
  a228 := Tryd.isAgg155
  z228 := Tryd.sizeOf155
  v228 := Tryd.zeroValue155
  t229 := Tryd.underlying156
  a229 := Tryd.isAgg156
  z229 := Tryd.sizeOf156
  v229 := Tryd.zeroValue156 }
open Go.Sort Go.RowKit in
theorem Tryd.slices_Sort_int (blk off cap : Nat) (zs : List Int) (w : World) (hH : Holds (Value.int .i64) w blk off zs.toArray) (hblk : blk < w.heap.size) (hsz : zs.length < 4611686018427387904) :
    Calls Tryd.prog 61 #[.slice (some ⟨blk, off, none⟩) zs.length cap] w fun e w' =>
      e = .returned (.tuple #[]) ∧ ∃ n os, w' = grow (putRow (Value.int .i64) (Sort.ahead w n) blk off (zs.mergeSort fun x y => decide (x ≤ y)).toArray) os := Any.slices_Sort_int Tryd.lays189 blk off cap zs w hH hblk hsz
def Tryd.laysNm220_ren : Go.Shelf.Ren := ⟨fun | 20 => 62 | n => n, fun | 22 => 60 | 3 => 3 | 4 => 4 | 0 => 0 | n => n, fun | n => n⟩
theorem Tryd.laysNm220 : Go.Proofs.Lays2.n20 Tryd.prog Tryd.laysNm220_ren := {
  mixed := by kernel_rfl
  f20 := Tryd.func62.trans (congrArg some (by kernel_rfl))
  t0 := Tryd.underlying0
  a0 := Tryd.isAgg0
  z0 := Tryd.sizeOf0
  v0 := Tryd.zeroValue0
  t3 := Tryd.underlying3
  a3 := Tryd.isAgg3
  z3 := Tryd.sizeOf3
  v3 := Tryd.zeroValue3
  t4 := Tryd.underlying4
  a4 := Tryd.isAgg4
  z4 := Tryd.sizeOf4
  v4 := Tryd.zeroValue4
  t22 := Tryd.underlying60
  a22 := Tryd.isAgg60
  z22 := Tryd.sizeOf60
  v22 := Tryd.zeroValue60
  i3 := by kernel_rfl }
open Go.RowKit Go.Lib Go.Sort in
theorem Tryd.slices_Compact_int (blk off cap : Nat) (zs : List Int) (w : World) (hH : Holds (Value.int .i64) w blk off zs.toArray) (hsz : zs.length ≤ 9223372036854775807) (hcap : zs.length ≤ cap) :
    Calls Tryd.prog 62 #[.slice (some ⟨blk, off, none⟩) zs.length cap] w fun e w' => e = .returned (.slice (some ⟨blk, off, none⟩) (Lib.compact zs).length cap) ∧ ∃ q, w' = putRow (Value.int .i64) (Sort.ahead w q) blk off (Lib.compact zs ++ List.replicate (zs.length - (Lib.compact zs).length) 0).toArray := Any.slices_Compact_int Tryd.laysNm220 blk off cap zs w hH hsz hcap
open Go.RowKit Go.Lib Go.Sort in
theorem Tryd.slices_Compact_int_empty (a : Option Addr) (cap : Nat) (w : World) :
    Calls Tryd.prog 62 #[.slice a 0 cap] w fun e w' => e = .returned (.slice a 0 cap) ∧ w' = w := Any.slices_Compact_int_empty Tryd.laysNm220 a cap w
open Go.RowKit Go.Sort in
theorem Tryd.slices_Sort_int_none (p : Option Addr) (cap : Nat) (w : World) :
    Calls Tryd.prog 61 #[.slice p 0 cap] w fun e w' => e = .returned (.tuple #[]) ∧ w' = w := Any.slices_Sort_int_none Tryd.lays189 p cap w
def Tryd.keysA_ren : Go.Shelf.Ren := ⟨fun | 7 => 60 | 10 => 79 | n => n, fun | 23 => 79 | 26 => 3 | 3 => 86 | 28 => 95 | 0 => 0 | 27 => 94 | 33 => 83 | 4 => 4 | n => n, fun | n => n⟩
theorem Tryd.keysA : Go.Proofs.SlLaysZI.n7 Tryd.prog Tryd.keysA_ren := {
  mixed := by kernel_rfl
  f7 := ⟨Tryd.f60.name, by decide, Tryd.func60.trans (congrArg some (by kernel_rfl))⟩
  f10 := ⟨Tryd.f79.name, by decide, Tryd.func79.trans (congrArg some (by kernel_rfl))⟩
  t0 := Tryd.underlying0
  a0 := Tryd.isAgg0
  z0 := Tryd.sizeOf0
  v0 := Tryd.zeroValue0
  t4 := Tryd.underlying4
  a4 := Tryd.isAgg4
  z4 := Tryd.sizeOf4
  v4 := Tryd.zeroValue4
  t23 := Tryd.underlying79
  a23 := Tryd.isAgg79
  z23 := Tryd.sizeOf79
  v23 := Tryd.zeroValue79
  t26 := Tryd.underlying3
  a26 := Tryd.isAgg3
  z26 := Tryd.sizeOf3
  v26 := Tryd.zeroValue3
  t27 := Tryd.underlying94
  a27 := Tryd.isAgg94
  z27 := Tryd.sizeOf94
  v27 := Tryd.zeroValue94
  t28 := Tryd.underlying95
  a28 := Tryd.isAgg95
  z28 := Tryd.sizeOf95
  v28 := Tryd.zeroValue95
  t33 := Tryd.underlying83
  a33 := Tryd.isAgg83
  z33 := Tryd.sizeOf83
  v33 := Tryd.zeroValue83 }
def Tryd.collectA_ren : Go.Shelf.Ren := ⟨fun | 8 => 59 | 11 => 78 | n => n, fun | 26 => 3 | 28 => 95 | 24 => 60 | 0 => 0 | 33 => 83 | 4 => 4 | n => n, fun | n => n⟩
theorem Tryd.collectA : Go.Proofs.SlLaysZI.n8 Tryd.prog Tryd.collectA_ren := {
  mixed := by kernel_rfl
  f8 := ⟨Tryd.f59.name, by decide, Tryd.func59.trans (congrArg some (by kernel_rfl))⟩
  f11 := ⟨Tryd.f78.name, by decide, Tryd.func78.trans (congrArg some (by kernel_rfl))⟩
  t0 := Tryd.underlying0
  a0 := Tryd.isAgg0
  z0 := Tryd.sizeOf0
  v0 := Tryd.zeroValue0
  t24 := Tryd.underlying60
  a24 := Tryd.isAgg60
  z24 := Tryd.sizeOf60
  v24 := Tryd.zeroValue60
  t26 := Tryd.underlying3
  a26 := Tryd.isAgg3
  z26 := Tryd.sizeOf3
  v26 := Tryd.zeroValue3
  t28 := Tryd.underlying95
  a28 := Tryd.isAgg95
  z28 := Tryd.sizeOf95
  v28 := Tryd.zeroValue95
  i26 := by kernel_rfl }
end Go.Proofs

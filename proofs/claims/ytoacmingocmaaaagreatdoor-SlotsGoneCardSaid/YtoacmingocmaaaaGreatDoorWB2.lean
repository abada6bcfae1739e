/- The texts DskMem, DskOwn, DskByte, DskW1, DskW2, one behind the other. -/
import Derived.Test.YtoacmingocmaaaaGreatDoorWB1
import Derived.OwnWalk
import Derived.Maps.AppendAt
import Derived.Maps.Own
import Derived.Maps.OwnOps
import Derived.Maps.OwnSet
import Derived.Maps.Views
import Derived.WalkSpells
import Derived.Deep.AppendLies
import Derived.Deep.MidRow
import Derived.Laws.Cells
import Derived.Lib.BufferWrite
import Derived.Lib.SlBuf
import Derived.Laws.MakeOwn
/- A disk of the program's as it lies: its struct, its cache (a row of writes of its own), its map of sectors. -/
namespace Go.Proofs.YtoacmingocmaaaaGreatDoor
open Go Go.RowKit Go.Lib
open Go.Maps (Keyed)
namespace M
open MM
/-- The cells of writes, one behind the other. -/
def cellsW (c : List (Int × By)) : List Value := c.flatMap fun x => [.int .i64 x.1, .string ⟨x.2.toArray⟩]
theorem cellsW_nil : cellsW [] = [] := rfl
theorem cellsW_cons (x : Int × By) (c : List (Int × By)) : cellsW (x :: c) = .int .i64 x.1 :: .string ⟨x.2.toArray⟩ :: cellsW c := rfl
theorem cellsW_snoc (c : List (Int × By)) (x : Int × By) : cellsW (c ++ [x]) = cellsW c ++ [.int .i64 x.1, .string ⟨x.2.toArray⟩] := by simp [cellsW]
theorem cellsW_append (c d : List (Int × By)) : cellsW (c ++ d) = cellsW c ++ cellsW d := by simp [cellsW]
theorem cellsW_len : ∀ (c : List (Int × By)), (cellsW c).length = c.length * 2
  | [] => rfl
  | x :: c => by rw [cellsW_cons]; simp only [List.length_cons]; rw [cellsW_len c]; omega
theorem cellsW_get : ∀ (c : List (Int × By)) (i : Nat) (x : Int × By), c[i]? = some x → (cellsW c)[i * 2]? = some (.int .i64 x.1) ∧ (cellsW c)[i * 2 + 1]? = some (.string ⟨x.2.toArray⟩)
  | [], _, _, h => by simp at h
  | y :: c, 0, x, h => by
    obtain rfl : y = x := by simpa using h
    exact ⟨rfl, rfl⟩
  | y :: c, i + 1, x, h => by
    have h1 := cellsW_get c i x (by simpa using h)
    rw [cellsW_cons, show (i + 1) * 2 = i * 2 + 1 + 1 by omega]
    exact ⟨by simpa using h1.1, by simpa using h1.2⟩
theorem cellsW_one (c : List (Int × By)) : ∀ u ∈ cellsW c, u.oneCell' = true := fun u hu => by
  obtain ⟨x, _, hx⟩ := List.mem_flatMap.1 hu
  simp only [List.mem_cons, List.not_mem_nil, or_false] at hx
  rcases hx with rfl | rfl <;> rfl
theorem info_w : (Tryz.prog.info? 77).map (fun i => (i.zero, i.size, i.bytes)) = some (some (.agg #[.int .i64 0, .string ⟨#[]⟩]), 2, 24) := by kernel_rfl
/-- A slice that owns a row of writes. -/
def CacheAt (w : World) (v : Value) (c : List (Int × By)) : Prop := w.ownsRow 0 77 2 v c.length (cellsW c)
theorem CacheAt.nil (w : World) : CacheAt w (.slice none 0 0) [] := ⟨rfl, .inl ⟨rfl, rfl⟩⟩
theorem CacheAt.lt {w : World} {v : Value} {c : List (Int × By)} (h : CacheAt w v c) {g : Nat} (hg : v.ownBlock = some g) : g < w.heap.size := (World.ownsRow.lt h g hg).2
theorem CacheAt.of {w w' : World} {v : Value} {c : List (Int × By)} (h : CacheAt w v c) (e : ∀ g, v.ownBlock = some g → w'.heap[g]? = w.heap[g]?) : CacheAt w' v c := by
  obtain ⟨h1, h2⟩ := h
  refine ⟨h1, h2.imp id ?_⟩
  rintro ⟨g, cap, cur, hv, hb, hh, r⟩
  exact ⟨g, cap, cur, hv, hb, (e g (by rw [hv]; rfl)).trans hh, r⟩
/-- What the slice is, and what it reads. -/
theorem CacheAt.rd {w : World} {v : Value} {c : List (Int × By)} (h : CacheAt w v c) : (v = .slice none 0 0 ∧ c = []) ∨ ∃ g cap, v = .slice (some ⟨g, 0, none⟩) c.length cap ∧ c.length ≤ cap ∧ g < w.heap.size ∧ (∃ cs, w.heap[g]? = some (.cells cs 77 (0, 0))) ∧
    ∀ (i : Nat) (x : Int × By), c[i]? = some x → w.cell? ⟨g, i * 2, none⟩ = some (.int .i64 x.1) ∧ w.cell? ⟨g, i * 2 + 1, none⟩ = some (.string ⟨x.2.toArray⟩) := by
  have hcell := fun g hg => World.ownsRow.cells h (g := g) hg
  obtain ⟨h1, h2⟩ := h
  rcases h2 with ⟨rfl, hl⟩ | ⟨g, cap, cur, hv, hb, hh, hc, r⟩
  · exact .inl ⟨rfl, List.eq_nil_of_length_eq_zero hl⟩
  · refine .inr ⟨g, cap, hv, hc, row_lt hh, ⟨cur, hh⟩, fun i x hi => ?_⟩
    have hk := hcell g (by rw [hv]; rfl)
    obtain ⟨e1, e2⟩ := cellsW_get c i x hi
    have a1 := hk _ _ e1
    have a2 := hk _ _ e2
    rw [Addr.add_lit] at a1 a2
    rw [Nat.zero_add] at a1 a2
    exact ⟨a1, a2⟩
/-! The map of sectors. -/
theorem keyInt : Keyed Tryz.prog 3 := Go.Maps.int_keyed Tryz.underlying3
/-- An element of the map reads as itself. -/
def asIs (v : Value) : Option (DataW Value × List MemPlace) := some (.held v, [])
def key (k : Int) : Lit := .int .i64 k
theorem key_wf {k : Int} (h : sec k = true) : (Lit.int .i64 k).wf = true := by
  rw [sec_yes] at h
  simp [Lit.wf, IntKind.min, IntKind.max, IntKind.signed, IntKind.bits]; omega
theorem key_of {k : Int} (h : sec k = true) : keyOf Tryz.prog 3 (.int .i64 k) = some (key k) := Go.Maps.keyOf_int_mk Tryz.underlying3 (key_wf h)
theorem key_ne {j k : Int} (h : j ≠ k) : key j ≠ key k := fun e => h (by unfold key at e; injection e)
theorem key_lit (k : Int) : WideAt.IsKeyLit (key k) := by unfold key; first | trivial | exact ⟨_, _, rfl⟩ | simp [WideAt.IsKeyLit]
abbrev zw : Value := .agg #[.int .i64 0, .string ⟨#[]⟩]
abbrev wv (k : Int) (t : By) : Value := .agg #[.int .i64 k, .string ⟨t.toArray⟩]
theorem zeroW (w : World) : (zeroValue 77).run Tryz.prog w = .ok zw w := by kernel_rfl
/-- What stands at a sector. -/
def stands (p : Int → By) (k : Int) : Value := if p k = zero then zw else wv k (p k)
/-- Block m is the map of the sectors that are not all 00. -/
def MapAt (w : World) (m n : Nat) (p : Int → By) : Prop :=
  ∃ D : DataW Value, w.ownsMap Tryz.prog 3 asIs m n D ∧ (∀ k, Go.Maps.has D (key k) = !decide (p k = zero)) ∧ ∀ k, D.atKey (key k) (.held zw) = .held (stands p k)
theorem ownsMap_of {P : Program} {k : TypeId} {R : Value → Option (DataW Value × List MemPlace)} {w w' : World} {m n : Nat} {D : DataW Value} (h : w.ownsMap P k R m n D) (e : w'.heap[m]? = w.heap[m]?) : w'.ownsMap P k R m n D := by
  obtain ⟨es, clock, hb, F, hs, hD⟩ := h
  exact ⟨es, clock, e.trans hb, F, hs, hD⟩
theorem MapAt.of {w w' : World} {m n : Nat} {p : Int → By} (h : MapAt w m n p) (e : w'.heap[m]? = w.heap[m]?) : MapAt w' m n p := by
  obtain ⟨D, h1, h2⟩ := h
  exact ⟨D, ownsMap_of h1 e, h2⟩
theorem MapAt.lt {w : World} {m n : Nat} {p : Int → By} (h : MapAt w m n p) : m < w.heap.size := by
  obtain ⟨D, h1, _⟩ := h; exact h1.lt
theorem MapAt.mono {w : World} {m n n' : Nat} {p : Int → By} (h : MapAt w m n p) (hn : n ≤ n') : MapAt w m n' p := by
  obtain ⟨D, h1, h2⟩ := h; exact ⟨D, h1.mono hn, h2⟩
theorem MapAt.empty {w : World} {m : Nat} (h : w.heap[m]? = some (.map #[] 0)) : MapAt w m 0 (fun _ => zero) :=
  ⟨.map [], ⟨#[], 0, h, ⟨by simp, MapKept.stamped_empty 0, by simp⟩, Nat.le_refl _, rfl⟩, fun k => by simp; rfl, fun k => by unfold stands; rw [if_pos rfl]; rfl⟩
theorem MapAt.congr {w : World} {m n : Nat} {p q : Int → By} (h : MapAt w m n p) (e : ∀ k, p k = q k) : MapAt w m n q := by rwa [show q = p from funext fun k => (e k).symm]
/-- A look at a sector. -/
theorem MapAt.look {w : World} {m n : Nat} {p : Int → By} (h : MapAt w m n p) {k : Int} (hk : sec k = true) :
    (Instr.lookup 54 (.map (some m)) (.int .i64 k) false).run Tryz.prog w = .ok (stands p k) w := by
  obtain ⟨D, h1, _, h4⟩ := h
  obtain ⟨u, ps, hr, hu⟩ := h1.lookup keyInt Tryz.underlying54 (zeroW w) (zd := .held zw) (zp := []) rfl (key_of hk)
  rw [h4 k] at hu
  have e : u = stands p k := by unfold asIs at hu; simpa using (by simpa using hu : u = stands p k ∧ _).1
  rw [← e]; exact hr
theorem look_none {w : World} {k : Int} (hk : sec k = true) : (Instr.lookup 54 (.map none) (.int .i64 k) false).run Tryz.prog w = .ok zw w := by
  have := Maps.look_nil (P := Tryz.prog) (w := w) false keyInt Tryz.underlying54 (zeroW w) (key_of hk)
  simpa using this
/-- A sector that is not all 00 is put there. -/
theorem MapAt.put {w : World} {m n : Nat} {p : Int → By} (h : MapAt w m n p) {x : Int × By} (hk : sec x.1 = true) (hn : n ≤ 1000000000) (hx : x.2 ≠ zero) :
    ∃ w', (Instr.mapUpdate 54 (.map (some m)) (.int .i64 x.1) (wv x.1 x.2)).run Tryz.prog w = .ok () w' ∧ MapAt w' m (n + 1) (upd p x) ∧ w.grownBy w' (some m) := by
  obtain ⟨D, h1, h3, h4⟩ := h
  obtain ⟨w', hr, ho, hgr⟩ := h1.update keyInt Tryz.underlying54 (by unfold maxLen; omega) (key_of hk) (val := wv x.1 x.2) (d := .held (wv x.1 x.2)) (ps := []) rfl
  have hD := h1.isMap
  refine ⟨w', hr, ⟨_, ho, fun j => ?_, fun j => ?_⟩, hgr⟩
  · by_cases e : j = x.1
    · subst e; rw [Go.Maps.has_put_same hD (key_lit _), upd_same]; simp [hx]
    · rw [Go.Maps.has_put_other (key_ne e), h3, upd_other _ _ e]
  · by_cases e : j = x.1
    · subst e; rw [Go.Maps.atKey_put_same hD (key_lit _)]; unfold stands; rw [upd_same, if_neg hx]
    · rw [Go.Maps.atKey_put_other (key_ne e), h4]; unfold stands; rw [upd_other _ _ e]
/-- A sector that is all 00 is struck. -/
theorem MapAt.drop {w : World} {m n : Nat} {p : Int → By} (h : MapAt w m n p) {x : Int × By} (hk : sec x.1 = true) (hx : x.2 = zero) (ty : TypeId) :
    ∃ w', (Builtin.delete_ #[54, 3] ty #[.map (some m), .int .i64 x.1]).run Tryz.prog w = .ok (.tuple #[]) w' ∧ MapAt w' m n (upd p x) ∧ w.grownBy w' (some m) := by
  obtain ⟨D, h1, h3, h4⟩ := h
  obtain ⟨w', hr, ho, hgr⟩ := h1.drop keyInt Tryz.underlying54 (key_of hk) ty
  refine ⟨w', hr, ⟨_, ho, fun j => ?_, fun j => ?_⟩, hgr.grown⟩
  · by_cases e : j = x.1
    · subst e; rw [Go.Maps.has_del_same, upd_same]; simp [hx]
    · rw [Go.Maps.has_del_other (key_ne e), h3, upd_other _ _ e]
  · by_cases e : j = x.1
    · subst e; rw [Go.Maps.atKey_del_same]; unfold stands; rw [upd_same, if_pos hx]
    · rw [Go.Maps.atKey_del_other (key_ne e), h4]; unfold stands; rw [upd_other _ _ e]
/-- What the struct's first field holds. -/
def PlatAt (w : World) (v : Value) (n : Nat) (p : Int → By) : Prop := (v = .map none ∧ ∀ k, p k = zero) ∨ ∃ m, v = .map (some m) ∧ MapAt w m n p
theorem PlatAt.mono {w : World} {v : Value} {n n' : Nat} {p : Int → By} (h : PlatAt w v n p) (hn : n ≤ n') : PlatAt w v n' p := h.imp id fun ⟨m, e, h⟩ => ⟨m, e, h.mono hn⟩
theorem PlatAt.of {w w' : World} {v : Value} {n : Nat} {p : Int → By} (h : PlatAt w v n p) (e : ∀ m, v = .map (some m) → w'.heap[m]? = w.heap[m]?) : PlatAt w' v n p := h.imp id fun ⟨m, hv, h⟩ => ⟨m, hv, h.of (e m hv)⟩
/-- How the fuse lies, as long as it matters. -/
def FuseAt (s : Dsk) (fu : Bool) (le : Int) : Prop := s.dead = false → fu = s.fuse.isSome ∧ ∀ n : Nat, s.fuse = some n → le = n ∧ n ≤ 9223372036854775807
/-- The disk at block B, whose own blocks are among F; no more than N entries and writes. -/
structure Lies (w : World) (F : Nat → Prop) (B N : Nat) (s : Dsk) (m v : Value) (fu : Bool) (le : Int) (n : Nat) : Prop where
  box : w.heap[B]? = some (.cells #[m, v, .bool fu, .int .i64 le, .bool s.dead] 57 (0, 0))
  fuse : FuseAt s fu le
  cache : CacheAt w v s.c
  plat : PlatAt w m n s.p
  few : n + s.c.length ≤ N
  vF : ∀ g, v.ownBlock = some g → F g
  mF : ∀ g, m = .map (some g) → F g
structure Dk (w : World) (F : Nat → Prop) (B N : Nat) (s : Dsk) : Prop where
  wf : s.Wf
  lies : ∃ m v fu le n, Lies w F B N s m v fu le n
  FB : F B
  old : ∀ k, F k → k < w.heap.size
  N : N ≤ 1000000
section
variable {w w' : World} {F G : Nat → Prop} {B N : Nat} {s : Dsk}
theorem Dk.of (h : Dk w F B N s) (e : ∀ k, F k → w'.heap[k]? = w.heap[k]?) (hs : w.heap.size ≤ w'.heap.size) : Dk w' F B N s := by
  obtain ⟨m, v, fu, le, n, h1⟩ := h.lies
  exact ⟨h.wf, ⟨m, v, fu, le, n, (e B h.FB).trans h1.box, h1.fuse, h1.cache.of fun g hg => e g (h1.vF g hg), h1.plat.of fun g hg => e g (h1.mF g hg), h1.few, h1.vF, h1.mF⟩, h.FB, fun k hk => Nat.lt_of_lt_of_le (h.old k hk) hs, h.N⟩
theorem Dk.step (h : Dk w F B N s) (hb : Below w.heap.size w w') : Dk w' F B N s := h.of (fun k hk => hb.block k (h.old k hk)) hb.size
theorem Dk.drewN (h : Dk w F B N s) (n : Nat) : Dk (w.drewN n) F B N s := h.step (below_drewN _ _)
theorem Dk.chg (h : Dk w F B N s) (hc : Chg G w w') (hd : ∀ k, F k → ¬ G k) : Dk w' F B N s := h.of (fun k hk => hc.block k (h.old k hk) (hd k hk)) hc.size
theorem Dk.up (h : Dk w F B N s) {N' : Nat} (hN : N ≤ N') (hN' : N' ≤ 1000000) : Dk w F B N' s := by
  obtain ⟨m, v, fu, le, n, h1⟩ := h.lies
  exact ⟨h.wf, ⟨m, v, fu, le, n, { h1 with few := Nat.le_trans h1.few hN }⟩, h.FB, h.old, hN'⟩
/-- What a call has made of a disk. -/
def Did (w : World) (F : Nat → Prop) (B N : Nat) (s : Dsk) (w' : World) : Prop := ∃ F', Dk w' F' B N s ∧ (∀ k, F' k → F k ∨ w.heap.size ≤ k) ∧ Chg F w w'
theorem Did.refl (h : Dk w F B N s) : Did w F B N s w := ⟨F, h, fun _ h => .inl h, .refl F w⟩
theorem Did.step {w1 w2 : World} (h : Did w F B N s w1) (hb : Below w1.heap.size w1 w2) : Did w F B N s w2 := by
  obtain ⟨F', h1, h2, h3⟩ := h
  exact ⟨F', h1.step hb, h2, h3.step hb⟩
end
/-- The cells of the struct. -/
theorem box_cells {w : World} {B : Nat} {m v : Value} {fu de : Bool} {le : Int} (h : w.heap[B]? = some (.cells #[m, v, .bool fu, .int .i64 le, .bool de] 57 (0, 0))) :
    w.cell? ⟨B, 0, none⟩ = some m ∧ w.cell? ⟨B, 1, none⟩ = some v ∧ w.cell? ⟨B, 2, none⟩ = some (.bool fu) ∧ w.cell? ⟨B, 3, none⟩ = some (.int .i64 le) ∧ w.cell? ⟨B, 4, none⟩ = some (.bool de) ∧ ∀ j, w.frozen? ⟨B, j, none⟩ = false :=
  ⟨(cell_of_row w B 0 _ _ _ h).trans rfl, (cell_of_row w B 1 _ _ _ h).trans rfl, (cell_of_row w B 2 _ _ _ h).trans rfl, (cell_of_row w B 3 _ _ _ h).trans rfl, (cell_of_row w B 4 _ _ _ h).trans rfl, fun j => by simp [World.frozen?, h]⟩
end M
end Go.Proofs.YtoacmingocmaaaaGreatDoor
/- Rows of values of one cell each that a call makes by appends; rows of numbers that a slice reads. -/
namespace Go.Proofs.YtoacmingocmaaaaGreatDoor
open Go Go.RowKit Go.Lib
namespace M
theorem info_int : (Tryz.prog.info? 3).map (fun i => (i.zero, i.size, i.bytes)) = some (some (.int .i64 0), 1, 8) := by kernel_rfl
theorem info_str : (Tryz.prog.info? 9).map (fun i => (i.zero, i.size, i.bytes)) = some (some (.string ⟨#[]⟩), 1, 16) := by kernel_rfl
theorem info_bool : (Tryz.prog.info? 4).map (fun i => (i.zero, i.size, i.bytes)) = some (some (.bool false), 1, 1) := by kernel_rfl
/-- The row so far, of the call's own memory (behind what was there at w0); nothing older has changed. -/
structure OwnE (w0 : World) (e : TypeId) (v : Value) (l : List Value) (w : World) : Prop where
  own : w.ownsRow w0.heap.size e 1 v l.length l
  below : Below w0.heap.size w0 w
section
variable {w0 w w' : World} {e t : TypeId} {v : Value} {l : List Value}
theorem OwnE.nil (e : TypeId) (h : Below w0.heap.size w0 w) : OwnE w0 e (.slice none 0 0) [] w := ⟨⟨by simp, .inl ⟨rfl, rfl⟩⟩, h⟩
theorem OwnE.step (h : OwnE w0 e v l w) (hb : Below w.heap.size w w') : OwnE w0 e v l w' :=
  ⟨h.own.kept (row := none) ⟨hb.os, hb.tape, hb.output, hb.size, fun k hk _ => hb.block k hk⟩ (by cases v.ownBlock <;> simp), h.below.trans (hb.mono h.below.size)⟩
theorem OwnE.chg {F : Nat → Prop} (h : OwnE w0 e v l w) (hc : Chg F w w') (hF : ∀ g, v.ownBlock = some g → ¬ F g) (hF0 : ∀ k, F k → w0.heap.size ≤ k) : OwnE w0 e v l w' := by
  refine ⟨?_, h.below.trans (hc.below hF0 h.below.size)⟩
  have hlt := h.own.lt
  obtain ⟨h1, h2⟩ := h.own
  refine ⟨h1, h2.imp id ?_⟩
  rintro ⟨g, cap, cur, hv, hg, hh, r⟩
  exact ⟨g, cap, cur, hv, hg, (hc.block g (row_lt hh) (hF g (by rw [hv]; rfl))).trans hh, r⟩
/-- What the slice is. -/
theorem OwnE.val (h : OwnE w0 e v l w) : ∃ ao c, v = .slice ao l.length c ∧ l.length ≤ c ∧ (ao = none → l = [] ∧ c = 0) ∧ ∀ g, v.ownBlock = some g → w0.heap.size ≤ g ∧ g < w.heap.size := by
  have hlt := h.own.lt
  obtain ⟨h1, ⟨rfl, hl⟩ | ⟨g, cap, cur, hv, hg, hh, hc, r⟩⟩ := h.own
  · exact ⟨none, 0, by rw [hl], by omega, fun _ => ⟨List.eq_nil_of_length_eq_zero hl, rfl⟩, fun g hg => (by cases hg)⟩
  · exact ⟨_, cap, hv, hc, fun e => (by cases e), hlt⟩
theorem OwnE.cell (h : OwnE w0 e v l w) {i : Nat} {u : Value} (hi : l[i]? = some u) : ∃ g c, v = .slice (some ⟨g, 0, none⟩) l.length c ∧ w.cell? ⟨g, i, none⟩ = some u := by
  have hc := fun g hg => World.ownsRow.cells h.own (g := g) hg
  obtain ⟨h1, ⟨rfl, hl⟩ | ⟨g, cap, cur, hv, hg, hh, hcp, r⟩⟩ := h.own
  · rw [List.eq_nil_of_length_eq_zero hl] at hi; simp at hi
  · refine ⟨g, cap, hv, ?_⟩
    have := hc g (by rw [hv]; rfl) i u hi
    rwa [Addr.add_lit, Nat.zero_add] at this
theorem OwnE.push {i0 : TypeInfo} {z : Value} {bytes : Nat} (ht : Tryz.prog.underlying t = some (.slice e)) (hi : Tryz.prog.info? e = some i0) (hz0 : i0.zero = some z) (hz1 : i0.size = 1) (hz2 : i0.bytes = bytes) (hzs : z.cells.size = 1) (hb16 : bytes ≤ 16)
    (h : OwnE w0 e v l w) (x : Value) (hx : x.oneCell' = true) (hl : l.length ≤ 1000000) (ty : TypeId) :
    ∃ ao' c' w', (Builtin.append_ #[t, t] ty #[v, .slice (some ⟨w.heap.size, 0, none⟩) 1 1]).run Tryz.prog (w.alloc (.cells #[x] e)) = .ok (.slice ao' (l.length + 1) c') w' ∧ OwnE w0 e (.slice ao' (l.length + 1) c') (l ++ [x]) w' ∧ (w.alloc (.cells #[x] e)).grownBy w' v.ownBlock := by
  have ha := h.step (below_box w (.cells #[x] e))
  obtain ⟨v', w', hr, ho, hg, _⟩ := run_append_own (P := Tryz.prog) (w.alloc (.cells #[x] e)) w0.heap.size t ty e i0 z 1 bytes ht hi hz0 hz1 hz2 hzs (by decide) v l.length l ha.own ⟨w.heap.size, 0, none⟩ 1 1 [x] rfl (fun j u hj => by
    have hl := (List.getElem?_eq_some_iff.1 hj).1
    obtain rfl : j = 0 := by simpa using hl
    have hn := heap_alloc_new w (.cells #[x] e)
    rw [Addr.add_lit, Nat.zero_add, cell_of_row _ w.heap.size 0 _ _ _ hn, ← hj]
    rfl) (by simp [hx]) (by unfold maxLen; omega) (by have : (l.length + 1) * bytes ≤ (l.length + 1) * 16 := Nat.mul_le_mul_left _ hb16; omega) ha.below.size
  obtain ⟨ao', c', rfl⟩ : ∃ ao' c', v' = .slice ao' (l.length + 1) c' := by
    obtain ⟨_, ⟨_, h2⟩ | ⟨g, cap, cur, h1, _⟩⟩ := ho
    · omega
    · exact ⟨_, _, h1⟩
  exact ⟨ao', c', w', hr, ⟨by rw [List.length_append]; exact ho, ha.below.trans ⟨hg.os, hg.tape, hg.output, hg.size, fun j hj => hg.block j (Nat.lt_of_lt_of_le hj ha.below.size) (fun e => by have := (ha.own.lt j e.symm).1; omega)⟩⟩, hg⟩
theorem OwnE.pushInt {l : List Value} (h : OwnE w0 3 v l w) (x : Int) (hl : l.length ≤ 1000000) (ty : TypeId) :
    ∃ ao' c' w', (Builtin.append_ #[84, 84] ty #[v, .slice (some ⟨w.heap.size, 0, none⟩) 1 1]).run Tryz.prog (w.alloc (.cells #[.int .i64 x] 3)) = .ok (.slice ao' (l.length + 1) c') w' ∧ OwnE w0 3 (.slice ao' (l.length + 1) c') (l ++ [.int .i64 x]) w' ∧ (w.alloc (.cells #[.int .i64 x] 3)).grownBy w' v.ownBlock := by
  obtain ⟨i0, hi, hz0, hz1, hz2⟩ := info_parts info_int
  exact h.push Tryz.underlying84 hi hz0 hz1 hz2 rfl (by decide) _ rfl hl ty
end
/-- Values of one cell that a slice reads. -/
def ValsAt (w : World) (v : Value) (l : List Value) : Prop := ∃ ao c, v = .slice ao l.length c ∧ ∀ (i : Nat) (u : Value), l[i]? = some u → ∃ ad, ao = some ad ∧ w.cell? (ad.add i) = some u
theorem ValsAt.step {w w' : World} {v : Value} {l : List Value} (h : ValsAt w v l) (hb : Below w.heap.size w w') : ValsAt w' v l := by
  obtain ⟨ao, c, hv, h1⟩ := h
  refine ⟨ao, c, hv, fun i u hi => ?_⟩
  obtain ⟨ad, e, hc⟩ := h1 i u hi
  exact ⟨ad, e, by rw [hb.cell (World.block_lt_of_cell? w _ hc)]; exact hc⟩
theorem OwnE.vals {w0 w : World} {e : TypeId} {v : Value} {l : List Value} (h : OwnE w0 e v l w) : ValsAt w v l := by
  obtain ⟨ao, c, hv, _⟩ := h.val
  refine ⟨ao, c, hv, fun i u hi => ?_⟩
  obtain ⟨g, c2, hv2, hc⟩ := h.cell hi
  rw [hv] at hv2
  injection hv2 with h1 _ _
  exact ⟨⟨g, 0, none⟩, h1, by rw [Addr.add_lit, Nat.zero_add]; exact hc⟩
def ints (l : List Int) : List Value := l.map (.int .i64)
theorem ints_len (l : List Int) : (ints l).length = l.length := by simp [ints]
theorem ints_get {l : List Int} {i : Nat} {z : Int} (h : l[i]? = some z) : (ints l)[i]? = some (.int .i64 z) := by simp [ints, h]
theorem ints_snoc (l : List Int) (x : Int) : ints l ++ [.int .i64 x] = ints (l ++ [x]) := by simp [ints]
end M
end Go.Proofs.YtoacmingocmaaaaGreatDoor
/- Texts that calls make out of rows of bytes: a sector of 00s, a text with 00s behind it. -/
namespace Go.Proofs.YtoacmingocmaaaaGreatDoor
open Go Go.RowKit Go.Lib
namespace M
theorem push_all : ∀ (l : List UInt8) (r : List UInt8), (l.map fun b => (b.toNat : Int)).foldl (fun (r : ByteArray) n => r.push (UInt8.ofNat n.toNat)) ⟨r.toArray⟩ = ⟨(r ++ l).toArray⟩
  | [], r => by simp
  | b :: l, r => by
    simp only [List.map_cons, List.foldl_cons]
    have e : (⟨r.toArray⟩ : ByteArray).push (UInt8.ofNat (b.toNat : Int).toNat) = ⟨(r ++ [b]).toArray⟩ := by
      simp [ByteArray.push, UInt8.ofNat_toNat]
    rw [e, push_all l (r ++ [b]), List.append_assoc]
    rfl
theorem run_text (w : World) (a : Addr) (l : List UInt8) (cap : Nat) (h : ∀ j, j < l.length → w.cell? (a.add j) = some (.int .u8 ((l.getD j 0).toNat : Int))) :
    (convert 64 9 (.slice (some a) l.length cap)).run Tryz.prog w = .ok (.string ⟨l.toArray⟩) w := by
  rw [run_convert_bytes_string w _ _ _ _ _ _ Tryz.underlying64 Tryz.underlying5 Tryz.underlying9]
  rw [run_bytesToString w a l.length cap (l.map fun b => (b.toNat : Int))]
  · rw [show ByteArray.empty = ⟨([] : List UInt8).toArray⟩ from rfl, push_all]
    rfl
  · have hl := run_loadCells_list (P := Tryz.prog) (w := w) a ((l.map fun b => (b.toNat : Int)).map (Value.int .u8)) (fun j v hj => by
      have hlt : j < l.length := by have := (List.getElem?_eq_some_iff.1 hj).1; simpa using this
      rw [h j hlt, ← hj, List.getD_eq_getElem?_getD, List.getElem?_eq_getElem hlt]
      simp [hlt])
    simpa using hl
/-- A row of bytes as a text. -/
theorem run_row_text {w : World} {g : Nat} {cs : Array Value} {t : TypeId} (l : List UInt8) (n cap : Nat) (h : w.heap[g]? = some (.cells cs t (0, 0))) (hl : l.length = n) (hc : ∀ k, k < n → cs[k]? = some (.int .u8 ((l.getD k 0).toNat : Int))) :
    (convert 64 9 (.slice (some ⟨g, 0, none⟩) n cap)).run Tryz.prog w = .ok (.string ⟨l.toArray⟩) w := by
  subst hl
  refine run_text w _ l cap fun j hj => ?_
  rw [Addr.add_lit, Nat.zero_add, cell_of_row w g j _ _ _ h, hc j hj]
theorem info_u8 : (Tryz.prog.info? 5).map (fun i => (i.zero, i.size, i.bytes)) = some (some (.int .u8 0), 1, 1) := by kernel_rfl
theorem run_made8 (n : Nat) (hn : n ≤ 1000000000) (w : World) :
    (Instr.makeSlice 64 (.int .i64 (n : Int)) (.int .i64 (n : Int))).run Tryz.prog w = .ok (.slice (some ⟨w.heap.size, 0, none⟩) n n) (w.alloc (.cells (madeCells #[.int .u8 0] n) 5)) := by
  obtain ⟨i0, hi, hz0, hz1, hz2⟩ := info_parts info_u8
  have hr := run_make (P := Tryz.prog) w 64 5 i0 (.int .u8 0) Tryz.underlying64 hi hz0 .i64 .i64 n n (by omega) (by omega) (by rw [hz2]; omega) (by omega)
  simp only [Int.toNat_natCast, hz1, Nat.mul_one] at hr
  exact hr
theorem made_get (n k : Nat) (h : k < n) : (madeCells #[.int .u8 0] n)[k]? = some (.int .u8 0) := by simp [madeCells, h, Nat.mod_one]
theorem made_size (n : Nat) : (madeCells #[.int .u8 0] n).size = n := by rw [size_madeCells]
theorem below_row {B : Nat} (w : World) (g : Nat) (cs : Array Value) (hB : B ≤ g) : Below B w (w.setRow g cs) := ⟨rfl, rfl, rfl, by simp [World.setRow], fun k hk => setRow_other w g k cs (by omega)⟩
/-- The text of n 00s. -/
theorem run_zeros {w : World} {g n cap : Nat} {t : TypeId} (h : w.heap[g]? = some (.cells (madeCells #[.int .u8 0] n) t (0, 0))) :
    (convert 64 9 (.slice (some ⟨g, 0, none⟩) n cap)).run Tryz.prog w = .ok (.string ⟨(List.replicate n (0 : UInt8)).toArray⟩) w := by
  refine run_row_text _ _ _ h List.length_replicate fun k hk => ?_
  rw [made_get n k hk, List.getD_eq_getElem?_getD, List.getElem?_replicate, if_pos hk]
  rfl
set_option maxRecDepth 100000 in
theorem padded_any (s : List UInt8) (hs : s.length ≤ 512) : RetB 41 #[.string ⟨s.toArray⟩] (.string ⟨(MM.full s).toArray⟩) := fun W => by
  have hm : (Instr.makeSlice 64 (.int .i64 512) (.int .i64 512)).run Tryz.prog W = .ok (.slice (some ⟨W.heap.size, 0, none⟩) 512 512) (W.alloc (.cells (madeCells #[.int .u8 0] 512) 5)) := run_made8 512 (by omega) W
  have hb1 := below_box W (.cells (madeCells #[.int .u8 0] 512) 5)
  have hg := heap_alloc_new W (.cells (madeCells #[.int .u8 0] 512) 5)
  have hsz : (⟨s.toArray⟩ : ByteArray).size = s.length := by simp [Lib.size_eq]
  have hcp := fun ty => run_copy_row_string (P := Tryz.prog) (W.alloc (.cells (madeCells #[.int .u8 0] 512) 5)) 64 9 ty 5 W.heap.size 0 512 512 ⟨s.toArray⟩ (madeCells #[.int .u8 0] 512) 5 Tryz.underlying64 (by kernel_rfl) hg (by rw [hsz]; exact hs) (by rw [hsz, made_size]; omega)
  have hcells : ∀ k, k < 512 → ((((madeCells #[.int .u8 0] 512).toList.take 0 ++ byteCells s ++ (madeCells #[.int .u8 0] 512).toList.drop (0 + (⟨s.toArray⟩ : ByteArray).size)).toArray : Array Value)[k]? = some (.int .u8 (((MM.full s).getD k 0).toNat : Int))) := fun k hk => by
    rw [hsz, List.take_zero, List.nil_append, Nat.zero_add]
    simp only [List.getElem?_toArray]
    by_cases h : k < s.length
    · rw [List.getElem?_append_left (by rw [byteCells_length]; exact h)]
      unfold byteCells MM.full
      rw [List.getD_eq_getElem?_getD, List.getElem?_append_left h, List.getElem?_map, List.getElem?_eq_getElem h]
      rfl
    · rw [List.getElem?_append_right (by rw [byteCells_length]; omega), byteCells_length, List.getElem?_drop, Array.getElem?_toList, made_get 512 _ (by omega)]
      unfold MM.full
      rw [List.getD_eq_getElem?_getD, List.getElem?_append_right (by omega), List.getElem?_replicate, if_pos (by omega)]
      rfl
  have hlen := MM.full_len hs
  have hrow := setRow_heap (W.alloc (.cells (madeCells #[.int .u8 0] 512) 5)) W.heap.size (madeCells #[.int .u8 0] 512) ((madeCells #[.int .u8 0] 512).toList.take 0 ++ byteCells s ++ (madeCells #[.int .u8 0] 512).toList.drop (0 + (⟨s.toArray⟩ : ByteArray).size)).toArray _ (0, 0) hg
  have hcv := fun cap => run_row_text (MM.full s) 512 cap hrow hlen hcells
  have HB := Lib.hid (hb1.trans (below_row (B := W.heap.size) (W.alloc (.cells (madeCells #[.int .u8 0] 512) 5)) W.heap.size ((madeCells #[.int .u8 0] 512).toList.take 0 ++ byteCells s ++ (madeCells #[.int .u8 0] 512).toList.drop (0 + (⟨s.toArray⟩ : ByteArray).size)).toArray (Nat.le_refl _)))
  clear hcells hlen hrow hg hb1 hsz
  generalize ((madeCells #[.int .u8 0] 512).toList.take 0 ++ byteCells s ++ (madeCells #[.int .u8 0] 512).toList.drop (0 + (⟨s.toArray⟩ : ByteArray).size)).toArray = cs at *
  have hcp2 := hcp 3
  clear hcp
  generalize hw1 : W.alloc (.cells (madeCells #[.int .u8 0] 512) 5) = w1 at *
  generalize w1.setRow W.heap.size cs = w2 at *
  generalize MM.full s = z at *
  generalize W.heap.size = g at *
  clear hw1
  go_enter Tryz.func41, Tryz.ntmps41
  go_wp2_with (at_builtin; refine Lib.wpList_copy_run _ rfl _ _ 64 9 rfl _ _ rfl rfl hcp2 ?_)
  go_ret
  exact ⟨rfl, HB.out⟩
end M
end Go.Proofs.YtoacmingocmaaaaGreatDoor
/- The walks of what only looks at a disk: a new one, how many writes wait, whether it is dead, a sector on the platter. -/
namespace Go.Proofs.YtoacmingocmaaaaGreatDoor
open Go Go.RowKit Go.Lib
namespace M
open MM
abbrev ptr (B : Nat) : Value := .pointer (some ⟨B, 0, none⟩)
theorem field_text (j : Int) (t : ByteArray) (w : World) : (Instr.field 77 (.agg #[.int .i64 j, .string t]) 1).run Tryz.prog w = .ok (.string t) w := by kernel_rfl
theorem exists_any (k : Int) : Ret 40 #[.int .i64 k] (.bool (sec k)) := fun W => by
  by_cases h0 : 0 ≤ k
  · by_cases h1 : k < 65536
    · have hs : sec k = true := sec_yes.2 ⟨h0, h1⟩
      rw [hs]
      go_enter Tryz.func40, Tryz.ntmps40
      go_wp2_with fail
      go_ret
      exact ⟨rfl, 0, rfl⟩
    · have hs : sec k = false := sec_no.2 (by omega)
      rw [hs]
      go_enter Tryz.func40, Tryz.ntmps40
      go_wp2_with fail
      go_ret
      exact ⟨rfl, 0, rfl⟩
  · have hs : sec k = false := sec_no.2 (by omega)
    rw [hs]
    go_enter Tryz.func40, Tryz.ntmps40
    go_wp2_with fail
    go_ret
    exact ⟨rfl, 0, rfl⟩
theorem new_any (w : World) : Calls Tryz.prog 7 #[] w fun e w' => ∃ B F, e = .returned (ptr B) ∧ Dk w' F B 0 Dsk.new ∧ (∀ k, F k → w.heap.size ≤ k) ∧ Below w.heap.size w w' := by
  go_enter Tryz.func7, Tryz.ntmps7
  go_wp2_with fail
  go_ret
  refine ⟨w.heap.size, fun k => k = w.heap.size, rfl, ⟨Wf.new, ⟨_, _, _, _, 0, heap_alloc_new _ _, fun _ => ⟨rfl, fun _ h => (by cases h)⟩, CacheAt.nil _, .inl ⟨rfl, fun _ => rfl⟩, Nat.le_refl _, fun g h => (by cases h), fun g h => (by cases h)⟩, rfl, fun k hk => by rw [hk]; simp, by omega⟩, fun k hk => by rw [hk]; exact Nat.le_refl _, below_box _ _⟩
section
variable {w : World} {F : Nat → Prop} {B N : Nat} {s : Dsk}
theorem waits_any (h : Dk w F B N s) : Calls Tryz.prog 16 #[ptr B] w fun e w' => e = .returned (.int .i64 (s.c.length : Int)) ∧ w' = w := by
  obtain ⟨m, v, fu, le, n, h1⟩ := h.lies
  obtain ⟨_, c1, _⟩ := box_cells h1.box
  have hc := h1.cache.rd
  generalize s.c = c at *
  clear h h1
  rcases hc with ⟨rfl, rfl⟩ | ⟨g, cap, rfl, _⟩
  · go_enter Tryz.func16, Tryz.ntmps16
    go_wp2_with fail
    go_ret
    exact ⟨rfl, rfl⟩
  · generalize c.length = l at *
    go_enter Tryz.func16, Tryz.ntmps16
    go_wp2_with fail
    go_ret
    exact ⟨rfl, rfl⟩
theorem dead_any (h : Dk w F B N s) : Calls Tryz.prog 45 #[ptr B] w fun e w' => e = .returned (.bool s.dead) ∧ w' = w := by
  obtain ⟨m, v, fu, le, n, h1⟩ := h.lies
  obtain ⟨_, _, _, _, c4, _⟩ := box_cells h1.box
  generalize s.dead = d at *
  clear h h1
  go_enter Tryz.func45, Tryz.ntmps45
  go_wp2_with fail
  go_ret
  exact ⟨rfl, rfl⟩
set_option maxRecDepth 100000 in
theorem platter_any (h : Dk w F B N s) (k : Int) : Calls Tryz.prog 14 #[ptr B, .int .i64 k] w fun e w' => e = .returned (.string ⟨(s.platter k).toArray⟩) ∧ Below w.heap.size w w' := by
  obtain ⟨m, v, fu, le, n, h1⟩ := h.lies
  obtain ⟨c0, _⟩ := box_cells h1.box
  have HE := exists_any k
  unfold Dsk.platter
  by_cases hk : sec k = true
  · rw [hk] at HE ⊢
    simp only [if_true]
    obtain ⟨val, t, hl, hv, ht, hs⟩ : ∃ (val : Value) (t : By), (∀ i, (Instr.lookup 54 m (.int .i64 k) false).run Tryz.prog (w.drewN i) = .ok val (w.drewN i)) ∧ (∃ j, val = .agg #[.int .i64 j, .string ⟨t.toArray⟩]) ∧ full t = s.p k ∧ t.length ≤ 512 := by
      rcases h1.plat with ⟨rfl, hz⟩ | ⟨m, rfl, hm⟩
      · exact ⟨_, [], fun i => look_none hk, ⟨_, rfl⟩, by rw [full_nil, hz], by simp⟩
      · have hlk := fun i => (hm.of (w' := w.drewN i) rfl).look hk
        unfold stands at hlk
        by_cases hz : s.p k = zero
        · simp only [if_pos hz] at hlk
          exact ⟨_, [], hlk, ⟨_, rfl⟩, by rw [full_nil, hz], by simp⟩
        · simp only [if_neg hz] at hlk
          have := h.wf.p.len k
          exact ⟨_, s.p k, hlk, ⟨_, rfl⟩, full_same this, by omega⟩
    obtain ⟨j, rfl⟩ := hv
    have HP := padded_any t hs
    rw [ht] at HP
    have hft := fun w => field_text j ⟨t.toArray⟩ w
    generalize s.p k = z at *
    clear h h1 hs ht
    go_enter Tryz.func14, Tryz.ntmps14
    go_wp2_with (first
      | (go_at_call 40; (with_reducible refine (HE.at _).mono ?_); rintro e w' ⟨rfl, n1, rfl⟩)
      | (go_at_call 41; (with_reducible refine (HP.at _).mono ?_); rintro e w2 ⟨rfl, hb2⟩))
    go_ret
    exact ⟨rfl, bnext (below_drewN w n1) hb2⟩
  · have hk : sec k = false := by simpa using hk
    rw [hk] at HE ⊢
    go_enter Tryz.func14, Tryz.ntmps14
    go_wp2_with (go_at_call 40; (with_reducible refine (HE.at _).mono ?_); rintro e w' ⟨rfl, n1, rfl⟩)
    go_ret
    exact ⟨rfl, below_drewN _ _⟩
end
end M
end Go.Proofs.YtoacmingocmaaaaGreatDoor
/- The walks of what turns a disk's fuse: Fuse, Start, whether the fuse has run out. -/
namespace Go.Proofs.YtoacmingocmaaaaGreatDoor
open Go Go.RowKit Go.Lib
namespace M
open MM
section
variable {w w' : World} {F : Nat → Prop} {B N : Nat} {s s' : Dsk} {m v : Value} {fu : Bool} {le : Int} {n : Nat}
theorem Lies.vB (h : Lies w F B N s m v fu le n) : v.ownBlock ≠ some B := fun e => by
  have hb := h.box
  rcases h.cache.rd with ⟨rfl, _⟩ | ⟨g, cap, rfl, _, _, ⟨cs, hg⟩, _⟩
  · cases e
  · obtain rfl : g = B := by simpa [Value.ownBlock] using e
    rw [hg] at hb
    injection hb with hb
    injection hb with _ ht _
    exact absurd ht (by decide)
theorem Lies.mB (h : Lies w F B N s m v fu le n) : m ≠ .map (some B) := fun e => by
  have hb := h.box
  rcases h.plat with ⟨rfl, _⟩ | ⟨g, rfl, D, ⟨es, clock, hg, _⟩, _⟩
  · cases e
  · obtain rfl : g = B := by simpa using e
    rw [hg] at hb
    cases hb
/-- The struct's own cells alone have turned. -/
theorem Lies.set (h : Lies w F B N s m v fu le n) (hd : Dk w F B N s) (hp : s'.p = s.p) (hc : s'.c = s.c) {fu' : Bool} {le' : Int} (hb : w'.heap[B]? = some (.cells #[m, v, .bool fu', .int .i64 le', .bool s'.dead] 57 (0, 0)))
    (hf : FuseAt s' fu' le') (e : ∀ k, k ≠ B → w'.heap[k]? = w.heap[k]?) (hs : w.heap.size ≤ w'.heap.size) : Dk w' F B N s' := by
  refine ⟨⟨hp ▸ hd.wf.p, hc ▸ hd.wf.c⟩, ⟨m, v, fu', le', n, hb, hf, ?_, ?_, ?_, h.vF, h.mF⟩, hd.FB, fun k hk => Nat.lt_of_lt_of_le (hd.old k hk) hs, hd.N⟩
  · rw [hc]; exact h.cache.of fun g hg => e g (fun e' => h.vB (e' ▸ hg))
  · rw [hp]; exact h.plat.of fun g hg => e g (fun e' => h.mB (e' ▸ hg))
  · rw [hc]; exact h.few
theorem set_other (w : World) (B j : Nat) (u : Value) {k : Nat} (hk : k ≠ B) : (w.setCell ⟨B, j, none⟩ u).heap[k]? = w.heap[k]? := Below.heap_setCell w ⟨B, j, none⟩ u k hk
theorem box_set {w : World} {B : Nat} {cs : Array Value} {t : TypeId} (h : w.heap[B]? = some (.cells cs t (0, 0))) (j : Nat) (u : Value) : (w.setCell ⟨B, j, none⟩ u).heap[B]? = some (.cells (cs.setIfInBounds j u) t (0, 0)) := heap_setCell_same w B j cs t u h
set_option maxRecDepth 100000 in
theorem fuse_any (h : Dk w F B N s) (k : Int) (hk9 : k ≤ 9223372036854775807) : Calls Tryz.prog 19 #[ptr B, .int .i64 k] w fun e w' => e = .returned (.tuple #[]) ∧ Dk w' F B N (s.setFuse k) ∧ Chg F w w' := by
  obtain ⟨m, v, fu, le, n, h1⟩ := h.lies
  have hb := h1.box
  obtain ⟨c0, c1, c2, c3, c4, fr⟩ := box_cells hb
  have H := Lib.hid h
  have H1 := Lib.hid h1
  have HB := Lib.hid hb
  clear h h1 hb
  go_enter Tryz.func19, Tryz.ntmps19
  go_wp2_with fail
  go_end0
  refine ⟨rfl, H1.out.set H.out rfl rfl (box_set (box_set HB.out 2 _) 3 _) (fun _ => ?_) (fun j hj => (set_other _ _ _ _ hj).trans (set_other _ _ _ _ hj)) (by simp), ((Chg.refl F w).setCell (.inl H.out.FB) _).setCell (.inl H.out.FB) _⟩
  unfold Dsk.setFuse
  by_cases hk : 0 ≤ k
  · simp [hk]; omega
  · simp [hk]
set_option maxRecDepth 100000 in
theorem start_any (h : Dk w F B N s) : Calls Tryz.prog 21 #[ptr B] w fun e w' => e = .returned (.tuple #[]) ∧ Dk w' F B N s.start ∧ Chg F w w' := by
  obtain ⟨m, v, fu, le, n, h1⟩ := h.lies
  have hb := h1.box
  obtain ⟨c0, c1, c2, c3, c4, fr⟩ := box_cells hb
  have H := Lib.hid h
  have H1 := Lib.hid h1
  have HB := Lib.hid hb
  clear h h1 hb
  go_enter Tryz.func21, Tryz.ntmps21
  go_wp2_with fail
  go_end0
  exact ⟨rfl, H1.out.set H.out rfl rfl (box_set (box_set HB.out 4 _) 2 _) (fun _ => ⟨rfl, fun _ h => (by cases h)⟩) (fun j hj => (set_other _ _ _ _ hj).trans (set_other _ _ _ _ hj)) (by simp), ((Chg.refl F w).setCell (.inl H.out.FB) _).setCell (.inl H.out.FB) _⟩
/-- Whether the fuse has run out, asked of a disk that is not dead. -/
def outB (s : Dsk) : Bool := decide (s.fuse = some 0)
def outS (s : Dsk) : Dsk := if s.fuse = some 0 then s.died else s.burnt
set_option maxRecDepth 100000 in
theorem runOut_any (h : Dk w F B N s) (hd : s.dead = false) : Calls Tryz.prog 49 #[ptr B] w fun e w' => e = .returned (.bool (outB s)) ∧ Dk w' F B N (outS s) ∧ Chg F w w' := by
  obtain ⟨m, v, fu, le, n, h1⟩ := h.lies
  have hb := h1.box
  obtain ⟨hfu, hle⟩ := h1.fuse hd
  rw [hd] at hb
  obtain ⟨c0, c1, c2, c3, c4, fr⟩ := box_cells hb
  have H := Lib.hid h
  have H1 := Lib.hid h1
  have HB := Lib.hid hb
  clear h h1 hb
  unfold outB outS
  cases hs : s.fuse with
  | none =>
    rw [hs] at hfu
    simp only [Option.isSome] at hfu
    subst hfu
    have e1 : s.burnt = s := by unfold Dsk.burnt; rw [hs]; cases s; simp_all
    simp only [e1, reduceCtorEq, if_false, decide_false]
    go_enter Tryz.func49, Tryz.ntmps49
    go_wp2_with fail
    go_ret
    exact ⟨rfl, H.out, .refl F w⟩
  | some i =>
    rw [hs] at hfu
    simp only [Option.isSome] at hfu
    obtain ⟨hle, hi9⟩ := hle i hs
    subst hfu hle
    by_cases h0 : i = 0
    · subst h0
      simp only [if_true, decide_true]
      go_enter Tryz.func49, Tryz.ntmps49
      go_wp2_with fail
      go_ret
      exact ⟨rfl, H1.out.set H.out rfl rfl (box_set (box_set HB.out 4 _) 3 _) (fun hx => by cases hx) (fun j hj => (set_other _ _ _ _ hj).trans (set_other _ _ _ _ hj)) (by simp), ((Chg.refl F w).setCell (.inl H.out.FB) _).setCell (.inl H.out.FB) _⟩
    · have hi : ¬ (i : Int) = 0 := by omega
      have HIE : Hid (((i : Int) == 0) = false) := Lib.hid (by simpa using hi)
      have hne : ¬ (some i = some 0) := by simpa using h0
      simp only [if_neg hne, decide_eq_false hne]
      have hw : IntKind.i64.wrap ((i : Int) - 1) = ((i - 1 : Nat) : Int) := by simp [IntKind.wrap, IntKind.bits, IntKind.signed]; omega
      go_enter Tryz.func49, Tryz.ntmps49
      go_wp2_with fail
      go_ret
      simp only [HIE.out]
      refine ⟨rfl, H1.out.set H.out (fu' := true) (le' := ((i - 1 : Nat) : Int)) rfl rfl (by rw [show s.burnt.dead = false from hd]; exact box_set (box_set HB.out 4 _) 3 _) (fun _ => ⟨?_, fun j hj => ?_⟩) (fun j hj => (set_other _ _ _ _ hj).trans (set_other _ _ _ _ hj)) (by simp), ((Chg.refl F w).setCell (.inl H.out.FB) _).setCell (.inl H.out.FB) _⟩
      · simp [Dsk.burnt, hs]
      · simp [Dsk.burnt, hs] at hj
        subst hj
        exact ⟨rfl, by omega⟩
end
end M
end Go.Proofs.YtoacmingocmaaaaGreatDoor

/- The texts WirOpen2, WirAsksA, one behind the other. -/
import Derived.Test.YtaijnejbffnfpaaWB1
import Derived.Test.YtaijnejbffnfpaaWB7
import Derived.Deep.Slices
import Derived.ChangeSame
import Derived.ChangeArms
import Derived.Deep.Fields
/- How things, and rows of things, that come in are opened. -/
namespace Go.Proofs.Ytaijnejbffnfpaa
open Go.ChangeShapes Go.WideShapes Go.ChangeAt Go.RowKit Go.Deep
section
variable {H : Type} {enc : TypeId × Value → H} {P : Program} {w : World} {base : Nat} {spare : Nat → Bool} {held : Bool}
def FieldsRead (enc : TypeId × Value → H) (P : Program) (w : World) (base : Nat) (spare : Nat → Bool) (held : Bool) (fs : Array Field) (cs : Array Value) : Prop :=
  ∀ (i : Nat) (f : Field), fs[i]? = some f → ∃ (c : Value) (y : DataW H × List MemPlace) (n : Nat), cs[i]? = some c ∧ DataW.trod enc P w base spare held n f.type [c] = some y
theorem open_fields {r : Reach} {b0 : Nat} {t : TypeId} {fs : Array Field} {v : Value} {d : DataW H} {p : List MemPlace} (hs : P.underlying t = some (.struct fs)) (hone : oneCellFields P fs = true) (hC : P.cellsOf t = fs.size)
    (hv : Value.okWide P w r b0 t v) (h : DataW.Trod enc P w base spare held t v d p) :
    ∃ cs : Array Value, v = .agg cs ∧ cs.size = fs.size ∧ FieldsRead enc P w base spare held fs cs := by
  obtain ⟨cs, rfl, hsz⟩ := okWide_struct hs hv
  refine ⟨cs, rfl, hsz.trans hC, fun i f hi => ?_⟩
  obtain ⟨fuel, hf⟩ := h
  obtain ⟨xs, n, _, _, _, hlen, hg⟩ := DataW.trod_struct hs hf
  obtain ⟨o, k⟩ := hone_of hone i f hi
  have hil : i < fs.size := (Array.getElem?_eq_some_iff.1 hi).1
  have hic : i < cs.size := by rw [hsz, hC]; exact hil
  have h1 := hg i f hi
  rw [o, k] at h1
  have e : ((Value.cells (.agg cs)).toList.drop i).take 1 = [cs[i]] := by
    have : (Value.cells (.agg cs)).toList = cs.toList := by simp [Value.cells]
    rw [this, List.drop_eq_getElem_cons (by simpa using hic)]
    simp
  rw [e, List.getElem?_eq_getElem (by omega)] at h1
  exact ⟨cs[i], _, n, Array.getElem?_eq_getElem hic, h1⟩
end
instance : Inhabited Th := ⟨⟨0, 0, [], none, 0, 0, fun _ => 0, 0⟩⟩
namespace M
/-- A row of things that came in. -/
def ThingsIn (w : World) (v : Value) : Prop := ∃ (ao : Option Addr) (n c : Nat) (f : Nat → Th), v = .slice ao n c ∧ n ≤ 9223372036854775807 ∧
  ∀ i, i < n → (f i).Ok ∧ Rd w (f i).ao (f i).len (f i).z ∧ ∃ a, ao = some a ∧ ∀ (j : Nat) (u : Value), (f i).cells[j]? = some u → w.cell? (a.add (i * 5 + j)) = some u
section
variable {H : Type} {enc : TypeId × Value → H} {w : World} {base : Nat} {held : Bool}
set_option maxRecDepth 100000 in
/-- Five cells that read as a thing. -/
theorem thing_of {spare : Nat → Bool} {n : Nat} {u0 u1 u2 u3 u4 : Value} {y0 y1 y2 y3 y4 : DataW H × List MemPlace}
    (h0 : DataW.trod enc Try.prog w base spare held n 5 [u0] = some y0) (h1 : DataW.trod enc Try.prog w base spare held n 26 [u1] = some y1) (h2 : DataW.trod enc Try.prog w base spare held n 9 [u2] = some y2)
    (h3 : DataW.trod enc Try.prog w base spare held n 35 [u3] = some y3) (h4 : DataW.trod enc Try.prog w base spare held n 3 [u4] = some y4) :
    ∃ t : Th, t.cells = #[u0, u1, u2, u3, u4] ∧ t.Ok ∧ Rd w t.ao t.len t.z := by
  obtain ⟨k, e0, _, w0⟩ := DataW.trod_int Try.underlying5 h0
  obtain ⟨m, e1, _, w1⟩ := DataW.trod_int Try.underlying26 h1
  obtain ⟨s, e2, _, w2⟩ := DataW.trod_string Try.underlying9 h2
  obtain ⟨v, e3, ao, len, c, z, rfl, _, hl, hz, hr, _⟩ := trod_nums h3
  obtain ⟨b, e4, _, w4⟩ := DataW.trod_int Try.underlying3 h4
  obtain rfl := List.cons.inj e0 |>.1
  obtain rfl := List.cons.inj e1 |>.1
  obtain rfl := List.cons.inj e2 |>.1
  obtain rfl := List.cons.inj e3 |>.1
  obtain rfl := List.cons.inj e4 |>.1
  obtain ⟨k0, k1⟩ := u8_bounds w0
  obtain ⟨m0, m1⟩ := u64_bounds w1
  obtain ⟨_, b1⟩ := i64_bounds w4
  obtain ⟨k, rfl⟩ : ∃ a : Nat, k = a := ⟨k.toNat, by omega⟩
  obtain ⟨m, rfl⟩ : ∃ a : Nat, m = a := ⟨m.toNat, by omega⟩
  refine ⟨⟨k, m, s.data.toList, ao, len, c, z, b⟩, ?_, ⟨by show k < 256; omega, by show m < _; omega, hz, b1, by unfold maxLen at w2; rw [← Lib.size_eq]; exact w2, hl⟩, hr⟩
  show #[Value.int .u8 (k : Int), .int .u64 (m : Int), .string ⟨s.data.toList.toArray⟩, .slice ao len c, .int .i64 b] = _
  rw [Lib.mk_data]
theorem open_thing {spare : Nat → Bool} {r : Reach} {b0 : Nat} {v : Value} {d : DataW H} {pl : List MemPlace} (hv : Value.okWide Try.prog w r b0 45 v) (h : DataW.Trod enc Try.prog w base spare held 45 v d pl) :
    ∃ t : Th, v = .agg t.cells ∧ t.Ok ∧ Rd w t.ao t.len t.z := by
  obtain ⟨cs, rfl, hsz, hfs⟩ := open_fields Try.underlying45 (by kernel_rfl) (by kernel_rfl) hv h
  obtain ⟨c0, y0, n0, hc0, ht0⟩ := hfs 0 _ rfl
  obtain ⟨c1, y1, n1, hc1, ht1⟩ := hfs 1 _ rfl
  obtain ⟨c2, y2, n2, hc2, ht2⟩ := hfs 2 _ rfl
  obtain ⟨c3, y3, n3, hc3, ht3⟩ := hfs 3 _ rfl
  obtain ⟨c4, y4, n4, hc4, ht4⟩ := hfs 4 _ rfl
  have le : ∀ {m : Nat} {t : TypeId} {c : Value} {y : DataW H × List MemPlace}, m ≤ n0 + n1 + n2 + n3 + n4 → DataW.trod enc Try.prog w base spare held m t [c] = some y → DataW.trod enc Try.prog w base spare held (n0 + n1 + n2 + n3 + n4) t [c] = some y := fun hm h => DataW.trod_le hm h
  obtain ⟨t, e, ok, rd⟩ := thing_of (le (by omega) ht0) (le (by omega) ht1) (le (by omega) ht2) (le (by omega) ht3) (le (by omega) ht4)
  have hcs : cs = t.cells := by
    rw [e]
    apply Array.ext_getElem?
    intro i
    match i with
    | 0 => rw [hc0]; rfl
    | 1 => rw [hc1]; rfl
    | 2 => rw [hc2]; rfl
    | 3 => rw [hc3]; rfl
    | 4 => rw [hc4]; rfl
    | i + 5 => rw [Array.getElem?_eq_none (by rw [hsz]; show 5 ≤ i + 5; omega), Array.getElem?_eq_none (by show 5 ≤ i + 5; omega)]
  exact ⟨t, by rw [hcs], ok, rd⟩
set_option maxRecDepth 100000 in
theorem open_things {spare : Nat → Bool} {r : Reach} {b0 : Nat} {v : Value} {d : DataW H} {pl : List MemPlace} (hv : Value.okWide Try.prog w r b0 55 v) (h : DataW.Trod enc Try.prog w base spare held 55 v d pl) : ThingsIn w v := by
  obtain ⟨ad, len0, cap0, rfl⟩ := okWide_slice Try.underlying55 hv
  obtain ⟨fuel, hf⟩ := h
  rcases open_slice Try.underlying55 hf with ⟨hcs, _⟩ | ⟨a, len, cap, m, n, D, Pl, hcs, _, hl, hm, hmm, _, hx⟩
  · simp [Value.cells] at hcs
    obtain ⟨rfl, rfl, rfl⟩ := hcs
    exact ⟨none, 0, 0, fun _ => default, rfl, by omega, fun i hi => absurd hi (by omega)⟩
  · simp [Value.cells] at hcs
    obtain ⟨rfl, rfl, rfl⟩ := hcs
    have hle : len0 ≤ m := by rw [hmm]; split <;> omega
    unfold maxLen at hm
    have c0 : Try.prog.cellsOf 5 = 1 := by kernel_rfl
    have c1 : Try.prog.cellsOf 26 = 1 := by kernel_rfl
    have c2 : Try.prog.cellsOf 9 = 1 := by kernel_rfl
    have c3 : Try.prog.cellsOf 35 = 1 := by kernel_rfl
    have c4 : Try.prog.cellsOf 3 = 1 := by kernel_rfl
    have each : ∀ i, i < len0 → ∃ t : Th, t.Ok ∧ Rd w t.ao t.len t.z ∧ ∀ (j : Nat) (u : Value), t.cells[j]? = some u → w.cell? (a.add (i * 5 + j)) = some u := fun i hi => by
      obtain ⟨cs', h1, h2⟩ := hx i (by omega)
      rw [show Try.prog.cellsOf 45 = 5 by kernel_rfl] at h1
      obtain ⟨_, hlen, hcell⟩ := World.cells?_some h1
      obtain ⟨xs, k, hk, hxy, _, hxl, hf⟩ := DataW.trod_struct Try.underlying45 h2
      match xs, hxl, cs', hlen with
      | [y0, y1, y2, y3, y4], _, [v0, v1, v2, v3, v4], _ =>
        have g0 := hf 0 _ rfl
        have g1 := hf 1 _ rfl
        have g2 := hf 2 _ rfl
        have g3 := hf 3 _ rfl
        have g4 := hf 4 _ rfl
        obtain ⟨t, e, ok, rd⟩ := thing_of (by simpa [c0] using g0) (by simpa [c1] using g1) (by simpa [c2] using g2) (by simpa [c3] using g3) (by simpa [c4] using g4)
        refine ⟨t, ok, rd, fun j u hu => ?_⟩
        rw [e] at hu
        have hj : j < 5 := by have := (Array.getElem?_eq_some_iff.1 hu).1; simpa using this
        have h3 := hcell j hj
        rw [add_add] at h3
        rw [h3, ← hu]
        match j, hj with
        | 0, _ => rfl
        | 1, _ => rfl
        | 2, _ => rfl
        | 3, _ => rfl
        | 4, _ => rfl
    obtain ⟨f, hf⟩ := choose_lt each
    exact ⟨some a, len0, cap0, f, rfl, by omega, fun i hi => ⟨(hf i hi).1, (hf i hi).2.1, a, rfl, (hf i hi).2.2⟩⟩
end
end M
end Go.Proofs.Ytaijnejbffnfpaa
/- What the loop of questions carries along. -/
namespace Go.Proofs.Ytaijnejbffnfpaa
open Go Go.RowKit Go.Lib
namespace M
/-- Both readers stand alike. -/
structure InA (W : World) (g x : Nat) (s : List UInt8) (e : Int) (w : World) : Prop where
  rg : RAt WR g s e w
  rx : RAt XR x s e w
  below : Below W.heap.size W w
  hg : W.heap.size ≤ g
  hx : W.heap.size ≤ x
  ne : g ≠ x
  ok : e ≠ 0 → s = []
section
variable {W w w1 w2 : World} {g x : Nat} {s s' : List UInt8} {e e' : Int}
theorem InA.mid (h : InA W g x s e w) (ht : Turn g w w1) : RAt XR x s e w1 := h.rx.turn ht (fun e => h.ne e.symm)
theorem InA.next (h : InA W g x s e w) (hr : RAt WR g s' e' w1) (ht : Turn g w w1) (hrx : RAt XR x s' e' w2) (htx : Turn x w1 w2) (hok : e' ≠ 0 → s' = []) : InA W g x s' e' w2 :=
  ⟨hr.turn htx h.ne, hrx, (h.below.trans (ht.below h.hg h.below.size)).trans (htx.below h.hx (Nat.le_trans h.below.size ht.size)), h.hg, h.hx, h.ne, hok⟩
theorem InA.drewN (h : InA W g x s e w) (n : Nat) : InA W g x s e (w.drewN n) := ⟨h.rg, h.rx, Below.drawn h.below n, h.hg, h.hx, h.ne, h.ok⟩
theorem InA.set (h : InA W g x s e w) {B : Nat} (hB : W.heap.size ≤ B) (hg : B ≠ g) (hx : B ≠ x) (k : Nat) (v : Value) : InA W g x s e (w.setCell ⟨B, k, none⟩ v) :=
  ⟨h.rg.turn ((Turn.refl B w).set k v) (fun e => hg e.symm), h.rx.turn ((Turn.refl B w).set k v) (fun e => hx e.symm), h.below.setCell (p := ⟨B, k, none⟩) hB v, h.hg, h.hx, h.ne, h.ok⟩
theorem InA.left (h : InA W g x s e w) (n : Nat) : Calls Try.prog 19 #[.pointer (some ⟨g, 0, none⟩)] (w.drewN n) fun e' w' => e' = .returned (.int .i64 (s.length : Int)) ∧ ∃ m, w' = w.drewN m :=
  (left_any g s e _ (h.rg.drewN n)).mono fun _ _ ⟨a, b⟩ => ⟨a, n, b⟩
theorem InA.wrong (h : InA W g x s e w) (n : Nat) : Calls Try.prog 18 #[.pointer (some ⟨g, 0, none⟩)] (w.drewN n) fun e' w' => e' = .returned (.int .i64 e) ∧ ∃ m, w' = w.drewN m :=
  (wrong_any g s e _ (h.rg.drewN n)).mono fun _ _ ⟨a, b⟩ => ⟨a, n, b⟩
end
theorem ends_both {W : World} {g x : Nat} {s : List UInt8} {e : Int} (hok : e ≠ 0 → s = []) : ∃ (e2 : Int) (s2 : List UInt8), (∀ w, InA W g x s e w → Calls Try.prog 17 #[.pointer (some ⟨g, 0, none⟩)] w fun e' w' => e' = .returned (.int .i64 e2) ∧ RAt WR g s2 e2 w' ∧ Turn g w w') ∧
    (∀ w, RAt XR x s e w → Calls Try.prog 40 #[.pointer (some ⟨x, 0, none⟩)] w fun e' w' => e' = .returned (.int .i64 e2) ∧ RAt XR x s2 e2 w' ∧ Turn x w w') ∧ (e2 ≠ 0 → s2 = []) := by
  by_cases hs : s = []
  · subst hs
    refine ⟨e, [], fun w h => (end_none g e w h.rg).mono ?_, fun w h => (xend_none x e w h).mono ?_, fun _ => rfl⟩
    · rintro e' w' ⟨rfl, rfl⟩
      exact ⟨rfl, h.rg, Turn.refl _ _⟩
    · rintro e' w' ⟨rfl, rfl⟩
      exact ⟨rfl, h, Turn.refl _ _⟩
  · obtain rfl : e = 0 := Classical.byContradiction fun he => hs (hok he)
    exact ⟨10, [], fun w h => end_some g s 0 w h.rg hs, fun w h => xend_some x s w h hs, fun _ => rfl⟩
theorem ListV.form {W w' : World} {n : Nat} {z : Nat → Nat} {v : Value} (h : ListV W n z v w') : ∃ bo cp, v = .slice bo n cp ∧ (0 < n → ∃ B, bo = some ⟨B, 0, none⟩ ∧ W.heap.size ≤ B ∧ Blk B n z w') := by
  rcases h with ⟨rfl, rfl⟩ | ⟨B, rfl, hB, hb⟩
  · exact ⟨none, 0, rfl, fun h => absurd h (by omega)⟩
  · exact ⟨_, _, rfl, fun _ => ⟨B, rfl, hB, hb⟩⟩
theorem rList_le (s : List UInt8) (e : Int) : (MM.rList s e).2.1 ≤ 1024 := by
  unfold MM.rList
  split
  · simp
  · split
    · simp
    · split
      · simp
      · split
        · simp
        · rename_i h _
          exact Nat.le_of_not_lt h
theorem cell_add {w : World} {a : Addr} {i j : Nat} {v : Value} (h : w.cell? (a.add (i + j)) = some v) : w.cell? ⟨(a.add i).block, (a.add i).off + j, none⟩ = some v := by
  have e : a.add (i + j) = ⟨(a.add i).block, (a.add i).off + j, (a.add (i + j)).spot⟩ := by
    obtain ⟨b, o, sp⟩ := a
    unfold Addr.add
    by_cases h0 : i = 0
    · subst h0
      by_cases h1 : j = 0
      · subst h1; simp
      · simp [h1]
    · simp [h0, Nat.add_assoc]
  rw [e] at h
  cases hs : (a.add (i + j)).spot with
  | none => rw [hs] at h; exact h
  | some x =>
    rw [hs] at h
    unfold World.cell? at h
    simp at h
    split at h <;> cases h
theorem rOff_ok (n : Nat) (s : List UInt8) (e : Int) (h : e ≠ 0 → s = []) : (MM.rOff n s e).2.1 ≠ 0 → (MM.rOff n s e).2.2 = [] := by
  unfold MM.rOff
  split
  · exact h
  · split <;> simp
theorem rCount_ok (m : Int) (s : List UInt8) (e : Int) (h : e ≠ 0 → s = []) : (MM.rCount m s e).2.1 ≠ 0 → (MM.rCount m s e).2.2 = [] := by
  unfold MM.rCount
  split
  · exact h
  · split
    · simp
    · split <;> simp
theorem rText_ok (s : List UInt8) (e : Int) (h : e ≠ 0 → s = []) : (MM.rText s e).2.1 ≠ 0 → (MM.rText s e).2.2 = [] := by
  unfold MM.rText
  split
  · exact h
  · split
    · simp
    · split
      · simp
      · split <;> simp
theorem rList_ok (s : List UInt8) (e : Int) (h : e ≠ 0 → s = []) : (MM.rList s e).1 ≠ 0 → (MM.rList s e).2.2.2 = [] := by
  unfold MM.rList
  split
  · exact h
  · split
    · simp
    · split
      · simp
      · split <;> simp
end M
end Go.Proofs.Ytaijnejbffnfpaa

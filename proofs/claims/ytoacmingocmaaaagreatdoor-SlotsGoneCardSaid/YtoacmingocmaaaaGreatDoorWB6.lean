/- The texts DskLong, SltStx, DskBox, RobLoop, one behind the other. -/
import Derived.Test.YtoacmingocmaaaaGreatDoorWB5
import Derived.SizedLaws
import Derived.Test.YtoacmingocmaaaaGreatDoorWB1
import Derived.Test.YtoacmingocmaaaaGreatDoorWB3
import Derived.RangeFuncBox
import Derived.RangeFuncNested
import Derived.RangeFuncBound
import Derived.RangeFuncCalls
import Derived.RangeFuncLeaves
import Derived.Shelf.Abstract
import Derived.WalkKit
import Derived.OwnWalkIn
import Derived.TacticsInMore
import Derived.LoopNIn
import Derived.LoopIn
/- How big the steps that come in are; are they more than a statement goes over? -/
namespace Go.Proofs.YtoacmingocmaaaaGreatDoor
open Go.ChangeShapes Go.WideShapes Go.ChangeAt Go.RowKit Go.Deep
namespace MM
/-- How much the first steps are. -/
def sm (f : Nat → Sp) : Nat → Nat
  | 0 => 0
  | i + 1 => sm f i + (100 + (f i).s.length + (f i).keep.length)
theorem sm_ge (f : Nat → Sp) : ∀ i, 100 * i ≤ sm f i
  | 0 => Nat.le_refl _
  | i + 1 => by have := sm_ge f i; unfold sm; omega
theorem sm_each (f : Nat → Sp) : ∀ n i, i < n → 100 + (f i).s.length + (f i).keep.length ≤ sm f n
  | 0, _, h => absurd h (by omega)
  | n + 1, i, h => by
    unfold sm
    by_cases e : i = n
    · subst e; omega
    · have := sm_each f n i (by omega); omega
end MM
namespace M
/-- No text and no row of the steps is beyond the reach. -/
def StepsSm (n : Nat) (f : Nat → Sp) : Prop := ∀ i, i < n → (f i).s.length ≤ 140737488355328 ∧ (f i).keep.length ≤ 140737488355328
section
variable {H : Type} {enc : TypeId × Value → H} {w : World} {base : Nat} {held : Bool} {spare : Nat → Bool}
/-- No text and no row in it is beyond the reach. -/
def Small (d : DataW H) (t : TypeId) : Prop := ∀ n ∈ d.weights Tryz.prog t, n ≤ 140737488355328
theorem small_all {e : TypeId} : ∀ {ds : List (DataW H)}, (∀ n ∈ DataW.weightsAll Tryz.prog e ds, n ≤ 140737488355328) → ∀ d ∈ ds, Small d e
  | [], _, d, hd => by simp at hd
  | d0 :: r, h, d, hd => by
    simp only [DataW.weightsAll, List.mem_append] at h
    rcases List.mem_cons.1 hd with rfl | hd
    · exact fun n hn => h n (.inl hn)
    · exact small_all (fun n hn => h n (.inr hn)) d hd
theorem small_each {ts : List TypeId} {ds : List (DataW H)} (h : (DataW.weightsEach Tryz.prog ts ds).all (· ≤ reachBytes) = true) {j : Nat} {t : TypeId} {d : DataW H} (ht : ts[j]? = some t) (hd : ds[j]? = some d) : Small d t := fun n hn => by
  have h1 := List.all_eq_true.1 h _ (DataW.weights_mem_each ht hd n hn)
  have h2 : reachBytes ≤ 140737488355328 := by decide
  have h3 : n ≤ reachBytes := by simpa using h1
  exact Nat.le_trans h3 h2
theorem str_small {fuel : Nat} {s : ByteArray} {x : DataW H × List MemPlace} (h : DataW.trod enc Tryz.prog w base spare held fuel 9 [.string s] = some x) (hw : Small x.1 9) : s.size ≤ 140737488355328 := by
  obtain ⟨s2, e, hx, _⟩ := DataW.trod_string Tryz.underlying9 h
  subst hx
  have e2 : s = s2 := by simpa using e
  subst e2
  have := hw s.data.toList.length (by simp [DataW.weights])
  rw [Lib.size_eq]
  exact this
set_option maxRecDepth 100000 in
theorem row_small {fuel : Nat} {ao : Option Addr} {len cap : Nat} {x : DataW H × List MemPlace} (h : DataW.trod enc Tryz.prog w base spare held fuel 29 [.slice ao len cap] = some x) (hw : Small x.1 29) : len ≤ 140737488355328 := by
  rcases open_slice Tryz.underlying29 h with ⟨hcs, _⟩ | ⟨a, len0, cap0, m, n, D, Pl, hcs, _, hl, hm, hmm, hx, _⟩
  · simp at hcs
    omega
  · simp at hcs
    obtain ⟨rfl, rfl, rfl⟩ := hcs
    subst hx
    have hb : Tryz.prog.bytesOf 4 = 1 := by kernel_rfl
    have := hw ((((List.range len).map D).length + ((List.range (m - len)).map fun j => D (len + j)).length) * Tryz.prog.bytesOf 4) (by
      unfold DataW.weights
      rw [Tryz.underlying29]
      exact List.mem_cons_self ..)
    rw [hb] at this
    simp at this
    omega
theorem bools_small {ao : Option Addr} {l : List Bool} {c : Nat} {d : DataW H} {pl : List MemPlace} (h : DataW.Trod enc Tryz.prog w base spare held 29 (.slice ao l.length c) d pl) (hw : Small d 29) : l.length ≤ 140737488355328 := by
  obtain ⟨fuel, hf⟩ := h
  exact row_small (x := (d, pl)) (by simpa [Value.cells] using hf) hw
end
/-- A step of a row, as it lies. -/
theorem cell_add {w : World} {a : Addr} {i : Nat} {v : Value} (h : w.cell? (a.add i) = some v) (hs : a.spot = none) : w.cell? ⟨a.block, a.off + i, none⟩ = some v := by
  obtain ⟨b, o, s⟩ := a
  simp only at hs ⊢
  subst hs
  rwa [Addr.add_lit] at h
theorem step_range {w : World} {a : Addr} {i : Nat} {t : Sp} (h : ∀ (j : Nat) (u : Value), t.cells[j]? = some u → w.cell? (a.add (i * 5 + j)) = some u) :
    ∃ B O, a.add (i * 5) = ⟨B, O, none⟩ ∧ w.rangeAt B O t.cells.toList := by
  have h0 := h 0 _ rfl
  rw [Nat.add_zero] at h0
  cases hs : (a.add (i * 5)).spot with
  | none =>
    refine ⟨(a.add (i * 5)).block, (a.add (i * 5)).off, by rw [← hs], fun j v hv => ?_⟩
    have h1 := h j v (by simpa using hv)
    rw [← add_add] at h1
    exact cell_add h1 hs
  | some x =>
    unfold World.cell? at h0
    rw [hs] at h0
    simp at h0
    split at h0 <;> cases h0
theorem range_below {W w : World} {B O : Nat} {cs : List Value} (h : W.rangeAt B O cs) (hb : Below W.heap.size W w) : w.rangeAt B O cs := fun j v hv => by
  rw [hb.cell (World.block_lt_of_cell? W _ (h j v hv))]
  exact h j v hv
end M
end Go.Proofs.YtoacmingocmaaaaGreatDoor
/- Rows of steps of layer 11 that come in, how big they are, and whether they are more than a statement goes over. -/
namespace Go.Proofs.YtoacmingocmaaaaGreatDoor
open Go.ChangeShapes Go.WideShapes Go.ChangeAt Go.RowKit Go.Deep
/-- A step of layer 11 as it lies. -/
structure Sx where
  k : Nat
  s : List UInt8
  n : Int
  ko : Option Addr
  kc : Nat
  keep : List Bool
  at_ : Int
instance : Inhabited Sx := ⟨⟨0, [], 0, none, 0, [], 0⟩⟩
namespace Sx
abbrev cells (x : Sx) : Array Value := #[.int .u8 (x.k : Int), .string ⟨x.s.toArray⟩, .int .i64 x.n, .slice x.ko x.keep.length x.kc, .int .i64 x.at_]
structure Ok (x : Sx) : Prop where
  k : x.k < 256
  s : x.s.length ≤ 9223372036854775807
  n : x.n ≤ 9223372036854775807
  keep : x.keep.length ≤ 9223372036854775807
end Sx
namespace MM
/-- How much the first turns are. -/
def sm5 (f : Nat → Sx) : Nat → Nat
  | 0 => 0
  | i + 1 => sm5 f i + (500 + (f i).s.length + (f i).keep.length)
theorem sm5_ge (f : Nat → Sx) : ∀ i, 500 * i ≤ sm5 f i
  | 0 => Nat.le_refl _
  | i + 1 => by have := sm5_ge f i; unfold sm5; omega
theorem sm5_each (f : Nat → Sx) : ∀ n i, i < n → 500 + (f i).s.length + (f i).keep.length ≤ sm5 f n
  | 0, _, h => absurd h (by omega)
  | n + 1, i, h => by
    unfold sm5
    by_cases e : i = n
    · subst e; omega
    · have := sm5_each f n i (by omega); omega
end MM
namespace M
/-- A row of turns that came in. -/
def StxAt (w : World) (ao : Option Addr) (n : Nat) (f : Nat → Sx) : Prop := ∀ i, i < n → (f i).Ok ∧ BoolsAt w (f i).ko (f i).keep ∧ ∃ a, ao = some a ∧ ∀ (j : Nat) (u : Value), (f i).cells[j]? = some u → w.cell? (a.add (i * 5 + j)) = some u
def StxIn (w : World) (v : Value) : Prop := ∃ (ao : Option Addr) (n c : Nat) (f : Nat → Sx), v = .slice ao n c ∧ n ≤ 9223372036854775807 ∧ StxAt w ao n f
theorem StxAt.step {w w' : World} {ao : Option Addr} {n : Nat} {f : Nat → Sx} (h : StxAt w ao n f) (hb : Below w.heap.size w w') : StxAt w' ao n f := fun i hi => by
  obtain ⟨h1, h2, a, h3, h4⟩ := h i hi
  exact ⟨h1, h2.step hb, a, h3, fun j u hu => by rw [hb.cell (World.block_lt_of_cell? w _ (h4 j u hu))]; exact h4 j u hu⟩
/-- No text and no row of the turns is beyond the reach. -/
def StxSm (n : Nat) (f : Nat → Sx) : Prop := ∀ i, i < n → (f i).s.length ≤ 140737488355328 ∧ (f i).keep.length ≤ 140737488355328
section
variable {H : Type} {enc : TypeId × Value → H} {w : World} {base : Nat} {held : Bool}
set_option maxRecDepth 100000 in
theorem sx_of {spare : Nat → Bool} {n : Nat} {u0 u1 u2 u3 u4 : Value} {y0 y1 y2 y3 y4 : DataW H × List MemPlace}
    (h0 : DataW.trod enc Tryz.prog w base spare held n 5 [u0] = some y0) (h1 : DataW.trod enc Tryz.prog w base spare held n 9 [u1] = some y1) (h2 : DataW.trod enc Tryz.prog w base spare held n 3 [u2] = some y2)
    (h3 : DataW.trod enc Tryz.prog w base spare held n 29 [u3] = some y3) (h4 : DataW.trod enc Tryz.prog w base spare held n 3 [u4] = some y4) :
    ∃ t : Sx, t.cells = #[u0, u1, u2, u3, u4] ∧ t.Ok ∧ BoolsAt w t.ko t.keep := by
  obtain ⟨k, e0, _, w0⟩ := DataW.trod_int Tryz.underlying5 h0
  obtain ⟨s, e1, _, w1⟩ := DataW.trod_string Tryz.underlying9 h1
  obtain ⟨m2, e2, _, w2⟩ := DataW.trod_int Tryz.underlying3 h2
  obtain ⟨v, e3, ao, c, l, rfl, hl, hr⟩ := trod_bools h3
  obtain ⟨m4, e4, _, w4⟩ := DataW.trod_int Tryz.underlying3 h4
  obtain rfl := List.cons.inj e0 |>.1
  obtain rfl := List.cons.inj e1 |>.1
  obtain rfl := List.cons.inj e2 |>.1
  obtain rfl := List.cons.inj e3 |>.1
  obtain rfl := List.cons.inj e4 |>.1
  obtain ⟨k0, k1⟩ := u8_bounds w0
  obtain ⟨_, f2⟩ := i64_bounds w2
  obtain ⟨k, rfl⟩ : ∃ a : Nat, k = a := ⟨k.toNat, by omega⟩
  refine ⟨⟨k, s.data.toList, m2, ao, c, l, m4⟩, ?_, ⟨by show k < 256; omega, by unfold maxLen at w1; rw [← Lib.size_eq]; omega, f2, hl⟩, hr⟩
  show #[Value.int .u8 (k : Int), .string ⟨s.data.toList.toArray⟩, .int .i64 m2, .slice ao l.length c, .int .i64 m4] = _
  rw [Lib.mk_data]
set_option maxRecDepth 100000 in
theorem open_stx {spare : Nat → Bool} {r : Reach} {b0 : Nat} {v : Value} {d : DataW H} {pl : List MemPlace} (hv : Value.okWide Tryz.prog w r b0 22 v) (h : DataW.Trod enc Tryz.prog w base spare held 22 v d pl) : StxIn w v := by
  obtain ⟨ad, len0, cap0, rfl⟩ := okWide_slice Tryz.underlying22 hv
  obtain ⟨fuel, hf⟩ := h
  rcases open_slice Tryz.underlying22 hf with ⟨hcs, _⟩ | ⟨a, len, cap, m, n, D, Pl, hcs, _, hl, hm, hmm, _, hx⟩
  · simp [Value.cells] at hcs
    obtain ⟨rfl, rfl, rfl⟩ := hcs
    exact ⟨none, 0, 0, fun _ => default, rfl, by omega, fun i hi => absurd hi (by omega)⟩
  · simp [Value.cells] at hcs
    obtain ⟨rfl, rfl, rfl⟩ := hcs
    have hle : len0 ≤ m := by rw [hmm]; split <;> omega
    unfold maxLen at hm
    have c0 : Tryz.prog.cellsOf 5 = 1 := by kernel_rfl
    have c1 : Tryz.prog.cellsOf 9 = 1 := by kernel_rfl
    have c2 : Tryz.prog.cellsOf 3 = 1 := by kernel_rfl
    have c3 : Tryz.prog.cellsOf 29 = 1 := by kernel_rfl
    have each : ∀ i, i < len0 → ∃ t : Sx, t.Ok ∧ BoolsAt w t.ko t.keep ∧ ∀ (j : Nat) (u : Value), t.cells[j]? = some u → w.cell? (a.add (i * 5 + j)) = some u := fun i hi => by
      obtain ⟨cs', h1, h2⟩ := hx i (by omega)
      rw [show Tryz.prog.cellsOf 31 = 5 by kernel_rfl] at h1
      obtain ⟨_, hlen, hcell⟩ := World.cells?_some h1
      obtain ⟨xs, k, hk, hxy, _, hxl, hf⟩ := DataW.trod_struct Tryz.underlying31 h2
      match xs, hxl, cs', hlen with
      | [y0, y1, y2, y3, y4], _, [v0, v1, v2, v3, v4], _ =>
        have g0 := hf 0 _ rfl
        have g1 := hf 1 _ rfl
        have g2 := hf 2 _ rfl
        have g3 := hf 3 _ rfl
        have g4 := hf 4 _ rfl
        obtain ⟨t, e, ok, rd⟩ := sx_of (by simpa [c0] using g0) (by simpa [c1] using g1) (by simpa [c2] using g2) (by simpa [c3] using g3) (by simpa [c2] using g4)
        refine ⟨t, ok, rd, fun j u hu => ?_⟩
        rw [e] at hu
        have hj : j < 5 := by have := (Array.getElem?_eq_some_iff.1 hu).1; simpa using this
        have h3 := hcell j hj
        rw [add_add] at h3
        rw [h3, ← hu]
        match j, hj with
        | 0, _ => rfl
        | 1, _ => rfl
        | 2, _ => rfl
        | 3, _ => rfl
        | 4, _ => rfl
    obtain ⟨f, hf⟩ := choose_lt each
    exact ⟨some a, len0, cap0, f, rfl, by omega, fun i hi => ⟨(hf i hi).1, (hf i hi).2.1, a, rfl, (hf i hi).2.2⟩⟩
set_option maxRecDepth 100000 in
theorem sx_small {spare : Nat → Bool} {fuel : Nat} {t : Sx} {x : DataW H × List MemPlace} (h : DataW.trod enc Tryz.prog w base spare held fuel 31 t.cells.toList = some x) (hw : Small x.1 31) : t.s.length ≤ 140737488355328 ∧ t.keep.length ≤ 140737488355328 := by
  obtain ⟨xs, k, _, hx, _, hxl, hf⟩ := DataW.trod_struct Tryz.underlying31 h
  subst hx
  have c2 : Tryz.prog.cellsOf 9 = 1 := by kernel_rfl
  have c3 : Tryz.prog.cellsOf 29 = 1 := by kernel_rfl
  have g2 := hf 1 _ rfl
  have g3 := hf 3 _ rfl
  match xs, hxl with
  | [y0, y1, y2, y3, y4], _ =>
    have g2' : DataW.trod enc Tryz.prog w base spare held k 9 [.string ⟨t.s.toArray⟩] = some y1 := by simpa [c2] using g2
    have g3' : DataW.trod enc Tryz.prog w base spare held k 29 [.slice t.ko t.keep.length t.kc] = some y3 := by simpa [c3] using g3
    have hW : ∀ (j : Nat) (ty : TypeId) (d : DataW H), ([5, 9, 3, 29, 3] : List TypeId)[j]? = some ty → ([y0.1, y1.1, y2.1, y3.1, y4.1] : List (DataW H))[j]? = some d → Small d ty := fun j ty d hj hd n hn => by
      refine hw n ?_
      unfold DataW.weights
      rw [Tryz.underlying31]
      exact DataW.weights_mem_each (ts := [5, 9, 3, 29, 3]) hj hd n hn
    have s2 := str_small g2' (hW 1 _ _ rfl rfl)
    have s3 := row_small g3' (hW 3 _ _ rfl rfl)
    exact ⟨by rw [Lib.size_eq] at s2; exact s2, s3⟩
set_option maxRecDepth 100000 in
theorem stx_small {spare : Nat → Bool} {ao : Option Addr} {n c : Nat} {f : Nat → Sx} {d : DataW H} {pl : List MemPlace} (h : DataW.Trod enc Tryz.prog w base spare held 22 (.slice ao n c) d pl) (hw : Small d 22) (hf : StxAt w ao n f) : StxSm n f := by
  intro i hi
  obtain ⟨fuel, hfu⟩ := h
  rcases open_slice Tryz.underlying22 hfu with ⟨hcs, _⟩ | ⟨a, len0, cap0, m, k, D, Pl, hcs, _, hl, hm, hmm, hx, hel⟩
  · simp [Value.cells] at hcs
    omega
  · simp [Value.cells] at hcs
    obtain ⟨rfl, rfl, rfl⟩ := hcs
    have hle : n ≤ m := by rw [hmm]; split <;> omega
    obtain ⟨cs', h1, h2⟩ := hel i (by omega)
    rw [show Tryz.prog.cellsOf 31 = 5 by kernel_rfl] at h1
    obtain ⟨_, hlen, hcell⟩ := World.cells?_some h1
    obtain ⟨_, _, a2, ha, hc⟩ := hf i hi
    cases ha
    have e : cs' = (f i).cells.toList := by
      apply List.ext_getElem?
      intro j
      by_cases hj : j < 5
      · have h3 := hcell j hj
        rw [add_add] at h3
        have hj5 : j < (f i).cells.size := hj
        have h4 := hc j _ (Array.getElem?_eq_getElem hj5)
        rw [← h3, h4, Array.getElem?_toList, Array.getElem?_eq_getElem hj5]
      · rw [List.getElem?_eq_none (by omega), List.getElem?_eq_none (by show 5 ≤ j; omega)]
    rw [e] at h2
    refine sx_small h2 ?_
    have hd : d = .slice ((List.range n).map D) ((List.range (m - n)).map fun j => D (n + j)) := by injection hx
    subst hd
    refine small_all (e := 31) (ds := (List.range n).map D) (fun z hz => hw z ?_) (D i) (List.mem_map.2 ⟨i, List.mem_range.2 hi, rfl⟩)
    unfold DataW.weights
    rw [Tryz.underlying22]
    exact List.mem_cons_of_mem _ (List.mem_append_left _ hz)
end
theorem sx_range {w : World} {a : Addr} {i : Nat} {t : Sx} (h : ∀ (j : Nat) (u : Value), t.cells[j]? = some u → w.cell? (a.add (i * 5 + j)) = some u) :
    ∃ B O, a.add (i * 5) = ⟨B, O, none⟩ ∧ w.rangeAt B O t.cells.toList := by
  have h0 := h 0 _ rfl
  rw [Nat.add_zero] at h0
  cases hs : (a.add (i * 5)).spot with
  | none =>
    refine ⟨(a.add (i * 5)).block, (a.add (i * 5)).off, by rw [← hs], fun j v hv => ?_⟩
    have h1 := h j v (by simpa using hv)
    rw [← add_add] at h1
    exact cell_add h1 hs
  | some x =>
    unfold World.cell? at h0
    rw [hs] at h0
    simp at h0
    split at h0 <;> cases h0
theorem info_sx (t : Sx) : (Tryz.prog.info? 31).map (·.size) = some t.cells.toList.length := by kernel_rfl
set_option maxHeartbeats 8000000 in
set_option maxRecDepth 100000 in
theorem long11_any (ao : Option Addr) (n c : Nat) (f : Nat → Sx) (hn : n ≤ 9223372036854775807) (W : World) (hf : StxAt W ao n f) (hs : StxSm n f) :
    Calls Tryz.prog 5 #[.slice ao n c] W fun e w' => ∃ r : Bool, e = .returned (.bool r) ∧ (r = false → MM.sm5 f n < 30000) ∧ Below W.heap.size W w' := by
  have HF := Lib.hid hf
  have HS := Lib.hid hs
  clear hf hs
  go_enter Tryz.func5, Tryz.ntmps5
  go_wp2_with fail
  go_loopw [3, 4] (fun s3 s4 wx => ∃ i T : Nat, i ≤ n ∧ T < 9223372036854775807 ∧ s4 = .int .i64 (i : Int) ∧ s3 = .int .i64 (T : Int) ∧ Hid (T = MM.sm5 f i) ∧ Below W.heap.size W wx) (fun _ s4 _ => n - (RowKit.intOf s4).toNat)
  case atStart => exact ⟨0, 0, Nat.zero_le _, by omega, rfl, rfl, Lib.hid rfl, Below.refl _ _⟩
  case round =>
    obtain ⟨i, T, hi, hTm, rfl, rfl, HT, hB0⟩ := hrel
    have HB := Lib.hid hB0
    clear hB0
    by_cases hlt : i < n
    · by_cases hT : T < 30000
      · have hTi : (T : Int) < 30000 := by omega
        obtain ⟨_, _, a, ha, hcl⟩ := HF.out i hlt
        obtain ⟨hs, hl⟩ := HS.out i hlt
        subst ha
        obtain ⟨B, O, hadr, hr1⟩ := sx_range hcl
        have hr0 := range_below hr1 HB.out
        have hc2 : wr.cell? ⟨B, O + 1, none⟩ = some (.string ⟨(f i).s.toArray⟩) := hr0 1 _ rfl
        have hc3 : wr.cell? ⟨B, O + 3, none⟩ = some (.slice (f i).ko (f i).keep.length (f i).kc) := hr0 3 _ rfl
        have hsm : Hid (T + (500 + (f i).s.length + (f i).keep.length) = MM.sm5 f (i + 1)) := Lib.hid (by rw [HT.out]; rfl)
        clear hcl hr0 hr1
        generalize (f i).s = ts at *
        generalize (f i).keep.length = tl at *
        generalize (f i).ko = tko at *
        generalize (f i).kc = tkc at *
        have hw1 : IntKind.i64.wrap ((T : Int) + 500) = ((T + 500 : Nat) : Int) := by simp [IntKind.wrap, IntKind.bits, IntKind.signed]; omega
        have hw2 : IntKind.i64.wrap (((T + 500 : Nat) : Int) + (ts.length : Int)) = ((T + 500 + ts.length : Nat) : Int) := by simp [IntKind.wrap, IntKind.bits, IntKind.signed]; omega
        have hw4 : IntKind.i64.wrap (((T + 500 + ts.length : Nat) : Int) + (tl : Int)) = ((T + (500 + ts.length + tl) : Nat) : Int) := by simp [IntKind.wrap, IntKind.bits, IntKind.signed]; omega
        generalize wr = w0 at *
        go_wp2_with fail
        go_quiet (fail)
        go_wp2_with fail
        go_roundw
        case rel => exact ⟨i + 1, T + (500 + ts.length + tl), by omega, by omega, by go_num, by go_num, hsm, Below.drawn HB.out _⟩
        case measure => simp [RowKit.intOf]; omega
      · have hTi : ¬ (T : Int) < 30000 := by omega
        go_wp2_with fail
        go_ret
        exact .inr ⟨rfl, HB.out⟩
    · obtain rfl : i = n := by omega
      go_wp2_with fail
      go_ret
      exact ⟨_, rfl, fun h => by rw [← HT.out]; simp at h; omega, HB.out⟩
end M
end Go.Proofs.YtoacmingocmaaaaGreatDoor
/- One value in a box; the marks that ranges over a function leave with a call. -/
namespace Go.Proofs.YtoacmingocmaaaaGreatDoor
open Go Go.RowKit Go.Lib Go.Shelf
namespace M
def Box (W : World) (B : Nat) (t : TypeId) (v : Value) : Prop := W.heap[B]? = some (.cells #[v] t (0, 0))
theorem Box.below {W W' : World} {B : Nat} {t : TypeId} {v : Value} (h : Box W B t v) (hb : Below W.heap.size W W') : Box W' B t v := (hb.block B (row_lt h)).trans h
theorem Box.cell {W : World} {B : Nat} {t : TypeId} {v : Value} (h : Box W B t v) : W.cell? ⟨B, 0, none⟩ = some v := by rw [cell_of_row W B 0 _ _ _ h]; rfl
theorem Box.free {W : World} {B : Nat} {t : TypeId} {v : Value} (h : Box W B t v) : W.frozen? ⟨B, 0, none⟩ = false := by simp [World.frozen?, show W.heap[B]? = _ from h]
theorem Box.new (W : World) (t : TypeId) (v : Value) : Box (W.alloc (.cells #[v] t)) W.heap.size t v := heap_alloc_new _ _
theorem Box.set {W : World} {B : Nat} {t : TypeId} {v : Value} (h : Box W B t v) (u : Value) : Box (W.setCell ⟨B, 0, none⟩ u) B t u := by
  have := heap_setCell_same W B 0 #[v] t u h
  simpa [Box] using this
theorem Box.other {W : World} {B : Nat} {t : TypeId} {v : Value} (h : Box W B t v) (a : Addr) (u : Value) (hne : B ≠ a.block) : Box (W.setCell a u) B t v := (Below.heap_setCell W a u B hne).trans h
theorem Box.drewN {W : World} {B : Nat} {t : TypeId} {v : Value} (h : Box W B t v) (n : Nat) : Box (W.drewN n) B t v := h
def mark (D : Nat) : Deferred := { target := .collected D, args := #[] }
structure Marks (Ds : List Nat) (w : World) : Prop where
  nodup : Ds.Nodup
  at_ : ∀ D, D ∈ Ds → w.heap[D]? = some (.deferred (some []))
theorem Marks.nil (w : World) : Marks [] w := ⟨List.nodup_nil, fun _ h => by cases h⟩
theorem Marks.lt {Ds : List Nat} {w : World} (h : Marks Ds w) {D : Nat} (hD : D ∈ Ds) : D < w.heap.size := row_lt (h.at_ D hD)
theorem Marks.below {Ds : List Nat} {w w' : World} (h : Marks Ds w) (hb : Below w.heap.size w w') : Marks Ds w' := ⟨h.nodup, fun D hD => (hb.block D (h.lt hD)).trans (h.at_ D hD)⟩
theorem Marks.drewN {Ds : List Nat} {w : World} (h : Marks Ds w) (n : Nat) : Marks Ds (w.drewN n) := ⟨h.nodup, h.at_⟩
theorem Marks.cons {Ds : List Nat} {w : World} (h : Marks Ds w) {D : Nat} (hD : w.heap[D]? = some (.deferred (some []))) (hne : D ∉ Ds) : Marks (D :: Ds) w :=
  ⟨List.nodup_cons.2 ⟨hne, h.nodup⟩, fun E hE => by
    rcases List.mem_cons.1 hE with rfl | h'
    · exact hD
    · exact h.at_ E h'⟩
theorem Marks.setCell {Ds : List Nat} {w : World} (h : Marks Ds w) {a : Addr} {v u : Value} (hc : w.cell? a = some u) : Marks Ds (w.setCell a v) :=
  ⟨h.nodup, fun D hD => (Below.heap_setCell w a v D (fun e => by
    have h1 := h.at_ D hD
    rw [e] at h1
    simp [World.cell?, h1] at hc)).trans (h.at_ D hD)⟩
/-- All cells are as they were. -/
def CellsAs (w w' : World) : Prop := ∀ (k : Nat) (cs : Array Value) (t : TypeId) (fr : Nat × Nat), w.heap[k]? = some (.cells cs t fr) → w'.heap[k]? = some (.cells cs t fr)
theorem leaves_marks {F : Fence} {n : Nat} {P : Program} {fn : Func} {tmps : Array Value} {R : Ending → World → Prop} {B : Nat} : ∀ (Ds : List Nat) (w : World), Marks Ds w → (∀ D, D ∈ Ds → B ≤ D) →
    (∀ w', Below B w w' → CellsAs w w' → LeavesInM F n P fn tmps R [] .returning w') → LeavesInM F n P fn tmps R (Ds.map mark) .returning w
  | [], w, _, _, h => h w (Below.refl _ _) (fun _ _ _ _ h => h)
  | D :: Ds, w, hm, hB, h => by
    refine ⟨by simp, .inl ⟨D, _, rfl, run_takeDeferred (hm.at_ D (by simp)), ?_⟩⟩
    have hne : D ∉ Ds := (List.nodup_cons.1 hm.nodup).1
    have hD := hm.lt (D := D) (by simp)
    have hb : Below B w (w.putObj D (.deferred none)) := (Below.refl B w).grown (grownBy_putObj' w D _) (by have := hB D (by simp); omega) (fun k e => by cases e; exact hB D (by simp))
    refine leaves_marks Ds _ ⟨(List.nodup_cons.1 hm.nodup).2, fun E hE => (World.putObj_heap_other (by intro e; subst e; exact hne hE)).trans (hm.at_ E (by simp [hE]))⟩ (fun E hE => hB E (by simp [hE])) ?_
    intro w' hb' hc'
    refine h w' (hb.trans hb') (fun k cs t fr hk => hc' k cs t fr ?_)
    refine (World.putObj_heap_other (fun e => ?_)).trans hk
    subst e
    rw [hm.at_ k (by simp)] at hk
    cases hk
end M
end Go.Proofs.YtoacmingocmaaaaGreatDoor
/- A range over a function, outermost in its activation: the two ends of the loop and one round, each by itself, with the loop's own block named. -/
namespace Go.Proofs.YtoacmingocmaaaaGreatDoor
open Go Go.RowKit
namespace RL
/-- What the loop's own block holds. -/
def loopRec (fn : FuncId) (tmps : Array Value) (ps : Array Tmp) (assign body : Code) (D : Nat) (st : LoopState) (pe : Option Code) : Loop := { state := st, pending := pe, fn := fn, tmps := tmps, params := ps, assign := assign, body := body, defers := D }
section
variable {n : Nat} {P : Program}
/-- What is asked where the function that is ranged over has ended. -/
def Ended (l : Nat) (r : LoopState → Option Code → Loop) (Q : Act → World → Prop) (Qx : Code → Act → World → Prop) (a : Act) (e : Ending) (W : World) : Prop :=
  (∃ v, e = .returned v) ∧ ((W.heap[l]? = some (.loop (r .ready none)) ∧ Q a (W.putObj l (.loop (r .exhausted none)))) ∨ ∃ c, W.heap[l]? = some (.loop (r .done (some c))) ∧ Qx c a (W.putObj l (.loop (r .exhausted (some c)))))
theorem enter {g : Operand} {ps : Array Tmp} {assign body : Code} {Q : Exit → Act → World → Prop} {a : Act} {w : World} {gf : Nat} {lb : Array Value}
    (hg : a.eval g = .func (.func gf) #[] lb) (eg : ∀ args w, (callFunc gf args).run P w = .ok (.enter gf args) w)
    (h : ∀ fn, CallsIn Fence.wide (n - 1) P gf (#[.func (.yield (w.heap.size + 1)) #[] #[]] ++ lb) ((w.alloc (.deferred (some []))).alloc (.loop (loopRec fn a.tmps ps assign body w.heap.size .ready none)))
      (Ended (w.heap.size + 1) (loopRec fn a.tmps ps assign body w.heap.size) (Q .normal) (fun c => c.wpIn Fence.wide n P Q) { a with defers := M.mark w.heap.size :: a.defers })) :
    (Code.rangeFunc g ps assign body).wpIn Fence.wide n P Q a w := by
  refine wpIn_rangeFunc fun fn _ => ?_
  have hf := h fn
  obtain ⟨W1, hW1⟩ : ∃ W1, (w.alloc (.deferred (some []))).alloc (.loop (loopRec fn a.tmps ps assign body w.heap.size .ready none)) = W1 := ⟨_, rfl⟩
  rw [hW1] at hf
  refine ⟨w.heap.size + 1, [M.mark w.heap.size], W1, { target := .fn (.func gf) lb, args := #[.func (.yield (w.heap.size + 1)) #[] #[]] }, W1, gf, #[.func (.yield (w.heap.size + 1)) #[] #[]] ++ lb, W1, ?_, ?_, fun _ _ => trivial, ?_, by simp [Fence.wide], ?_⟩
  · rw [← hW1]; exact run_enterLoop_outer fn a.tmps ps assign body
  · simp only [resolve, hg]
    simp [go_sem]
  · simp [invoke, go_sem, eg]
  · refine hf.mono ?_
    rintro e W ⟨⟨v, rfl⟩, ⟨hl, hq⟩ | ⟨c, hl, hq⟩⟩
    · exact ⟨none, _, run_endLoop hl (by simp [loopRec]), hq⟩
    · exact ⟨some c, _, run_endLoop hl (by simp [loopRec]), hq⟩
/-- How a round's body is left. -/
def Left (l : Nat) (r : LoopState → Option Code → Loop) (R : Ending → World → Prop) : Exit → Act → World → Prop
  | .normal, _, W => W.heap[l]? = some (.loop (r .busy none)) ∧ R (.returned (.bool true)) (W.putObj l (.loop (r .ready none)))
  | .ret, _, W => W.heap[l]? = some (.loop (r .busy none)) ∧ R (.returned (.bool false)) (W.putObj l (.loop (r .done (some .ret))))
  | .exit id, _, W => W.heap[l]? = some (.loop (r .busy none)) ∧ R (.returned (.bool false)) (W.putObj l (.loop (r .done (some (.exit id)))))
  | .goto t, _, W => W.heap[l]? = some (.loop (r .busy none)) ∧ R (.returned (.bool false)) (W.putObj l (.loop (r .done (some (.goto t)))))
  | .panic _, _, _ => False
  | .outgrown, _, _ => False
theorem round {l : Nat} {fn : FuncId} {tmps : Array Value} {ps : Array Tmp} {assign body : Code} {D : Nat} {args : Array Value} {R : Ending → World → Prop} {W : World} (a1 : Act)
    (hl : W.heap[l]? = some (.loop (loopRec fn tmps ps assign body D .ready none))) (hs : args.size = ps.size)
    (hassign : ∀ K : Act → World → Prop, K a1 W → assign.wpIn (Fence.wide.inRound l) n P (Exit.then K (fun _ _ _ => False)) { tmps := (ps.zip args).foldl (fun t (p, v) => t.setIfInBounds p v) tmps, defers := [] } W)
    (hbody : body.wpIn (Fence.wide.inRound l) n P (Left l (loopRec fn tmps ps assign body D) R) a1 (W.putObj l (.loop (loopRec fn tmps ps assign body D .busy none)))) :
    YieldAt Fence.wide n P l args W R := by
  refine ⟨fn, _, assign, body, run_yield hl hs, roundIn_of_wpIn trivial (hassign _ ⟨_, run_beginRound hl rfl, wpIn_mono hbody ?_⟩)⟩
  rintro e a3 W3 h
  cases e with
  | normal => exact ⟨_, _, run_endRound none h.1, h.2⟩
  | ret => exact ⟨_, _, run_endRound _ h.1, h.2⟩
  | exit id => exact ⟨_, _, run_endRound _ h.1, h.2⟩
  | goto t => exact ⟨_, _, run_endRound _ h.1, h.2⟩
  | panic _ => exact h
  | outgrown => exact h
/-- The two, with what the loop's block holds behind a name. -/
theorem enter' {g : Operand} {ps : Array Tmp} {assign body : Code} {Q : Exit → Act → World → Prop} {a : Act} {w : World} {gf : Nat} {lb : Array Value}
    (hg : a.eval g = .func (.func gf) #[] lb) (eg : ∀ args w, (callFunc gf args).run P w = .ok (.enter gf args) w)
    (h : ∀ fn r, r = loopRec fn a.tmps ps assign body w.heap.size → CallsIn Fence.wide (n - 1) P gf (#[.func (.yield (w.heap.size + 1)) #[] #[]] ++ lb) ((w.alloc (.deferred (some []))).alloc (.loop (r .ready none)))
      (Ended (w.heap.size + 1) r (Q .normal) (fun c => c.wpIn Fence.wide n P Q) { a with defers := M.mark w.heap.size :: a.defers })) :
    (Code.rangeFunc g ps assign body).wpIn Fence.wide n P Q a w := enter hg eg fun fn => h fn _ rfl
theorem round' {l : Nat} {fn : FuncId} {tmps : Array Value} {ps : Array Tmp} {assign body : Code} {D : Nat} {args : Array Value} {R : Ending → World → Prop} {W : World} {r : LoopState → Option Code → Loop} (hr : r = loopRec fn tmps ps assign body D) (a1 : Act)
    (hl : W.heap[l]? = some (.loop (r .ready none))) (hs : args.size = ps.size)
    (hassign : ∀ K : Act → World → Prop, K a1 W → assign.wpIn (Fence.wide.inRound l) n P (Exit.then K (fun _ _ _ => False)) { tmps := (ps.zip args).foldl (fun t (p, v) => t.setIfInBounds p v) tmps, defers := [] } W)
    (hbody : body.wpIn (Fence.wide.inRound l) n P (Left l r R) a1 (W.putObj l (.loop (r .busy none)))) :
    YieldAt Fence.wide n P l args W R := by
  subst hr
  exact round a1 hl hs hassign hbody
end
/-- What lies at B or beyond stays as it is. -/
structure Keeps (B : Nat) (X Y : World) : Prop where
  size : X.heap.size ≤ Y.heap.size
  own : ∀ (k : Nat) (o : Obj), B ≤ k → X.heap[k]? = some o → Y.heap[k]? = some o
theorem Keeps.refl (B : Nat) (X : World) : Keeps B X X := ⟨Nat.le_refl _, fun _ _ _ h => h⟩
theorem Keeps.trans {B : Nat} {X Y Z : World} (h : Keeps B X Y) (k : Keeps B Y Z) : Keeps B X Z := ⟨Nat.le_trans h.size k.size, fun j o hj e => k.own j o hj (h.own j o hj e)⟩
theorem Keeps.up {B C : Nat} {X Y : World} (h : Keeps B X Y) (hB : B ≤ C) : Keeps C X Y := ⟨h.size, fun j o hj e => h.own j o (Nat.le_trans hB hj) e⟩
theorem Keeps.below {B : Nat} {W X Y : World} (h : Keeps B W X) (hb : Below W.heap.size X Y) : Keeps B W Y := ⟨Nat.le_trans h.size hb.size, fun k o hk e => (hb.block k (M.row_lt e)).trans (h.own k o hk e)⟩
theorem Keeps.of_below {B : Nat} {X Y : World} (h : Below X.heap.size X Y) : Keeps B X Y := (Keeps.refl B X).below h
theorem Keeps.put {B l : Nat} {X : World} {o' : Obj} (hB : l < B) : Keeps B X (X.putObj l o') := ⟨by simp, fun k o hk e => (World.putObj_heap_other (by omega)).trans e⟩
theorem Keeps.turn {B l : Nat} {W X Y : World} {o o1 o2 : Obj} (h : Keeps B W X) (hl : W.heap[l]? = some o) (hB : B ≤ l) (k : Keeps B (X.putObj l o1) Y) : Keeps B (W.putObj l o2) (Y.putObj l o2) := by
  refine ⟨by simpa using Nat.le_trans h.size (by simpa using k.size), fun j oj hj e => ?_⟩
  by_cases ej : j = l
  · subst ej
    rw [World.putObj_heap_same (M.row_lt hl)] at e
    have hX : j < (X.putObj j o1).heap.size := by simpa using M.row_lt (h.own j o hB hl)
    rw [World.putObj_heap_same (Nat.lt_of_lt_of_le hX k.size)]
    exact e
  · rw [World.putObj_heap_other ej] at e ⊢
    exact k.own j oj hj ((World.putObj_heap_other ej).trans (h.own j oj hj e))
/-- What lies at B or beyond, and all cells, stay as they are. -/
structure Holds (B : Nat) (X Y : World) : Prop extends Keeps B X Y where
  cells : M.CellsAs X Y
theorem Holds.keeps {B : Nat} {X Y : World} (h : Holds B X Y) : Keeps B X Y := h.toKeeps
theorem Holds.refl (B : Nat) (X : World) : Holds B X X := ⟨Keeps.refl B X, fun _ _ _ _ h => h⟩
theorem Holds.trans {B : Nat} {X Y Z : World} (h : Holds B X Y) (k : Holds B Y Z) : Holds B X Z := ⟨h.keeps.trans k.keeps, fun j cs t fr e => k.cells j cs t fr (h.cells j cs t fr e)⟩
theorem Holds.up {B C : Nat} {X Y : World} (h : Holds B X Y) (hB : B ≤ C) : Holds C X Y := ⟨h.keeps.up hB, h.cells⟩
theorem Holds.below {B : Nat} {W X Y : World} (h : Holds B W X) (hb : Below W.heap.size X Y) : Holds B W Y := ⟨h.keeps.below hb, fun k cs t fr e => (hb.block k (M.row_lt e)).trans (h.cells k cs t fr e)⟩
theorem Holds.of_below {B : Nat} {X Y : World} (h : Below X.heap.size X Y) : Holds B X Y := (Holds.refl B X).below h
theorem Holds.put {B l : Nat} {X : World} {o o' : Obj} (hl : X.heap[l]? = some o) (ho : o.isCells = false) (hB : l < B) : Holds B X (X.putObj l o') :=
  ⟨Keeps.put hB, fun k cs t fr e => (World.putObj_heap_other (fun e' => by subst e'; rw [hl] at e; cases e; cases ho)).trans e⟩
theorem Holds.box {B k : Nat} {X Y : World} {t : TypeId} {v : Value} (h : Holds B X Y) (hb : M.Box X k t v) : M.Box Y k t v := h.cells _ _ _ _ hb
theorem Holds.turn {B l : Nat} {W X Y : World} {o o1 o2 : Obj} (h : Holds B W X) (hl : W.heap[l]? = some o) (h2 : o2.isCells = false) (hB : B ≤ l) (k : Holds B (X.putObj l o1) Y) : Holds B (W.putObj l o2) (Y.putObj l o2) := by
  refine ⟨h.keeps.turn hl hB k.keeps, fun j cs t fr e => ?_⟩
  by_cases ej : j = l
  · subst ej
    rw [World.putObj_heap_same (M.row_lt hl)] at e
    cases e; cases h2
  · rw [World.putObj_heap_other ej] at e ⊢
    exact k.cells j cs t fr ((World.putObj_heap_other ej).trans (h.cells j cs t fr e))
theorem putObj_self {W : World} {l : Nat} {o : Obj} (h : W.heap[l]? = some o) : W.putObj l o = W := by
  have hh : (W.putObj l o).heap = W.heap := by
    refine Array.ext_getElem? fun i => ?_
    by_cases e : i = l
    · subst e
      rw [World.putObj_heap_same (M.row_lt h), h]
    · exact World.putObj_heap_other e
  unfold World.putObj at hh ⊢
  cases W
  simp at hh ⊢
  exact hh
theorem below_put {B l : Nat} {W : World} {o : Obj} (hl : B ≤ l) (hs : B ≤ W.heap.size) : Below B W (W.putObj l o) :=
  (Below.refl B W).grown (grownBy_putObj' W l o) hs (fun k e => by cases e; exact hl)
end RL
end Go.Proofs.YtoacmingocmaaaaGreatDoor

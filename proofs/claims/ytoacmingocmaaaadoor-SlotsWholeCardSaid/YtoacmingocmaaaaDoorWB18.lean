/- The texts SltTurn, DskLaw6, DskLeft1, one behind the other. -/
import Derived.Test.YtoacmingocmaaaaDoorWB8
import Derived.Test.YtoacmingocmaaaaDoorWB17
import Derived.Laws.MakeOwn
import Derived.Laws.OwnMore
import Derived.Deep.AppendLies
/- Rows of turns that come in, how big they are, and whether they are more than a statement goes over. -/
namespace Go.Proofs.YtoacmingocmaaaaDoor
open Go.ChangeShapes Go.WideShapes Go.ChangeAt Go.RowKit Go.Deep
/-- A turn as it lies. -/
structure Tn where
  s : List UInt8
  tw : Bool
  fuse : Int
  cr : Bool
  ko : Option Addr
  kc : Nat
  keep : List Bool
  at_ : Int
instance : Inhabited Tn := ⟨⟨[], false, 0, false, none, 0, [], 0⟩⟩
namespace Tn
abbrev cells (x : Tn) : Array Value := #[.string ⟨x.s.toArray⟩, .bool x.tw, .int .i64 x.fuse, .bool x.cr, .slice x.ko x.keep.length x.kc, .int .i64 x.at_]
structure Ok (x : Tn) : Prop where
  s : x.s.length ≤ 9223372036854775807
  fuse : x.fuse ≤ 9223372036854775807
  keep : x.keep.length ≤ 9223372036854775807
end Tn
namespace MM
/-- How much the first turns are. -/
def sm6 (f : Nat → Tn) : Nat → Nat
  | 0 => 0
  | i + 1 => sm6 f i + (500 + (f i).s.length + (f i).keep.length)
theorem sm6_ge (f : Nat → Tn) : ∀ i, 500 * i ≤ sm6 f i
  | 0 => Nat.le_refl _
  | i + 1 => by have := sm6_ge f i; unfold sm6; omega
theorem sm6_each (f : Nat → Tn) : ∀ n i, i < n → 500 + (f i).s.length + (f i).keep.length ≤ sm6 f n
  | 0, _, h => absurd h (by omega)
  | n + 1, i, h => by
    unfold sm6
    by_cases e : i = n
    · subst e; omega
    · have := sm6_each f n i (by omega); omega
end MM
namespace M
/-- A row of turns that came in. -/
def TurnsAt (w : World) (ao : Option Addr) (n : Nat) (f : Nat → Tn) : Prop := ∀ i, i < n → (f i).Ok ∧ BoolsAt w (f i).ko (f i).keep ∧ ∃ a, ao = some a ∧ ∀ (j : Nat) (u : Value), (f i).cells[j]? = some u → w.cell? (a.add (i * 6 + j)) = some u
def TurnsIn (w : World) (v : Value) : Prop := ∃ (ao : Option Addr) (n c : Nat) (f : Nat → Tn), v = .slice ao n c ∧ n ≤ 9223372036854775807 ∧ TurnsAt w ao n f
theorem TurnsAt.step {w w' : World} {ao : Option Addr} {n : Nat} {f : Nat → Tn} (h : TurnsAt w ao n f) (hb : Below w.heap.size w w') : TurnsAt w' ao n f := fun i hi => by
  obtain ⟨h1, h2, a, h3, h4⟩ := h i hi
  exact ⟨h1, h2.step hb, a, h3, fun j u hu => by rw [hb.cell (World.block_lt_of_cell? w _ (h4 j u hu))]; exact h4 j u hu⟩
/-- No text and no row of the turns is beyond the reach. -/
def TurnsSm (n : Nat) (f : Nat → Tn) : Prop := ∀ i, i < n → (f i).s.length ≤ 140737488355328 ∧ (f i).keep.length ≤ 140737488355328
section
variable {H : Type} {enc : TypeId × Value → H} {w : World} {base : Nat} {held : Bool}
set_option maxRecDepth 100000 in
theorem turn_of {spare : Nat → Bool} {n : Nat} {u0 u1 u2 u3 u4 u5 : Value} {y0 y1 y2 y3 y4 y5 : DataW H × List MemPlace}
    (h0 : DataW.trod enc Tryd.prog w base spare held n 9 [u0] = some y0) (h1 : DataW.trod enc Tryd.prog w base spare held n 4 [u1] = some y1) (h2 : DataW.trod enc Tryd.prog w base spare held n 3 [u2] = some y2)
    (h3 : DataW.trod enc Tryd.prog w base spare held n 4 [u3] = some y3) (h4 : DataW.trod enc Tryd.prog w base spare held n 40 [u4] = some y4) (h5 : DataW.trod enc Tryd.prog w base spare held n 3 [u5] = some y5) :
    ∃ t : Tn, t.cells = #[u0, u1, u2, u3, u4, u5] ∧ t.Ok ∧ BoolsAt w t.ko t.keep := by
  obtain ⟨s, e0, _, w0⟩ := DataW.trod_string Tryd.underlying9 h0
  obtain ⟨b1, e1, _⟩ := DataW.trod_bool Tryd.underlying4 h1
  obtain ⟨m2, e2, _, w2⟩ := DataW.trod_int Tryd.underlying3 h2
  obtain ⟨b3, e3, _⟩ := DataW.trod_bool Tryd.underlying4 h3
  obtain ⟨v, e4, ao, c, l, rfl, hl, hr⟩ := trod_bools h4
  obtain ⟨m5, e5, _, w5⟩ := DataW.trod_int Tryd.underlying3 h5
  obtain rfl := List.cons.inj e0 |>.1
  obtain rfl := List.cons.inj e1 |>.1
  obtain rfl := List.cons.inj e2 |>.1
  obtain rfl := List.cons.inj e3 |>.1
  obtain rfl := List.cons.inj e4 |>.1
  obtain rfl := List.cons.inj e5 |>.1
  obtain ⟨_, f2⟩ := i64_bounds w2
  refine ⟨⟨s.data.toList, b1, m2, b3, ao, c, l, m5⟩, ?_, ⟨by unfold maxLen at w0; rw [← Lib.size_eq]; omega, f2, hl⟩, hr⟩
  show #[Value.string ⟨s.data.toList.toArray⟩, .bool b1, .int .i64 m2, .bool b3, .slice ao l.length c, .int .i64 m5] = _
  rw [Lib.mk_data]
set_option maxRecDepth 100000 in
theorem open_turns {spare : Nat → Bool} {r : Reach} {b0 : Nat} {v : Value} {d : DataW H} {pl : List MemPlace} (hv : Value.okWide Tryd.prog w r b0 38 v) (h : DataW.Trod enc Tryd.prog w base spare held 38 v d pl) : TurnsIn w v := by
  obtain ⟨ad, len0, cap0, rfl⟩ := okWide_slice Tryd.underlying38 hv
  obtain ⟨fuel, hf⟩ := h
  rcases open_slice Tryd.underlying38 hf with ⟨hcs, _⟩ | ⟨a, len, cap, m, n, D, Pl, hcs, _, hl, hm, hmm, _, hx⟩
  · simp [Value.cells] at hcs
    obtain ⟨rfl, rfl, rfl⟩ := hcs
    exact ⟨none, 0, 0, fun _ => default, rfl, by omega, fun i hi => absurd hi (by omega)⟩
  · simp [Value.cells] at hcs
    obtain ⟨rfl, rfl, rfl⟩ := hcs
    have hle : len0 ≤ m := by rw [hmm]; split <;> omega
    unfold maxLen at hm
    have c0 : Tryd.prog.cellsOf 9 = 1 := by kernel_rfl
    have c1 : Tryd.prog.cellsOf 4 = 1 := by kernel_rfl
    have c2 : Tryd.prog.cellsOf 3 = 1 := by kernel_rfl
    have c4 : Tryd.prog.cellsOf 40 = 1 := by kernel_rfl
    have each : ∀ i, i < len0 → ∃ t : Tn, t.Ok ∧ BoolsAt w t.ko t.keep ∧ ∀ (j : Nat) (u : Value), t.cells[j]? = some u → w.cell? (a.add (i * 6 + j)) = some u := fun i hi => by
      obtain ⟨cs', h1, h2⟩ := hx i (by omega)
      rw [show Tryd.prog.cellsOf 42 = 6 by kernel_rfl] at h1
      obtain ⟨_, hlen, hcell⟩ := World.cells?_some h1
      obtain ⟨xs, k, hk, hxy, _, hxl, hf⟩ := DataW.trod_struct Tryd.underlying42 h2
      match xs, hxl, cs', hlen with
      | [y0, y1, y2, y3, y4, y5], _, [v0, v1, v2, v3, v4, v5], _ =>
        have g0 := hf 0 _ rfl
        have g1 := hf 1 _ rfl
        have g2 := hf 2 _ rfl
        have g3 := hf 3 _ rfl
        have g4 := hf 4 _ rfl
        have g5 := hf 5 _ rfl
        obtain ⟨t, e, ok, rd⟩ := turn_of (by simpa [c0] using g0) (by simpa [c1] using g1) (by simpa [c2] using g2) (by simpa [c1] using g3) (by simpa [c4] using g4) (by simpa [c2] using g5)
        refine ⟨t, ok, rd, fun j u hu => ?_⟩
        rw [e] at hu
        have hj : j < 6 := by have := (Array.getElem?_eq_some_iff.1 hu).1; simpa using this
        have h3 := hcell j hj
        rw [add_add] at h3
        rw [h3, ← hu]
        match j, hj with
        | 0, _ => rfl
        | 1, _ => rfl
        | 2, _ => rfl
        | 3, _ => rfl
        | 4, _ => rfl
        | 5, _ => rfl
    obtain ⟨f, hf⟩ := choose_lt each
    exact ⟨some a, len0, cap0, f, rfl, by omega, fun i hi => ⟨(hf i hi).1, (hf i hi).2.1, a, rfl, (hf i hi).2.2⟩⟩
set_option maxRecDepth 100000 in
theorem turn_small {spare : Nat → Bool} {fuel : Nat} {t : Tn} {x : DataW H × List MemPlace} (h : DataW.trod enc Tryd.prog w base spare held fuel 42 t.cells.toList = some x) (hw : Small x.1 42) : t.s.length ≤ 140737488355328 ∧ t.keep.length ≤ 140737488355328 := by
  obtain ⟨xs, k, _, hx, _, hxl, hf⟩ := DataW.trod_struct Tryd.underlying42 h
  subst hx
  have c2 : Tryd.prog.cellsOf 9 = 1 := by kernel_rfl
  have c3 : Tryd.prog.cellsOf 40 = 1 := by kernel_rfl
  have g2 := hf 0 _ rfl
  have g3 := hf 4 _ rfl
  match xs, hxl with
  | [y0, y1, y2, y3, y4, y5], _ =>
    have g2' : DataW.trod enc Tryd.prog w base spare held k 9 [.string ⟨t.s.toArray⟩] = some y0 := by simpa [c2] using g2
    have g3' : DataW.trod enc Tryd.prog w base spare held k 40 [.slice t.ko t.keep.length t.kc] = some y4 := by simpa [c3] using g3
    have hW : ∀ (j : Nat) (ty : TypeId) (d : DataW H), ([9, 4, 3, 4, 40, 3] : List TypeId)[j]? = some ty → ([y0.1, y1.1, y2.1, y3.1, y4.1, y5.1] : List (DataW H))[j]? = some d → Small d ty := fun j ty d hj hd n hn => by
      refine hw n ?_
      unfold DataW.weights
      rw [Tryd.underlying42]
      exact DataW.weights_mem_each (ts := [9, 4, 3, 4, 40, 3]) hj hd n hn
    have s2 := str_small g2' (hW 0 _ _ rfl rfl)
    have s3 := row_small g3' (hW 4 _ _ rfl rfl)
    exact ⟨by rw [Lib.size_eq] at s2; exact s2, s3⟩
set_option maxRecDepth 100000 in
theorem turns_small {spare : Nat → Bool} {ao : Option Addr} {n c : Nat} {f : Nat → Tn} {d : DataW H} {pl : List MemPlace} (h : DataW.Trod enc Tryd.prog w base spare held 38 (.slice ao n c) d pl) (hw : Small d 38) (hf : TurnsAt w ao n f) : TurnsSm n f := by
  intro i hi
  obtain ⟨fuel, hfu⟩ := h
  rcases open_slice Tryd.underlying38 hfu with ⟨hcs, _⟩ | ⟨a, len0, cap0, m, k, D, Pl, hcs, _, hl, hm, hmm, hx, hel⟩
  · simp [Value.cells] at hcs
    omega
  · simp [Value.cells] at hcs
    obtain ⟨rfl, rfl, rfl⟩ := hcs
    have hle : n ≤ m := by rw [hmm]; split <;> omega
    obtain ⟨cs', h1, h2⟩ := hel i (by omega)
    rw [show Tryd.prog.cellsOf 42 = 6 by kernel_rfl] at h1
    obtain ⟨_, hlen, hcell⟩ := World.cells?_some h1
    obtain ⟨_, _, a2, ha, hc⟩ := hf i hi
    cases ha
    have e : cs' = (f i).cells.toList := by
      apply List.ext_getElem?
      intro j
      by_cases hj : j < 6
      · have h3 := hcell j hj
        rw [add_add] at h3
        have hj5 : j < (f i).cells.size := hj
        have h4 := hc j _ (Array.getElem?_eq_getElem hj5)
        rw [← h3, h4, Array.getElem?_toList, Array.getElem?_eq_getElem hj5]
      · rw [List.getElem?_eq_none (by omega), List.getElem?_eq_none (by show 6 ≤ j; omega)]
    rw [e] at h2
    refine turn_small h2 ?_
    have hd : d = .slice ((List.range n).map D) ((List.range (m - n)).map fun j => D (n + j)) := by injection hx
    subst hd
    refine small_all (e := 42) (ds := (List.range n).map D) (fun z hz => hw z ?_) (D i) (List.mem_map.2 ⟨i, List.mem_range.2 hi, rfl⟩)
    unfold DataW.weights
    rw [Tryd.underlying38]
    exact List.mem_cons_of_mem _ (List.mem_append_left _ hz)
end
theorem turn_range {w : World} {a : Addr} {i : Nat} {t : Tn} (h : ∀ (j : Nat) (u : Value), t.cells[j]? = some u → w.cell? (a.add (i * 6 + j)) = some u) :
    ∃ B O, a.add (i * 6) = ⟨B, O, none⟩ ∧ w.rangeAt B O t.cells.toList := by
  have h0 := h 0 _ rfl
  rw [Nat.add_zero] at h0
  cases hs : (a.add (i * 6)).spot with
  | none =>
    refine ⟨(a.add (i * 6)).block, (a.add (i * 6)).off, by rw [← hs], fun j v hv => ?_⟩
    have h1 := h j v (by simpa using hv)
    rw [← add_add] at h1
    exact cell_add h1 hs
  | some x =>
    unfold World.cell? at h0
    rw [hs] at h0
    simp at h0
    split at h0 <;> cases h0
theorem info_tn (t : Tn) : (Tryd.prog.info? 42).map (·.size) = some t.cells.toList.length := by kernel_rfl
set_option maxHeartbeats 8000000 in
set_option maxRecDepth 100000 in
theorem many_any (ao : Option Addr) (n c : Nat) (f : Nat → Tn) (hn : n ≤ 9223372036854775807) (W : World) (hf : TurnsAt W ao n f) (hs : TurnsSm n f) :
    Calls Tryd.prog 21 #[.slice ao n c] W fun e w' => ∃ r : Bool, e = .returned (.bool r) ∧ (r = false → MM.sm6 f n < 30000) ∧ Below W.heap.size W w' := by
  have HF := Lib.hid hf
  have HS := Lib.hid hs
  clear hf hs
  go_enter Tryd.func21, Tryd.ntmps21
  go_wp2_with fail
  go_loopw [3, 4] (fun s3 s4 wx => ∃ i T : Nat, i ≤ n ∧ T < 9223372036854775807 ∧ s4 = .int .i64 (i : Int) ∧ s3 = .int .i64 (T : Int) ∧ Hid (T = MM.sm6 f i) ∧ Below W.heap.size W wx) (fun _ s4 _ => n - (RowKit.intOf s4).toNat)
  case atStart => exact ⟨0, 0, Nat.zero_le _, by omega, rfl, rfl, Lib.hid rfl, Below.refl _ _⟩
  case round =>
    obtain ⟨i, T, hi, hTm, rfl, rfl, HT, hB0⟩ := hrel
    have HB := Lib.hid hB0
    clear hB0
    by_cases hlt : i < n
    · by_cases hT : T < 30000
      · have hTi : (T : Int) < 30000 := by omega
        obtain ⟨_, _, a, ha, hcl⟩ := HF.out i hlt
        obtain ⟨hs, hl⟩ := HS.out i hlt
        subst ha
        obtain ⟨B, O, hadr, hr1⟩ := turn_range hcl
        have hr0 := range_below hr1 HB.out
        have hc2 : wr.cell? ⟨B, O, none⟩ = some (.string ⟨(f i).s.toArray⟩) := hr0 0 _ rfl
        have hc3 : wr.cell? ⟨B, O + 4, none⟩ = some (.slice (f i).ko (f i).keep.length (f i).kc) := hr0 4 _ rfl
        have hsm : Hid (T + (500 + (f i).s.length + (f i).keep.length) = MM.sm6 f (i + 1)) := Lib.hid (by rw [HT.out]; rfl)
        clear hcl hr0 hr1
        generalize (f i).s = ts at *
        generalize (f i).keep.length = tl at *
        generalize (f i).ko = tko at *
        generalize (f i).kc = tkc at *
        have hw1 : IntKind.i64.wrap ((T : Int) + 500) = ((T + 500 : Nat) : Int) := by simp [IntKind.wrap, IntKind.bits, IntKind.signed]; omega
        have hw2 : IntKind.i64.wrap (((T + 500 : Nat) : Int) + (ts.length : Int)) = ((T + 500 + ts.length : Nat) : Int) := by simp [IntKind.wrap, IntKind.bits, IntKind.signed]; omega
        have hw4 : IntKind.i64.wrap (((T + 500 + ts.length : Nat) : Int) + (tl : Int)) = ((T + (500 + ts.length + tl) : Nat) : Int) := by simp [IntKind.wrap, IntKind.bits, IntKind.signed]; omega
        generalize wr = w0 at *
        go_wp2_with fail
        go_quiet (fail)
        go_wp2_with fail
        go_roundw
        case rel => exact ⟨i + 1, T + (500 + ts.length + tl), by omega, by omega, by go_num, by go_num, hsm, Below.drawn HB.out _⟩
        case measure => simp [RowKit.intOf]; omega
      · have hTi : ¬ (T : Int) < 30000 := by omega
        go_wp2_with fail
        go_ret
        exact .inr ⟨rfl, HB.out⟩
    · obtain rfl : i = n := by omega
      go_wp2_with fail
      go_ret
      exact ⟨_, rfl, fun h => by rw [← HT.out]; simp at h; omega, HB.out⟩
end M
end Go.Proofs.YtoacmingocmaaaaDoor
/- Two rows of steps, one behind the other, in memory of the call's own. -/
namespace Go.Proofs.YtoacmingocmaaaaDoor
open Go.ChangeShapes Go.WideShapes Go.ChangeAt Go.RowKit Go.Lib Go.Deep
namespace M
open MM
/-- The cells of steps, one behind the other. -/
def stepsW (f : Nat → Sp) : Nat → List Value
  | 0 => []
  | i + 1 => stepsW f i ++ (f i).cells.toList
theorem stepsW_len (f : Nat → Sp) : ∀ n, (stepsW f n).length = n * 5
  | 0 => rfl
  | n + 1 => by rw [stepsW, List.length_append, stepsW_len f n]; show n * 5 + 5 = _; omega
theorem stepsW_get (f : Nat → Sp) : ∀ (n i j : Nat) , i < n → j < 5 → (stepsW f n)[i * 5 + j]? = (f i).cells[j]?
  | 0, _, _, h, _ => absurd h (by omega)
  | n + 1, i, j, h, hj => by
    rw [stepsW]
    by_cases e : i = n
    · subst e
      rw [List.getElem?_append_right (by rw [stepsW_len]; omega), stepsW_len, show i * 5 + j - i * 5 = j by omega, Array.getElem?_toList]
    · rw [List.getElem?_append_left (by rw [stepsW_len]; omega)]
      exact stepsW_get f n i j (by omega) hj
theorem stepsW_one (f : Nat → Sp) : ∀ n, ∀ u ∈ stepsW f n, u.oneCell' = true
  | 0, u, h => by cases h
  | n + 1, u, h => by
    rw [stepsW] at h
    rcases List.mem_append.1 h with h | h
    · exact stepsW_one f n u h
    · simp only [List.mem_cons, List.mem_nil_iff, or_false] at h
      rcases h with rfl | rfl | rfl | rfl | rfl <;> rfl
theorem stepsW_cell {w : World} {a : Addr} {n : Nat} {f : Nat → Sp} (h : StepsAt w (some a) n f) (j : Nat) (u : Value) (hj : (stepsW f n)[j]? = some u) : w.cell? (a.add j) = some u := by
  have hl := (List.getElem?_eq_some_iff.1 hj).1
  rw [stepsW_len] at hl
  have e : j = j / 5 * 5 + j % 5 := by omega
  rw [e, stepsW_get f n (j / 5) (j % 5) (by omega) (by omega)] at hj
  obtain ⟨_, _, a2, ha, hc⟩ := h (j / 5) (by omega)
  cases ha
  rw [e]
  exact hc _ u hj
theorem info_step3 : (Tryd.prog.info? 54).map (fun i => (i.zero, i.size, i.bytes)) = some (some (.agg #[.int .u8 0, .int .i64 0, .string ⟨#[]⟩, .int .i64 0, .slice none 0 0]), 5, 64) := by kernel_rfl
theorem own_form {w : World} {b : Nat} {e : TypeId} {s n : Nat} {v : Value} {xs : List Value} (h : w.ownsRow b e s v n xs) : ∃ ao c, v = .slice ao n c := by
  obtain ⟨_, ⟨rfl, rfl⟩ | ⟨g, cap, cur, rfl, _⟩⟩ := h
  · exact ⟨_, _, rfl⟩
  · exact ⟨_, _, rfl⟩
theorem grown_below {w w' : World} {B : Nat} {row : Option Nat} (hg : w.grownBy w' row) (hB : B ≤ w.heap.size) (h : ∀ k, row = some k → B ≤ k) : Below B w w' :=
  ⟨hg.os, hg.tape, hg.output, hg.size, fun j hj => hg.block j (by omega) (fun e => by have := h j e.symm; omega)⟩
/-- Steps behind a row of the call's own. -/
theorem steps_push {w0 w : World} {v : Value} {k : Nat} {xs : List Value} (ho : w.ownsRow w0.heap.size 54 5 v k xs) (hb : Below w0.heap.size w0 w) {ao : Option Addr} {n c : Nat} {f : Nat → Sp} (hf : StepsAt w ao n f) (na : ao = none → n = 0 ∧ c = 0) (hk : k ≤ 1000) (hn : n ≤ 1000) (ty : TypeId) :
    ∃ eo ec w', (Builtin.append_ #[49, 49] ty #[v, .slice ao n c]).run Tryd.prog w = .ok (.slice eo (k + n) ec) w' ∧ w'.ownsRow w0.heap.size 54 5 (.slice eo (k + n) ec) (k + n) (xs ++ stepsW f n) ∧ Below w0.heap.size w0 w' := by
  obtain ⟨i0, hi, hz0, hz1, hz2⟩ := info_parts info_step3
  cases ao with
  | none =>
    obtain ⟨rfl, rfl⟩ := na rfl
    obtain ⟨eo, ec, rfl⟩ := own_form ho
    exact ⟨eo, ec, w, run_append_owned_none (P := Tryd.prog) _ w0.heap.size 49 ty 54 i0 5 Tryd.underlying49 hi _ k xs ho, by simpa [stepsW] using ho, hb⟩
  | some a =>
    obtain ⟨v', w', hr, ho', hg, _⟩ := run_append_own (P := Tryd.prog) w w0.heap.size 49 ty 54 i0 _ 5 64 Tryd.underlying49 hi hz0 hz1 hz2 rfl (by decide) v k xs ho a n c (stepsW f n) (stepsW_len f n) (stepsW_cell hf) (stepsW_one f n) (by unfold maxLen; omega) (by omega) hb.size
    obtain ⟨eo, ec, rfl⟩ := own_form ho'
    exact ⟨eo, ec, w', hr, ho', hb.trans (grown_below hg hb.size fun k hk => (ho.lt k hk).1)⟩
def joinF (f : Nat → Sp) (n : Nat) (g : Nat → Sp) (i : Nat) : Sp := if i < n then f i else g (i - n)
theorem steps_at {w0 w : World} {eo : Option Addr} {n m ec : Nat} {f g : Nat → Sp} {ao bo : Option Addr} (ho : w.ownsRow w0.heap.size 54 5 (.slice eo (n + m) ec) (n + m) (stepsW f n ++ stepsW g m)) (hf : StepsAt w ao n f) (hg : StepsAt w bo m g) : StepsAt w eo (n + m) (joinF f n g) := by
  intro i hi
  have hc := fun q hq => World.ownsRow.cells ho (g := q) hq
  obtain ⟨_, ⟨_, h0⟩ | ⟨q, cap, cur, hv, _⟩⟩ := ho
  · omega
  injection hv with hv _ _
  subst hv
  unfold joinF
  by_cases e : i < n
  · rw [if_pos e]
    obtain ⟨h1, h2, _⟩ := hf i e
    refine ⟨h1, h2, _, rfl, fun j u hj => hc q rfl (i * 5 + j) u ?_⟩
    have hj5 : j < 5 := by have := (Array.getElem?_eq_some_iff.1 hj).1; simpa using this
    rw [List.getElem?_append_left (by rw [stepsW_len]; omega), stepsW_get f n i j e hj5]
    exact hj
  · rw [if_neg e]
    obtain ⟨h1, h2, _⟩ := hg (i - n) (by omega)
    refine ⟨h1, h2, _, rfl, fun j u hj => hc q rfl (i * 5 + j) u ?_⟩
    have hj5 : j < 5 := by have := (Array.getElem?_eq_some_iff.1 hj).1; simpa using this
    rw [List.getElem?_append_right (by rw [stepsW_len]; omega), stepsW_len, show i * 5 + j - n * 5 = (i - n) * 5 + j by omega, stepsW_get g m (i - n) j (by omega) hj5]
    exact hj
/-- The two appends. -/
theorem steps_join {W w : World} (hb : Below W.heap.size W w) {ao bo : Option Addr} {n c m d : Nat} {f g : Nat → Sp} (hf : StepsAt W ao n f) (hg : StepsAt W bo m g) (na : ao = none → n = 0 ∧ c = 0) (nb : bo = none → m = 0 ∧ d = 0) (hn : n ≤ 400) (hm : m ≤ 400) :
    ∃ co cc w1 eo ec w2, (Builtin.append_ #[49, 49] 49 #[.slice (some ⟨w.heap.size, 0, none⟩) 0 0, .slice ao n c]).run Tryd.prog (w.alloc (.cells #[] 54)) = .ok (.slice co n cc) w1 ∧
      (Builtin.append_ #[49, 49] 49 #[.slice co n cc, .slice bo m d]).run Tryd.prog w1 = .ok (.slice eo (n + m) ec) w2 ∧ StepsAt w2 eo (n + m) (joinF f n g) ∧ Below w.heap.size w w2 := by
  have hbx := below_box w (.cells #[] 54)
  have up : ∀ u, Below w.heap.size w u → Below W.heap.size W u := fun u hu => hb.trans (hu.mono hb.size)
  have hown : (w.alloc (.cells #[] 54)).ownsRow w.heap.size 54 5 (.slice (some ⟨w.heap.size, 0, none⟩) 0 0) 0 [] := ⟨rfl, .inr ⟨w.heap.size, 0, #[], rfl, Nat.le_refl _, heap_alloc_new w _, Nat.le_refl _, by unfold maxLen; omega, rfl, rfl⟩⟩
  obtain ⟨co, cc, w1, h1, o1, b1⟩ := steps_push hown hbx (hf.step (up _ hbx)) na (by omega) (by omega) 49
  rw [Nat.zero_add] at h1 o1
  rw [List.nil_append] at o1
  obtain ⟨eo, ec, w2, h2, o2, b2⟩ := steps_push o1 b1 (hg.step (up _ b1)) nb (by omega) (by omega) 49
  exact ⟨co, cc, w1, eo, ec, w2, h1, h2, steps_at o2 (hf.step (up _ b2)) (hg.step (up _ b2)), b2⟩
/-- A row that is no row is empty. -/
theorem open_none {H : Type} {enc : TypeId × Value → H} {w : World} {base : Nat} {held : Bool} {spare : Nat → Bool} {ao : Option Addr} {n c : Nat} {d : DataW H} {pl : List MemPlace} (h : DataW.Trod enc Tryd.prog w base spare held 49 (.slice ao n c) d pl) : ao = none → n = 0 ∧ c = 0 := by
  rintro rfl
  obtain ⟨fuel, hf⟩ := h
  rcases open_slice Tryd.underlying49 hf with ⟨hcs, _⟩ | ⟨a, len, cap, m, k, D, Pl, hcs, _⟩
  · simp [Value.cells] at hcs
    omega
  · simp [Value.cells] at hcs
end M
end Go.Proofs.YtoacmingocmaaaaDoor
/- Some disks beside blocks that are told; a row of steps that grows by one. -/
namespace Go.Proofs.YtoacmingocmaaaaDoor
open Go.ChangeShapes Go.WideShapes Go.ChangeAt Go.RowKit Go.Lib Go.Deep
namespace M
open MM
/-- The disks L stand, none of which shares a block with another or with G. -/
structure DsG (W : World) (L : Dl) (G : Nat → Prop) (w : World) : Prop where
  ex : ∃ Fs : Nat → Nat → Prop, (∀ (i : Nat) (x : Nat × Nat × Dsk), L[i]? = some x → Dk w (Fs i) x.1 x.2.1 x.2.2 ∧ ∀ k, Fs i k → W.heap.size ≤ k) ∧
    (∀ i j, i < L.length → j < L.length → i ≠ j → ∀ k, Fs i k → ¬ Fs j k) ∧ (∀ k, G k → k < w.heap.size) ∧ (∀ i, i < L.length → ∀ k, G k → ¬ Fs i k)
  below : Below W.heap.size W w
section
variable {W w w' : World} {L : Dl} {R : World → Prop} {G : Nat → Prop}
theorem Ds.toG (h : Ds W L R w) (hG : ∀ k, ¬ G k) : DsG W L G w := by
  obtain ⟨Fs, K, h1, h2, _, _, _⟩ := h.ex
  exact ⟨⟨Fs, h1, h2, fun k hk => absurd hk (hG k), fun _ _ k hk => absurd hk (hG k)⟩, h.below⟩
theorem DsG.toDs (h : DsG W L G w) (hR : ∀ u : World, (∀ k, G k → u.heap[k]? = w.heap[k]?) → R u) : Ds W L R w := by
  obtain ⟨Fs, h1, h2, h3, h4⟩ := h.ex
  exact ⟨⟨Fs, G, h1, h2, h3, h4, hR⟩, h.below⟩
theorem DsG.dk (h : DsG W L G w) {i : Nat} {x : Nat × Nat × Dsk} (hi : L[i]? = some x) : ∃ F, Dk w F x.1 x.2.1 x.2.2 ∧ (∀ u, Chg F w u → Below W.heap.size W u ∧ ∀ k, G k → u.heap[k]? = w.heap[k]?) ∧ ∀ N' s' w', Did w F x.1 N' s' w' → DsG W (L.set i (x.1, N', s')) G w' := by
  obtain ⟨Fs, h1, h2, h3, h4⟩ := h.ex
  have hil := (List.getElem?_eq_some_iff.1 hi).1
  obtain ⟨hd, hF⟩ := h1 i x hi
  have hR : ∀ u, Chg (Fs i) w u → Below W.heap.size W u ∧ ∀ k, G k → u.heap[k]? = w.heap[k]? := fun u hu => ⟨h.below.trans (hu.below hF h.below.size), fun k hk => hu.block k (h3 k hk) (h4 i hil k hk)⟩
  refine ⟨Fs i, hd, hR, fun N' s' w' hdid => ?_⟩
  obtain ⟨F', k1, k2, k3⟩ := hdid
  refine ⟨⟨fun j => if j = i then F' else Fs j, fun j y hj => ?_, fun a b ha hb hab k hak => ?_, fun k hk => Nat.lt_of_lt_of_le (h3 k hk) k3.size, fun j hj k hk => ?_⟩, (hR w' k3).1⟩
  · by_cases e : j = i
    · subst e
      rw [List.getElem?_set_self hil] at hj
      obtain rfl : (x.1, N', s') = y := by simpa using hj
      show Dk w' (if j = j then F' else Fs j) _ _ _ ∧ ∀ k, (if j = j then F' else Fs j) k → _
      rw [if_pos rfl]
      exact ⟨k1, fun k hk => (k2 k hk).elim (hF k) fun h6 => Nat.le_trans h.below.size h6⟩
    · rw [List.getElem?_set_ne (fun e' => e e'.symm)] at hj
      simp only [if_neg e]
      obtain ⟨q1, q2⟩ := h1 j y hj
      exact ⟨q1.chg k3 fun k hk => h2 j i (List.getElem?_eq_some_iff.1 hj).1 hil e k hk, q2⟩
  · rw [List.length_set] at ha hb
    simp only at hak ⊢
    by_cases e1 : a = i
    · subst e1
      rw [if_pos rfl] at hak
      rw [if_neg (fun e => hab e.symm)]
      intro hbk
      obtain ⟨y, hy⟩ : ∃ y, L[b]? = some y := ⟨_, List.getElem?_eq_getElem hb⟩
      have hlt := (h1 b y hy).1.old k hbk
      rcases k2 k hak with h6 | h6
      · exact h2 a b ha hb hab k h6 hbk
      · omega
    · rw [if_neg e1] at hak
      obtain ⟨y, hy⟩ : ∃ y, L[a]? = some y := ⟨_, List.getElem?_eq_getElem ha⟩
      have hlt := (h1 a y hy).1.old k hak
      by_cases e2 : b = i
      · subst e2
        rw [if_pos rfl]
        intro hbk
        rcases k2 k hbk with h6 | h6
        · exact h2 a b ha hb hab k hak h6
        · omega
      · rw [if_neg e2]
        exact h2 a b ha hb hab k hak
  · rw [List.length_set] at hj
    simp only
    by_cases e : j = i
    · subst e
      rw [if_pos rfl]
      intro hf
      rcases k2 k hf with h6 | h6
      · exact h4 j hj k hk h6
      · have := h3 k hk; omega
    · rw [if_neg e]
      exact h4 j hj k hk
theorem DsG.grow (h : DsG W L G w) {G' : Nat → Prop} (hc : Chg G w w') (hGW : ∀ k, G k → W.heap.size ≤ k) (hG' : ∀ k, G' k → (G k ∨ w.heap.size ≤ k) ∧ k < w'.heap.size) : DsG W L G' w' := by
  obtain ⟨Fs, h1, h2, h3, h4⟩ := h.ex
  refine ⟨⟨Fs, fun i x hx => ⟨(h1 i x hx).1.chg hc fun k hk hg => h4 i (List.getElem?_eq_some_iff.1 hx).1 k hg hk, (h1 i x hx).2⟩, h2, fun k hk => (hG' k hk).2, fun i hi k hk hf => ?_⟩, h.below.trans (hc.below hGW h.below.size)⟩
  rcases (hG' k hk).1 with h5 | h5
  · exact h4 i hi k h5 hf
  · have := (h1 i _ (List.getElem?_eq_getElem hi)).1.old k hf
    omega
theorem DsG.write (h : DsG W L G w) {i B N : Nat} {s : Dsk} (hi : L[i]? = some (B, N, s)) (hN : N + 1 ≤ 1000000) (k : Int) (t : By) : Calls Tryd.prog 43 #[ptr B, .int .i64 k, .string ⟨t.toArray⟩] w fun e w' => e = .returned (.int .i64 ((s.write k t).1 : Int)) ∧ DsG W (L.set i (B, N + 1, (s.write k t).2)) G w' ∧ (∀ k, G k → w'.heap[k]? = w.heap[k]?) ∧ w.heap.size ≤ w'.heap.size := by
  obtain ⟨F, hd, hR, hgo⟩ := h.dk hi
  exact (write_any hd hN k t).mono fun e w' ⟨h1, h2⟩ => ⟨h1, hgo _ _ _ h2, by obtain ⟨F', _, _, hc⟩ := h2; exact ⟨(hR w' hc).2, hc.size⟩⟩
end
/-- The steps of a list, one behind the other. -/
def lst (ys : List Sp) (r : Nat) : Sp := ys.getD r default
theorem stepsW_congr {f g : Nat → Sp} : ∀ {n : Nat}, (∀ i, i < n → f i = g i) → stepsW f n = stepsW g n
  | 0, _ => rfl
  | n + 1, h => by rw [stepsW, stepsW, stepsW_congr (n := n) (fun i hi => h i (by omega)), h n (by omega)]
theorem lst_snoc (ys : List Sp) (y : Sp) : stepsW (lst (ys ++ [y])) (ys.length + 1) = stepsW (lst ys) ys.length ++ y.cells.toList := by
  rw [stepsW]
  congr 1
  · exact stepsW_congr fun i hi => by simp [lst, List.getElem?_append_left hi]
  · simp [lst]
/-- The row of steps that the call has made so far. -/
structure RowS (w0 : World) (v : Value) (ys : List Sp) (w : World) : Prop where
  own : w.ownsRow w0.heap.size 54 5 v ys.length (stepsW (lst ys) ys.length)
abbrev Gv (v : Value) : Nat → Prop := fun k => v.ownBlock = some k
theorem RowS.kept {w0 w w' : World} {v : Value} {ys : List Sp} (h : RowS w0 v ys w) (he : ∀ k, Gv v k → w'.heap[k]? = w.heap[k]?) : RowS w0 v ys w' := by
  obtain ⟨h1, h2⟩ := h.own
  refine ⟨h1, h2.imp id ?_⟩
  rintro ⟨g, cap, cur, hv, hg, hh, r⟩
  exact ⟨g, cap, cur, hv, hg, (he g (by rw [hv]; rfl)).trans hh, r⟩
/-- One step more. -/
theorem RowS.push {W w0 w : World} {L : Dl} {v : Value} {ys : List Sp} (h : RowS w0 v ys w) (hd : DsG W L (Gv v) w) (hW : W.heap.size ≤ w0.heap.size) (h0 : w0.heap.size ≤ w.heap.size) (y : Sp) (hl : ys.length ≤ 1000) (ty : TypeId) :
    ∃ ao c w', (Builtin.append_ #[49, 49] ty #[v, .slice (some ⟨w.heap.size, 0, none⟩) 1 1]).run Tryd.prog (w.alloc (.cells y.cells 54)) = .ok (.slice ao (ys.length + 1) c) w' ∧ RowS w0 (.slice ao (ys.length + 1) c) (ys ++ [y]) w' ∧ DsG W L (Gv (.slice ao (ys.length + 1) c)) w' ∧ w0.heap.size ≤ w'.heap.size := by
  obtain ⟨i0, hi, hz0, hz1, hz2⟩ := info_parts info_step3
  have hbx := below_box w (.cells y.cells 54)
  have hx := h.kept (w' := w.alloc (.cells y.cells 54)) fun k hk => hbx.block k (h.own.lt k hk).2
  have hs : w0.heap.size ≤ (w.alloc (.cells y.cells 54)).heap.size := by have := hbx.size; omega
  obtain ⟨v', w', hr, ho, hg, _, hown⟩ := run_append_own_at (P := Tryd.prog) (w.alloc (.cells y.cells 54)) w0.heap.size 49 ty 54 i0 _ 5 64 Tryd.underlying49 hi hz0 hz1 hz2 rfl (by decide) v ys.length _ hx.own ⟨w.heap.size, 0, none⟩ 1 1 y.cells.toList rfl (fun j u hj => by
    have hn := heap_alloc_new w (.cells y.cells 54)
    rw [Addr.add_lit, Nat.zero_add, cell_of_row _ w.heap.size j _ _ _ hn, ← hj, Array.getElem?_toList]) (fun u hu => stepsW_one (fun _ => y) 1 u (by simpa [stepsW] using hu)) (by unfold maxLen; omega) (by omega) hs
  obtain ⟨ao, c, rfl⟩ := own_form ho
  have hlt := ho.lt
  have hlt0 := hx.own.lt
  refine ⟨ao, c, w', hr, ⟨by rw [List.length_append, List.length_singleton, lst_snoc]; exact ho⟩, hd.grow (w' := w') ((Chg.of_below _ hbx).trans ((Chg.refl _ _).grown (row := v.ownBlock) hg fun k hk => .inl hk) fun b hb => .inl hb) (fun k hk => Nat.le_trans hW (h.own.lt k hk).1) fun k hk => ⟨?_, (hlt k hk).2⟩, Nat.le_trans hs hg.size⟩
  have hk : (Value.slice ao (ys.length + 1) c).ownBlock = some k := hk
  rcases hown with e | e
  · exact .inl (by rw [e] at hk; exact hk)
  · rw [e] at hk
    injection hk with hk
    rw [World.size_alloc] at hk
    exact .inr (by omega)
/-- Two cells of a step of the row. -/
theorem RowS.cell {w0 w : World} {ad : Addr} {n c : Nat} {ys : List Sp} (h : RowS w0 (.slice (some ad) n c) ys w) {k : Nat} {y : Sp} (hk : ys[k]? = some y) : ∃ q O, ad.add (k * 5) = ⟨q, O, none⟩ ∧ w.cell? ⟨q, O + 1, none⟩ = some (.int .i64 y.at_) ∧ w.cell? ⟨q, O + 2, none⟩ = some (.string ⟨y.s.toArray⟩) := by
  have hl := (List.getElem?_eq_some_iff.1 hk).1
  have hc := fun q hq => World.ownsRow.cells h.own (g := q) hq
  obtain ⟨_, ⟨hv, _⟩ | ⟨q, cap, cur, hv, _⟩⟩ := h.own
  · cases hv
  injection hv with hv _ _
  injection hv with hv
  subst hv
  have hy : lst ys k = y := by simp [lst, hk]
  have e : ∀ (j : Nat) (u : Value), y.cells[j]? = some u → j < 5 → w.cell? ⟨q, k * 5 + j, none⟩ = some u := fun j u hj h5 => by
    have := hc q rfl (k * 5 + j) u (by rw [stepsW_get _ _ _ _ hl h5, hy]; exact hj)
    rwa [Addr.add_lit, Nat.zero_add] at this
  exact ⟨q, k * 5, by rw [Addr.add_lit, Nat.zero_add], e 1 _ rfl (by decide), e 2 _ rfl (by decide)⟩
theorem RowS.some {w0 w : World} {ao : Option Addr} {n c : Nat} {ys : List Sp} (h : RowS w0 (.slice ao n c) ys w) (hl : 0 < ys.length) : ∃ ad, ao = .some ad := by
  obtain ⟨_, ⟨_, h0⟩ | ⟨q, cap, cur, hv, _⟩⟩ := h.own
  · omega
  · injection hv with hv _ _
    exact ⟨_, hv⟩
theorem OwnE.pushBool {w0 w : World} {v : Value} {l : List Value} (h : OwnE w0 4 v l w) (x : Bool) (hl : l.length ≤ 1000000) (ty : TypeId) :
    ∃ ao' c' w', (Builtin.append_ #[40, 40] ty #[v, .slice (some ⟨w.heap.size, 0, none⟩) 1 1]).run Tryd.prog (w.alloc (.cells #[.bool x] 4)) = .ok (.slice ao' (l.length + 1) c') w' ∧ OwnE w0 4 (.slice ao' (l.length + 1) c') (l ++ [.bool x]) w' := by
  obtain ⟨i0, hi, hz0, hz1, hz2⟩ := info_parts info_bool
  obtain ⟨ao', c', w', h1, h2, _⟩ := h.push Tryd.underlying40 hi hz0 hz1 hz2 rfl (by decide) (.bool x) rfl hl ty
  exact ⟨ao', c', w', h1, h2⟩
end M
end Go.Proofs.YtoacmingocmaaaaDoor

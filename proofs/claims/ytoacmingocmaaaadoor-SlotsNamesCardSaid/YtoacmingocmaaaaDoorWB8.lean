/- The texts DskLong, DskSet, WirMath, one behind the other. -/
import Derived.Test.YtoacmingocmaaaaDoorWB5
import Derived.SizedLaws
import Derived.Test.YtoacmingocmaaaaDoorWB7
import Derived.Test.YtoacmingocmaaaaDoorWB1
/- How big the steps that come in are; are they more than a statement goes over? -/
namespace Go.Proofs.YtoacmingocmaaaaDoor
open Go.ChangeShapes Go.WideShapes Go.ChangeAt Go.RowKit Go.Deep
namespace MM
/-- How much the first steps are. -/
def sm (f : Nat → Sp) : Nat → Nat
  | 0 => 0
  | i + 1 => sm f i + (100 + (f i).s.length + (f i).keep.length)
theorem sm_ge (f : Nat → Sp) : ∀ i, 100 * i ≤ sm f i
  | 0 => Nat.le_refl _
  | i + 1 => by have := sm_ge f i; unfold sm; omega
theorem sm_each (f : Nat → Sp) : ∀ n i, i < n → 100 + (f i).s.length + (f i).keep.length ≤ sm f n
  | 0, _, h => absurd h (by omega)
  | n + 1, i, h => by
    unfold sm
    by_cases e : i = n
    · subst e; omega
    · have := sm_each f n i (by omega); omega
end MM
namespace M
/-- No text and no row of the steps is beyond the reach. -/
def StepsSm (n : Nat) (f : Nat → Sp) : Prop := ∀ i, i < n → (f i).s.length ≤ 140737488355328 ∧ (f i).keep.length ≤ 140737488355328
section
variable {H : Type} {enc : TypeId × Value → H} {w : World} {base : Nat} {held : Bool} {spare : Nat → Bool}
/-- No text and no row in it is beyond the reach. -/
def Small (d : DataW H) (t : TypeId) : Prop := ∀ n ∈ d.weights Tryd.prog t, n ≤ 140737488355328
theorem small_all {e : TypeId} : ∀ {ds : List (DataW H)}, (∀ n ∈ DataW.weightsAll Tryd.prog e ds, n ≤ 140737488355328) → ∀ d ∈ ds, Small d e
  | [], _, d, hd => by simp at hd
  | d0 :: r, h, d, hd => by
    simp only [DataW.weightsAll, List.mem_append] at h
    rcases List.mem_cons.1 hd with rfl | hd
    · exact fun n hn => h n (.inl hn)
    · exact small_all (fun n hn => h n (.inr hn)) d hd
theorem small_each {ts : List TypeId} {ds : List (DataW H)} (h : (DataW.weightsEach Tryd.prog ts ds).all (· ≤ reachBytes) = true) {j : Nat} {t : TypeId} {d : DataW H} (ht : ts[j]? = some t) (hd : ds[j]? = some d) : Small d t := fun n hn => by
  have h1 := List.all_eq_true.1 h _ (DataW.weights_mem_each ht hd n hn)
  have h2 : reachBytes ≤ 140737488355328 := by decide
  have h3 : n ≤ reachBytes := by simpa using h1
  exact Nat.le_trans h3 h2
theorem str_small {fuel : Nat} {s : ByteArray} {x : DataW H × List MemPlace} (h : DataW.trod enc Tryd.prog w base spare held fuel 9 [.string s] = some x) (hw : Small x.1 9) : s.size ≤ 140737488355328 := by
  obtain ⟨s2, e, hx, _⟩ := DataW.trod_string Tryd.underlying9 h
  subst hx
  have e2 : s = s2 := by simpa using e
  subst e2
  have := hw s.data.toList.length (by simp [DataW.weights])
  rw [Lib.size_eq]
  exact this
set_option maxRecDepth 100000 in
theorem row_small {fuel : Nat} {ao : Option Addr} {len cap : Nat} {x : DataW H × List MemPlace} (h : DataW.trod enc Tryd.prog w base spare held fuel 40 [.slice ao len cap] = some x) (hw : Small x.1 40) : len ≤ 140737488355328 := by
  rcases open_slice Tryd.underlying40 h with ⟨hcs, _⟩ | ⟨a, len0, cap0, m, n, D, Pl, hcs, _, hl, hm, hmm, hx, _⟩
  · simp at hcs
    omega
  · simp at hcs
    obtain ⟨rfl, rfl, rfl⟩ := hcs
    subst hx
    have hb : Tryd.prog.bytesOf 4 = 1 := by kernel_rfl
    have := hw ((((List.range len).map D).length + ((List.range (m - len)).map fun j => D (len + j)).length) * Tryd.prog.bytesOf 4) (by
      unfold DataW.weights
      rw [Tryd.underlying40]
      exact List.mem_cons_self ..)
    rw [hb] at this
    simp at this
    omega
set_option maxRecDepth 100000 in
theorem step_small {fuel : Nat} {t : Sp} {x : DataW H × List MemPlace} (h : DataW.trod enc Tryd.prog w base spare held fuel 54 t.cells.toList = some x) (hw : Small x.1 54) : t.s.length ≤ 140737488355328 ∧ t.keep.length ≤ 140737488355328 := by
  obtain ⟨xs, k, _, hx, _, hxl, hf⟩ := DataW.trod_struct Tryd.underlying54 h
  subst hx
  have c2 : Tryd.prog.cellsOf 9 = 1 := by kernel_rfl
  have c3 : Tryd.prog.cellsOf 40 = 1 := by kernel_rfl
  have g2 := hf 2 _ rfl
  have g3 := hf 4 _ rfl
  match xs, hxl with
  | [y0, y1, y2, y3, y4], _ =>
    have g2' : DataW.trod enc Tryd.prog w base spare held k 9 [.string ⟨t.s.toArray⟩] = some y2 := by simpa [c2] using g2
    have g3' : DataW.trod enc Tryd.prog w base spare held k 40 [.slice t.ko t.keep.length t.kc] = some y4 := by simpa [c3] using g3
    have hW : ∀ (j : Nat) (ty : TypeId) (d : DataW H), ([5, 3, 9, 3, 40] : List TypeId)[j]? = some ty → ([y0.1, y1.1, y2.1, y3.1, y4.1] : List (DataW H))[j]? = some d → Small d ty := fun j ty d hj hd n hn => by
      refine hw n ?_
      unfold DataW.weights
      rw [Tryd.underlying54]
      exact DataW.weights_mem_each (ts := [5, 3, 9, 3, 40]) hj hd n hn
    have s2 := str_small g2' (hW 2 _ _ rfl rfl)
    have s3 := row_small g3' (hW 4 _ _ rfl rfl)
    exact ⟨by rw [Lib.size_eq] at s2; exact s2, s3⟩
theorem bools_small {ao : Option Addr} {l : List Bool} {c : Nat} {d : DataW H} {pl : List MemPlace} (h : DataW.Trod enc Tryd.prog w base spare held 40 (.slice ao l.length c) d pl) (hw : Small d 40) : l.length ≤ 140737488355328 := by
  obtain ⟨fuel, hf⟩ := h
  exact row_small (x := (d, pl)) (by simpa [Value.cells] using hf) hw
set_option maxRecDepth 100000 in
theorem steps_small {ao : Option Addr} {n c : Nat} {f : Nat → Sp} {d : DataW H} {pl : List MemPlace} (h : DataW.Trod enc Tryd.prog w base spare held 49 (.slice ao n c) d pl) (hw : Small d 49) (hf : StepsAt w ao n f) : StepsSm n f := by
  intro i hi
  obtain ⟨fuel, hfu⟩ := h
  rcases open_slice Tryd.underlying49 hfu with ⟨hcs, _⟩ | ⟨a, len0, cap0, m, k, D, Pl, hcs, _, hl, hm, hmm, hx, hel⟩
  · simp [Value.cells] at hcs
    omega
  · simp [Value.cells] at hcs
    obtain ⟨rfl, rfl, rfl⟩ := hcs
    have hle : n ≤ m := by rw [hmm]; split <;> omega
    obtain ⟨cs', h1, h2⟩ := hel i (by omega)
    rw [show Tryd.prog.cellsOf 54 = 5 by kernel_rfl] at h1
    obtain ⟨_, hlen, hcell⟩ := World.cells?_some h1
    obtain ⟨_, _, a2, ha, hc⟩ := hf i hi
    cases ha
    have e : cs' = (f i).cells.toList := by
      apply List.ext_getElem?
      intro j
      by_cases hj : j < 5
      · have h3 := hcell j hj
        rw [add_add] at h3
        have hj5 : j < (f i).cells.size := hj
        have h4 := hc j _ (Array.getElem?_eq_getElem hj5)
        rw [← h3, h4, Array.getElem?_toList, Array.getElem?_eq_getElem hj5]
      · rw [List.getElem?_eq_none (by omega), List.getElem?_eq_none (by show 5 ≤ j; omega)]
    rw [e] at h2
    refine step_small h2 ?_
    have hd : d = .slice ((List.range n).map D) ((List.range (m - n)).map fun j => D (n + j)) := by injection hx
    subst hd
    refine small_all (e := 54) (ds := (List.range n).map D) (fun z hz => hw z ?_) (D i) (List.mem_map.2 ⟨i, List.mem_range.2 hi, rfl⟩)
    unfold DataW.weights
    rw [Tryd.underlying49]
    exact List.mem_cons_of_mem _ (List.mem_append_left _ hz)
end
/-- A step of a row, as it lies. -/
theorem cell_add {w : World} {a : Addr} {i : Nat} {v : Value} (h : w.cell? (a.add i) = some v) (hs : a.spot = none) : w.cell? ⟨a.block, a.off + i, none⟩ = some v := by
  obtain ⟨b, o, s⟩ := a
  simp only at hs ⊢
  subst hs
  rwa [Addr.add_lit] at h
theorem step_range {w : World} {a : Addr} {i : Nat} {t : Sp} (h : ∀ (j : Nat) (u : Value), t.cells[j]? = some u → w.cell? (a.add (i * 5 + j)) = some u) :
    ∃ B O, a.add (i * 5) = ⟨B, O, none⟩ ∧ w.rangeAt B O t.cells.toList := by
  have h0 := h 0 _ rfl
  rw [Nat.add_zero] at h0
  cases hs : (a.add (i * 5)).spot with
  | none =>
    refine ⟨(a.add (i * 5)).block, (a.add (i * 5)).off, by rw [← hs], fun j v hv => ?_⟩
    have h1 := h j v (by simpa using hv)
    rw [← add_add] at h1
    exact cell_add h1 hs
  | some x =>
    unfold World.cell? at h0
    rw [hs] at h0
    simp at h0
    split at h0 <;> cases h0
theorem range_below {W w : World} {B O : Nat} {cs : List Value} (h : W.rangeAt B O cs) (hb : Below W.heap.size W w) : w.rangeAt B O cs := fun j v hv => by
  rw [hb.cell (World.block_lt_of_cell? W _ (h j v hv))]
  exact h j v hv
theorem info_sp (t : Sp) : (Tryd.prog.info? 54).map (·.size) = some t.cells.toList.length := by kernel_rfl
set_option maxHeartbeats 8000000 in
set_option maxRecDepth 100000 in
theorem long_any (ao : Option Addr) (n c : Nat) (f : Nat → Sp) (hn : n ≤ 9223372036854775807) (W : World) (hf : StepsAt W ao n f) (hs : StepsSm n f) :
    Calls Tryd.prog 25 #[.slice ao n c] W fun e w' => ∃ r : Bool, e = .returned (.bool r) ∧ (r = false → MM.sm f n < 20000) ∧ Below W.heap.size W w' := by
  have HF := Lib.hid hf
  have HS := Lib.hid hs
  clear hf hs
  go_enter Tryd.func25, Tryd.ntmps25
  go_wp2_with fail
  go_loopw [3, 4] (fun s3 s4 wx => ∃ i T : Nat, i ≤ n ∧ T < 9223372036854775807 ∧ s4 = .int .i64 (i : Int) ∧ s3 = .int .i64 (T : Int) ∧ Hid (T = MM.sm f i) ∧ Below W.heap.size W wx) (fun _ s4 _ => n - (RowKit.intOf s4).toNat)
  case atStart => exact ⟨0, 0, Nat.zero_le _, by omega, rfl, rfl, Lib.hid rfl, Below.refl _ _⟩
  case round =>
    obtain ⟨i, T, hi, hTm, rfl, rfl, HT, hB0⟩ := hrel
    have HB := Lib.hid hB0
    clear hB0
    by_cases hlt : i < n
    · by_cases hT : T < 20000
      · have hTi : (T : Int) < 20000 := by omega
        obtain ⟨_, _, a, ha, hcl⟩ := HF.out i hlt
        obtain ⟨hs, hl⟩ := HS.out i hlt
        subst ha
        obtain ⟨B, O, hadr, hr1⟩ := step_range hcl
        have hr0 := range_below hr1 HB.out
        have hc2 : wr.cell? ⟨B, O + 2, none⟩ = some (.string ⟨(f i).s.toArray⟩) := hr0 2 _ rfl
        have hc3 : wr.cell? ⟨B, O + 4, none⟩ = some (.slice (f i).ko (f i).keep.length (f i).kc) := hr0 4 _ rfl
        have hsm : Hid (T + (100 + (f i).s.length + (f i).keep.length) = MM.sm f (i + 1)) := Lib.hid (by rw [HT.out]; rfl)
        clear hcl hr0 hr1
        generalize (f i).s = ts at *
        generalize (f i).keep.length = tl at *
        generalize (f i).ko = tko at *
        generalize (f i).kc = tkc at *
        have hw1 : IntKind.i64.wrap ((T : Int) + 100) = ((T + 100 : Nat) : Int) := by simp [IntKind.wrap, IntKind.bits, IntKind.signed]; omega
        have hw2 : IntKind.i64.wrap (((T + 100 : Nat) : Int) + (ts.length : Int)) = ((T + 100 + ts.length : Nat) : Int) := by simp [IntKind.wrap, IntKind.bits, IntKind.signed]; omega
        have hw4 : IntKind.i64.wrap (((T + 100 + ts.length : Nat) : Int) + (tl : Int)) = ((T + (100 + ts.length + tl) : Nat) : Int) := by simp [IntKind.wrap, IntKind.bits, IntKind.signed]; omega
        generalize wr = w0 at *
        go_wp2_with fail
        go_quiet (fail)
        go_wp2_with fail
        go_roundw
        case rel => exact ⟨i + 1, T + (100 + ts.length + tl), by omega, by omega, by go_num, by go_num, hsm, Below.drawn HB.out _⟩
        case measure => simp [RowKit.intOf]; omega
      · have hTi : ¬ (T : Int) < 20000 := by omega
        go_wp2_with fail
        go_ret
        exact .inr ⟨rfl, HB.out⟩
    · obtain rfl : i = n := by omega
      go_wp2_with fail
      go_ret
      exact ⟨_, rfl, fun h => by rw [← HT.out]; simp at h; omega, HB.out⟩
end M
end Go.Proofs.YtoacmingocmaaaaDoor
/- Some disks of the program's at once, none of which shares memory with another, and what stays beside them. -/
namespace Go.Proofs.YtoacmingocmaaaaDoor
open Go Go.RowKit Go.Lib
namespace M
open MM
abbrev Dl := List (Nat × Nat × Dsk)
/-- The disks L stand (each: its block, how many writes at most, what it is); R stays, whatever is done to them; nothing of what was there at W has changed. -/
structure Ds (W : World) (L : Dl) (R : World → Prop) (w : World) : Prop where
  ex : ∃ (Fs : Nat → Nat → Prop) (K : Nat → Prop),
    (∀ (i : Nat) (x : Nat × Nat × Dsk), L[i]? = some x → Dk w (Fs i) x.1 x.2.1 x.2.2 ∧ ∀ k, Fs i k → W.heap.size ≤ k) ∧
    (∀ i j, i < L.length → j < L.length → i ≠ j → ∀ k, Fs i k → ¬ Fs j k) ∧
    (∀ k, K k → k < w.heap.size) ∧ (∀ i, i < L.length → ∀ k, K k → ¬ Fs i k) ∧ (∀ u : World, (∀ k, K k → u.heap[k]? = w.heap[k]?) → R u)
  below : Below W.heap.size W w
section
variable {W w w' : World} {L : Dl} {R : World → Prop}
theorem Ds.start (W : World) (h : Below W.heap.size W w) : Ds W [] (fun _ => True) w := ⟨⟨fun _ _ => False, fun _ => False, fun i x h => by simp at h, fun i j h => by simp at h, fun _ h => h.elim, fun i h => by simp at h, fun _ _ => trivial⟩, h⟩
theorem Ds.rest (h : Ds W L R w) : R w := by
  obtain ⟨Fs, K, _, _, _, _, h5⟩ := h.ex
  exact h5 w fun _ _ => rfl
theorem Ds.step (h : Ds W L R w) (hb : Below w.heap.size w w') : Ds W L R w' := by
  obtain ⟨Fs, K, h1, h2, h3, h4, h5⟩ := h.ex
  exact ⟨⟨Fs, K, fun i x hx => ⟨(h1 i x hx).1.step hb, (h1 i x hx).2⟩, h2, fun k hk => Nat.lt_of_lt_of_le (h3 k hk) hb.size, h4, fun u hu => h5 u fun k hk => (hu k hk).trans (hb.block k (h3 k hk))⟩, h.below.trans (hb.mono h.below.size)⟩
/-- One of them. -/
theorem Ds.dk (h : Ds W L R w) {i : Nat} {x : Nat × Nat × Dsk} (hi : L[i]? = some x) : ∃ F, Dk w F x.1 x.2.1 x.2.2 ∧ (∀ u, Chg F w u → Below W.heap.size W u ∧ R u) ∧ ∀ N' s' w', Did w F x.1 N' s' w' → Ds W (L.set i (x.1, N', s')) R w' := by
  obtain ⟨Fs, K, h1, h2, h3, h4, h5⟩ := h.ex
  have hil := (List.getElem?_eq_some_iff.1 hi).1
  obtain ⟨hd, hF⟩ := h1 i x hi
  have hR : ∀ u, Chg (Fs i) w u → Below W.heap.size W u ∧ R u := fun u hu => ⟨h.below.trans (hu.below hF h.below.size), h5 u fun k hk => hu.block k (h3 k hk) (h4 i hil k hk)⟩
  refine ⟨Fs i, hd, hR, fun N' s' w' hdid => ?_⟩
  obtain ⟨F', k1, k2, k3⟩ := hdid
  refine ⟨⟨fun j => if j = i then F' else Fs j, K, fun j y hj => ?_, fun a b ha hb hab k hak => ?_, fun k hk => Nat.lt_of_lt_of_le (h3 k hk) k3.size, fun j hj k hk => ?_, fun u hu => h5 u fun k hk => (hu k hk).trans (k3.block k (h3 k hk) (h4 i hil k hk))⟩, (hR w' k3).1⟩
  · by_cases e : j = i
    · subst e
      rw [List.getElem?_set_self hil] at hj
      obtain rfl : (x.1, N', s') = y := by simpa using hj
      show Dk w' (if j = j then F' else Fs j) _ _ _ ∧ ∀ k, (if j = j then F' else Fs j) k → _
      rw [if_pos rfl]
      exact ⟨k1, fun k hk => (k2 k hk).elim (hF k) fun h6 => Nat.le_trans h.below.size h6⟩
    · rw [List.getElem?_set_ne (fun e' => e e'.symm)] at hj
      simp only [if_neg e]
      obtain ⟨q1, q2⟩ := h1 j y hj
      exact ⟨q1.chg k3 fun k hk => h2 j i (List.getElem?_eq_some_iff.1 hj).1 hil e k hk, q2⟩
  · rw [List.length_set] at ha hb
    simp only at hak ⊢
    by_cases e1 : a = i
    · subst e1
      rw [if_pos rfl] at hak
      rw [if_neg (fun e => hab e.symm)]
      intro hbk
      obtain ⟨y, hy⟩ : ∃ y, L[b]? = some y := ⟨_, List.getElem?_eq_getElem hb⟩
      have hlt := (h1 b y hy).1.old k hbk
      rcases k2 k hak with h6 | h6
      · exact h2 a b ha hb hab k h6 hbk
      · omega
    · rw [if_neg e1] at hak
      obtain ⟨y, hy⟩ : ∃ y, L[a]? = some y := ⟨_, List.getElem?_eq_getElem ha⟩
      have hlt := (h1 a y hy).1.old k hak
      by_cases e2 : b = i
      · subst e2
        rw [if_pos rfl]
        intro hbk
        rcases k2 k hbk with h6 | h6
        · exact h2 a b ha hb hab k hak h6
        · omega
      · rw [if_neg e2]
        exact h2 a b ha hb hab k hak
  · rw [List.length_set] at hj
    simp only
    by_cases e : j = i
    · subst e
      rw [if_pos rfl]
      intro hf
      rcases k2 k hf with h6 | h6
      · exact h4 j hj k hk h6
      · have := h3 k hk; omega
    · rw [if_neg e]
      exact h4 j hj k hk
/-- One more, that shares nothing. -/
theorem Ds.push (h : Ds W L R w) {F : Nat → Prop} {B N : Nat} {s : Dsk} (hd : Dk w' F B N s) (hF : ∀ k, F k → w.heap.size ≤ k) (hb : Below w.heap.size w w') : Ds W (L ++ [(B, N, s)]) R w' := by
  obtain ⟨Fs, K, h1, h2, h3, h4, h5⟩ := (h.step hb).ex
  obtain ⟨Gs, _, g1, _, _, _, _⟩ := h.ex
  have old : ∀ j, j < L.length → ∀ k, Fs j k → k < w'.heap.size := fun j hj k hk => (h1 j _ (List.getElem?_eq_getElem hj)).1.old k hk
  obtain ⟨Fs0, K0, a1, a2, a3, a4, a5⟩ := h.ex
  have b := h.below.trans (hb.mono h.below.size)
  refine ⟨⟨fun j => if j < L.length then Fs0 j else F, K0, fun j y hj => ?_, fun i j hi hj hij k hik => ?_, fun k hk => Nat.lt_of_lt_of_le (a3 k hk) hb.size, fun j hj k hk => ?_, fun u hu => a5 u fun k hk => (hu k hk).trans (hb.block k (a3 k hk))⟩, b⟩
  · by_cases e : j < L.length
    · rw [List.getElem?_append_left e] at hj
      simp only [if_pos e]
      exact ⟨(a1 j y hj).1.step hb, (a1 j y hj).2⟩
    · rw [List.getElem?_append_right (by omega)] at hj
      have e2 : j - L.length = 0 := by
        have := (List.getElem?_eq_some_iff.1 hj).1
        simp at this; omega
      rw [e2] at hj
      obtain rfl : (B, N, s) = y := by simpa using hj
      simp only [if_neg e]
      exact ⟨hd, fun k hk => Nat.le_trans h.below.size (hF k hk)⟩
  · rw [List.length_append, List.length_cons, List.length_nil] at hi hj
    simp only at hik ⊢
    have lt0 : ∀ a, a < L.length → ∀ k, Fs0 a k → k < w.heap.size := fun a ha k hk => (a1 a _ (List.getElem?_eq_getElem ha)).1.old k hk
    by_cases e1 : i < L.length
    · rw [if_pos e1] at hik
      by_cases e2 : j < L.length
      · rw [if_pos e2]; exact a2 i j e1 e2 hij k hik
      · rw [if_neg e2]
        intro hf
        have := lt0 i e1 k hik
        have := hF k hf
        omega
    · rw [if_neg e1] at hik
      by_cases e2 : j < L.length
      · rw [if_pos e2]
        intro hf
        have := lt0 j e2 k hf
        have := hF k hik
        omega
      · omega
  · simp only
    by_cases e : j < L.length
    · rw [if_pos e]; exact a4 j e k hk
    · rw [if_neg e]
      intro hf
      have := a3 k hk
      have := hF k hf
      omega
/-- A row of the call's own that stays as it is. -/
theorem Ds.row (h : Ds W L R w) {e : TypeId} {v : Value} {l : List Value} (ho : OwnE w e v l w') : Ds W L (fun u => R u ∧ ValsAt u v l) w' := by
  obtain ⟨Fs, K, h1, h2, h3, h4, h5⟩ := (h.step ho.below).ex
  obtain ⟨Fs0, K0, a1, a2, a3, a4, a5⟩ := h.ex
  have hlt := ho.own.lt
  have hvals := ho.vals
  refine ⟨⟨Fs0, fun k => K0 k ∨ v.ownBlock = some k, fun j y hj => ⟨(a1 j y hj).1.step ho.below, (a1 j y hj).2⟩, a2, fun k hk => ?_, fun j hj k hk => ?_, fun u hu => ⟨a5 u fun k hk => (hu k (.inl hk)).trans (ho.below.block k (a3 k hk)), ?_⟩⟩, h.below.trans (ho.below.mono h.below.size)⟩
  · rcases hk with hk | hk
    · exact Nat.lt_of_lt_of_le (a3 k hk) ho.below.size
    · exact (hlt k hk).2
  · rcases hk with hk | hk
    · exact a4 j hj k hk
    · intro hf
      have := (a1 j _ (List.getElem?_eq_getElem hj)).1.old k hf
      have := (hlt k hk).1
      omega
  · obtain ⟨ao, c, hv, hc⟩ := hvals
    refine ⟨ao, c, hv, fun i x hi => ?_⟩
    obtain ⟨g, c2, hv2, hc2⟩ := ho.cell hi
    rw [hv2] at hv
    injection hv with h6 _ _
    refine ⟨⟨g, 0, none⟩, h6.symm, ?_⟩
    rw [Addr.add_lit, Nat.zero_add]
    rw [World.cell?_of_block (w := w') (a := ⟨g, i, none⟩) (hu g (.inr (by rw [hv2]; rfl)))]
    exact hc2
theorem Ds.weaken {R' : World → Prop} (h : Ds W L R w) (hR : ∀ u, R u → R' u) : Ds W L R' w := by
  obtain ⟨Fs, K, h1, h2, h3, h4, h5⟩ := h.ex
  exact ⟨⟨Fs, K, h1, h2, h3, h4, fun u hu => hR u (h5 u hu)⟩, h.below⟩
/-! What the calls make of one of them. -/
variable {i B N : Nat} {s : Dsk}
theorem Ds.write (h : Ds W L R w) (hi : L[i]? = some (B, N, s)) (hN : N + 1 ≤ 1000000) (k : Int) (t : By) : Calls Tryd.prog 43 #[ptr B, .int .i64 k, .string ⟨t.toArray⟩] w fun e w' => e = .returned (.int .i64 ((s.write k t).1 : Int)) ∧ Ds W (L.set i (B, N + 1, (s.write k t).2)) R w' := by
  obtain ⟨F, hd, _, hgo⟩ := h.dk hi
  exact (write_any hd hN k t).mono fun e w' ⟨h1, h2⟩ => ⟨h1, hgo _ _ _ h2⟩
theorem Ds.sync (h : Ds W L R w) (hi : L[i]? = some (B, N, s)) (hN : 2 * N ≤ 1000000) : Calls Tryd.prog 24 #[ptr B] w fun e w' => e = .returned (.int .i64 (s.sync.1 : Int)) ∧ Ds W (L.set i (B, N, s.sync.2)) R w' := by
  obtain ⟨F, hd, _, hgo⟩ := h.dk hi
  exact (sync_any hd hN).mono fun e w' ⟨h1, h2⟩ => ⟨h1, hgo _ _ _ h2⟩
theorem Ds.fuse (h : Ds W L R w) (hi : L[i]? = some (B, N, s)) (n : Int) (hn : n ≤ 9223372036854775807) : Calls Tryd.prog 17 #[ptr B, .int .i64 n] w fun e w' => e = .returned (.tuple #[]) ∧ Ds W (L.set i (B, N, s.setFuse n)) R w' := by
  obtain ⟨F, hd, _, hgo⟩ := h.dk hi
  exact (fuse_any hd n hn).mono fun e w' ⟨h1, h2, h3⟩ => ⟨h1, hgo _ _ _ (.of h2 h3)⟩
theorem Ds.boot (h : Ds W L R w) (hi : L[i]? = some (B, N, s)) : Calls Tryd.prog 18 #[ptr B] w fun e w' => e = .returned (.tuple #[]) ∧ Ds W (L.set i (B, N, s.start)) R w' := by
  obtain ⟨F, hd, _, hgo⟩ := h.dk hi
  exact (start_any hd).mono fun e w' ⟨h1, h2, h3⟩ => ⟨h1, hgo _ _ _ (.of h2 h3)⟩
theorem Ds.crash (h : Ds W L R w) (hi : L[i]? = some (B, N, s)) (hN : 2 * N ≤ 1000000) (keep : List Bool) (ao : Option Addr) (kc : Nat) (n : Int) (hk : ∀ u, Below W.heap.size W u → R u → BoolsAt u ao keep) :
    Calls Tryd.prog 23 #[ptr B, .slice ao keep.length kc, .int .i64 n] w fun e w' => e = .returned (.tuple #[]) ∧ Ds W (L.set i (B, N, s.crash keep n)) R w' := by
  obtain ⟨F, hd, hR, hgo⟩ := h.dk hi
  exact (crash_any hd hN keep ao kc n fun u hu => hk u (hR u hu).1 (hR u hu).2).mono fun e w' ⟨h1, h2⟩ => ⟨h1, hgo _ _ _ h2⟩
theorem Ds.does (h : Ds W L R w) (hi : L[i]? = some (B, N, s)) (hN : 2 * (N + 1) ≤ 1000000) (x : Sp) (hx : x.Ok) (hk : ∀ u, Below W.heap.size W u → R u → BoolsAt u x.ko x.keep) :
    Calls Tryd.prog 28 #[.agg x.cells, ptr B] w fun e w' => e = .returned (.int .i64 ((s.step x.st).1 : Int)) ∧ Ds W (L.set i (B, N + 1, (s.step x.st).2)) R w' := by
  obtain ⟨F, hd, hR, hgo⟩ := h.dk hi
  exact (do_any hd hN x hx fun u hu => hk u (hR u hu).1 (hR u hu).2).mono fun e w' ⟨h1, h2⟩ => ⟨h1, hgo _ _ _ h2⟩
theorem Ds.read (h : Ds W L R w) (hi : L[i]? = some (B, N, s)) (k : Int) : Calls Tryd.prog 31 #[ptr B, .int .i64 k] w fun e w' => e = .returned (.string ⟨(s.read k).toArray⟩) ∧ Below w.heap.size w w' := by
  obtain ⟨F, hd, _, _⟩ := h.dk hi
  exact read_any hd k
theorem Ds.platter (h : Ds W L R w) (hi : L[i]? = some (B, N, s)) (k : Int) : Calls Tryd.prog 19 #[ptr B, .int .i64 k] w fun e w' => e = .returned (.string ⟨(s.platter k).toArray⟩) ∧ Below w.heap.size w w' := by
  obtain ⟨F, hd, _, _⟩ := h.dk hi
  exact platter_any hd k
theorem Ds.waits (h : Ds W L R w) (hi : L[i]? = some (B, N, s)) : Calls Tryd.prog 20 #[ptr B] w fun e w' => e = .returned (.int .i64 (s.c.length : Int)) ∧ w' = w := by
  obtain ⟨F, hd, _, _⟩ := h.dk hi
  exact waits_any hd
theorem Ds.dead (h : Ds W L R w) (hi : L[i]? = some (B, N, s)) : Calls Tryd.prog 30 #[ptr B] w fun e w' => e = .returned (.bool s.dead) ∧ w' = w := by
  obtain ⟨F, hd, _, _⟩ := h.dk hi
  exact dead_any hd
theorem Ds.used (h : Ds W L R w) (hi : L[i]? = some (B, N, s)) : Calls Tryd.prog 35 #[ptr B] w fun e w' => ∃ v l, e = .returned v ∧ UsedIs s l ∧ ValsAt w' v (ints l) ∧ Below w.heap.size w w' := by
  obtain ⟨F, hd, _, _⟩ := h.dk hi
  exact used_any hd
theorem Ds.new (h : Ds W L R w) : Calls Tryd.prog 16 #[] w fun e w' => ∃ B', e = .returned (ptr B') ∧ Ds W (L ++ [(B', 0, Dsk.new)]) R w' :=
  (new_any w).mono fun _ _ ⟨B', _, h1, h2, h3, h4⟩ => ⟨B', h1, h.push h2 h3 h4⟩
theorem Ds.wf (h : Ds W L R w) (hi : L[i]? = some (B, N, s)) : s.Wf := by
  obtain ⟨F, hd, _, _⟩ := h.dk hi
  exact hd.wf
end
end M
end Go.Proofs.YtoacmingocmaaaaDoor
/- Numbers as bytes, the most significant one first, and back. -/
namespace Go.Proofs.YtoacmingocmaaaaDoor
namespace MM
/-- The last w bytes of a number. -/
def dig (n w : Nat) : List UInt8 := (List.range w).map fun i => UInt8.ofNat (n / 256 ^ (w - 1 - i))
/-- The number that bytes are. -/
def val (l : List UInt8) : Nat := l.foldl (fun n b => n * 256 + b.toNat) 0
@[simp] theorem dig_len (n w : Nat) : (dig n w).length = w := by simp [dig]
theorem dig_get {n w i : Nat} (h : i < w) : (dig n w)[i]? = some (UInt8.ofNat (n / 256 ^ (w - 1 - i))) := by simp [dig, h]
theorem dig_succ (n w : Nat) : dig n (w + 1) = dig (n / 256) w ++ [UInt8.ofNat n] := by
  unfold dig
  rw [List.range_succ, List.map_append]
  congr 1
  · refine List.map_congr_left fun i hi => ?_
    have hi := List.mem_range.1 hi
    have e : w + 1 - 1 - i = (w - 1 - i) + 1 := by omega
    rw [e, Nat.pow_succ, Nat.mul_comm, ← Nat.div_div_eq_div_mul]
  · simp
theorem val_snoc (l : List UInt8) (b : UInt8) : val (l ++ [b]) = val l * 256 + b.toNat := by simp [val]
theorem val_lt : ∀ (k : Nat) (l : List UInt8), l.length = k → val l < 256 ^ k
  | 0, l, h => by
    obtain rfl := List.length_eq_zero_iff.1 h
    simp [val]
  | k + 1, l, h => by
    obtain ⟨m, b, rfl⟩ : ∃ m b, l = m ++ [b] := by
      rcases List.eq_nil_or_concat l with rfl | ⟨m, b, rfl⟩
      · simp at h
      · exact ⟨m, b, by simp⟩
    have h1 := val_lt k m (by simpa using h)
    have hb := b.toNat_lt
    rw [val_snoc, Nat.pow_succ]
    omega
theorem val_dig : ∀ (w n : Nat), val (dig n w) = n % 256 ^ w
  | 0, n => by simp [dig, val, Nat.mod_one]
  | w + 1, n => by
    rw [dig_succ, val_snoc, val_dig w, Nat.pow_succ, Nat.mul_comm (256 ^ w) 256, Nat.mod_mul]
    have : (UInt8.ofNat n).toNat = n % 256 := by simp [UInt8.toNat_ofNat']
    rw [this]
    omega
theorem dig_val : ∀ (k : Nat) (l : List UInt8), l.length = k → dig (val l) k = l
  | 0, l, h => by
    obtain rfl := List.length_eq_zero_iff.1 h
    simp [dig]
  | k + 1, l, h => by
    obtain ⟨m, b, rfl⟩ : ∃ m b, l = m ++ [b] := by
      rcases List.eq_nil_or_concat l with rfl | ⟨m, b, rfl⟩
      · simp at h
      · exact ⟨m, b, by simp⟩
    have hb := b.toNat_lt
    rw [dig_succ, val_snoc]
    have e1 : (val m * 256 + b.toNat) / 256 = val m := by omega
    rw [e1, dig_val k m (by simpa using h)]
    congr 2
    apply UInt8.toNat_inj.1
    simp
/-- One byte more: shifted, and put below. -/
theorem shl_or (n b : Nat) (hn : n < 72057594037927936) (hb : b < 256) : (n * 256 % 18446744073709551616) ||| b = n * 256 + b := by
  rw [Nat.mod_eq_of_lt (by omega)]
  have h := Nat.shiftLeft_add_eq_or_of_lt (a := n) (b := b) (i := 8) (by simpa using hb)
  rw [Nat.shiftLeft_eq] at h
  exact h.symm
/-- .. of a row's beginning. -/
theorem val_take (l : List UInt8) (k : Nat) (h : k < l.length) : val (l.take (k + 1)) = val (l.take k) * 256 + (l.getD k 0).toNat := by
  rw [List.take_add_one, List.getElem?_eq_getElem h]
  simp only [Option.toList_some]
  rw [val_snoc, List.getD_eq_getElem?_getD, List.getElem?_eq_getElem h]
  rfl
end MM
end Go.Proofs.YtoacmingocmaaaaDoor

/- The texts WirLong, WirMay, WirSized, WirBk, one behind the other. -/
import Derived.Test.YtaijnejbffnfpaaWB10
import Derived.SizedLaws
/- Are things more than a statement goes over? -/
namespace Go.Proofs.Ytaijnejbffnfpaa
open Go Go.RowKit Go.Lib
namespace MM
/-- How much the first things are. -/
def sm (f : Nat → Th) : Nat → Nat
  | 0 => 0
  | i + 1 => sm f i + (20 + (f i).s.length + 4 * (f i).len)
theorem sm_ge (f : Nat → Th) : ∀ i, 20 * i ≤ sm f i
  | 0 => Nat.le_refl _
  | i + 1 => by have := sm_ge f i; unfold sm; omega
theorem sm_each (f : Nat → Th) : ∀ n i, i < n → 20 + (f i).s.length + 4 * (f i).len ≤ sm f n
  | 0, _, h => absurd h (by omega)
  | n + 1, i, h => by
    unfold sm
    by_cases e : i = n
    · subst e; omega
    · have := sm_each f n i (by omega); omega
end MM
namespace M
set_option maxHeartbeats 8000000 in
set_option maxRecDepth 100000 in
theorem long_any (ao : Option Addr) (n c : Nat) (f : Nat → Th) (hn : n ≤ 9223372036854775807) (W : World)
    (hf : ∀ i, i < n → (f i).s.length ≤ 140737488355328 ∧ (f i).len ≤ 140737488355328 ∧ ∃ a, ao = some a ∧ ∀ (j : Nat) (u : Value), (f i).cells[j]? = some u → W.cell? (a.add (i * 5 + j)) = some u) :
    Calls Try.prog 41 #[.slice ao n c] W fun e w' => ∃ r : Bool, e = .returned (.bool r) ∧ (r = false → MM.sm f n < 9000) ∧ Below W.heap.size W w' := by
  have HF := Lib.hid hf
  clear hf
  go_enter Try.func41, Try.ntmps41
  go_wp2_with fail
  go_loopw [3, 4] (fun s3 s4 wx => ∃ i T : Nat, i ≤ n ∧ T < 9223372036854775807 ∧ s4 = .int .i64 (i : Int) ∧ s3 = .int .i64 (T : Int) ∧ Hid (T = MM.sm f i) ∧ Below W.heap.size W wx) (fun _ s4 _ => n - (RowKit.intOf s4).toNat)
  case atStart => exact ⟨0, 0, Nat.zero_le _, by omega, rfl, rfl, Lib.hid rfl, Below.refl _ _⟩
  case round =>
    obtain ⟨i, T, hi, hTm, rfl, rfl, HT, hB0⟩ := hrel
    have HB := Lib.hid hB0
    clear hB0
    by_cases hlt : i < n
    · by_cases hT : T < 9000
      · have hTi : (T : Int) < 9000 := by omega
        obtain ⟨hs, hl, a, ha, hcl⟩ := HF.out i hlt
        subst ha
        obtain ⟨B, O, hadr, hr1⟩ := thing_range hcl
        have hr0 := range_below hr1 HB.out
        have hc2 : wr.cell? ⟨B, O + 2, none⟩ = some (.string ⟨(f i).s.toArray⟩) := hr0 2 _ rfl
        have hc3 : wr.cell? ⟨B, O + 3, none⟩ = some (.slice (f i).ao (f i).len (f i).cap) := hr0 3 _ rfl
        have hsm : Hid (T + (20 + (f i).s.length + 4 * (f i).len) = MM.sm f (i + 1)) := Lib.hid (by rw [HT.out]; rfl)
        clear hcl hr0 hr1
        generalize f i = t at *
        obtain ⟨tk, tn, ts, tao, tl, tc, tz, tm⟩ := t
        simp only at hs hl hc2 hc3 hsm
        have hw1 : IntKind.i64.wrap ((T : Int) + 20) = ((T + 20 : Nat) : Int) := by simp [IntKind.wrap, IntKind.bits, IntKind.signed]; omega
        have hw2 : IntKind.i64.wrap (((T + 20 : Nat) : Int) + (ts.length : Int)) = ((T + 20 + ts.length : Nat) : Int) := by simp [IntKind.wrap, IntKind.bits, IntKind.signed]; omega
        have hw3 : IntKind.i64.wrap (4 * (tl : Int)) = ((4 * tl : Nat) : Int) := by simp [IntKind.wrap, IntKind.bits, IntKind.signed]; omega
        have hw4 : IntKind.i64.wrap (((T + 20 + ts.length : Nat) : Int) + ((4 * tl : Nat) : Int)) = ((T + (20 + ts.length + 4 * tl) : Nat) : Int) := by simp [IntKind.wrap, IntKind.bits, IntKind.signed]; omega
        generalize wr = w0 at *
        go_wp2_with fail
        go_quiet (fail)
        go_wp2_with fail
        go_roundw
        case rel => exact ⟨i + 1, T + (20 + ts.length + 4 * tl), by omega, by omega, by go_num, by go_num, hsm, Below.drawn HB.out _⟩
        case measure => simp [RowKit.intOf]; omega
      · have hTi : ¬ (T : Int) < 9000 := by omega
        go_wp2_with fail
        go_ret
        exact .inr ⟨rfl, HB.out⟩
    · obtain rfl : i = n := by omega
      go_wp2_with fail
      go_ret
      exact ⟨_, rfl, fun h => by rw [← HT.out]; simp at h; omega, HB.out⟩
end M
end Go.Proofs.Ytaijnejbffnfpaa
/- May a thing be written, and read as a count? -/
namespace Go.Proofs.Ytaijnejbffnfpaa
open Go Go.RowKit Go.Lib
namespace M
set_option maxHeartbeats 4000000 in
set_option maxRecDepth 100000 in
theorem may_any (t : Th) (W : World) :
    Calls Try.prog 42 #[.agg t.cells] W fun e w' => e = .returned (.bool t.may) ∧ Below W.heap.size W w' := by
  obtain ⟨k, n, s, ao, len, cap, z, m⟩ := t
  have hb0 := below_box W (.cells (Th.cells ⟨k, n, s, ao, len, cap, z, m⟩) 45)
  have HB := Lib.hid hb0
  clear hb0
  by_cases h3 : k = 3
  · subst h3
    have h4 : ¬ (3 : Nat) = 4 := by omega
    by_cases hs : s.length ≤ 2048
    · have hsi : (s.length : Int) ≤ 2048 := by omega
      have hm : Th.may ⟨3, n, s, ao, len, cap, z, m⟩ = true := by simp [Th.may, hs]
      rw [hm]
      clear hm hs
      go_enter Try.func42, Try.ntmps42
      go_wp2_with fail
      go_ret
      exact ⟨rfl, HB.out⟩
    · have hsi : ¬ (s.length : Int) ≤ 2048 := by omega
      have hm : Th.may ⟨3, n, s, ao, len, cap, z, m⟩ = false := by simp [Th.may, hs]
      rw [hm]
      clear hm hs
      go_enter Try.func42, Try.ntmps42
      go_wp2_with fail
      go_ret
      exact ⟨rfl, HB.out⟩
  have g3 : ¬ (k : Int) = 3 := by omega
  by_cases h4 : k = 4
  · subst h4
    by_cases hs : len ≤ 1024
    · have hsi : (len : Int) ≤ 1024 := by omega
      have hm : Th.may ⟨4, n, s, ao, len, cap, z, m⟩ = true := by simp [Th.may, hs]
      rw [hm]
      clear hm hs
      go_enter Try.func42, Try.ntmps42
      go_wp2_with fail
      go_ret
      exact ⟨rfl, HB.out⟩
    · have hsi : ¬ (len : Int) ≤ 1024 := by omega
      have hm : Th.may ⟨4, n, s, ao, len, cap, z, m⟩ = false := by simp [Th.may, hs]
      rw [hm]
      clear hm hs
      go_enter Try.func42, Try.ntmps42
      go_wp2_with fail
      go_ret
      exact ⟨rfl, HB.out⟩
  have g4 : ¬ (k : Int) = 4 := by omega
  by_cases h5 : k < 5
  · have g5 : (k : Int) < 5 := by omega
    have hm : Th.may ⟨k, n, s, ao, len, cap, z, m⟩ = true := by simp [Th.may, h3, h4, h5]
    rw [hm]
    clear hm
    go_enter Try.func42, Try.ntmps42
    go_wp2_with fail
    go_ret
    exact ⟨rfl, HB.out⟩
  have g5 : ¬ (k : Int) < 5 := by omega
  by_cases hn : n < 4611686018427387904
  · have g6 : (n : Int) < 4611686018427387904 := by omega
    have hm : Th.may ⟨k, n, s, ao, len, cap, z, m⟩ = true := by simp [Th.may, h3, h4, hn]
    rw [hm]
    clear hm
    go_enter Try.func42, Try.ntmps42
    go_wp2_with fail
    go_ret
    exact ⟨rfl, HB.out⟩
  · have g6 : ¬ (n : Int) < 4611686018427387904 := by omega
    have hm : Th.may ⟨k, n, s, ao, len, cap, z, m⟩ = false := by simp [Th.may, h5, hn]
    rw [hm]
    clear hm
    go_enter Try.func42, Try.ntmps42
    go_wp2_with fail
    go_ret
    exact ⟨rfl, HB.out⟩
end M
end Go.Proofs.Ytaijnejbffnfpaa
/- How big the things that come in are. -/
namespace Go.Proofs.Ytaijnejbffnfpaa
open Go.ChangeShapes Go.WideShapes Go.ChangeAt Go.RowKit Go.Deep
namespace M
section
variable {H : Type} {enc : TypeId × Value → H} {w : World} {base : Nat} {held : Bool} {spare : Nat → Bool}
/-- No text and no row in it is beyond the reach. -/
def Small (d : DataW H) (t : TypeId) : Prop := ∀ n ∈ d.weights Try.prog t, n ≤ 140737488355328
theorem small_all {e : TypeId} : ∀ {ds : List (DataW H)}, (∀ n ∈ DataW.weightsAll Try.prog e ds, n ≤ 140737488355328) → ∀ d ∈ ds, Small d e
  | [], _, d, hd => by simp at hd
  | d0 :: r, h, d, hd => by
    simp only [DataW.weightsAll, List.mem_append] at h
    rcases List.mem_cons.1 hd with rfl | hd
    · exact fun n hn => h n (.inl hn)
    · exact small_all (fun n hn => h n (.inr hn)) d hd
theorem small_each {ts : List TypeId} {ds : List (DataW H)} (h : (DataW.weightsEach Try.prog ts ds).all (· ≤ reachBytes) = true) {j : Nat} {t : TypeId} {d : DataW H} (ht : ts[j]? = some t) (hd : ds[j]? = some d) : Small d t := fun n hn => by
  have h1 := List.all_eq_true.1 h _ (DataW.weights_mem_each ht hd n hn)
  have h2 : reachBytes ≤ 140737488355328 := by decide
  have h3 : n ≤ reachBytes := by simpa using h1
  exact Nat.le_trans h3 h2
theorem str_small {fuel : Nat} {s : ByteArray} {x : DataW H × List MemPlace} (h : DataW.trod enc Try.prog w base spare held fuel 9 [.string s] = some x) (hw : Small x.1 9) : s.size ≤ 140737488355328 := by
  obtain ⟨s2, e, hx, _⟩ := DataW.trod_string Try.underlying9 h
  subst hx
  have e2 : s = s2 := by simpa using e
  subst e2
  have := hw s.data.toList.length (by simp [DataW.weights])
  rw [Lib.size_eq]
  exact this
set_option maxRecDepth 100000 in
theorem row_small {fuel : Nat} {ao : Option Addr} {len cap : Nat} {x : DataW H × List MemPlace} (h : DataW.trod enc Try.prog w base spare held fuel 35 [.slice ao len cap] = some x) (hw : Small x.1 35) : len ≤ 140737488355328 := by
  rcases open_slice Try.underlying35 h with ⟨hcs, _⟩ | ⟨a, len0, cap0, m, n, D, Pl, hcs, _, hl, hm, hmm, hx, _⟩
  · simp at hcs
    omega
  · simp at hcs
    obtain ⟨rfl, rfl, rfl⟩ := hcs
    subst hx
    have hb : Try.prog.bytesOf 26 = 8 := by kernel_rfl
    have := hw ((((List.range len).map D).length + ((List.range (m - len)).map fun j => D (len + j)).length) * Try.prog.bytesOf 26) (by
      unfold DataW.weights
      rw [Try.underlying35]
      exact List.mem_cons_self ..)
    rw [hb] at this
    simp at this
    omega
set_option maxRecDepth 100000 in
theorem thing_small {fuel : Nat} {t : Th} {x : DataW H × List MemPlace} (h : DataW.trod enc Try.prog w base spare held fuel 45 t.cells.toList = some x) (hw : Small x.1 45) : t.s.length ≤ 140737488355328 ∧ t.len ≤ 140737488355328 := by
  obtain ⟨xs, k, _, hx, _, hxl, hf⟩ := DataW.trod_struct Try.underlying45 h
  subst hx
  have c2 : Try.prog.cellsOf 9 = 1 := by kernel_rfl
  have c3 : Try.prog.cellsOf 35 = 1 := by kernel_rfl
  have g2 := hf 2 _ rfl
  have g3 := hf 3 _ rfl
  match xs, hxl with
  | [y0, y1, y2, y3, y4], _ =>
    have g2' : DataW.trod enc Try.prog w base spare held k 9 [.string ⟨t.s.toArray⟩] = some y2 := by simpa [c2] using g2
    have g3' : DataW.trod enc Try.prog w base spare held k 35 [.slice t.ao t.len t.cap] = some y3 := by simpa [c3] using g3
    have hW : ∀ (j : Nat) (ty : TypeId) (d : DataW H), ([5, 26, 9, 35, 3] : List TypeId)[j]? = some ty → ([y0.1, y1.1, y2.1, y3.1, y4.1] : List (DataW H))[j]? = some d → Small d ty := fun j ty d hj hd n hn => by
      refine hw n ?_
      unfold DataW.weights
      rw [Try.underlying45]
      exact DataW.weights_mem_each (ts := [5, 26, 9, 35, 3]) hj hd n hn
    have s2 := str_small g2' (hW 2 _ _ rfl rfl)
    have s3 := row_small g3' (hW 3 _ _ rfl rfl)
    exact ⟨by rw [Lib.size_eq] at s2; exact s2, s3⟩
theorem one_small {t : Th} {d : DataW H} {pl : List MemPlace} (h : DataW.Trod enc Try.prog w base spare held 45 (.agg t.cells) d pl) (hw : Small d 45) : t.s.length ≤ 140737488355328 ∧ t.len ≤ 140737488355328 := by
  obtain ⟨fuel, hf⟩ := h
  exact thing_small (x := (d, pl)) (by simpa [Value.cells] using hf) hw
set_option maxRecDepth 100000 in
theorem things_small {ao : Option Addr} {n c : Nat} {f : Nat → Th} {d : DataW H} {pl : List MemPlace} (h : DataW.Trod enc Try.prog w base spare held 55 (.slice ao n c) d pl) (hw : Small d 55)
    (hf : ∀ i, i < n → (f i).Ok ∧ Rd w (f i).ao (f i).len (f i).z ∧ ∃ a, ao = some a ∧ ∀ (j : Nat) (u : Value), (f i).cells[j]? = some u → w.cell? (a.add (i * 5 + j)) = some u) :
    ∀ i, i < n → (f i).s.length ≤ 140737488355328 ∧ (f i).len ≤ 140737488355328 := by
  intro i hi
  obtain ⟨fuel, hfu⟩ := h
  rcases open_slice Try.underlying55 hfu with ⟨hcs, _⟩ | ⟨a, len0, cap0, m, k, D, Pl, hcs, _, hl, hm, hmm, hx, hel⟩
  · simp [Value.cells] at hcs
    omega
  · simp [Value.cells] at hcs
    obtain ⟨rfl, rfl, rfl⟩ := hcs
    have hle : n ≤ m := by rw [hmm]; split <;> omega
    obtain ⟨cs', h1, h2⟩ := hel i (by omega)
    rw [show Try.prog.cellsOf 45 = 5 by kernel_rfl] at h1
    obtain ⟨_, hlen, hcell⟩ := World.cells?_some h1
    obtain ⟨_, _, a2, ha, hc⟩ := hf i hi
    cases ha
    have e : cs' = (f i).cells.toList := by
      apply List.ext_getElem?
      intro j
      by_cases hj : j < 5
      · have h3 := hcell j hj
        rw [add_add] at h3
        have hj5 : j < (f i).cells.size := hj
        have h4 := hc j _ (Array.getElem?_eq_getElem hj5)
        rw [← h3, h4, Array.getElem?_toList, Array.getElem?_eq_getElem hj5]
      · rw [List.getElem?_eq_none (by omega), List.getElem?_eq_none (by show 5 ≤ j; omega)]
    rw [e] at h2
    refine thing_small h2 ?_
    have hd : d = .slice ((List.range n).map D) ((List.range (m - n)).map fun j => D (n + j)) := by injection hx
    subst hd
    refine small_all (e := 45) (ds := (List.range n).map D) (fun z hz => hw z ?_) (D i) (List.mem_map.2 ⟨i, List.mem_range.2 hi, rfl⟩)
    unfold DataW.weights
    rw [Try.underlying55]
    exact List.mem_cons_of_mem _ (List.mem_append_left _ hz)
end
end M
end Go.Proofs.Ytaijnejbffnfpaa
/- Things written one behind the other; the region that asks whether two of them are alike. -/
namespace Go.Proofs.Ytaijnejbffnfpaa
open Go Go.RowKit Go.Lib
namespace MM
/-- The bytes of the first things. -/
def cat (f : Nat → Th) : Nat → List UInt8
  | 0 => []
  | i + 1 => cat f i ++ (f i).bytes
theorem cat_succ (f : Nat → Th) (i : Nat) : cat f (i + 1) = cat f i ++ (f i).bytes := rfl
theorem cat_len (f : Nat → Th) : ∀ i, (cat f i).length ≤ 10000 * i
  | 0 => by simp [cat]
  | i + 1 => by have := cat_len f i; have := (f i).bytes_len; rw [cat_succ]; simp; omega
theorem cat_pre (f : Nat → Th) : ∀ n i, i ≤ n → ∃ more, cat f n = cat f i ++ more
  | 0, i, h => ⟨[], by obtain rfl : i = 0 := by omega
                       simp⟩
  | n + 1, i, h => by
    by_cases e : i = n + 1
    · subst e; exact ⟨[], by simp⟩
    · obtain ⟨m, hm⟩ := cat_pre f n i (by omega)
      exact ⟨m ++ (f n).bytes, by rw [cat_succ, hm, List.append_assoc]⟩
theorem cat_at (f : Nat → Th) (n i : Nat) (h : i < n) : (cat f n).drop (cat f i).length = (f i).bytes ++ (cat f n).drop (cat f (i + 1)).length := by
  obtain ⟨m, hm⟩ := cat_pre f n (i + 1) h
  have h1 : cat f n = cat f i ++ ((f i).bytes ++ m) := by rw [hm, cat_succ, List.append_assoc]
  have h2 : (cat f n).drop (cat f (i + 1)).length = m := by rw [hm, List.drop_left' rfl]
  rw [h2, h1, List.drop_left' rfl]
theorem cat_mono (f : Nat → Th) (n i : Nat) (h : i ≤ n) : (cat f i).length ≤ (cat f n).length := by
  obtain ⟨m, hm⟩ := cat_pre f n i h
  rw [hm]; simp
end MM
namespace M
/-- What the region that asks whether the thing that was read is like the one of the row stands on. -/
structure BK (W : World) (g : Nat) (s : List UInt8) (b : Nat) (y : Th) (B O : Nat) (t : Th) (w : World) : Prop where
  rg : InG W g s 0 w
  x : w.heap[b]? = some (.cells y.cells 45 (0, 0))
  r : w.rangeAt B O t.cells.toList
  ry : Rd w y.ao y.len y.z
  rt : Rd w t.ao t.len t.z
theorem BK.step {W w w' : World} {g : Nat} {s : List UInt8} {b : Nat} {y : Th} {B O : Nat} {t : Th} (h : BK W g s b y B O t w) (hb : Below w.heap.size w w') : BK W g s b y B O t w' :=
  ⟨h.rg.step hb, (hb.block _ (row_lt h.x)).trans h.x, range_below h.r hb, h.ry.below hb, h.rt.below hb⟩
theorem load_mid {w : World} {B O : Nat} {t : Th} (h : w.rangeAt B O t.cells.toList) {ρ : Operand → Value} {o : Oper} {x : Operand} (ho : o.op = .load 45 x) (hx : ρ x = .pointer (some ⟨B, O, none⟩)) :
    (execOp ρ o).run Try.prog w = .ok (.value (.agg t.cells)) w := by
  have hl := run_loadVar_mid (P := Try.prog) w B O 45 _ _ h Try.underlying45 rfl (info_th2 t)
  unfold execOp
  simp only [ho, hx, Instr.loadAt, Instr.sureAddr, Sem.run_bind, Sem.run_pure, Result.andThen_ok, hl]
end M
end Go.Proofs.Ytaijnejbffnfpaa

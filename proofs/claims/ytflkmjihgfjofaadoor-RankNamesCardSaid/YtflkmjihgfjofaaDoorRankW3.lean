/- The walk of add. -/
import Derived.Test.YtflkmjihgfjofaaDoorRankW2
namespace Go.Proofs.YtflkmjihgfjofaaDoor
open Go Go.RowKit Go.Lib
namespace M
/-- All old blocks but two are as they were. -/
def Kept2 (m B : Nat) (W w : World) : Prop := ∀ k, k < W.heap.size → k ≠ m → k ≠ B → w.heap[k]? = W.heap[k]?
/-- Behind add: the map's rows, and how many there are. Nothing below w0's end has changed, and nothing else but the map and the row. -/
def Added (w0 W : World) (B m wd : Nat) (s : Nat × MM.Bs) (e : Ending) (w' : World) : Prop := e = .returned (.tuple #[]) ∧ Bas w' m w'.heap.size s.1 wd s.2 ∧ Below w0.heap.size w0 w' ∧ Kept2 m B W w'
theorem Kept.pre {B : Nat} {W W1 w : World} (h : Kept B W1 w) (hb : Below W.heap.size W W1) : Kept B W w := fun k hk hne => (h k (by have := hb.size; omega) hne).trans (hb.block k hk)
theorem Mine.put {w0 w w' : World} {B n m : Nat} {z : Nat → Nat} (h : Mine w0 B n z w) (hg : w.grownBy w' (some m)) (hm : m ≠ B) (h0 : w0.heap.size ≤ m) : Mine w0 B n z w' := by
  refine ⟨?_, h.low, h.below.trans ⟨hg.os, hg.tape, hg.output, hg.size, fun k hk => hg.block k (by have := h.below.size; omega) (fun e => by injection e with e; omega)⟩⟩
  obtain ⟨cs, h1, h2⟩ := h.block
  exact ⟨cs, (hg.block B h.lt (fun e => hm (by injection e with e; exact e.symm))).trans h1, h2⟩
theorem addB_full {q w : Nat} {s : Nat × MM.Bs} {r : Nat → Nat} (h : (MM.red q w s.2 w r).1 = w) : MM.addB q w s r = s := by unfold MM.addB; rw [if_pos h]
theorem addB_new {q w f : Nat} {s : Nat × MM.Bs} {r y : Nat → Nat} (h : MM.red q w s.2 w r = (f, y)) (hf : f ≠ w) : MM.addB q w s r = (s.1 + 1, fun j => if j = f then some (fun i => MM.mulU (y i) (MM.invU (y f) q) q) else s.2 j) := by
  unfold MM.addB; rw [h, if_neg hf]
theorem Bas.up {w : World} {m hi hi' n wd : Nat} {b : MM.Bs} (h : Bas w m hi n wd b) (h1 : hi ≤ hi') (h2 : hi' ≤ w.heap.size) : Bas w m hi' n wd b := by
  obtain ⟨D, a1, a2, a3, a4⟩ := h.map
  refine ⟨⟨D, a1, a2, a3, fun j => ?_⟩, Nat.lt_of_lt_of_le h.lt h1, h2, h.lts⟩
  obtain ⟨v, b1, b2, b3⟩ := a4 j
  refine ⟨v, b1, b2, fun z hz => ?_⟩
  obtain ⟨g, c1, c2, c3⟩ := b3 z hz
  exact ⟨g, c1, by omega, c3⟩
/-- The state of add between two steps. -/
structure AddAt (w0 W : World) (B g m hi n wd q : Nat) (b : MM.Bs) (r : Nat → Nat) (w : World) : Prop where
  mine : Mine w0 B wd r w
  bas : Bas w m hi n wd b
  box : Boxed w g m wd q
  kept : Kept B W w
  size : W.heap.size ≤ w.heap.size
section
variable {w0 W w : World} {B g m hi n wd q : Nat} {b : MM.Bs} {r y : Nat → Nat}
theorem AddAt.drewN (h : AddAt w0 W B g m hi n wd q b r w) (i : Nat) : AddAt w0 W B g m hi n wd q b r (w.drewN i) := ⟨h.mine.drewN i, h.bas.drewN i, h.box, h.kept.drewN i, h.size⟩
theorem AddAt.congr (h : AddAt w0 W B g m hi n wd q b r w) (e : ∀ k, k < wd → r k = y k) : AddAt w0 W B g m hi n wd q b y w := ⟨h.mine.congr e, h.bas, h.box, h.kept, h.size⟩
theorem AddAt.set (h : AddAt w0 W B g m hi n wd q b r w) (hh : hi ≤ B) (hg : g ≠ B) (k x : Nat) (hy : ∀ j, j < wd → y j = if j = k then x else r j) : AddAt w0 W B g m hi n wd q b y (w.setCell ⟨B, k, none⟩ (.int .u64 (x : Int))) :=
  ⟨h.mine.set k x hy, h.bas.setCell hh _ _, h.box.setCell hg _ _, h.kept.setCell _ _, Nat.le_trans h.size (by simp [World.setCell])⟩
end
set_option maxHeartbeats 8000000 in
set_option maxRecDepth 100000 in
theorem badd_any (w0 : World) (B m hi wd q : Nat) (s : Nat × MM.Bs) (r : Nat → Nat) (hwd : wd ≤ 1000000000) (hs : s.1 ≤ 1000000000) (hr : ∀ i, r i < 18446744073709551616) (hh : hi ≤ B) (hm0 : w0.heap.size ≤ m) (W : World) (hb : Bas W m hi s.1 wd s.2) (hm : Mine w0 B wd r W) :
    Calls Tryd.prog 31 #[.agg (bCells m wd q), .slice (some ⟨B, 0, none⟩) wd wd] W (Added w0 W B m wd (MM.addB q wd s r)) := by
  obtain ⟨hf1, hf2, hf3⟩ := MM.red_facts (q := q) (b := s.2) wd r (Nat.le_refl _) hr
  have hbox := below_box W (Obj.cells (bCells m wd q) 47)
  have HRED := Lib.hid (reduce_any w0 B m hi s.1 wd q s.2 r hwd hr hh (W.alloc (Obj.cells (bCells m wd q) 47)) (hb.step hbox) (hm.step hbox))
  have hx0 : Boxed (W.alloc (Obj.cells (bCells m wd q) 47)) W.heap.size m wd q := heap_alloc_new _ _
  have hfull := fun h => addB_full (q := q) (w := wd) (s := s) (r := r) h
  have hnew := fun f y h => addB_new (q := q) (w := wd) (f := f) (s := s) (r := r) (y := y) h
  have hgB : W.heap.size ≠ B := by have := hm.lt; omega
  generalize hrd : MM.red q wd s.2 wd r = rd at *
  obtain ⟨f, y⟩ := rd
  have HX0 := Lib.hid hx0
  have HFULL := Lib.hid (fun h => hfull h)
  have HNEW := Lib.hid (hnew f y rfl)
  have HF2 := Lib.hid hf2
  have HF3 := Lib.hid hf3
  have hfw : f ≤ wd := hf1
  clear hrd hx0 hfull hnew hbox hb hm hf1 hf2 hf3 hr
  by_cases hfe : f = wd
  · subst hfe
    have hfb : ((f : Int) == (f : Int)) = true := by simp
    have HE := Lib.hid (HFULL.out rfl)
    clear HFULL HNEW HF2 HF3
    go_enter Tryd.func31, Tryd.ntmps31
    go_wp2_with (first | (refine wpList_load_row rfl 47 _ rfl W.heap.size rfl 47 (bCells m wd q) (0, 0) _ HX0.out Tryd.underlying47 rfl (by kernel_rfl) ?_) | (go_at_call 34; (with_reducible refine (HRED.out).mono ?_); rintro e w' ⟨rfl, hmine, hbas, hkept, hsz⟩; have HMINE := Lib.hid hmine; have HBAS := Lib.hid hbas; have HBX := Lib.hid (HX0.out.of (hkept W.heap.size (by simp) hgB)); have HKP := Lib.hid (hkept.pre (below_box W _)); have HSZ : Hid (W.heap.size ≤ w'.heap.size) := Lib.hid (Nat.le_trans (below_box W _).size hsz); clear hmine hbas hkept hsz HRED HX0; have hwid := HBX.out.width))
    (try simp only [Exit.inBlock, Exit.then])
    refine bodyPost_ret (results_none rfl _ _ _) rfl ?_
    rw [HE.out]
    exact ⟨rfl, HBAS.out.up HBAS.out.top (Nat.le_refl _), HMINE.out.below, fun k h1 _ h2 => HKP.out k h1 h2⟩
  · have hfb : ((f : Int) == (wd : Int)) = false := by simp; omega
    have hflt : f < wd := by omega
    have HE := Lib.hid (HNEW.out hfe)
    have HB := Lib.hid (HF2.out hflt)
    have HIV := Lib.hid (ret_invU (y f) q)
    have HIL := Lib.hid (MM.invU_lt (y f) q)
    clear HFULL HNEW HF2 hfe
    generalize hinv : MM.invU (y f) q = inv at *
    clear hinv
    go_enter Tryd.func31, Tryd.ntmps31
    go_upto_region 3 with (first | (refine wpList_load_row rfl 47 _ rfl W.heap.size rfl 47 (bCells m wd q) (0, 0) _ HX0.out Tryd.underlying47 rfl (by kernel_rfl) ?_) | (go_at_call 34; (with_reducible refine (HRED.out).mono ?_); rintro e w' ⟨rfl, hmine, hbas, hkept, hsz⟩; have HMINE := Lib.hid hmine; have HBAS := Lib.hid hbas; have HBX := Lib.hid (HX0.out.of (hkept W.heap.size (by simp) hgB)); have HKP := Lib.hid (hkept.pre (below_box W _)); have HSZ : Hid (W.heap.size ≤ w'.heap.size) := Lib.hid (Nat.le_trans (below_box W _).size hsz); clear hmine hbas hkept hsz HRED HX0; have hwid := HBX.out.width))
    have hcf := HMINE.out.cell hflt
    have hq := HBX.out.num
    have HI := HIV.out
    have h00 : (0 : Int) ≤ (f : Int) := Int.natCast_nonneg _
    have h01 : (f : Int) < (wd : Int) := by omega
    go_quiet ((go_at_call 48; exact HI.quiet))
    clear hcf hq HI h00 h01 HIV
    have HJ0 : Hid (AddAt w0 W B W.heap.size m hi s.1 wd q s.2 (fun j => if j < 0 then MM.mulU (y j) inv q else y j) (w'.drewN nq)) := Lib.hid ((AddAt.drewN ⟨HMINE.out, HBAS.out, HBX.out, HKP.out, HSZ.out⟩ nq).congr fun j _ => by rw [if_neg (by omega)])
    clear HMINE HBAS HBX HKP HSZ hwid hfb
    go_wp2_with fail
    go_loopw [28] (fun s28 wx => ∃ i : Nat, i ≤ wd ∧ s28 = .int .i64 (i : Int) ∧ Hid (AddAt w0 W B W.heap.size m hi s.1 wd q s.2 (fun j => if j < i then MM.mulU (y j) inv q else y j) wx)) (fun s28 _ => wd - (RowKit.intOf s28).toNat)
    case atStart => exact ⟨0, Nat.zero_le _, rfl, HJ0⟩
    case round =>
      clear HJ0
      obtain ⟨i, hi1, rfl, HI⟩ := hrel
      by_cases hlt : i < wd
      · have hc := HI.out.mine.cell hlt
        rw [if_neg (by omega)] at hc
        have hq := HI.out.box.num
        have hfr := HI.out.mine.free i
        have HM := ret_mulU (y i) inv q (HF3.out i) HIL.out
        have HN : Hid (∀ a, AddAt w0 W B W.heap.size m hi s.1 wd q s.2 (fun j => if j < i + 1 then MM.mulU (y j) inv q else y j) ((wr.drewN a).setCell ⟨B, i, none⟩ (.int .u64 ((MM.mulU (y i) inv q : Nat) : Int)))) := Lib.hid fun a => (HI.out.drewN a).set hh hgB i _ fun j hj => by
          by_cases e : j = i
          · subst e; simp
          · rw [if_neg e]
            by_cases h : j < i
            · rw [if_pos h, if_pos (by omega)]
            · rw [if_neg h, if_neg (by omega)]
        generalize MM.mulU (y i) inv q = x1 at *
        generalize y i = x0 at *
        clear HI
        go_wp2_with (go_at_call 16; (with_reducible refine (HM.at _).mono ?_); rintro e w2 ⟨rfl, n2, rfl⟩)
        clear hc hq hfr HM
        go_roundw
        case rel => exact ⟨i + 1, by omega, by go_num, Lib.hid (HN.out n2)⟩
        case measure => simp [RowKit.intOf]; omega
      · obtain rfl : i = wd := by omega
        have hrw := HI.out.box.rows
        have hcs : Cells wr B i (fun j => MM.mulU (y j) inv q) := HI.out.mine.cells.congr fun j hj => by rw [if_pos hj]
        obtain ⟨w2, hput, hb2, hg2⟩ := HI.out.bas.put (f := f) (by omega) hs HB.out hcs hh (fun j => MM.mulU_lt _ _ _)
        have hmB : m ≠ B := by have := HI.out.bas.lt; omega
        have HE2 : Hid (Added w0 W B m i (MM.addB q i s r) (.returned (.tuple #[])) w2) := by
          rw [HE.out]
          exact ⟨rfl, hb2.up hb2.top (Nat.le_refl _), (HI.out.mine.put hg2 hmB hm0).below, fun k h1 h2 h3 => (hg2.block k (by have := HI.out.size; omega) (fun e => h2 (by injection e))).trans (HI.out.kept k h1 h3)⟩
        clear hcs hb2 hg2 HI
        go_wp2_with fail
        go_end0
        exact HE2.out
end M
end Go.Proofs.YtflkmjihgfjofaaDoor

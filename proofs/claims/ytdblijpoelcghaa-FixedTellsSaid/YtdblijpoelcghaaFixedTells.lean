/- FixedTells: what the package answers is what the document's own reckoning answers, twice, whatever is written over the answers; nothing that was handed in is changed. -/
import Derived.Test.YtdblijpoelcghaaRows
import Derived.Test.YtdblijpoelcghaaFixOpen
import Derived.Deep.Fields
import Derived.Test.YtdblijpoelcghaaLaw07a
import Derived.Test.YtdblijpoelcghaaTame
import Derived.Test.YtdblijpoelcghaaFixR3
import Derived.Test.YtdblijpoelcghaaFixC2
import Derived.Test.YtdblijpoelcghaaFixR2
import Derived.Test.YtdblijpoelcghaaFixR6
import Derived.Test.YtdblijpoelcghaaFixR8
import Derived.Test.YtdblijpoelcghaaFixR10
import Derived.Test.YtdblijpoelcghaaFixW8
import Derived.Test.YtdblijpoelcghaaFixOpen
namespace Go.Proofs.Ytdblijpoelcghaa
open Go.ChangeShapes Go.WideShapes Go.ChangeAt Go.RowKit
namespace FixedTells
open M

open Go Go.RowKit Go.Lib
attribute [local go_sem] Oper.semAt_some
/-- A row of whole numbers, of numbers, is copied behind an empty one. -/
theorem copyI (w : World) {ao : Option Addr} {n c : Nat} {z : Nat → Int} (hn : n ≤ 1000) (hs : IRow w ao n c z) :
    ∃ bo d w', (Builtin.append_ #[34, 34] 34 #[.slice (some ⟨w.heap.size, 0, none⟩) 0 0, .slice ao n c]).run Try.prog (w.alloc (.cells #[] 2)) = .ok (.slice bo n d) w' ∧ IRow w' bo n d z ∧ Below w.heap.size w w' := by
  have h0 := OwnW.made0 w z
  obtain ⟨v', w', hr, ho⟩ := h0.copy hn (hs.below h0.below)
  obtain ⟨bo, d, rfl, hi⟩ := ho.irow
  exact ⟨bo, d, w', hr, hi, ho.below⟩
theorem copyU (w : World) {ao : Option Addr} {n c : Nat} {z : Nat → Nat} (hn : n ≤ 1000) (hs : Rd w ao n z) (hz : ao = none → n = 0 ∧ c = 0) :
    ∃ bo d w', (Builtin.append_ #[39, 39] 39 #[.slice (some ⟨w.heap.size, 0, none⟩) 0 0, .slice ao n c]).run Try.prog (w.alloc (.cells #[] 23)) = .ok (.slice bo n d) w' ∧ Rd w' bo n z ∧ Below w.heap.size w w' := by
  have h0 : M.Own w w.heap.size (.slice (some ⟨w.heap.size, 0, none⟩) 0 0) 0 z (w.alloc (.cells #[] 23)) := ⟨World.ownsRow_made w #[] 0 (Nat.le_refl _) (by unfold maxLen; omega) (by simp), by simp, Nat.le_refl _, below_box _ _⟩
  have hs := hs.below h0.below
  generalize w.alloc (.cells #[] 23) = w3 at *
  obtain ⟨i0, hi, hz0, hz1, hz2⟩ := info_parts info_u64
  cases ao with
  | none =>
    obtain ⟨rfl, rfl⟩ := hz rfl
    exact ⟨_, _, w3, run_append_owned_none (P := Try.prog) w3 w.heap.size 39 39 23 i0 1 Try.underlying39 hi _ 0 (zlist 0 z) h0.own, fun h => absurd h (by omega), h0.below⟩
  | some a =>
    obtain ⟨v', w', hr, ho, hg, _⟩ := run_append_own (P := Try.prog) w3 w.heap.size 39 39 23 i0 (.int .u64 0) 1 8 Try.underlying39 hi hz0 hz1 hz2 rfl (by decide) _ 0 (zlist 0 z) h0.own a n c (zlist n z) (zlist_len n z) (fun j u hj => by
      have hl := (List.getElem?_eq_some_iff.1 hj).1
      rw [zlist_len] at hl
      obtain ⟨ad, e, hr⟩ := hs (by omega)
      cases e
      exact zlist_cells hr j u hj) (zlist_one n z) (by unfold maxLen; omega) (by omega) h0.size
    rw [Nat.zero_add] at ho
    have hown := h0.grow ho (by simp [zlist]) hg
    obtain ⟨bo, d, rfl, _, _, hrd⟩ := hown.rd
    exact ⟨bo, d, w', hr, hrd, hown.below⟩
theorem load_boxm {w : World} {g : Nat} {v : MoV} {m : MM.Mo} (h : BoxM w g v m) {o : Oper} {ev : Operand → Value} {x : Operand} (ho : o.op = .load 36 x) (hx : ev x = .pointer (some ⟨g, 0, none⟩)) : (execOp ev o).run Try.prog w = .ok (.value (.agg (v.cells m))) w := by
  unfold execOp
  simp only [ho, hx, Instr.loadAt, Instr.sureAddr, Sem.run_bind, Sem.run_pure, Result.andThen_ok, run_loadVar_row w g 36 36 (v.cells m) (0, 0) _ h Try.underlying36 rfl info_mo]
/-- What the statement's own memory holds: the three boxes, the copy's box, the copy, the query and its copy, the list and its copy. -/
structure Tl (w0 : World) (g h k C : Nat) (p : Pm) (v : MoV) (o : MM.Mo) (u : MoV) (q : MM.Mo) (m : MoV) (xo xo2 : Option Addr) (n cx xc2 : Nat) (x : Nat → Int) (yo lo2 : Option Addr) (ln : Nat) (l : Nat → Nat) (w : World) : Prop where
  i : In3 w0 g h k p v o u q w
  box : BoxM w C m o
  mat : MoAt w m o
  x1 : IRow w xo n cx x
  x2 : IRow w xo2 n xc2 x
  l1 : Rd w yo ln l
  l2 : Rd w lo2 ln l
theorem Tl.step {w0 : World} {g h k C : Nat} {p : Pm} {v : MoV} {o : MM.Mo} {u : MoV} {q : MM.Mo} {m : MoV} {xo xo2 : Option Addr} {n cx xc2 : Nat} {x : Nat → Int} {yo lo2 : Option Addr} {ln : Nat} {l : Nat → Nat} {w w' : World} (t : Tl w0 g h k C p v o u q m xo xo2 n cx xc2 x yo lo2 ln l w) (hb : Below w.heap.size w w') : Tl w0 g h k C p v o u q m xo xo2 n cx xc2 x yo lo2 ln l w' :=
  ⟨t.i.step hb, t.box.below hb, t.mat.below hb, t.x1.below hb, t.x2.below hb, t.l1.below hb, t.l2.below hb⟩
theorem nums_same (ao bo : Option Addr) (n ca cb : Nat) (z : Nat → Nat) (hn : n ≤ 9223372036854775807) (W : World) (ha : Rd W ao n z) (hb : Rd W bo n z) :
    Calls Try.prog 20 #[.slice ao n ca, .slice bo n cb] W fun e w' => e = .returned (.bool true) ∧ Below W.heap.size W w' := by
  refine (numbers_any ao bo n n ca cb z z hn W ha hb).mono ?_
  rintro e w' ⟨rfl, d, rfl⟩
  exact ⟨by rw [decide_eq_true ⟨rfl, fun _ _ => rfl⟩], below_drewN' _ _ _⟩
theorem ints_same (ao bo : Option Addr) (n ca cb : Nat) (z : Nat → Int) (hn : n ≤ 9223372036854775807) (W : World) (ha : IRow W ao n ca z) (hb : IRow W bo n cb z) :
    Calls Try.prog 29 #[.slice ao n ca, .slice bo n cb] W fun e w' => e = .returned (.bool true) ∧ Below W.heap.size W w' := by
  refine (ints_any ao bo n n ca cb z z hn W ha hb).mono ?_
  rintro e w' ⟨rfl, d, rfl⟩
  exact ⟨by rw [decide_eq_true ⟨rfl, fun _ _ => rfl⟩], below_drewN' _ _ _⟩
theorem RowV.setc {T : TypeId} {lo n : Nat} {w : World} {v : Value} {u : Nat → Value} (h : RowV T lo w v n u) (b k : Nat) (x : Value) : ∃ u', RowV T lo (w.setCell ⟨b, k, none⟩ x) v n u' := by
  rcases h with ⟨h1, h2⟩ | ⟨B, c, cs, h0, h1, h2, h3, h4⟩
  · exact ⟨u, .inl ⟨h1, h2⟩⟩
  · by_cases e : B = b
    · subst e
      refine ⟨fun j => if j = k then x else u j, .inr ⟨B, c, _, h0, h1, h2, heap_setCell_same w B k cs _ _ h3, fun j hj => ?_⟩⟩
      rw [Array.getElem?_setIfInBounds]
      by_cases e : k = j
      · subst e; rw [if_pos rfl, if_pos (Array.getElem?_eq_some_iff.1 (h4 k hj)).1]; simp
      · have e2 : ¬ j = k := fun h => e h.symm
        rw [if_neg e, h4 j hj]; simp [e2]
    · exact ⟨u, .inr ⟨B, c, cs, h0, h1, h2, (Below.heap_setCell w ⟨b, k, none⟩ x B e).trans h3, h4⟩⟩
theorem RowV.cellAt {T : TypeId} {lo n c k : Nat} {w : World} {ao : Option Addr} {u : Nat → Value} (h : RowV T lo w (.slice ao n c) n u) (hk : k < n) : ∃ b cs, ao = some ⟨b, 0, none⟩ ∧ lo ≤ b ∧ w.heap[b]? = some (.cells cs T (0, 0)) ∧ w.cell? ⟨b, k, none⟩ = some (u k) ∧ w.frozen? ⟨b, k, none⟩ = false := by
  rcases h with ⟨_, h2⟩ | ⟨B, c', cs, h0, h1, h2, h3, h4⟩
  · omega
  · simp only [Value.slice.injEq] at h0
    exact ⟨B, cs, h0.1, h2, h3, by rw [cell_of_row w B k cs _ _ h3, h4 k hk], frozen_of_row w B k cs _ h3⟩
/-- What is kept while the answers are written over. -/
structure Wst (w0 : World) (D : Nat) (s r d c : Value) (ns nr nd nc : Nat) (w : World) : Prop where
  below : Below w0.heap.size w0 w
  r1 : ∃ u, RowV 23 w0.heap.size w s ns u
  r2 : ∃ u, RowV 23 w0.heap.size w r nr u
  r3 : ∃ u, RowV 23 w0.heap.size w d nd u
  r4 : ∃ u, RowV 2 w0.heap.size w c nc u
  list : w.heap[D]? = some (.cells #[s, r, d] 39 (0, 0))
theorem Wst.setc {w0 : World} {D : Nat} {s r d c : Value} {ns nr nd nc : Nat} {w : World} (h : Wst w0 D s r d c ns nr nd nc w) {b : Nat} {cs : Array Value} {T : TypeId} (hT : T ≠ 39) (hb : w.heap[b]? = some (.cells cs T (0, 0))) (hl : w0.heap.size ≤ b) (k : Nat) (x : Value) : Wst w0 D s r d c ns nr nd nc (w.setCell ⟨b, k, none⟩ x) := by
  obtain ⟨u1, h1⟩ := h.r1
  obtain ⟨u2, h2⟩ := h.r2
  obtain ⟨u3, h3⟩ := h.r3
  obtain ⟨u4, h4⟩ := h.r4
  refine ⟨h.below.setCell (p := ⟨b, k, none⟩) hl x, RowV.setc h1 b k x, RowV.setc h2 b k x, RowV.setc h3 b k x, RowV.setc h4 b k x, (Below.heap_setCell w ⟨b, k, none⟩ x D (fun e => ?_)).trans h.list⟩
  have e' : D = b := e
  subst e'
  have hl' := h.list
  rw [hb] at hl'
  injection hl' with hl'
  injection hl' with _ e2 _
  exact hT e2
def wNewU (lo n : Nat) (z : Nat → Nat) : RK.Word := ⟨fun v w => NewU lo w v n z, fun _ _ _ h hb => h.below hb⟩
def wNewI (lo n : Nat) (z : Nat → Int) : RK.Word := ⟨fun v w => NewI lo w v n z, fun _ _ _ h hb => h.below hb⟩
set_option maxRecDepth 100000 in
set_option maxHeartbeats 32000000 in
theorem walk (p : Pm) (v1 v2 v3 v4 : Value) (_ : PmOk p) (W : World) (hm1 : ModelIn W v1) (hm2 : ModelIn W v2) (hm3 : IntsIn W v3) (hm4 : NumsIn W v4) :
    Calls Try.prog 5 #[.agg p.cells, v1, v2, v3, v4] W fun e w' => e = .returned (.bool true) ∧ Below W.heap.size W w' := by
  obtain ⟨mv, o, rfl, ok1, mat1⟩ := hm1
  obtain ⟨mu, q, rfl, ok2, mat2⟩ := hm2
  obtain ⟨xo, n, cx, x, rfl, hn, hx, hrx⟩ := hm3
  obtain ⟨yo, ln, cl, l, rfl, _, _, hl, hrl, hln⟩ := hm4
  have hI0 := In3.new W p mv mu o q mat1 mat2
  obtain ⟨g, hg⟩ : ∃ g, W.heap.size = g := ⟨_, rfl⟩
  obtain ⟨h, hh⟩ : ∃ h, g + 1 = h := ⟨_, rfl⟩
  obtain ⟨h2, hh2⟩ : ∃ h2, h + 1 = h2 := ⟨_, rfl⟩
  rw [hg, hh, hh2] at hI0
  have HI := Lib.hid hI0
  have HG := Lib.hid hg
  have HX := Lib.hid hrx
  have HL := Lib.hid hrl
  have HLN := Lib.hid hln
  have HXB := Lib.hid hx
  have HLB := Lib.hid hl
  have HLG1 := Lib.hid (fun (u : World) (hu : MoAt u mv o) => large_any mv o ok1 u hu)
  have HLG2 := Lib.hid (fun (u : World) (hu : MoAt u mu q) => large_any mu q ok2 u hu)
  have HOK1 := Lib.hid ok1
  have HOK2 := Lib.hid ok2
  clear hI0 mat1 mat2 hrx hrl hln hx hl ok1 ok2
  by_cases hlg1 : MM.Large o
  · rw [decide_eq_true hlg1] at HLG1
    clear hlg1
    go_enter Try.func5, Try.ntmps5
    go_wp2_with (first
      | (refine load_pm ?_ _ rfl g rfl p HI.out.box ?_; first | rfl | (simp [Region.wanted, yielded]; done))
      | (refine load_mo ?_ _ rfl h rfl mv o HI.out.mod ?_; first | rfl | (simp [Region.wanted, yielded]; done))
      | (refine load_mo ?_ _ rfl h2 rfl mu q HI.out.mod2 ?_; first | rfl | (simp [Region.wanted, yielded]; done))
      | (go_at_call 25; (with_reducible refine (HLG1.out _ HI.out.mat).mono ?_); rintro e w1 ⟨rfl, hb⟩; replace HI := Lib.hid (HI.out.step hb); clear hb)
      | (go_at_call 25; (with_reducible refine (HLG2.out _ HI.out.mat2).mono ?_); rintro e w1 ⟨rfl, hb⟩; replace HI := Lib.hid (HI.out.step hb); clear hb)
      | (go_at_call 10; (with_reducible refine (awake_any _).mono ?_); rintro e w1 ⟨rfl, hb⟩; replace HI := Lib.hid (HI.out.step hb); clear hb))
    go_ret
    exact ⟨rfl, HI.out.below⟩
  have HCP : Hid (∀ (u : World) (_ : MoAt u mv o), Calls Try.prog 22 #[.agg (mv.cells o)] u fun e w' => ∃ mc : MoV, e = .returned (.agg (mc.cells o)) ∧ MoAt w' mc o ∧ Below u.heap.size u w') := Lib.hid fun u hu => copied_any mv o (by unfold MM.Large at hlg1; omega) (by unfold MM.Large at hlg1; omega) (fun i hi => by
    unfold MM.Large at hlg1
    by_cases e : 40 < o.L i
    · exact absurd (.inr (.inr ⟨i, hi, e⟩)) hlg1
    · omega) u hu
  rw [decide_eq_false hlg1] at HLG1
  clear hlg1
  by_cases hlg2 : MM.Large q
  · rw [decide_eq_true hlg2] at HLG2
    clear hlg2
    go_enter Try.func5, Try.ntmps5
    go_wp2_with (first
      | (refine load_pm ?_ _ rfl g rfl p HI.out.box ?_; first | rfl | (simp [Region.wanted, yielded]; done))
      | (refine load_mo ?_ _ rfl h rfl mv o HI.out.mod ?_; first | rfl | (simp [Region.wanted, yielded]; done))
      | (refine load_mo ?_ _ rfl h2 rfl mu q HI.out.mod2 ?_; first | rfl | (simp [Region.wanted, yielded]; done))
      | (go_at_call 25; (with_reducible refine (HLG1.out _ HI.out.mat).mono ?_); rintro e w1 ⟨rfl, hb⟩; replace HI := Lib.hid (HI.out.step hb); clear hb)
      | (go_at_call 25; (with_reducible refine (HLG2.out _ HI.out.mat2).mono ?_); rintro e w1 ⟨rfl, hb⟩; replace HI := Lib.hid (HI.out.step hb); clear hb)
      | (go_at_call 10; (with_reducible refine (awake_any _).mono ?_); rintro e w1 ⟨rfl, hb⟩; replace HI := Lib.hid (HI.out.step hb); clear hb))
    go_ret
    exact ⟨rfl, HI.out.below⟩
  rw [decide_eq_false hlg2] at HLG2
  clear hlg2
  by_cases h40 : 40 < n
  · have h40I : (40 : Int) < (n : Int) := by omega
    go_enter Try.func5, Try.ntmps5
    go_wp2_with (first
      | (refine load_pm ?_ _ rfl g rfl p HI.out.box ?_; first | rfl | (simp [Region.wanted, yielded]; done))
      | (refine load_mo ?_ _ rfl h rfl mv o HI.out.mod ?_; first | rfl | (simp [Region.wanted, yielded]; done))
      | (refine load_mo ?_ _ rfl h2 rfl mu q HI.out.mod2 ?_; first | rfl | (simp [Region.wanted, yielded]; done))
      | (go_at_call 25; (with_reducible refine (HLG1.out _ HI.out.mat).mono ?_); rintro e w1 ⟨rfl, hb⟩; replace HI := Lib.hid (HI.out.step hb); clear hb)
      | (go_at_call 25; (with_reducible refine (HLG2.out _ HI.out.mat2).mono ?_); rintro e w1 ⟨rfl, hb⟩; replace HI := Lib.hid (HI.out.step hb); clear hb)
      | (go_at_call 10; (with_reducible refine (awake_any _).mono ?_); rintro e w1 ⟨rfl, hb⟩; replace HI := Lib.hid (HI.out.step hb); clear hb))
    go_ret
    exact ⟨rfl, HI.out.below⟩
  have h40I : ¬ (40 : Int) < (n : Int) := by omega
  by_cases h60 : 60 < ln
  · have h60I : (60 : Int) < (ln : Int) := by omega
    go_enter Try.func5, Try.ntmps5
    go_wp2_with (first
      | (refine load_pm ?_ _ rfl g rfl p HI.out.box ?_; first | rfl | (simp [Region.wanted, yielded]; done))
      | (refine load_mo ?_ _ rfl h rfl mv o HI.out.mod ?_; first | rfl | (simp [Region.wanted, yielded]; done))
      | (refine load_mo ?_ _ rfl h2 rfl mu q HI.out.mod2 ?_; first | rfl | (simp [Region.wanted, yielded]; done))
      | (go_at_call 25; (with_reducible refine (HLG1.out _ HI.out.mat).mono ?_); rintro e w1 ⟨rfl, hb⟩; replace HI := Lib.hid (HI.out.step hb); clear hb)
      | (go_at_call 25; (with_reducible refine (HLG2.out _ HI.out.mat2).mono ?_); rintro e w1 ⟨rfl, hb⟩; replace HI := Lib.hid (HI.out.step hb); clear hb)
      | (go_at_call 10; (with_reducible refine (awake_any _).mono ?_); rintro e w1 ⟨rfl, hb⟩; replace HI := Lib.hid (HI.out.step hb); clear hb))
    go_ret
    exact ⟨rfl, HI.out.below⟩
  have h60I : ¬ (60 : Int) < (ln : Int) := by omega
  have hn40 : n ≤ 1000 := by omega
  have hl60 : ln ≤ 1000 := by omega
  go_enter Try.func5, Try.ntmps5
  go_upto_region 4 with (first
    | (refine load_pm ?_ _ rfl g rfl p HI.out.box ?_; first | rfl | (simp [Region.wanted, yielded]; done))
    | (refine load_mo ?_ _ rfl h rfl mv o HI.out.mod ?_; first | rfl | (simp [Region.wanted, yielded]; done))
    | (refine load_mo ?_ _ rfl h2 rfl mu q HI.out.mod2 ?_; first | rfl | (simp [Region.wanted, yielded]; done))
    | (go_at_call 25; (with_reducible refine (HLG1.out _ HI.out.mat).mono ?_); rintro e w1 ⟨rfl, hb⟩; replace HI := Lib.hid (HI.out.step hb); clear hb)
    | (go_at_call 25; (with_reducible refine (HLG2.out _ HI.out.mat2).mono ?_); rintro e w1 ⟨rfl, hb⟩; replace HI := Lib.hid (HI.out.step hb); clear hb)
    | (go_at_call 10; (with_reducible refine (awake_any _).mono ?_); rintro e w1 ⟨rfl, hb⟩; replace HI := Lib.hid (HI.out.step hb); clear hb)
    | (go_at_call 22; (with_reducible refine (HCP.out _ HI.out.mat).mono ?_); rintro e w1 ⟨mc, rfl, hmc, hb⟩; replace HI := Lib.hid (HI.out.step hb); clear hb; obtain ⟨xo2, xc2, w4, hr4, ho4⟩ := copyI w1 hn40 (HX.out.below HI.out.below); obtain ⟨lo2, lc2, w6, hr6, ho6⟩ := copyU w4 hl60 (HL.out.below (HI.out.step ho4.2).below) HLN.out)
    | (at_builtin; refine Lib.wpList_append_run _ rfl _ _ _ _ rfl _ _ rfl rfl _ _ hr4 ?_)
    | (at_builtin; refine Lib.wpList_append_run _ rfl _ _ _ _ rfl _ _ rfl rfl _ _ hr6 ?_))
  obtain ⟨C, hC⟩ : ∃ C, w6.heap.size = C := ⟨_, rfl⟩
  have hb7 := below_box w6 (.cells (mc.cells o) 36)
  have hn7 := BoxM.new w6 mc o
  obtain ⟨w7, hw7⟩ : ∃ w7, w6.alloc (.cells (mc.cells o) 36) = w7 := ⟨_, rfl⟩
  rw [hC] at hn7
  have HT0 : Hid (Tl W g h h2 C p mv o mu q mc xo xo2 n cx xc2 x yo lo2 ln l (w6.alloc (.cells (mc.cells o) 36))) := Lib.hid (by
    have b4 := ho4.2
    have b6 := ho6.2
    have i6 := (HI.out.step b4).step b6
    exact ⟨i6.step hb7, hn7, ((hmc.below b4).below b6).below hb7, ((HX.out.below i6.below)).below hb7, (ho4.1.below b6).below hb7, (HL.out.below i6.below).below hb7, ho6.1.below hb7⟩)
  rw [hw7] at HT0
  clear hr4 hr6 ho4 ho6 hmc HI hb7 hn7 HLG1 HLG2 HCP
  go_wp2_with fail
  rw [hw7, hC]
  go_loopw [14] (fun s14 wx => ∃ k : Nat, k ≤ 2 ∧ s14 = .int .i64 (k : Int) ∧ Hid (Tl W g h h2 C p mv o mu q mc xo xo2 n cx xc2 x yo lo2 ln l wx)) (fun s14 _ => 2 - (RowKit.intOf s14).toNat)
  case atStart => exact ⟨0, by omega, rfl, HT0⟩
  case round =>
    clear HT0
    obtain ⟨k, hk, rfl, HT⟩ := hrel
    by_cases hlt : k < 2
    · have hkI : (k : Int) < 2 := by omega
      obtain ⟨w8, hw8⟩ : ∃ w8, w8 = wr := ⟨_, rfl⟩
      subst hw8
      obtain ⟨B, hB⟩ : ∃ B, w8.heap.size = B := ⟨_, rfl⟩
      obtain ⟨NS, hNS⟩ : ∃ N, MM.secN p o = N := ⟨_, rfl⟩
      obtain ⟨NR, hNR⟩ : ∃ N, MM.rowN p = N := ⟨_, rfl⟩
      obtain ⟨ND, hND⟩ : ∃ N, MM.dotN p = N := ⟨_, rfl⟩
      obtain ⟨NC, hNC⟩ : ∃ N, MM.scoN p o n x = N := ⟨_, rfl⟩
      obtain ⟨zs, hzs⟩ : ∃ z, MM.secZ p o = z := ⟨_, rfl⟩
      obtain ⟨zr, hzr⟩ : ∃ z, MM.rowZ p n x = z := ⟨_, rfl⟩
      obtain ⟨zd, hzd⟩ : ∃ z, MM.dotZ p ln l n x = z := ⟨_, rfl⟩
      obtain ⟨zc, hzc⟩ : ∃ z, MM.scoZ p o x = z := ⟨_, rfl⟩
      have HD1 : Hid (∀ (u : World) (_ : Tl W g h h2 C p mv o mu q mc xo xo2 n cx xc2 x yo lo2 ln l u) (_ : B ≤ u.heap.size), Calls Try.prog 15 #[.agg p.cells, .agg (mc.cells o)] u fun e w' => ∃ v, e = .returned v ∧ NewU B w' v NS zs ∧ Below u.heap.size u w') := Lib.hid fun u h1 h2 => by
        refine (secrets_any p mc o HOK1.out u h1.mat).mono ?_
        rintro e w' ⟨v, rfl, hv, hb⟩
        rw [hNS, hzs] at hv
        exact ⟨v, rfl, hv.mono h2, hb⟩
      have HD2 : Hid (∀ (u : World) (_ : Tl W g h h2 C p mv o mu q mc xo xo2 n cx xc2 x yo lo2 ln l u) (_ : B ≤ u.heap.size), Calls Try.prog 18 #[.agg p.cells, .slice xo2 n xc2] u fun e w' => ∃ v, e = .returned v ∧ NewU B w' v NR zr ∧ Below u.heap.size u w') := Lib.hid fun u h1 h2 => by
        refine (row_any p xo2 n xc2 x HXB.out u h1.x2).mono ?_
        rintro e w' ⟨v, rfl, hv, hb⟩
        rw [hNR, hzr] at hv
        exact ⟨v, rfl, hv.mono h2, hb⟩
      have HD3 : Hid (∀ (u : World) (_ : Tl W g h h2 C p mv o mu q mc xo xo2 n cx xc2 x yo lo2 ln l u) (_ : B ≤ u.heap.size), Calls Try.prog 19 #[.agg p.cells, .slice lo2 ln lc2, .slice xo2 n xc2] u fun e w' => ∃ v, e = .returned v ∧ NewU B w' v ND zd ∧ Below u.heap.size u w') := Lib.hid fun u h1 h2 => by
        refine (dot_any p lo2 ln lc2 l xo2 n xc2 x HLB.out HXB.out u h1.l2 h1.x2).mono ?_
        rintro e w' ⟨v, rfl, hv, hb⟩
        rw [hND, hzd] at hv
        exact ⟨v, rfl, hv.mono h2, hb⟩
      have HD4 : Hid (∀ (u : World) (_ : Tl W g h h2 C p mv o mu q mc xo xo2 n cx xc2 x yo lo2 ln l u) (_ : B ≤ u.heap.size), Calls Try.prog 16 #[.agg p.cells, .agg (mc.cells o), .slice xo2 n xc2] u fun e w' => ∃ v, e = .returned v ∧ NewI B w' v NC zc ∧ Below u.heap.size u w') := Lib.hid fun u h1 h2 => by
        refine (scores_any p mc o HOK1.out xo2 n xc2 x hn u h1.mat h1.x2).mono ?_
        rintro e w' ⟨v, rfl, hv, hb⟩
        rw [hNC, hzc] at hv
        exact ⟨v, rfl, hv.mono h2, hb⟩
      go_upto_region 7 with fail
      refine RK.tame [none, none, none, none, none, none, none, none, none, none, none, none, none, none, none, some 14, some 15, some 16, some 17, none, none, none, none, none, none, none, none, none, none, none, none, none, none, none, none, none, none, none, none, none, none, none, none, none, none, none, none, none, none, none, none, none, some 0, some 1, some 2, some 3, some 4, some 5, some 6, some 7, some 8, some 9, some 10, some 11, some 12, some 13, none, none, none, none, none, none, none, none, none, none, none, none, none, none, none, none, none, none, none, none, none, none, none, none, none, none, none, none, none, none, none, none, none, none, none, none, none, none, none, none, none, none, none, none, none, none, none, none, none, none, none, none, none, none, none, none, none, none, none, none, none, none, none, none, none, none, none, none, none, none, none, none, none, none, none, none, none, none, none, none, none, none, none, none, none, none, none, none, none, none, none, none, none, none, none, none, none, none, none, none, none, none, none] [RK.Word.eq (.agg p.cells), RK.Word.eq (.agg (mc.cells o)), wNewU B NS zs, RK.Word.eq (.agg p.cells), RK.Word.eq (.slice xo2 n xc2), wNewU B NR zr, RK.Word.eq (.agg p.cells), RK.Word.eq (.slice lo2 ln lc2), RK.Word.eq (.slice xo2 n xc2), wNewU B ND zd, RK.Word.eq (.agg p.cells), RK.Word.eq (.agg (mc.cells o)), RK.Word.eq (.slice xo2 n xc2), wNewI B NC zc, wNewU B NS zs, wNewU B NR zr, wNewU B ND zd, wNewI B NC zc] (fun u => Tl W g h h2 C p mv o mu q mc xo xo2 n cx xc2 x yo lo2 ln l u ∧ Below w8.heap.size w8 u) (by kernel_rfl) (by kernel_rfl) (by kernel_rfl) ⟨HT.out, Below.refl _ _⟩ (fun _ _ hs hb => ⟨hs.1.step hb, hs.2.trans (hb.mono hs.2.size)⟩) (fun i hi a' val w' hF => ?_) (fun val w' hw hp => ?_)
      · have hi2 : i = 0 ∨ i = 1 ∨ i = 2 ∨ i = 3 ∨ i = 4 ∨ i = 5 ∨ i = 6 ∨ i = 7 ∨ i = 8 ∨ i = 9 ∨ i = 10 ∨ i = 11 ∨ i = 12 ∨ i = 13 ∨ i = 14 ∨ i = 15 ∨ i = 16 ∨ i = 17 := by
          have : i < 18 := hi
          omega
        clear hi
        rcases hi2 with rfl | rfl | rfl | rfl | rfl | rfl | rfl | rfl | rfl | rfl | rfl | rfl | rfl | rfl | rfl | rfl | rfl | rfl
        · have r5 : a'.eval (.tmp 5) = .pointer (some ⟨g, 0, none⟩) := (hF.old 5 (.inr rfl)).trans rfl
          refine RK.owes_exec (v := .agg p.cells) (w' := w') rfl (RK.wanted_any rfl) ?_ (Below.refl _ _) rfl
          exact load_boxp hF.S.1.i.box rfl r5
        · have r11 : a'.eval (.tmp 11) = .pointer (some ⟨C, 0, none⟩) := (hF.old 11 (.inr rfl)).trans rfl
          refine RK.owes_exec (v := .agg (mc.cells o)) (w' := w') rfl (RK.wanted_any rfl) ?_ (Below.refl _ _) rfl
          exact load_boxm hF.S.1.box rfl r11
        · have p0 : val 0 = .agg p.cells := hF.post 0 (by kernel_rfl)
          have r52 : a'.eval (.tmp 52) = .agg p.cells := (hF.ev 52 0 rfl (by kernel_rfl) (of_decide_eq_true (by kernel_rfl))).trans p0
          have p1 : val 1 = .agg (mc.cells o) := hF.post 1 (by kernel_rfl)
          have r53 : a'.eval (.tmp 53) = .agg (mc.cells o) := (hF.ev 53 1 rfl (by kernel_rfl) (of_decide_eq_true (by kernel_rfl))).trans p1
          refine RK.owes_call (g := 15) (args := #[.agg p.cells, .agg (mc.cells o)]) rfl (RK.wanted_any rfl) ?_ ?_
          · have rk : ∀ c, a'.eval (.const c) = c := fun _ => rfl
            have rf : ∀ f, a'.eval (.func f) = .func (.func f) #[] #[] := fun _ => rfl
            generalize a'.eval = ρ at *
            go_simp
          · refine (HD1.out w' hF.S.1 (by rw [← hB]; exact hF.S.2.size)).mono ?_
            rintro e w2 ⟨u, rfl, hu, hb⟩
            exact ⟨_, rfl, hb, hu⟩
        · have r5 : a'.eval (.tmp 5) = .pointer (some ⟨g, 0, none⟩) := (hF.old 5 (.inr rfl)).trans rfl
          refine RK.owes_exec (v := .agg p.cells) (w' := w') rfl (RK.wanted_any rfl) ?_ (Below.refl _ _) rfl
          exact load_boxp hF.S.1.i.box rfl r5
        · have r12 : a'.eval (.tmp 12) = .slice xo2 n xc2 := (hF.old 12 (.inr rfl)).trans rfl
          refine RK.owes_exec (v := .slice xo2 n xc2) (w' := w') rfl (RK.wanted_any rfl) ?_ (Below.refl _ _) rfl
          have rk : ∀ c, a'.eval (.const c) = c := fun _ => rfl
          generalize a'.eval = ρ at *
          go_simp
        · have p3 : val 3 = .agg p.cells := hF.post 3 (by kernel_rfl)
          have r55 : a'.eval (.tmp 55) = .agg p.cells := (hF.ev 55 3 rfl (by kernel_rfl) (of_decide_eq_true (by kernel_rfl))).trans p3
          have p4 : val 4 = .slice xo2 n xc2 := hF.post 4 (by kernel_rfl)
          have r56 : a'.eval (.tmp 56) = .slice xo2 n xc2 := (hF.ev 56 4 rfl (by kernel_rfl) (of_decide_eq_true (by kernel_rfl))).trans p4
          refine RK.owes_call (g := 18) (args := #[.agg p.cells, .slice xo2 n xc2]) rfl (RK.wanted_any rfl) ?_ ?_
          · have rk : ∀ c, a'.eval (.const c) = c := fun _ => rfl
            have rf : ∀ f, a'.eval (.func f) = .func (.func f) #[] #[] := fun _ => rfl
            generalize a'.eval = ρ at *
            go_simp
          · refine (HD2.out w' hF.S.1 (by rw [← hB]; exact hF.S.2.size)).mono ?_
            rintro e w2 ⟨u, rfl, hu, hb⟩
            exact ⟨_, rfl, hb, hu⟩
        · have r5 : a'.eval (.tmp 5) = .pointer (some ⟨g, 0, none⟩) := (hF.old 5 (.inr rfl)).trans rfl
          refine RK.owes_exec (v := .agg p.cells) (w' := w') rfl (RK.wanted_any rfl) ?_ (Below.refl _ _) rfl
          exact load_boxp hF.S.1.i.box rfl r5
        · have r13 : a'.eval (.tmp 13) = .slice lo2 ln lc2 := (hF.old 13 (.inr rfl)).trans rfl
          refine RK.owes_exec (v := .slice lo2 ln lc2) (w' := w') rfl (RK.wanted_any rfl) ?_ (Below.refl _ _) rfl
          have rk : ∀ c, a'.eval (.const c) = c := fun _ => rfl
          generalize a'.eval = ρ at *
          go_simp
        · have r12 : a'.eval (.tmp 12) = .slice xo2 n xc2 := (hF.old 12 (.inr rfl)).trans rfl
          refine RK.owes_exec (v := .slice xo2 n xc2) (w' := w') rfl (RK.wanted_any rfl) ?_ (Below.refl _ _) rfl
          have rk : ∀ c, a'.eval (.const c) = c := fun _ => rfl
          generalize a'.eval = ρ at *
          go_simp
        · have p6 : val 6 = .agg p.cells := hF.post 6 (by kernel_rfl)
          have r58 : a'.eval (.tmp 58) = .agg p.cells := (hF.ev 58 6 rfl (by kernel_rfl) (of_decide_eq_true (by kernel_rfl))).trans p6
          have p7 : val 7 = .slice lo2 ln lc2 := hF.post 7 (by kernel_rfl)
          have r59 : a'.eval (.tmp 59) = .slice lo2 ln lc2 := (hF.ev 59 7 rfl (by kernel_rfl) (of_decide_eq_true (by kernel_rfl))).trans p7
          have p8 : val 8 = .slice xo2 n xc2 := hF.post 8 (by kernel_rfl)
          have r60 : a'.eval (.tmp 60) = .slice xo2 n xc2 := (hF.ev 60 8 rfl (by kernel_rfl) (of_decide_eq_true (by kernel_rfl))).trans p8
          refine RK.owes_call (g := 19) (args := #[.agg p.cells, .slice lo2 ln lc2, .slice xo2 n xc2]) rfl (RK.wanted_any rfl) ?_ ?_
          · have rk : ∀ c, a'.eval (.const c) = c := fun _ => rfl
            have rf : ∀ f, a'.eval (.func f) = .func (.func f) #[] #[] := fun _ => rfl
            generalize a'.eval = ρ at *
            go_simp
          · refine (HD3.out w' hF.S.1 (by rw [← hB]; exact hF.S.2.size)).mono ?_
            rintro e w2 ⟨u, rfl, hu, hb⟩
            exact ⟨_, rfl, hb, hu⟩
        · have r5 : a'.eval (.tmp 5) = .pointer (some ⟨g, 0, none⟩) := (hF.old 5 (.inr rfl)).trans rfl
          refine RK.owes_exec (v := .agg p.cells) (w' := w') rfl (RK.wanted_any rfl) ?_ (Below.refl _ _) rfl
          exact load_boxp hF.S.1.i.box rfl r5
        · have r11 : a'.eval (.tmp 11) = .pointer (some ⟨C, 0, none⟩) := (hF.old 11 (.inr rfl)).trans rfl
          refine RK.owes_exec (v := .agg (mc.cells o)) (w' := w') rfl (RK.wanted_any rfl) ?_ (Below.refl _ _) rfl
          exact load_boxm hF.S.1.box rfl r11
        · have r12 : a'.eval (.tmp 12) = .slice xo2 n xc2 := (hF.old 12 (.inr rfl)).trans rfl
          refine RK.owes_exec (v := .slice xo2 n xc2) (w' := w') rfl (RK.wanted_any rfl) ?_ (Below.refl _ _) rfl
          have rk : ∀ c, a'.eval (.const c) = c := fun _ => rfl
          generalize a'.eval = ρ at *
          go_simp
        · have p10 : val 10 = .agg p.cells := hF.post 10 (by kernel_rfl)
          have r62 : a'.eval (.tmp 62) = .agg p.cells := (hF.ev 62 10 rfl (by kernel_rfl) (of_decide_eq_true (by kernel_rfl))).trans p10
          have p11 : val 11 = .agg (mc.cells o) := hF.post 11 (by kernel_rfl)
          have r63 : a'.eval (.tmp 63) = .agg (mc.cells o) := (hF.ev 63 11 rfl (by kernel_rfl) (of_decide_eq_true (by kernel_rfl))).trans p11
          have p12 : val 12 = .slice xo2 n xc2 := hF.post 12 (by kernel_rfl)
          have r64 : a'.eval (.tmp 64) = .slice xo2 n xc2 := (hF.ev 64 12 rfl (by kernel_rfl) (of_decide_eq_true (by kernel_rfl))).trans p12
          refine RK.owes_call (g := 16) (args := #[.agg p.cells, .agg (mc.cells o), .slice xo2 n xc2]) rfl (RK.wanted_any rfl) ?_ ?_
          · have rk : ∀ c, a'.eval (.const c) = c := fun _ => rfl
            have rf : ∀ f, a'.eval (.func f) = .func (.func f) #[] #[] := fun _ => rfl
            generalize a'.eval = ρ at *
            go_simp
          · refine (HD4.out w' hF.S.1 (by rw [← hB]; exact hF.S.2.size)).mono ?_
            rintro e w2 ⟨u, rfl, hu, hb⟩
            exact ⟨_, rfl, hb, hu⟩
        · obtain ⟨ao2, c2, e2, l2, h2⟩ : ∃ ao c, val 2 = .slice ao NS c ∧ NS ≤ c ∧ Rd w' ao NS zs := NewU.rd (hF.post 2 (by kernel_rfl))
          have r54 : a'.eval (.tmp 54) = .slice ao2 NS c2 := (hF.ev 54 2 rfl (by kernel_rfl) (of_decide_eq_true (by kernel_rfl))).trans e2
          refine RK.owes_exec (v := .slice ao2 NS c2) (w' := w') rfl (RK.wanted_any rfl) ?_ (Below.refl _ _) (by have := hF.post 2 (by kernel_rfl); rw [e2] at this; exact this)
          have rk : ∀ c, a'.eval (.const c) = c := fun _ => rfl
          generalize a'.eval = ρ at *
          go_simp
        · obtain ⟨ao5, c5, e5, l5, h5⟩ : ∃ ao c, val 5 = .slice ao NR c ∧ NR ≤ c ∧ Rd w' ao NR zr := NewU.rd (hF.post 5 (by kernel_rfl))
          have r57 : a'.eval (.tmp 57) = .slice ao5 NR c5 := (hF.ev 57 5 rfl (by kernel_rfl) (of_decide_eq_true (by kernel_rfl))).trans e5
          refine RK.owes_exec (v := .slice ao5 NR c5) (w' := w') rfl (RK.wanted_any rfl) ?_ (Below.refl _ _) (by have := hF.post 5 (by kernel_rfl); rw [e5] at this; exact this)
          have rk : ∀ c, a'.eval (.const c) = c := fun _ => rfl
          generalize a'.eval = ρ at *
          go_simp
        · obtain ⟨ao9, c9, e9, l9, h9⟩ : ∃ ao c, val 9 = .slice ao ND c ∧ ND ≤ c ∧ Rd w' ao ND zd := NewU.rd (hF.post 9 (by kernel_rfl))
          have r61 : a'.eval (.tmp 61) = .slice ao9 ND c9 := (hF.ev 61 9 rfl (by kernel_rfl) (of_decide_eq_true (by kernel_rfl))).trans e9
          refine RK.owes_exec (v := .slice ao9 ND c9) (w' := w') rfl (RK.wanted_any rfl) ?_ (Below.refl _ _) (by have := hF.post 9 (by kernel_rfl); rw [e9] at this; exact this)
          have rk : ∀ c, a'.eval (.const c) = c := fun _ => rfl
          generalize a'.eval = ρ at *
          go_simp
        · obtain ⟨ao13, c13, e13, h13⟩ : ∃ ao c, val 13 = .slice ao NC c ∧ IRow w' ao NC c zc := NewI.irow (hF.post 13 (by kernel_rfl))
          have r65 : a'.eval (.tmp 65) = .slice ao13 NC c13 := (hF.ev 65 13 rfl (by kernel_rfl) (of_decide_eq_true (by kernel_rfl))).trans e13
          refine RK.owes_exec (v := .slice ao13 NC c13) (w' := w') rfl (RK.wanted_any rfl) ?_ (Below.refl _ _) (by have := hF.post 13 (by kernel_rfl); rw [e13] at this; exact this)
          have rk : ∀ c, a'.eval (.const c) = c := fun _ => rfl
          generalize a'.eval = ρ at *
          go_simp
      · obtain ⟨sa, sc, e14, _, hrs⟩ : ∃ ao c, val 14 = .slice ao NS c ∧ NS ≤ c ∧ Rd w' ao NS zs := NewU.rd (hp 14 (of_decide_eq_true (by kernel_rfl)))
        obtain ⟨ra, rc, e15, _, hrr⟩ : ∃ ao c, val 15 = .slice ao NR c ∧ NR ≤ c ∧ Rd w' ao NR zr := NewU.rd (hp 15 (of_decide_eq_true (by kernel_rfl)))
        obtain ⟨da, dc, e16, _, hrd⟩ : ∃ ao c, val 16 = .slice ao ND c ∧ ND ≤ c ∧ Rd w' ao ND zd := NewU.rd (hp 16 (of_decide_eq_true (by kernel_rfl)))
        obtain ⟨ca, cc, e17, hrc⟩ : ∃ ao c, val 17 = .slice ao NC c ∧ IRow w' ao NC c zc := NewI.irow (hp 17 (of_decide_eq_true (by kernel_rfl)))
        have n14 : NewU B w' (.slice sa NS sc) NS zs := e14 ▸ (hp 14 (of_decide_eq_true (by kernel_rfl)))
        have n15 : NewU B w' (.slice ra NR rc) NR zr := e15 ▸ (hp 15 (of_decide_eq_true (by kernel_rfl)))
        have n16 : NewU B w' (.slice da ND dc) ND zd := e16 ▸ (hp 16 (of_decide_eq_true (by kernel_rfl)))
        have n17 : NewI B w' (.slice ca NC cc) NC zc := e17 ▸ (hp 17 (of_decide_eq_true (by kernel_rfl)))
        simp only [RK.slotsL, if_true, e14, e15, e16, e17]
        have HTF := Lib.hid hw.1
        have HB8 := Lib.hid hw.2
        have HN14 := Lib.hid n14
        have HN15 := Lib.hid n15
        have HN16 := Lib.hid n16
        have HN17 := Lib.hid n17
        have H7s := Lib.hid (fun (u : World) (hb : Below w'.heap.size w' u) => hrs.below hb)
        have H7r := Lib.hid (fun (u : World) (hb : Below w'.heap.size w' u) => hrr.below hb)
        have H7d := Lib.hid (fun (u : World) (hb : Below w'.heap.size w' u) => hrd.below hb)
        have H7c := Lib.hid (fun (u : World) (hb : Below w'.heap.size w' u) => hrc.below hb)
        have HBF := Lib.hid (Below.refl w'.heap.size w')
        have HR1 : Hid (∀ (u : World) (_ : Tl W g h h2 C p mv o mu q mc xo xo2 n cx xc2 x yo lo2 ln l u), Calls Try.prog 26 #[.agg p.cells, .agg (mv.cells o)] u fun e w' => ∃ v, e = .returned v ∧ (∃ ao c, v = .slice ao NS c ∧ Rd w' ao NS zs) ∧ Below u.heap.size u w') := Lib.hid fun u h1 => by
          refine (rsecrets_any p mv o HOK1.out u h1.i.mat).mono ?_
          rintro e w' ⟨v, rfl, hv, hb⟩
          rw [hNS, hzs] at hv
          obtain ⟨ao, c, rfl, _, hi⟩ := hv.rd
          exact ⟨_, rfl, ⟨ao, c, rfl, hi⟩, hb⟩
        have HR2 : Hid (∀ (u : World) (_ : Tl W g h h2 C p mv o mu q mc xo xo2 n cx xc2 x yo lo2 ln l u), Calls Try.prog 27 #[.agg p.cells, .slice xo n cx] u fun e w' => ∃ v, e = .returned v ∧ (∃ ao c, v = .slice ao NR c ∧ Rd w' ao NR zr) ∧ Below u.heap.size u w') := Lib.hid fun u h1 => by
          refine (rrow_any p xo n cx x HXB.out u h1.x1).mono ?_
          rintro e w' ⟨v, rfl, hv, hb⟩
          rw [hNR, hzr] at hv
          obtain ⟨ao, c, rfl, _, hi⟩ := hv.rd
          exact ⟨_, rfl, ⟨ao, c, rfl, hi⟩, hb⟩
        have HR3 : Hid (∀ (u : World) (_ : Tl W g h h2 C p mv o mu q mc xo xo2 n cx xc2 x yo lo2 ln l u), Calls Try.prog 28 #[.agg p.cells, .slice yo ln cl, .slice xo n cx] u fun e w' => ∃ v, e = .returned v ∧ (∃ ao c, v = .slice ao ND c ∧ Rd w' ao ND zd) ∧ Below u.heap.size u w') := Lib.hid fun u h1 => by
          refine (rdot_any p yo ln cl l xo n cx x HXB.out u h1.l1 h1.x1).mono ?_
          rintro e w' ⟨v, rfl, hv, hb⟩
          rw [hND, hzd] at hv
          obtain ⟨ao, c, rfl, _, hi⟩ := hv.rd
          exact ⟨_, rfl, ⟨ao, c, rfl, hi⟩, hb⟩
        have HR4 : Hid (∀ (u : World) (_ : Tl W g h h2 C p mv o mu q mc xo xo2 n cx xc2 x yo lo2 ln l u), Calls Try.prog 30 #[.agg p.cells, .agg (mv.cells o), .slice xo n cx] u fun e w' => ∃ v, e = .returned v ∧ (∃ ao c, v = .slice ao NC c ∧ IRow w' ao NC c zc) ∧ Below u.heap.size u w') := Lib.hid fun u h1 => by
          refine (rscores_any p mv o xo n cx x u h1.i.mat h1.x1).mono ?_
          rintro e w' ⟨v, rfl, hv, hb⟩
          rw [hNC, hzc] at hv
          obtain ⟨ao, c, rfl, hi⟩ := hv.irow
          exact ⟨_, rfl, ⟨ao, c, rfl, hi⟩, hb⟩
        have hfit : MM.Fit p → p.K.toNat ≤ 2 ∧ p.D.toNat ≤ 4 := fun hf => ⟨by have := hf.2.1; omega, by have := hf.2.2.2.1; omega⟩
        have hbNS : NS ≤ 9223372036854775807 := by
          rw [← hNS]; unfold MM.secN; split
          · rename_i hv; exact Nat.le_trans (Nat.mul_le_mul (hfit hv.1).1 (Nat.add_le_add_right (hfit hv.1).2 1)) (by omega)
          · omega
        have hbNR : NR ≤ 9223372036854775807 := by
          rw [← hNR]; unfold MM.rowN; split
          · rename_i hv; have := (hfit hv).2; omega
          · omega
        have hbND : ND ≤ 9223372036854775807 := by
          rw [← hND]; unfold MM.dotN; split
          · rename_i hv; have := (hfit hv).1; omega
          · omega
        have hbNC : NC ≤ 9223372036854775807 := by
          rw [← hNC]; unfold MM.scoN; split
          · rename_i hv; have := (hfit hv.1.1).1; omega
          · omega
        have HNs := Lib.hid (And.intro hNS (And.intro hNR (And.intro hND hNC)))
        clear hp hw hrs hrr hrd hrc e14 e15 e16 e17 n14 n15 n16 n17 HD1 HD2 HD3 HD4 hfit hNS hNR hND hNC hzs hzr hzd hzc
        generalize val 0 = q0
        generalize val 1 = q1
        generalize val 2 = q2
        generalize val 3 = q3
        generalize val 4 = q4
        generalize val 5 = q5
        generalize val 6 = q6
        generalize val 7 = q7
        generalize val 8 = q8
        generalize val 9 = q9
        generalize val 10 = q10
        generalize val 11 = q11
        generalize val 12 = q12
        generalize val 13 = q13
        obtain ⟨wF, hwF⟩ : ∃ wF, wF = w' := ⟨_, rfl⟩
        subst hwF
        go_upto_region 10 with (first
          | (refine load_pm ?_ _ rfl g rfl p (HTF.out.step HBF.out).i.box ?_; first | rfl | (simp [Region.wanted, yielded]; done))
          | (refine load_mo ?_ _ rfl h rfl mv o (HTF.out.step HBF.out).i.mod ?_; first | rfl | (simp [Region.wanted, yielded]; done))
          | (go_at_call 26; (with_reducible refine (HR1.out _ (HTF.out.step HBF.out)).mono ?_); rintro e w1 ⟨u, rfl, ⟨bo, bc, rfl, hrs⟩, hb⟩; have HQ := Lib.hid hrs; replace HBF := Lib.hid (HBF.out.trans (hb.mono HBF.out.size)); clear hrs hb)
          | (go_at_call 27; (with_reducible refine (HR2.out _ (HTF.out.step HBF.out)).mono ?_); rintro e w1 ⟨u, rfl, ⟨bo, bc, rfl, hrs⟩, hb⟩; have HQ := Lib.hid hrs; replace HBF := Lib.hid (HBF.out.trans (hb.mono HBF.out.size)); clear hrs hb)
          | (go_at_call 28; (with_reducible refine (HR3.out _ (HTF.out.step HBF.out)).mono ?_); rintro e w1 ⟨u, rfl, ⟨bo, bc, rfl, hrs⟩, hb⟩; have HQ := Lib.hid hrs; replace HBF := Lib.hid (HBF.out.trans (hb.mono HBF.out.size)); clear hrs hb)
          | (go_at_call 30; (with_reducible refine (HR4.out _ (HTF.out.step HBF.out)).mono ?_); rintro e w1 ⟨u, rfl, ⟨bo, bc, rfl, hrs⟩, hb⟩; have HQ := Lib.hid hrs; replace HBF := Lib.hid (HBF.out.trans (hb.mono HBF.out.size)); clear hrs hb)
          | (go_at_call 20; (with_reducible refine (nums_same _ _ NS _ _ zs hbNS _ (H7s.out _ HBF.out) HQ.out).mono ?_); rintro e w1 ⟨rfl, hb⟩; replace HBF := Lib.hid (HBF.out.trans (hb.mono HBF.out.size)); clear hb HQ)
          | (go_at_call 20; (with_reducible refine (nums_same _ _ NR _ _ zr hbNR _ (H7r.out _ HBF.out) HQ.out).mono ?_); rintro e w1 ⟨rfl, hb⟩; replace HBF := Lib.hid (HBF.out.trans (hb.mono HBF.out.size)); clear hb HQ)
          | (go_at_call 20; (with_reducible refine (nums_same _ _ ND _ _ zd hbND _ (H7d.out _ HBF.out) HQ.out).mono ?_); rintro e w1 ⟨rfl, hb⟩; replace HBF := Lib.hid (HBF.out.trans (hb.mono HBF.out.size)); clear hb HQ)
          | (go_at_call 29; (with_reducible refine (ints_same _ _ NC _ _ zc hbNC _ (H7c.out _ HBF.out) HQ.out).mono ?_); rintro e w1 ⟨rfl, hb⟩; replace HBF := Lib.hid (HBF.out.trans (hb.mono HBF.out.size)); clear hb HQ))
        clear HR1 HR2 HR3 HR4 H7s H7r H7d H7c
        have hb81 : Below w8.heap.size w8 w1 := HB8.out.trans (HBF.out.mono HB8.out.size)
        have hsz := HBF.out
        have q1 := HN14.out.below hsz
        have q2 := HN15.out.below hsz
        have q3 := HN16.out.below hsz
        have q4 := HN17.out.below hsz
        have hbl := below_box w1 (.cells #[.slice sa NS sc, .slice ra NR rc, .slice da ND dc] 39)
        have hnl := heap_alloc_new w1 (.cells #[.slice sa NS sc, .slice ra NR rc, .slice da ND dc] 39)
        obtain ⟨wL, hwL⟩ : ∃ wL, w1.alloc (.cells #[.slice sa NS sc, .slice ra NR rc, .slice da ND dc] 39) = wL := ⟨_, rfl⟩
        rw [hwL] at hbl hnl
        obtain ⟨D, hD⟩ : ∃ D, w1.heap.size = D := ⟨_, rfl⟩
        rw [hD] at hnl
        rw [← hB] at q1 q2 q3 q4
        have HW0 : Hid (Wst w8 D (.slice sa NS sc) (.slice ra NR rc) (.slice da ND dc) (.slice ca NC cc) NS NR ND NC wL) := Lib.hid ⟨hb81.trans (hbl.mono hb81.size), ⟨_, q1.below hbl⟩, ⟨_, q2.below hbl⟩, ⟨_, q3.below hbl⟩, ⟨_, q4.below hbl⟩, hnl⟩
        clear hb81 hsz q1 q2 q3 q4 hbl hnl HN14 HN15 HN16 HN17 HBF HTF HB8
        go_wp2_with fail
        try rw [hwL]
        try rw [hD]
        go_loopw [103] (fun s103 wx => ∃ j : Nat, j ≤ 3 ∧ s103 = .int .i64 (j : Int) ∧ Hid (Wst w8 D (.slice sa NS sc) (.slice ra NR rc) (.slice da ND dc) (.slice ca NC cc) NS NR ND NC wx)) (fun s103 _ => 3 - (RowKit.intOf s103).toNat)
        case atStart => exact ⟨0, by omega, rfl, HW0⟩
        case round =>
          clear HW0 hwL hD
          obtain ⟨j, hj, rfl, HW⟩ := hrel
          have hj0 : (0 : Int) ≤ (j : Int) := Int.natCast_nonneg _
          by_cases hj3 : j < 3
          · have hjI : (j : Int) < 3 := by omega
            obtain ⟨ao, N, c, hcj, hNb, HROW⟩ : ∃ ao N c, wr.cell? ⟨D, j, none⟩ = some (.slice ao N c) ∧ N ≤ 9223372036854775807 ∧ Hid (∀ u, Wst w8 D (.slice sa NS sc) (.slice ra NR rc) (.slice da ND dc) (.slice ca NC cc) NS NR ND NC u → ∃ y, RowV 23 w8.heap.size u (.slice ao N c) N y) := by
              have hc := cell_of_row wr D j _ _ _ HW.out.list
              have : j = 0 ∨ j = 1 ∨ j = 2 := by omega
              rcases this with rfl | rfl | rfl
              · exact ⟨_, _, _, hc, hbNS, Lib.hid fun u h => h.r1⟩
              · exact ⟨_, _, _, hc, hbNR, Lib.hid fun u h => h.r2⟩
              · exact ⟨_, _, _, hc, hbND, Lib.hid fun u h => h.r3⟩
            go_wp2_with fail
            clear hcj
            go_loopw [21] (fun s21 wx => ∃ i : Nat, i ≤ N ∧ s21 = .int .i64 (i : Int) ∧ Hid (Wst w8 D (.slice sa NS sc) (.slice ra NR rc) (.slice da ND dc) (.slice ca NC cc) NS NR ND NC wx)) (fun s21 _ => N - (RowKit.intOf s21).toNat)
            case atStart => exact ⟨0, Nat.zero_le _, rfl, HW⟩
            case round =>
              clear HW
              obtain ⟨i, hi, rfl, HW⟩ := hrel
              have hi0 : (0 : Int) ≤ (i : Int) := Int.natCast_nonneg _
              by_cases hli : i < N
              · have hiI : (i : Int) < (N : Int) := by omega
                obtain ⟨y, hy⟩ := HROW.out _ HW.out
                obtain ⟨b, cs, rfl, hlo, hbk, hcl, hfr⟩ := RowV.cellAt hy hli
                have HWN := Lib.hid (HW.out.setc (by decide) hbk hlo i (.int .u64 77))
                clear hy hbk HW
                go_wp2_with fail
                go_roundw
                case rel => exact ⟨i + 1, by omega, by go_num, HWN⟩
                case measure => simp [RowKit.intOf]; omega
              · have hiI : ¬ (i : Int) < (N : Int) := by omega
                go_wp2_with fail
                go_roundw
                case rel => exact ⟨j + 1, by omega, by go_num, HW⟩
                case measure => simp [RowKit.intOf]; omega
          · have hjI : ¬ (j : Int) < 3 := by omega
            go_wp2_with fail
            go_loopw [22] (fun s22 wx => ∃ i : Nat, i ≤ NC ∧ s22 = .int .i64 (i : Int) ∧ Hid (Wst w8 D (.slice sa NS sc) (.slice ra NR rc) (.slice da ND dc) (.slice ca NC cc) NS NR ND NC wx)) (fun s22 _ => NC - (RowKit.intOf s22).toNat)
            case atStart => exact ⟨0, Nat.zero_le _, rfl, HW⟩
            case round =>
              clear HW
              obtain ⟨i, hi, rfl, HW⟩ := hrel
              have hi0 : (0 : Int) ≤ (i : Int) := Int.natCast_nonneg _
              by_cases hli : i < NC
              · have hiI : (i : Int) < (NC : Int) := by omega
                obtain ⟨y, hy⟩ := HW.out.r4
                obtain ⟨b, cs, rfl, hlo, hbk, hcl, hfr⟩ := RowV.cellAt hy hli
                have HWN := Lib.hid (HW.out.setc (by decide) hbk hlo i (.int .i64 (-77)))
                clear hy hbk HW
                go_wp2_with fail
                go_roundw
                case rel => exact ⟨i + 1, by omega, by go_num, HWN⟩
                case measure => simp [RowKit.intOf]; omega
              · have hiI : ¬ (i : Int) < (NC : Int) := by omega
                go_wp2_with fail
                go_roundw
                case rel => exact ⟨k + 1, by omega, by go_num, Lib.hid (HT.out.step HW.out.below)⟩
                case measure => simp [RowKit.intOf]; omega
    · skip
      obtain ⟨va, hva⟩ : ∃ v, decide (MM.Valid p o) = v := ⟨_, rfl⟩
      obtain ⟨vb, hvb⟩ : ∃ v, decide (MM.eqM o q) = v := ⟨_, rfl⟩
      obtain ⟨qe, hqe⟩ : ∃ v, MM.qryE p n x = v := ⟨_, rfl⟩
      have hoo : MM.eqM o o := ⟨⟨rfl, fun _ _ => ⟨rfl, fun _ _ => rfl⟩⟩, ⟨rfl, fun _ _ => rfl⟩⟩
      have hl3 : ln ≤ 9223372036854775807 := by omega
      have HE1 : Hid (∀ (u : World) (_ : Tl W g h h2 C p mv o mu q mc xo xo2 n cx xc2 x yo lo2 ln l u), Calls Try.prog 14 #[.agg p.cells, .agg (mc.cells o)] u fun e w' => e = .returned (.bool va) ∧ Below u.heap.size u w') := Lib.hid fun u h1 => by
        have hq := may_any p mc o HOK1.out u h1.mat
        rw [hva] at hq; exact hq
      have HE2 : Hid (∀ (u : World) (_ : Tl W g h h2 C p mv o mu q mc xo xo2 n cx xc2 x yo lo2 ln l u), Calls Try.prog 31 #[.agg p.cells, .agg (mv.cells o)] u fun e w' => e = .returned (.bool va) ∧ Below u.heap.size u w') := Lib.hid fun u h1 => by
        have hq := rmay_any p mv o u h1.i.mat
        rw [hva] at hq; exact hq
      have HE3 : Hid (∀ (u : World) (_ : Tl W g h h2 C p mv o mu q mc xo xo2 n cx xc2 x yo lo2 ln l u), Calls Try.prog 17 #[.agg p.cells, .slice xo2 n xc2] u fun e w' => e = .returned (.int .i64 qe) ∧ Below u.heap.size u w') := Lib.hid fun u h1 => by
        have hq := query_any p xo2 n xc2 x hn u h1.x2
        rw [hqe] at hq; exact hq
      have HE4 : Hid (∀ (u : World) (_ : Tl W g h h2 C p mv o mu q mc xo xo2 n cx xc2 x yo lo2 ln l u), Calls Try.prog 32 #[.agg p.cells, .slice xo n cx] u fun e w' => e = .returned (.int .i64 qe) ∧ Below u.heap.size u w') := Lib.hid fun u h1 => by
        have hq := rquery_any p xo n cx x u h1.x1
        rw [hqe] at hq; exact hq
      have HE5 : Hid (∀ (u : World) (_ : Tl W g h h2 C p mv o mu q mc xo xo2 n cx xc2 x yo lo2 ln l u), Calls Try.prog 21 #[.agg (mc.cells o), .agg (mu.cells q)] u fun e w' => e = .returned (.bool vb) ∧ Below u.heap.size u w') := Lib.hid fun u h1 => by
        have hq := same_any mc mu o q HOK1.out u h1.mat h1.i.mat2
        rw [hvb] at hq; exact hq
      have HE6 : Hid (∀ (u : World) (_ : Tl W g h h2 C p mv o mu q mc xo xo2 n cx xc2 x yo lo2 ln l u), Calls Try.prog 33 #[.agg (mv.cells o), .agg (mu.cells q)] u fun e w' => e = .returned (.bool vb) ∧ Below u.heap.size u w') := Lib.hid fun u h1 => by
        have hq := rsame_any mv mu o q HOK1.out u h1.i.mat h1.i.mat2
        rw [hvb] at hq; exact hq
      have HE7 : Hid (∀ (u : World) (_ : Tl W g h h2 C p mv o mu q mc xo xo2 n cx xc2 x yo lo2 ln l u), Calls Try.prog 33 #[.agg (mc.cells o), .agg (mv.cells o)] u fun e w' => e = .returned (.bool true) ∧ Below u.heap.size u w') := Lib.hid fun u h1 => by
        have hq := rsame_any mc mv o o HOK1.out u h1.mat h1.i.mat
        rw [decide_eq_true hoo] at hq; exact hq
      have HE8 : Hid (∀ (u : World) (_ : Tl W g h h2 C p mv o mu q mc xo xo2 n cx xc2 x yo lo2 ln l u), Calls Try.prog 29 #[.slice xo2 n xc2, .slice xo n cx] u fun e w' => e = .returned (.bool true) ∧ Below u.heap.size u w') := Lib.hid fun u h1 => by
        have hq := ints_same xo2 xo n xc2 cx x hn u h1.x2 h1.x1
        exact hq
      have HE9 : Hid (∀ (u : World) (_ : Tl W g h h2 C p mv o mu q mc xo xo2 n cx xc2 x yo lo2 ln l u), Calls Try.prog 20 #[.slice lo2 ln lc2, .slice yo ln cl] u fun e w' => e = .returned (.bool true) ∧ Below u.heap.size u w') := Lib.hid fun u h1 => by
        have hq := nums_same lo2 yo ln lc2 cl l hl3 u h1.l2 h1.l1
        exact hq
      have HE10 : Hid (∀ (u : World) (_ : Tl W g h h2 C p mv o mu q mc xo xo2 n cx xc2 x yo lo2 ln l u), Calls Try.prog 10 #[] u fun e w' => e = .returned (.bool true) ∧ Below u.heap.size u w') := Lib.hid fun u h1 => by
        have hq := awake_any u
        exact hq
      have hkI : ¬ (k : Int) < 2 := by omega
      clear hva hvb hqe hoo
      go_upto_region 22 with fail
      refine RK.tame [none, none, none, none, none, none, none, none, none, none, some 43, none, none, none, none, none, none, none, none, none, none, none, none, none, none, none, none, none, none, none, none, none, none, none, none, none, none, none, none, none, none, none, none, none, none, none, none, none, none, none, none, none, none, none, none, none, none, none, none, none, none, none, none, none, none, none, none, none, none, none, none, none, none, none, none, none, none, none, none, none, none, none, none, none, none, none, none, none, none, none, none, none, none, none, none, none, none, none, none, none, none, none, none, none, none, none, none, none, none, none, none, none, none, none, none, none, none, none, none, none, none, none, none, none, none, none, some 0, some 1, some 2, some 3, some 4, some 5, some 6, some 7, some 8, some 9, some 10, some 11, some 12, some 13, some 14, some 15, some 16, some 17, some 18, some 19, some 20, some 21, some 22, some 23, some 24, some 25, some 26, some 27, some 28, some 29, some 30, some 31, some 32, some 33, some 34, some 35, some 36, some 37, some 38, some 39, some 40, some 41, some 42] [RK.Word.eq (.agg p.cells), RK.Word.eq (.agg (mc.cells o)), RK.Word.eq (.bool va), RK.Word.eq (.agg p.cells), RK.Word.eq (.agg (mv.cells o)), RK.Word.eq (.bool va), RK.Word.eq (.bool true), RK.Word.eq (.bool true), RK.Word.eq (.agg p.cells), RK.Word.eq (.slice xo2 n xc2), RK.Word.eq (.int .i64 qe), RK.Word.eq (.agg p.cells), RK.Word.eq (.slice xo n cx), RK.Word.eq (.int .i64 qe), RK.Word.eq (.bool true), RK.Word.eq (.bool true), RK.Word.eq (.bool true), RK.Word.eq (.agg (mc.cells o)), RK.Word.eq (.agg (mu.cells q)), RK.Word.eq (.bool vb), RK.Word.eq (.agg (mv.cells o)), RK.Word.eq (.agg (mu.cells q)), RK.Word.eq (.bool vb), RK.Word.eq (.bool true), RK.Word.eq (.bool true), RK.Word.eq (.bool true), RK.Word.eq (.agg (mc.cells o)), RK.Word.eq (.agg (mv.cells o)), RK.Word.eq (.bool true), RK.Word.eq (.bool true), RK.Word.eq (.bool true), RK.Word.eq (.slice xo2 n xc2), RK.Word.eq (.slice xo n cx), RK.Word.eq (.bool true), RK.Word.eq (.bool true), RK.Word.eq (.bool true), RK.Word.eq (.slice lo2 ln lc2), RK.Word.eq (.slice yo ln cl), RK.Word.eq (.bool true), RK.Word.eq (.bool true), RK.Word.eq (.bool true), RK.Word.eq (.bool true), RK.Word.eq (.bool true), RK.Word.eq (.bool true)] (fun u => Tl W g h h2 C p mv o mu q mc xo xo2 n cx xc2 x yo lo2 ln l u ∧ True) (by kernel_rfl) (by kernel_rfl) (by kernel_rfl) ⟨HT.out, trivial⟩ (fun _ _ hs hb => ⟨hs.1.step hb, trivial⟩) (fun i hi a' val w' hF => ?_) (fun val w' hw hp => ?_)
      · have hi2 : i = 0 ∨ i = 1 ∨ i = 2 ∨ i = 3 ∨ i = 4 ∨ i = 5 ∨ i = 6 ∨ i = 7 ∨ i = 8 ∨ i = 9 ∨ i = 10 ∨ i = 11 ∨ i = 12 ∨ i = 13 ∨ i = 14 ∨ i = 15 ∨ i = 16 ∨ i = 17 ∨ i = 18 ∨ i = 19 ∨ i = 20 ∨ i = 21 ∨ i = 22 ∨ i = 23 ∨ i = 24 ∨ i = 25 ∨ i = 26 ∨ i = 27 ∨ i = 28 ∨ i = 29 ∨ i = 30 ∨ i = 31 ∨ i = 32 ∨ i = 33 ∨ i = 34 ∨ i = 35 ∨ i = 36 ∨ i = 37 ∨ i = 38 ∨ i = 39 ∨ i = 40 ∨ i = 41 ∨ i = 42 ∨ i = 43 := by
          have : i < 44 := hi
          omega
        clear hi
        rcases hi2 with rfl | rfl | rfl | rfl | rfl | rfl | rfl | rfl | rfl | rfl | rfl | rfl | rfl | rfl | rfl | rfl | rfl | rfl | rfl | rfl | rfl | rfl | rfl | rfl | rfl | rfl | rfl | rfl | rfl | rfl | rfl | rfl | rfl | rfl | rfl | rfl | rfl | rfl | rfl | rfl | rfl | rfl | rfl | rfl
        · have r5 : a'.eval (.tmp 5) = .pointer (some ⟨g, 0, none⟩) := (hF.old 5 (.inr rfl)).trans rfl
          refine RK.owes_exec (v := .agg p.cells) (w' := w') rfl (RK.wanted_any rfl) ?_ (Below.refl _ _) rfl
          exact load_boxp hF.S.1.i.box rfl r5
        · have r11 : a'.eval (.tmp 11) = .pointer (some ⟨C, 0, none⟩) := (hF.old 11 (.inr rfl)).trans rfl
          refine RK.owes_exec (v := .agg (mc.cells o)) (w' := w') rfl (RK.wanted_any rfl) ?_ (Below.refl _ _) rfl
          exact load_boxm hF.S.1.box rfl r11
        · have p0 : val 0 = .agg p.cells := hF.post 0 (by kernel_rfl)
          have r126 : a'.eval (.tmp 126) = .agg p.cells := (hF.ev 126 0 rfl (by kernel_rfl) (of_decide_eq_true (by kernel_rfl))).trans p0
          have p1 : val 1 = .agg (mc.cells o) := hF.post 1 (by kernel_rfl)
          have r127 : a'.eval (.tmp 127) = .agg (mc.cells o) := (hF.ev 127 1 rfl (by kernel_rfl) (of_decide_eq_true (by kernel_rfl))).trans p1
          refine RK.owes_call (g := 14) (args := #[.agg p.cells, .agg (mc.cells o)]) rfl (RK.wanted_any rfl) ?_ ?_
          · have rk : ∀ c, a'.eval (.const c) = c := fun _ => rfl
            have rf : ∀ f, a'.eval (.func f) = .func (.func f) #[] #[] := fun _ => rfl
            generalize a'.eval = ρ at *
            go_simp
          · refine (HE1.out w' hF.S.1).mono ?_
            rintro e w2 ⟨rfl, hb⟩
            exact ⟨_, rfl, hb, rfl⟩
        · have r5 : a'.eval (.tmp 5) = .pointer (some ⟨g, 0, none⟩) := (hF.old 5 (.inr rfl)).trans rfl
          refine RK.owes_exec (v := .agg p.cells) (w' := w') rfl (RK.wanted_any rfl) ?_ (Below.refl _ _) rfl
          exact load_boxp hF.S.1.i.box rfl r5
        · have r6 : a'.eval (.tmp 6) = .pointer (some ⟨h, 0, none⟩) := (hF.old 6 (.inr rfl)).trans rfl
          refine RK.owes_exec (v := .agg (mv.cells o)) (w' := w') rfl (RK.wanted_any rfl) ?_ (Below.refl _ _) rfl
          exact load_boxm hF.S.1.i.mod rfl r6
        · have p3 : val 3 = .agg p.cells := hF.post 3 (by kernel_rfl)
          have r129 : a'.eval (.tmp 129) = .agg p.cells := (hF.ev 129 3 rfl (by kernel_rfl) (of_decide_eq_true (by kernel_rfl))).trans p3
          have p4 : val 4 = .agg (mv.cells o) := hF.post 4 (by kernel_rfl)
          have r130 : a'.eval (.tmp 130) = .agg (mv.cells o) := (hF.ev 130 4 rfl (by kernel_rfl) (of_decide_eq_true (by kernel_rfl))).trans p4
          refine RK.owes_call (g := 31) (args := #[.agg p.cells, .agg (mv.cells o)]) rfl (RK.wanted_any rfl) ?_ ?_
          · have rk : ∀ c, a'.eval (.const c) = c := fun _ => rfl
            have rf : ∀ f, a'.eval (.func f) = .func (.func f) #[] #[] := fun _ => rfl
            generalize a'.eval = ρ at *
            go_simp
          · refine (HE2.out w' hF.S.1).mono ?_
            rintro e w2 ⟨rfl, hb⟩
            exact ⟨_, rfl, hb, rfl⟩
        · have p2 : val 2 = .bool va := hF.post 2 (by kernel_rfl)
          have r128 : a'.eval (.tmp 128) = .bool va := (hF.ev 128 2 rfl (by kernel_rfl) (of_decide_eq_true (by kernel_rfl))).trans p2
          have p5 : val 5 = .bool va := hF.post 5 (by kernel_rfl)
          have r131 : a'.eval (.tmp 131) = .bool va := (hF.ev 131 5 rfl (by kernel_rfl) (of_decide_eq_true (by kernel_rfl))).trans p5
          refine RK.owes_exec (v := .bool true) (w' := w') rfl (RK.wanted_any rfl) ?_ (Below.refl _ _) rfl
          have rk : ∀ c, a'.eval (.const c) = c := fun _ => rfl
          generalize a'.eval = ρ at *
          go_simp
        · have p6 : val 6 = .bool true := hF.post 6 (by kernel_rfl)
          have r132 : a'.eval (.tmp 132) = .bool true := (hF.ev 132 6 rfl (by kernel_rfl) (of_decide_eq_true (by kernel_rfl))).trans p6
          refine RK.owes_exec (v := .bool true) (w' := w') rfl (RK.wanted_any rfl) ?_ (Below.refl _ _) rfl
          have rk : ∀ c, a'.eval (.const c) = c := fun _ => rfl
          generalize a'.eval = ρ at *
          go_simp
        · have r5 : a'.eval (.tmp 5) = .pointer (some ⟨g, 0, none⟩) := (hF.old 5 (.inr rfl)).trans rfl
          have hwn : ∀ o : Oper, o.guard = some (7, true) → Region.wanted o _ = true := fun o h => RK.wanted_if h (hF.yields rfl rfl rfl (by kernel_rfl) (of_decide_eq_true (by kernel_rfl)) (hF.post 7 (by kernel_rfl)))
          refine RK.owes_exec (v := .agg p.cells) (w' := w') rfl (hwn _ rfl) ?_ (Below.refl _ _) rfl
          exact load_boxp hF.S.1.i.box rfl r5
        · have r12 : a'.eval (.tmp 12) = .slice xo2 n xc2 := (hF.old 12 (.inr rfl)).trans rfl
          have hwn : ∀ o : Oper, o.guard = some (7, true) → Region.wanted o _ = true := fun o h => RK.wanted_if h (hF.yields rfl rfl rfl (by kernel_rfl) (of_decide_eq_true (by kernel_rfl)) (hF.post 7 (by kernel_rfl)))
          refine RK.owes_exec (v := .slice xo2 n xc2) (w' := w') rfl (hwn _ rfl) ?_ (Below.refl _ _) rfl
          have rk : ∀ c, a'.eval (.const c) = c := fun _ => rfl
          generalize a'.eval = ρ at *
          go_simp
        · have p8 : val 8 = .agg p.cells := hF.post 8 (by kernel_rfl)
          have r134 : a'.eval (.tmp 134) = .agg p.cells := (hF.ev 134 8 rfl (by kernel_rfl) (of_decide_eq_true (by kernel_rfl))).trans p8
          have p9 : val 9 = .slice xo2 n xc2 := hF.post 9 (by kernel_rfl)
          have r135 : a'.eval (.tmp 135) = .slice xo2 n xc2 := (hF.ev 135 9 rfl (by kernel_rfl) (of_decide_eq_true (by kernel_rfl))).trans p9
          have hwn : ∀ o : Oper, o.guard = some (7, true) → Region.wanted o _ = true := fun o h => RK.wanted_if h (hF.yields rfl rfl rfl (by kernel_rfl) (of_decide_eq_true (by kernel_rfl)) (hF.post 7 (by kernel_rfl)))
          refine RK.owes_call (g := 17) (args := #[.agg p.cells, .slice xo2 n xc2]) rfl (hwn _ rfl) ?_ ?_
          · have rk : ∀ c, a'.eval (.const c) = c := fun _ => rfl
            have rf : ∀ f, a'.eval (.func f) = .func (.func f) #[] #[] := fun _ => rfl
            generalize a'.eval = ρ at *
            go_simp
          · refine (HE3.out w' hF.S.1).mono ?_
            rintro e w2 ⟨rfl, hb⟩
            exact ⟨_, rfl, hb, rfl⟩
        · have r5 : a'.eval (.tmp 5) = .pointer (some ⟨g, 0, none⟩) := (hF.old 5 (.inr rfl)).trans rfl
          have hwn : ∀ o : Oper, o.guard = some (7, true) → Region.wanted o _ = true := fun o h => RK.wanted_if h (hF.yields rfl rfl rfl (by kernel_rfl) (of_decide_eq_true (by kernel_rfl)) (hF.post 7 (by kernel_rfl)))
          refine RK.owes_exec (v := .agg p.cells) (w' := w') rfl (hwn _ rfl) ?_ (Below.refl _ _) rfl
          exact load_boxp hF.S.1.i.box rfl r5
        · have r3 : a'.eval (.tmp 3) = .slice xo n cx := (hF.old 3 (.inr rfl)).trans rfl
          have hwn : ∀ o : Oper, o.guard = some (7, true) → Region.wanted o _ = true := fun o h => RK.wanted_if h (hF.yields rfl rfl rfl (by kernel_rfl) (of_decide_eq_true (by kernel_rfl)) (hF.post 7 (by kernel_rfl)))
          refine RK.owes_exec (v := .slice xo n cx) (w' := w') rfl (hwn _ rfl) ?_ (Below.refl _ _) rfl
          have rk : ∀ c, a'.eval (.const c) = c := fun _ => rfl
          generalize a'.eval = ρ at *
          go_simp
        · have p11 : val 11 = .agg p.cells := hF.post 11 (by kernel_rfl)
          have r137 : a'.eval (.tmp 137) = .agg p.cells := (hF.ev 137 11 rfl (by kernel_rfl) (of_decide_eq_true (by kernel_rfl))).trans p11
          have p12 : val 12 = .slice xo n cx := hF.post 12 (by kernel_rfl)
          have r138 : a'.eval (.tmp 138) = .slice xo n cx := (hF.ev 138 12 rfl (by kernel_rfl) (of_decide_eq_true (by kernel_rfl))).trans p12
          have hwn : ∀ o : Oper, o.guard = some (7, true) → Region.wanted o _ = true := fun o h => RK.wanted_if h (hF.yields rfl rfl rfl (by kernel_rfl) (of_decide_eq_true (by kernel_rfl)) (hF.post 7 (by kernel_rfl)))
          refine RK.owes_call (g := 32) (args := #[.agg p.cells, .slice xo n cx]) rfl (hwn _ rfl) ?_ ?_
          · have rk : ∀ c, a'.eval (.const c) = c := fun _ => rfl
            have rf : ∀ f, a'.eval (.func f) = .func (.func f) #[] #[] := fun _ => rfl
            generalize a'.eval = ρ at *
            go_simp
          · refine (HE4.out w' hF.S.1).mono ?_
            rintro e w2 ⟨rfl, hb⟩
            exact ⟨_, rfl, hb, rfl⟩
        · have p10 : val 10 = .int .i64 qe := hF.post 10 (by kernel_rfl)
          have r136 : a'.eval (.tmp 136) = .int .i64 qe := (hF.ev 136 10 rfl (by kernel_rfl) (of_decide_eq_true (by kernel_rfl))).trans p10
          have p13 : val 13 = .int .i64 qe := hF.post 13 (by kernel_rfl)
          have r139 : a'.eval (.tmp 139) = .int .i64 qe := (hF.ev 139 13 rfl (by kernel_rfl) (of_decide_eq_true (by kernel_rfl))).trans p13
          have hwn : ∀ o : Oper, o.guard = some (7, true) → Region.wanted o _ = true := fun o h => RK.wanted_if h (hF.yields rfl rfl rfl (by kernel_rfl) (of_decide_eq_true (by kernel_rfl)) (hF.post 7 (by kernel_rfl)))
          refine RK.owes_exec (v := .bool true) (w' := w') rfl (hwn _ rfl) ?_ (Below.refl _ _) rfl
          have rk : ∀ c, a'.eval (.const c) = c := fun _ => rfl
          generalize a'.eval = ρ at *
          go_simp
        · have p7 : val 7 = .bool true := hF.post 7 (by kernel_rfl)
          have r133 : a'.eval (.tmp 133) = .bool true := (hF.ev 133 7 rfl (by kernel_rfl) (of_decide_eq_true (by kernel_rfl))).trans p7
          have p14 : val 14 = .bool true := hF.post 14 (by kernel_rfl)
          have r140 : a'.eval (.tmp 140) = .bool true := (hF.ev 140 14 rfl (by kernel_rfl) (of_decide_eq_true (by kernel_rfl))).trans p14
          refine RK.owes_exec (v := .bool true) (w' := w') rfl (RK.wanted_any rfl) ?_ (Below.refl _ _) rfl
          have rk : ∀ c, a'.eval (.const c) = c := fun _ => rfl
          generalize a'.eval = ρ at *
          go_simp
        · have p15 : val 15 = .bool true := hF.post 15 (by kernel_rfl)
          have r141 : a'.eval (.tmp 141) = .bool true := (hF.ev 141 15 rfl (by kernel_rfl) (of_decide_eq_true (by kernel_rfl))).trans p15
          refine RK.owes_exec (v := .bool true) (w' := w') rfl (RK.wanted_any rfl) ?_ (Below.refl _ _) rfl
          have rk : ∀ c, a'.eval (.const c) = c := fun _ => rfl
          generalize a'.eval = ρ at *
          go_simp
        · have r11 : a'.eval (.tmp 11) = .pointer (some ⟨C, 0, none⟩) := (hF.old 11 (.inr rfl)).trans rfl
          have hwn : ∀ o : Oper, o.guard = some (16, true) → Region.wanted o _ = true := fun o h => RK.wanted_if h (hF.yields rfl rfl rfl (by kernel_rfl) (of_decide_eq_true (by kernel_rfl)) (hF.post 16 (by kernel_rfl)))
          refine RK.owes_exec (v := .agg (mc.cells o)) (w' := w') rfl (hwn _ rfl) ?_ (Below.refl _ _) rfl
          exact load_boxm hF.S.1.box rfl r11
        · have r7 : a'.eval (.tmp 7) = .pointer (some ⟨h2, 0, none⟩) := (hF.old 7 (.inr rfl)).trans rfl
          have hwn : ∀ o : Oper, o.guard = some (16, true) → Region.wanted o _ = true := fun o h => RK.wanted_if h (hF.yields rfl rfl rfl (by kernel_rfl) (of_decide_eq_true (by kernel_rfl)) (hF.post 16 (by kernel_rfl)))
          refine RK.owes_exec (v := .agg (mu.cells q)) (w' := w') rfl (hwn _ rfl) ?_ (Below.refl _ _) rfl
          exact load_boxm hF.S.1.i.mod2 rfl r7
        · have p17 : val 17 = .agg (mc.cells o) := hF.post 17 (by kernel_rfl)
          have r143 : a'.eval (.tmp 143) = .agg (mc.cells o) := (hF.ev 143 17 rfl (by kernel_rfl) (of_decide_eq_true (by kernel_rfl))).trans p17
          have p18 : val 18 = .agg (mu.cells q) := hF.post 18 (by kernel_rfl)
          have r144 : a'.eval (.tmp 144) = .agg (mu.cells q) := (hF.ev 144 18 rfl (by kernel_rfl) (of_decide_eq_true (by kernel_rfl))).trans p18
          have hwn : ∀ o : Oper, o.guard = some (16, true) → Region.wanted o _ = true := fun o h => RK.wanted_if h (hF.yields rfl rfl rfl (by kernel_rfl) (of_decide_eq_true (by kernel_rfl)) (hF.post 16 (by kernel_rfl)))
          refine RK.owes_call (g := 21) (args := #[.agg (mc.cells o), .agg (mu.cells q)]) rfl (hwn _ rfl) ?_ ?_
          · have rk : ∀ c, a'.eval (.const c) = c := fun _ => rfl
            have rf : ∀ f, a'.eval (.func f) = .func (.func f) #[] #[] := fun _ => rfl
            generalize a'.eval = ρ at *
            go_simp
          · refine (HE5.out w' hF.S.1).mono ?_
            rintro e w2 ⟨rfl, hb⟩
            exact ⟨_, rfl, hb, rfl⟩
        · have r6 : a'.eval (.tmp 6) = .pointer (some ⟨h, 0, none⟩) := (hF.old 6 (.inr rfl)).trans rfl
          have hwn : ∀ o : Oper, o.guard = some (16, true) → Region.wanted o _ = true := fun o h => RK.wanted_if h (hF.yields rfl rfl rfl (by kernel_rfl) (of_decide_eq_true (by kernel_rfl)) (hF.post 16 (by kernel_rfl)))
          refine RK.owes_exec (v := .agg (mv.cells o)) (w' := w') rfl (hwn _ rfl) ?_ (Below.refl _ _) rfl
          exact load_boxm hF.S.1.i.mod rfl r6
        · have r7 : a'.eval (.tmp 7) = .pointer (some ⟨h2, 0, none⟩) := (hF.old 7 (.inr rfl)).trans rfl
          have hwn : ∀ o : Oper, o.guard = some (16, true) → Region.wanted o _ = true := fun o h => RK.wanted_if h (hF.yields rfl rfl rfl (by kernel_rfl) (of_decide_eq_true (by kernel_rfl)) (hF.post 16 (by kernel_rfl)))
          refine RK.owes_exec (v := .agg (mu.cells q)) (w' := w') rfl (hwn _ rfl) ?_ (Below.refl _ _) rfl
          exact load_boxm hF.S.1.i.mod2 rfl r7
        · have p20 : val 20 = .agg (mv.cells o) := hF.post 20 (by kernel_rfl)
          have r146 : a'.eval (.tmp 146) = .agg (mv.cells o) := (hF.ev 146 20 rfl (by kernel_rfl) (of_decide_eq_true (by kernel_rfl))).trans p20
          have p21 : val 21 = .agg (mu.cells q) := hF.post 21 (by kernel_rfl)
          have r147 : a'.eval (.tmp 147) = .agg (mu.cells q) := (hF.ev 147 21 rfl (by kernel_rfl) (of_decide_eq_true (by kernel_rfl))).trans p21
          have hwn : ∀ o : Oper, o.guard = some (16, true) → Region.wanted o _ = true := fun o h => RK.wanted_if h (hF.yields rfl rfl rfl (by kernel_rfl) (of_decide_eq_true (by kernel_rfl)) (hF.post 16 (by kernel_rfl)))
          refine RK.owes_call (g := 33) (args := #[.agg (mv.cells o), .agg (mu.cells q)]) rfl (hwn _ rfl) ?_ ?_
          · have rk : ∀ c, a'.eval (.const c) = c := fun _ => rfl
            have rf : ∀ f, a'.eval (.func f) = .func (.func f) #[] #[] := fun _ => rfl
            generalize a'.eval = ρ at *
            go_simp
          · refine (HE6.out w' hF.S.1).mono ?_
            rintro e w2 ⟨rfl, hb⟩
            exact ⟨_, rfl, hb, rfl⟩
        · have p19 : val 19 = .bool vb := hF.post 19 (by kernel_rfl)
          have r145 : a'.eval (.tmp 145) = .bool vb := (hF.ev 145 19 rfl (by kernel_rfl) (of_decide_eq_true (by kernel_rfl))).trans p19
          have p22 : val 22 = .bool vb := hF.post 22 (by kernel_rfl)
          have r148 : a'.eval (.tmp 148) = .bool vb := (hF.ev 148 22 rfl (by kernel_rfl) (of_decide_eq_true (by kernel_rfl))).trans p22
          have hwn : ∀ o : Oper, o.guard = some (16, true) → Region.wanted o _ = true := fun o h => RK.wanted_if h (hF.yields rfl rfl rfl (by kernel_rfl) (of_decide_eq_true (by kernel_rfl)) (hF.post 16 (by kernel_rfl)))
          refine RK.owes_exec (v := .bool true) (w' := w') rfl (hwn _ rfl) ?_ (Below.refl _ _) rfl
          have rk : ∀ c, a'.eval (.const c) = c := fun _ => rfl
          generalize a'.eval = ρ at *
          go_simp
        · have p16 : val 16 = .bool true := hF.post 16 (by kernel_rfl)
          have r142 : a'.eval (.tmp 142) = .bool true := (hF.ev 142 16 rfl (by kernel_rfl) (of_decide_eq_true (by kernel_rfl))).trans p16
          have p23 : val 23 = .bool true := hF.post 23 (by kernel_rfl)
          have r149 : a'.eval (.tmp 149) = .bool true := (hF.ev 149 23 rfl (by kernel_rfl) (of_decide_eq_true (by kernel_rfl))).trans p23
          refine RK.owes_exec (v := .bool true) (w' := w') rfl (RK.wanted_any rfl) ?_ (Below.refl _ _) rfl
          have rk : ∀ c, a'.eval (.const c) = c := fun _ => rfl
          generalize a'.eval = ρ at *
          go_simp
        · have p24 : val 24 = .bool true := hF.post 24 (by kernel_rfl)
          have r150 : a'.eval (.tmp 150) = .bool true := (hF.ev 150 24 rfl (by kernel_rfl) (of_decide_eq_true (by kernel_rfl))).trans p24
          refine RK.owes_exec (v := .bool true) (w' := w') rfl (RK.wanted_any rfl) ?_ (Below.refl _ _) rfl
          have rk : ∀ c, a'.eval (.const c) = c := fun _ => rfl
          generalize a'.eval = ρ at *
          go_simp
        · have r11 : a'.eval (.tmp 11) = .pointer (some ⟨C, 0, none⟩) := (hF.old 11 (.inr rfl)).trans rfl
          have hwn : ∀ o : Oper, o.guard = some (25, true) → Region.wanted o _ = true := fun o h => RK.wanted_if h (hF.yields rfl rfl rfl (by kernel_rfl) (of_decide_eq_true (by kernel_rfl)) (hF.post 25 (by kernel_rfl)))
          refine RK.owes_exec (v := .agg (mc.cells o)) (w' := w') rfl (hwn _ rfl) ?_ (Below.refl _ _) rfl
          exact load_boxm hF.S.1.box rfl r11
        · have r6 : a'.eval (.tmp 6) = .pointer (some ⟨h, 0, none⟩) := (hF.old 6 (.inr rfl)).trans rfl
          have hwn : ∀ o : Oper, o.guard = some (25, true) → Region.wanted o _ = true := fun o h => RK.wanted_if h (hF.yields rfl rfl rfl (by kernel_rfl) (of_decide_eq_true (by kernel_rfl)) (hF.post 25 (by kernel_rfl)))
          refine RK.owes_exec (v := .agg (mv.cells o)) (w' := w') rfl (hwn _ rfl) ?_ (Below.refl _ _) rfl
          exact load_boxm hF.S.1.i.mod rfl r6
        · have p26 : val 26 = .agg (mc.cells o) := hF.post 26 (by kernel_rfl)
          have r152 : a'.eval (.tmp 152) = .agg (mc.cells o) := (hF.ev 152 26 rfl (by kernel_rfl) (of_decide_eq_true (by kernel_rfl))).trans p26
          have p27 : val 27 = .agg (mv.cells o) := hF.post 27 (by kernel_rfl)
          have r153 : a'.eval (.tmp 153) = .agg (mv.cells o) := (hF.ev 153 27 rfl (by kernel_rfl) (of_decide_eq_true (by kernel_rfl))).trans p27
          have hwn : ∀ o : Oper, o.guard = some (25, true) → Region.wanted o _ = true := fun o h => RK.wanted_if h (hF.yields rfl rfl rfl (by kernel_rfl) (of_decide_eq_true (by kernel_rfl)) (hF.post 25 (by kernel_rfl)))
          refine RK.owes_call (g := 33) (args := #[.agg (mc.cells o), .agg (mv.cells o)]) rfl (hwn _ rfl) ?_ ?_
          · have rk : ∀ c, a'.eval (.const c) = c := fun _ => rfl
            have rf : ∀ f, a'.eval (.func f) = .func (.func f) #[] #[] := fun _ => rfl
            generalize a'.eval = ρ at *
            go_simp
          · refine (HE7.out w' hF.S.1).mono ?_
            rintro e w2 ⟨rfl, hb⟩
            exact ⟨_, rfl, hb, rfl⟩
        · have p25 : val 25 = .bool true := hF.post 25 (by kernel_rfl)
          have r151 : a'.eval (.tmp 151) = .bool true := (hF.ev 151 25 rfl (by kernel_rfl) (of_decide_eq_true (by kernel_rfl))).trans p25
          have p28 : val 28 = .bool true := hF.post 28 (by kernel_rfl)
          have r154 : a'.eval (.tmp 154) = .bool true := (hF.ev 154 28 rfl (by kernel_rfl) (of_decide_eq_true (by kernel_rfl))).trans p28
          refine RK.owes_exec (v := .bool true) (w' := w') rfl (RK.wanted_any rfl) ?_ (Below.refl _ _) rfl
          have rk : ∀ c, a'.eval (.const c) = c := fun _ => rfl
          generalize a'.eval = ρ at *
          go_simp
        · have p29 : val 29 = .bool true := hF.post 29 (by kernel_rfl)
          have r155 : a'.eval (.tmp 155) = .bool true := (hF.ev 155 29 rfl (by kernel_rfl) (of_decide_eq_true (by kernel_rfl))).trans p29
          refine RK.owes_exec (v := .bool true) (w' := w') rfl (RK.wanted_any rfl) ?_ (Below.refl _ _) rfl
          have rk : ∀ c, a'.eval (.const c) = c := fun _ => rfl
          generalize a'.eval = ρ at *
          go_simp
        · have r12 : a'.eval (.tmp 12) = .slice xo2 n xc2 := (hF.old 12 (.inr rfl)).trans rfl
          have hwn : ∀ o : Oper, o.guard = some (30, true) → Region.wanted o _ = true := fun o h => RK.wanted_if h (hF.yields rfl rfl rfl (by kernel_rfl) (of_decide_eq_true (by kernel_rfl)) (hF.post 30 (by kernel_rfl)))
          refine RK.owes_exec (v := .slice xo2 n xc2) (w' := w') rfl (hwn _ rfl) ?_ (Below.refl _ _) rfl
          have rk : ∀ c, a'.eval (.const c) = c := fun _ => rfl
          generalize a'.eval = ρ at *
          go_simp
        · have r3 : a'.eval (.tmp 3) = .slice xo n cx := (hF.old 3 (.inr rfl)).trans rfl
          have hwn : ∀ o : Oper, o.guard = some (30, true) → Region.wanted o _ = true := fun o h => RK.wanted_if h (hF.yields rfl rfl rfl (by kernel_rfl) (of_decide_eq_true (by kernel_rfl)) (hF.post 30 (by kernel_rfl)))
          refine RK.owes_exec (v := .slice xo n cx) (w' := w') rfl (hwn _ rfl) ?_ (Below.refl _ _) rfl
          have rk : ∀ c, a'.eval (.const c) = c := fun _ => rfl
          generalize a'.eval = ρ at *
          go_simp
        · have p31 : val 31 = .slice xo2 n xc2 := hF.post 31 (by kernel_rfl)
          have r157 : a'.eval (.tmp 157) = .slice xo2 n xc2 := (hF.ev 157 31 rfl (by kernel_rfl) (of_decide_eq_true (by kernel_rfl))).trans p31
          have p32 : val 32 = .slice xo n cx := hF.post 32 (by kernel_rfl)
          have r158 : a'.eval (.tmp 158) = .slice xo n cx := (hF.ev 158 32 rfl (by kernel_rfl) (of_decide_eq_true (by kernel_rfl))).trans p32
          have hwn : ∀ o : Oper, o.guard = some (30, true) → Region.wanted o _ = true := fun o h => RK.wanted_if h (hF.yields rfl rfl rfl (by kernel_rfl) (of_decide_eq_true (by kernel_rfl)) (hF.post 30 (by kernel_rfl)))
          refine RK.owes_call (g := 29) (args := #[.slice xo2 n xc2, .slice xo n cx]) rfl (hwn _ rfl) ?_ ?_
          · have rk : ∀ c, a'.eval (.const c) = c := fun _ => rfl
            have rf : ∀ f, a'.eval (.func f) = .func (.func f) #[] #[] := fun _ => rfl
            generalize a'.eval = ρ at *
            go_simp
          · refine (HE8.out w' hF.S.1).mono ?_
            rintro e w2 ⟨rfl, hb⟩
            exact ⟨_, rfl, hb, rfl⟩
        · have p30 : val 30 = .bool true := hF.post 30 (by kernel_rfl)
          have r156 : a'.eval (.tmp 156) = .bool true := (hF.ev 156 30 rfl (by kernel_rfl) (of_decide_eq_true (by kernel_rfl))).trans p30
          have p33 : val 33 = .bool true := hF.post 33 (by kernel_rfl)
          have r159 : a'.eval (.tmp 159) = .bool true := (hF.ev 159 33 rfl (by kernel_rfl) (of_decide_eq_true (by kernel_rfl))).trans p33
          refine RK.owes_exec (v := .bool true) (w' := w') rfl (RK.wanted_any rfl) ?_ (Below.refl _ _) rfl
          have rk : ∀ c, a'.eval (.const c) = c := fun _ => rfl
          generalize a'.eval = ρ at *
          go_simp
        · have p34 : val 34 = .bool true := hF.post 34 (by kernel_rfl)
          have r160 : a'.eval (.tmp 160) = .bool true := (hF.ev 160 34 rfl (by kernel_rfl) (of_decide_eq_true (by kernel_rfl))).trans p34
          refine RK.owes_exec (v := .bool true) (w' := w') rfl (RK.wanted_any rfl) ?_ (Below.refl _ _) rfl
          have rk : ∀ c, a'.eval (.const c) = c := fun _ => rfl
          generalize a'.eval = ρ at *
          go_simp
        · have r13 : a'.eval (.tmp 13) = .slice lo2 ln lc2 := (hF.old 13 (.inr rfl)).trans rfl
          have hwn : ∀ o : Oper, o.guard = some (35, true) → Region.wanted o _ = true := fun o h => RK.wanted_if h (hF.yields rfl rfl rfl (by kernel_rfl) (of_decide_eq_true (by kernel_rfl)) (hF.post 35 (by kernel_rfl)))
          refine RK.owes_exec (v := .slice lo2 ln lc2) (w' := w') rfl (hwn _ rfl) ?_ (Below.refl _ _) rfl
          have rk : ∀ c, a'.eval (.const c) = c := fun _ => rfl
          generalize a'.eval = ρ at *
          go_simp
        · have r4 : a'.eval (.tmp 4) = .slice yo ln cl := (hF.old 4 (.inr rfl)).trans rfl
          have hwn : ∀ o : Oper, o.guard = some (35, true) → Region.wanted o _ = true := fun o h => RK.wanted_if h (hF.yields rfl rfl rfl (by kernel_rfl) (of_decide_eq_true (by kernel_rfl)) (hF.post 35 (by kernel_rfl)))
          refine RK.owes_exec (v := .slice yo ln cl) (w' := w') rfl (hwn _ rfl) ?_ (Below.refl _ _) rfl
          have rk : ∀ c, a'.eval (.const c) = c := fun _ => rfl
          generalize a'.eval = ρ at *
          go_simp
        · have p36 : val 36 = .slice lo2 ln lc2 := hF.post 36 (by kernel_rfl)
          have r162 : a'.eval (.tmp 162) = .slice lo2 ln lc2 := (hF.ev 162 36 rfl (by kernel_rfl) (of_decide_eq_true (by kernel_rfl))).trans p36
          have p37 : val 37 = .slice yo ln cl := hF.post 37 (by kernel_rfl)
          have r163 : a'.eval (.tmp 163) = .slice yo ln cl := (hF.ev 163 37 rfl (by kernel_rfl) (of_decide_eq_true (by kernel_rfl))).trans p37
          have hwn : ∀ o : Oper, o.guard = some (35, true) → Region.wanted o _ = true := fun o h => RK.wanted_if h (hF.yields rfl rfl rfl (by kernel_rfl) (of_decide_eq_true (by kernel_rfl)) (hF.post 35 (by kernel_rfl)))
          refine RK.owes_call (g := 20) (args := #[.slice lo2 ln lc2, .slice yo ln cl]) rfl (hwn _ rfl) ?_ ?_
          · have rk : ∀ c, a'.eval (.const c) = c := fun _ => rfl
            have rf : ∀ f, a'.eval (.func f) = .func (.func f) #[] #[] := fun _ => rfl
            generalize a'.eval = ρ at *
            go_simp
          · refine (HE9.out w' hF.S.1).mono ?_
            rintro e w2 ⟨rfl, hb⟩
            exact ⟨_, rfl, hb, rfl⟩
        · have p35 : val 35 = .bool true := hF.post 35 (by kernel_rfl)
          have r161 : a'.eval (.tmp 161) = .bool true := (hF.ev 161 35 rfl (by kernel_rfl) (of_decide_eq_true (by kernel_rfl))).trans p35
          have p38 : val 38 = .bool true := hF.post 38 (by kernel_rfl)
          have r164 : a'.eval (.tmp 164) = .bool true := (hF.ev 164 38 rfl (by kernel_rfl) (of_decide_eq_true (by kernel_rfl))).trans p38
          refine RK.owes_exec (v := .bool true) (w' := w') rfl (RK.wanted_any rfl) ?_ (Below.refl _ _) rfl
          have rk : ∀ c, a'.eval (.const c) = c := fun _ => rfl
          generalize a'.eval = ρ at *
          go_simp
        · have p39 : val 39 = .bool true := hF.post 39 (by kernel_rfl)
          have r165 : a'.eval (.tmp 165) = .bool true := (hF.ev 165 39 rfl (by kernel_rfl) (of_decide_eq_true (by kernel_rfl))).trans p39
          refine RK.owes_exec (v := .bool true) (w' := w') rfl (RK.wanted_any rfl) ?_ (Below.refl _ _) rfl
          have rk : ∀ c, a'.eval (.const c) = c := fun _ => rfl
          generalize a'.eval = ρ at *
          go_simp
        · have hwn : ∀ o : Oper, o.guard = some (40, true) → Region.wanted o _ = true := fun o h => RK.wanted_if h (hF.yields rfl rfl rfl (by kernel_rfl) (of_decide_eq_true (by kernel_rfl)) (hF.post 40 (by kernel_rfl)))
          refine RK.owes_call (g := 10) (args := #[]) rfl (hwn _ rfl) ?_ ?_
          · have rk : ∀ c, a'.eval (.const c) = c := fun _ => rfl
            have rf : ∀ f, a'.eval (.func f) = .func (.func f) #[] #[] := fun _ => rfl
            generalize a'.eval = ρ at *
            go_simp
          · refine (HE10.out w' hF.S.1).mono ?_
            rintro e w2 ⟨rfl, hb⟩
            exact ⟨_, rfl, hb, rfl⟩
        · have p40 : val 40 = .bool true := hF.post 40 (by kernel_rfl)
          have r166 : a'.eval (.tmp 166) = .bool true := (hF.ev 166 40 rfl (by kernel_rfl) (of_decide_eq_true (by kernel_rfl))).trans p40
          have p41 : val 41 = .bool true := hF.post 41 (by kernel_rfl)
          have r167 : a'.eval (.tmp 167) = .bool true := (hF.ev 167 41 rfl (by kernel_rfl) (of_decide_eq_true (by kernel_rfl))).trans p41
          refine RK.owes_exec (v := .bool true) (w' := w') rfl (RK.wanted_any rfl) ?_ (Below.refl _ _) rfl
          have rk : ∀ c, a'.eval (.const c) = c := fun _ => rfl
          generalize a'.eval = ρ at *
          go_simp
        · have p42 : val 42 = .bool true := hF.post 42 (by kernel_rfl)
          have r168 : a'.eval (.tmp 168) = .bool true := (hF.ev 168 42 rfl (by kernel_rfl) (of_decide_eq_true (by kernel_rfl))).trans p42
          refine RK.owes_exec (v := .bool true) (w' := w') rfl (RK.wanted_any rfl) ?_ (Below.refl _ _) rfl
          have rk : ∀ c, a'.eval (.const c) = c := fun _ => rfl
          generalize a'.eval = ρ at *
          go_simp
      · have e43 : val 43 = .bool true := hp 43 (of_decide_eq_true (by kernel_rfl))
        simp only [RK.slotsL, if_true, e43]
        have HB := Lib.hid hw.1.i.below
        clear hp hw e43 HE1 HE2 HE3 HE4 HE5 HE6 HE7 HE8 HE9 HE10
        go_wp2_with fail
        go_ret
        have hz := HB.out
        first | exact ⟨rfl, hz⟩ | (rw [HG.out] at hz; exact ⟨rfl, hz⟩)

set_option maxRecDepth 100000 in
theorem lifted (os : Os) (started : os.Started) (H : Type) (enc : TypeId × Value → H) :
    ReturnsInHanded {} Try.checked os 5 .any (Rows.fixedTellsSpec.pre6 enc Try.prog Try.f5 Rows.fixedTellsRow.domain false) (Rows.fixedTellsSpec.post enc Try.prog Try.f5 false true false false) := by
  refine returnsInHanded_of_change (C := Try.checked) M.own started (by kernel_rfl) Try.func5
    (ChangeSpec.witness6 (enc := enc) (C := Try.checked) false ⟨#[], #[.agg #[.int .u64 0, .int .u64 0, .int .u64 0, .int .u64 0, .int .i64 0, .int .i64 0, .int .i64 0, .int .i64 0, .int .i64 0, .int .i64 0, .int .i64 0, .int .i64 0], .agg #[.slice none 0 0, .slice none 0 0], .agg #[.slice none 0 0, .slice none 0 0], .slice none 0 0, .slice none 0 0], []⟩ 8 (by kernel_rfl) (by kernel_rfl) (by kernel_rfl) (by kernel_rfl)) ?_
  intro W base args ds gs before hval0 hW _ _
  have hval : ∀ (j : Nat) t v, Try.f5.params[j]? = some t → args[j]? = some v → Value.okWide Try.prog W .any base t v := hval0
  have hW' := hW
  obtain ⟨p, q, hA0, hV, rfl, _, _⟩ := hW
  have hA : DataW.TrodAll enc Try.prog W 0 (fun _ => true) true Try.f5.params.toList args.toList ds p := hA0
  rw [Try.params5] at hA hval
  obtain ⟨v0, vs0, d0, ds0, p0, q0, hargs, rfl, rfl, h0, r0⟩ := trodAll_cons hA
  obtain ⟨v1, vs1, d1, ds1, p1, q1, rfl, rfl, rfl, h1, r1⟩ := trodAll_cons r0
  obtain ⟨v2, vs2, d2, ds2, p2, q2, rfl, rfl, rfl, h2, r2⟩ := trodAll_cons r1
  obtain ⟨v3, vs3, d3, ds3, p3, q3, rfl, rfl, rfl, h3, r3⟩ := trodAll_cons r2
  obtain ⟨v4, vs4, d4, ds4, p4, q4, rfl, rfl, rfl, h4, r4⟩ := trodAll_cons r3
  obtain ⟨rfl, rfl, rfl⟩ := trodAll_nil r4
  obtain rfl : args = #[v0, v1, v2, v3, v4] := by cases args; simp_all
  obtain ⟨rfl, rfl⟩ := trodVars_none hV
  have k0 := h0
  have lt0 : ∀ x ∈ p0, x.block < W.heap.size := by obtain ⟨m, hm⟩ := k0; exact DataW.trod_lt m _ _ _ hm
  obtain ⟨a0, rfl, ok0⟩ := M.open_pm (hval 0 31 v0 rfl rfl) h0
  have k1 := h1
  have lt1 : ∀ x ∈ p1, x.block < W.heap.size := by obtain ⟨m, hm⟩ := k1; exact DataW.trod_lt m _ _ _ hm
  have ns1 := M.open_model (hval 1 36 v1 rfl rfl) h1
  have k2 := h2
  have lt2 : ∀ x ∈ p2, x.block < W.heap.size := by obtain ⟨m, hm⟩ := k2; exact DataW.trod_lt m _ _ _ hm
  have ns2 := M.open_model (hval 2 36 v2 rfl rfl) h2
  have k3 := h3
  have lt3 : ∀ x ∈ p3, x.block < W.heap.size := by obtain ⟨m, hm⟩ := k3; exact DataW.trod_lt m _ _ _ hm
  have ns3 := M.open_wholes (hval 3 34 v3 rfl rfl) h3
  have k4 := h4
  have lt4 : ∀ x ∈ p4, x.block < W.heap.size := by obtain ⟨m, hm⟩ := k4; exact DataW.trod_lt m _ _ _ hm
  have ns4 := M.open_nums (hval 4 39 v4 rfl rfl) h4
  clear hA0 hval0
  simp only [List.append_nil] at hW'
  refine (walk a0 v1 v2 v3 v4 ok0 W ns1 ns2 ns3 ns4).mono fun e W' ⟨he, bel⟩ => ?_
  subst he
  exact ⟨_, rfl, _, _, _, [], _, [], hW', (trodAll_cons_mk (shut_bool Try.underlying4 _) trodAll_mk0), (trodAll_cons_mk (Below.trod M.laidOut (by kernel_rfl) (of_decide_eq_true (by kernel_rfl)) k0 bel lt0) (trodAll_cons_mk (Below.trod M.laidOut (by kernel_rfl) (of_decide_eq_true (by kernel_rfl)) k1 bel lt1) (trodAll_cons_mk (Below.trod M.laidOut (by kernel_rfl) (of_decide_eq_true (by kernel_rfl)) k2 bel lt2) (trodAll_cons_mk (Below.trod M.laidOut (by kernel_rfl) (of_decide_eq_true (by kernel_rfl)) k3 bel lt3) (trodAll_cons_mk (Below.trod M.laidOut (by kernel_rfl) (of_decide_eq_true (by kernel_rfl)) k4 bel lt4) trodAll_mk0))))), rfl, bel.frame _, fun h => by cases h⟩

theorem holds : Rows.FixedTellsSaid :=
  OpenClaim.holds_of_wide 5 Try.f5 rfl rfl rfl rfl rfl rfl rfl ⟨rfl, rfl, rfl, rfl, rfl⟩ rfl rfl rfl rfl rfl (by kernel_rfl) Try.func5 (by kernel_rfl)
    (of_decide_eq_true (by kernel_rfl)) (by unfold Func.isWrapper; first | (rw [if_pos (by decide +kernel)]; kernel_rfl) | (rw [if_neg (by decide +kernel)]; exact ⟨rfl, rfl⟩))
    (fun os started H enc _ => lifted os started H enc)

end FixedTells

theorem fixedTells_holds : Rows.FixedTellsSaid := FixedTells.holds
#print axioms fixedTells_holds
end Go.Proofs.Ytdblijpoelcghaa

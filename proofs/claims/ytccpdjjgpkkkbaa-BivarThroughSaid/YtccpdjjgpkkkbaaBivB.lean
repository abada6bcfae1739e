/- The texts BivW3, BivGrid, BivW4, BivW5, ThruE, Law06b, one behind the other. -/
import Derived.Test.YtccpdjjgpkkkbaaBivA
import Derived.Test.YtccpdjjgpkkkbaaPolyW10
import Derived.Test.YtccpdjjgpkkkbaaPolyEq3
import Derived.Test.YtccpdjjgpkkkbaaRobLoop
/- BivW3: The walks of the columns of rows, one by itself and one behind the other, and the polynomial through points in one word. -/
namespace Go.Proofs.Ytccpdjjgpkkkbaa
open Go Go.RowKit Go.Lib Go.Shelf
namespace MM
/-- What is wrong with points: how many there are, and what places tell. -/
def thruC (q n m : Nat) (z : Nat → Nat) : Int := if n ≠ m then 1 else wrongU q n z
theorem trn_lt {L : Nat → Nat} {F : Nat → Nat → Nat} (hF : ∀ i j, F i j < 18446744073709551616) (j i : Nat) : trn L F j i < 18446744073709551616 := by
  unfold trn
  by_cases h : j < L i
  · rw [if_pos h]; exact hF i j
  · rw [if_neg h]; omega
end MM
namespace M
attribute [local go_sem] Oper.semAt_some
set_option maxRecDepth 100000 in
set_option maxHeartbeats 2000000 in
theorem padded1_any (ao : Option Addr) (c m i j P : Nat) (L : Nat → Nat) (F : Nat → Nat → Nat) (hi : i < m) (w : World) (hP : Box w P 24 (.slice ao m c)) (hr : Mat w ao m L F) :
    Calls Try.prog 60 #[.int .i64 (i : Int), .int .i64 (j : Int), .pointer (some ⟨P, 0, none⟩)] w fun e w' => e = .returned (.int .u64 ((MM.trn L F j i : Nat) : Int)) ∧ w = w' := by
  obtain ⟨ad, bo, cc, rfl, hc, hs, _⟩ := hr i hi
  have hp := hP.cell
  have hi0 : (0 : Int) ≤ (i : Int) := Int.natCast_nonneg _
  have hi1 : (i : Int) < (m : Int) := by omega
  have hj0 : (0 : Int) ≤ (j : Int) := Int.natCast_nonneg _
  have HT : Hid (MM.trn L F j i = if j < L i then F i j else 0) := Lib.hid rfl
  generalize MM.trn L F j i = x at *
  by_cases hb : j < L i
  · obtain ⟨bd, rfl, hcb⟩ := hs.at_ hb
    have hbI : (j : Int) < (L i : Int) := by omega
    have hbN : ¬ (L i : Int) ≤ (j : Int) := by omega
    rw [if_pos hb] at HT
    obtain rfl := HT.out
    generalize L i = li at *
    clear hs HT hr hP
    go_enter Try.func60, Try.ntmps60
    go_wp2_with fail
    go_ret
    exact ⟨rfl, rfl⟩
  · have hbN : (L i : Int) ≤ (j : Int) := by omega
    rw [if_neg hb] at HT
    obtain rfl := HT.out
    generalize L i = li at *
    clear hs HT hr hP
    go_enter Try.func60, Try.ntmps60
    go_wp2_with fail
    go_ret
    exact ⟨rfl, rfl⟩
theorem padded_any (ao : Option Addr) (m c : Nat) (w : World) :
    Calls Try.prog 41 #[.slice ao m c] w fun e w' => e = .returned (.func (.func 60) #[] #[.pointer (some ⟨w.heap.size, 0, none⟩)]) ∧ w.alloc (.cells #[.slice ao m c] 24) = w' := by
  go_enter Try.func41, Try.ntmps41
  go_wp2_with fail
  go_ret
  exact ⟨rfl, rfl⟩
theorem columns_any (ao : Option Addr) (m c : Nat) (w : World) :
    Calls Try.prog 25 #[.slice ao m c] w fun e w' => e = .returned (.func (.func 42) #[] #[.pointer (some ⟨w.heap.size, 0, none⟩)]) ∧ w.alloc (.cells #[.slice ao m c] 24) = w' := by
  go_enter Try.func25, Try.ntmps25
  go_wp2_with fail
  go_ret
  exact ⟨rfl, rfl⟩
set_option maxRecDepth 100000 in
set_option maxHeartbeats 4000000 in
theorem column_any (ao : Option Addr) (c m j : Nat) (L : Nat → Nat) (F : Nat → Nat → Nat) (hm : m ≤ 1000) (W : World) (hr : Mat W ao m L F) :
    Calls Try.prog 23 #[.slice ao m c, .int .i64 (j : Int)] W fun e w' => ∃ B, e = .returned (.slice (some ⟨B, 0, none⟩) m m) ∧ Mine W B m (MM.trn L F j) w' := by
  have hb1 := below_box W (.cells #[.slice ao m c] 24)
  have hx1 := Box.new W 24 (.slice ao m c)
  have hpad := padded_any ao m c W
  obtain ⟨P, hP⟩ : ∃ P, W.heap.size = P := ⟨_, rfl⟩
  obtain ⟨W1, hW1⟩ : ∃ W1, W.alloc (.cells #[.slice ao m c] 24) = W1 := ⟨_, rfl⟩
  rw [hW1] at hb1 hx1 hpad
  rw [hP] at hx1 hpad
  have HPAD := Lib.hid hpad
  have HM0 := Mine.made W1 m
  have hmk := run_made m (by omega) W1
  obtain ⟨W2, hW2⟩ : ∃ W2, W1.alloc (.cells (madeCells (Value.int .u64 0).cells (m * 1)) 22) = W2 := ⟨_, rfl⟩
  obtain ⟨B, hB⟩ : ∃ B, W1.heap.size = B := ⟨_, rfl⟩
  rw [hW2] at HM0 hmk
  rw [hB] at HM0 hmk
  have HM1 : Hid (Mine W1 B m (fun _ => 0) W2) := Lib.hid HM0
  have HB1 := Lib.hid hb1
  have HX := Lib.hid hx1
  have HR := Lib.hid (hr.below hb1)
  clear hr HM0 hB hW2 hW1 hP hb1 hx1 hpad
  go_enter Try.func23, Try.ntmps23
  go_wp2_with (go_at_call 41; refine HPAD.out.mono ?_; rintro e w' ⟨rfl, rfl⟩)
  clear hmk HPAD
  go_loopw [15] (fun s15 wx => ∃ k : Nat, k ≤ m ∧ s15 = .int .i64 (k : Int) ∧ Hid (Mine W1 B m (fun i => if i < k then MM.trn L F j i else 0) wx)) (fun s15 _ => m - (RowKit.intOf s15).toNat)
  case atStart => exact ⟨0, Nat.zero_le _, rfl, Lib.hid (HM1.out.congr fun k _ => by simp)⟩
  case round =>
    clear HM1
    obtain ⟨k, hk, rfl, HJ⟩ := hrel
    by_cases hlt : k < m
    · have HC := Lib.hid (padded1_any ao c m k j P L F hlt wr (HX.out.below HJ.out.below) (HR.out.below HJ.out.below))
      have HN : Hid (Mine W1 B m (fun i => if i < k + 1 then MM.trn L F j i else 0) (wr.setCell ⟨B, k, none⟩ (.int .u64 ((MM.trn L F j k : Nat) : Int)))) := Lib.hid HJ.out.next
      have hcl := HJ.out.cell hlt
      have hfr := HJ.out.free k
      have hk0 : (0 : Int) ≤ (k : Int) := Int.natCast_nonneg _
      have hk1 : (k : Int) < (m : Int) := by omega
      generalize MM.trn L F j k = x at *
      go_wp2_with (go_at_call 60; refine HC.out.mono ?_; rintro e w' ⟨rfl, rfl⟩)
      go_roundw
      case rel => exact ⟨k + 1, by omega, by go_num, HN⟩
      case measure => simp [RowKit.intOf]; omega
    · obtain rfl : k = m := by omega
      go_wp2_with fail
      go_ret
      exact ⟨_, rfl, Mine.from (HJ.out.congr fun j hj => by rw [if_pos hj]) HB1.out⟩
set_option maxRecDepth 100000 in
set_option maxHeartbeats 4000000 in
/-- The iterator: one column behind the other. -/
theorem columns1_in (n : Nat) (hl1 : 1 ≤ n) (l P : Nat) (ao : Option Addr) (c m : Nat) (L : Nat → Nat) (F : Nat → Nat → Nat) (hm : m ≤ 1000) (hl : ∀ i, i < m → L i ≤ 1000) (J : Nat → World → Prop)
    (hR : ∀ j W, J j W → Box W P 24 (.slice ao m c) ∧ Mat W ao m L F) (hS : ∀ j W W', J j W → Below W.heap.size W W' → J j W')
    (hY : ∀ j B W, j < MM.widU L m → J j W → Row W ⟨B, 0, none⟩ m (MM.trn L F j) → YieldAt Fence.wide (n - 1) Try.prog l #[.int .i64 (j : Int), .slice (some ⟨B, 0, none⟩) m m] W fun e W' => e = .returned (.bool true) ∧ J (j + 1) W')
    (W : World) (h0 : J 0 W) :
    CallsIn Fence.wide n Try.prog 42 #[.func (.yield l) #[] #[], .pointer (some ⟨P, 0, none⟩)] W fun e W' => (∃ v, e = .returned v) ∧ J (MM.widU L m) W' := by
  have HY := Lib.hid hY
  have HR := Lib.hid hR
  have HST := Lib.hid hS
  have HLO := Lib.hid (longest_any ao c m L F hm hl W (hR 0 W h0).2)
  have hc := (hR 0 W h0).1.cell
  have hN := MM.widU_le m hl
  have H0 := Lib.hid h0
  generalize MM.widU L m = N at *
  clear hY hR hS h0 hl
  refine callsIn_of_wp Try.func42 rfl trivial ?_ rfl
  simp only [Try.ntmps42, List.size_toArray, List.length_cons, List.length_nil, Nat.reduceAdd, Nat.reduceSub, Array.replicate_succ, Array.replicate_zero, List.push_toArray, List.append_toArray, List.nil_append, List.cons_append]
  gi_wp2_with (refine ⟨trivial, ?_⟩; gi_at_call 24; refine (callsIn_wide.2 HLO.out).mono ?_; rintro e w' ⟨rfl, rfl⟩)
  clear hc HLO
  gi_loopw [6] (fun s6 wr => ∃ j : Nat, j ≤ N ∧ s6 = .int .i64 (j : Int) ∧ Hid (J j wr)) (fun s6 _ => N - (RowKit.intOf s6).toNat)
  case atStart => exact ⟨0, Nat.zero_le _, rfl, H0⟩
  case round =>
    clear H0
    obtain ⟨j, hj, rfl, HJ⟩ := hrel
    by_cases hlt : j < N
    · obtain ⟨hb, hmat⟩ := HR.out j wr HJ.out
      have hc := hb.cell
      have HCO := Lib.hid (column_any ao c m j L F hm wr hmat)
      have hjI : (j : Int) < (N : Int) := by omega
      clear hb hmat
      gi_wp2_with (refine ⟨trivial, ?_⟩; gi_at_call 23; refine (callsIn_wide.2 HCO.out).mono ?_; rintro e w1 ⟨B, rfl, hm1⟩; obtain ⟨fn, tmps, assign, body, hy, hRD⟩ := HY.out j B w1 hlt (HST.out _ _ _ HJ.out hm1.below) hm1.row; have HRD := Lib.hid hRD; clear hm1 hRD)
      refine HRD.out.mono ?_
      rintro e W3 ⟨rfl, hJ3⟩
      have HJ3 := Lib.hid hJ3
      clear hJ3
      gi_wp2
      go_roundw
      case rel => exact ⟨j + 1, by omega, by go_num, HJ3⟩
      case measure => simp [RowKit.intOf]; omega
    · have hjI : ¬ (j : Int) < (N : Int) := by omega
      obtain rfl : j = N := by omega
      gi_wp2
      go_end0
      exact ⟨⟨_, rfl⟩, HJ.out⟩
/-- The polynomial through points, or how it is refused, in one word. -/
theorem thruP_any (xo yo : Option Addr) (n m cx cy q : Nat) (z y : Nat → Nat) (hz : ∀ k, z k < 18446744073709551616) (hy : ∀ k, y k < 18446744073709551616) (hn : n ≤ 12) (w : World) (hr : Rd w xo n z) (hs : Rd w yo m y) :
    Calls Try.prog 22 #[.slice xo n cx, .slice yo m cy, .int .u64 (q : Int)] w fun e w' => ∃ v, e = .returned (.tuple #[v, .int .i64 (MM.thruC q n m z)]) ∧ Below w.heap.size w w' ∧ (MM.thruC q n m z ≠ 0 → v = .slice none 0 0) ∧ (MM.thruC q n m z = 0 → RowB w.heap.size w' v n (MM.thruU q z y n)) := by
  by_cases hl : n = m
  · subst hl
    have hC : MM.thruC q n n z = MM.wrongU q n z := by unfold MM.thruC; rw [if_neg (by simp)]
    rw [hC]
    by_cases hq : MM.Good q
    · by_cases hT : MM.tw6 q z n = 0
      · refine (through_good xo yo n cx cy q z y hz hy hq (by omega) (sorts_short n hn) hT w hr hs).mono ?_
        rintro e w' (⟨v, he, hm, hb, hall⟩ | ⟨he, hb, k, hk, hne⟩)
        · have hw := MM.wrongU_yes hq (by omega) hT ((MM.thr_all hq n).1 hall)
          refine ⟨v, by rw [he, hw], hb, fun h => absurd hw h, fun _ => ?_⟩
          rcases hm with h | ⟨B, cs, h0, h1, h2, h3, h4⟩
          · exact .inl h
          · exact .inr ⟨B, cs, h0, h1, h2, h3, fun k hk => by rw [h4 k hk, MM.thr_eq hq z y n k]⟩
        · have hN : MM.noAll q z n ≠ false := fun h => hne ((MM.thr_all hq n).2 h k hk)
          have hw := MM.wrongU_five hq (by omega) hT hN
          exact ⟨_, by rw [he, hw], hb, fun _ => rfl, fun h => by rw [hw] at h; omega⟩
      · obtain ⟨hw, h6⟩ := MM.wrongU_six hq (show n ≤ 1024 by omega) hT
        refine (through_err xo yo n cx cy q 6 (by decide) w fun W' hb => (check_good xo n cx q z hz hq (by omega) (sorts_short n hn) W' (hr.below hb)).mono fun e w' ⟨he, hw'⟩ => ⟨by rw [he, h6], hw'⟩).mono ?_
        rintro e w' ⟨he, hb⟩
        exact ⟨_, by rw [he, hw], hb, fun _ => rfl, fun h => by rw [hw] at h; omega⟩
    · have hw : MM.wrongU q n z = 1 := by unfold MM.wrongU; rw [if_pos hq]
      refine (through_err xo yo n cx cy q 1 (by decide) w fun W' _ => (check_bad _ _ _ _ hq W').mono fun e w' ⟨he, hw'⟩ => ⟨he, hw' ▸ Below.refl _ _⟩).mono ?_
      rintro e w' ⟨he, hb⟩
      exact ⟨_, by rw [he, hw], hb, fun _ => rfl, fun h => by rw [hw] at h; omega⟩
  · have hC : MM.thruC q n m z = 1 := by unfold MM.thruC; rw [if_pos hl]
    rw [hC]
    refine (through_len xo yo n m cx cy q hl w).mono ?_
    rintro e w' ⟨he, hb⟩
    exact ⟨_, he, hb, fun _ => rfl, fun h => by omega⟩
end M
end Go.Proofs.Ytccpdjjgpkkkbaa

/- BivGrid: Lists of lists that a call makes whole (make) and writes cell by cell; and drawn regions in which more than one operation may come. -/
namespace Go.Proofs.Ytccpdjjgpkkkbaa
open Go
namespace RK
section
variable {P : Program} {md : Region.Mode} {ops : Array Oper} {Q : Exit → Act → World → Prop} {S : World → Prop} {st : Nat}
/-- Each of some operations may come. -/
theorem Any.each {s : Array Bool} {a : Act} {w : World} {f : Nat} (l : List Nat) (hr : Region.ready md ops s = l) (h0 : l ≠ []) (h : ∀ i ∈ l, wpOp P ops Q i (fun a' w' => (i ≠ st → S w') ∧ Any P md ops Q S st f (s.setIfInBounds i true) a' w') a w) : Any P md ops Q S st (f + 1) s a w :=
  ⟨fun e => absurd (hr.symm.trans e) h0, fun i hi => h i (hr ▸ hi)⟩
theorem wpOp_exec {i t : Nat} {o : Oper} {v : Value} {a : Act} {w w1 : World} {K : Act → World → Prop} (hi : ops[i]? = some o) (hd : o.dst = some t) (hw : Region.wanted o (yielded ops a.tmps) = true) (he : (execOp a.eval o).run P w = .ok (.value v) w1) (h : K { a with tmps := a.tmps.setIfInBounds t v } w1) : wpOp P ops Q i K a w := by
  unfold wpOp
  simp only [hi, hw, if_true]
  refine .inl ?_
  unfold Oper.wp
  rw [he, Oper.upon_value, hd]
  exact h
theorem wpOp_call {i t : Nat} {o : Oper} {g : FuncId} {args : Array Value} {a : Act} {w : World} {K : Act → World → Prop} (hi : ops[i]? = some o) (hd : o.dst = some t) (hw : Region.wanted o (yielded ops a.tmps) = true) (he : (execOp a.eval o).run P w = .ok (.enter g args) w)
    (h : Calls P g args w fun e w' => ∃ v, e = .returned v ∧ K { a with tmps := a.tmps.setIfInBounds t v } w') : wpOp P ops Q i K a w := by
  unfold wpOp
  simp only [hi, hw, if_true]
  refine .inl ?_
  unfold Oper.wp
  rw [he, Oper.upon_enter]
  refine h.mono ?_
  rintro e w' ⟨v, rfl, h1⟩
  rw [hd]
  exact h1
end
/-- A region, cut off from what follows. -/
theorem cut {P : Program} {c : Code} {Q : Exit → Act → World → Prop} {a : Act} {w : World} (R : Act → Act → World → Prop) (h1 : c.wp P (fun e a' w' => e = .normal ∧ R a a' w') a w) (h2 : ∀ a' w', R a a' w' → Q .normal a' w') : c.wp P Q a w :=
  wp_mono h1 fun e a' w' ⟨he, hr⟩ => by subst he; exact h2 a' w' hr
end RK
open Go.RowKit Go.Lib
namespace M
/-- The box bx holds the slice of n lists in block G, of which the first k are made: the list i has N numbers A i in block R i; all lies behind what was there at w0; nothing of that has changed. -/
structure GridK (w0 : World) (G bx n N k : Nat) (R : Nat → Nat) (A : Nat → Nat → Nat) (w : World) : Prop where
  box : Box w bx 24 (.slice (some ⟨G, 0, none⟩) n n)
  top : ∃ cs : Array Value, w.heap[G]? = some (.cells cs 23 (0, 0)) ∧ cs.size = n ∧ ∀ i, i < n → cs[i]? = some (if i < k then .slice (some ⟨R i, 0, none⟩) N N else .slice none 0 0)
  rows : ∀ i, i < k → Mine w0 (R i) N (A i) w
  inj : ∀ i j, i < k → j < k → i ≠ j → R i ≠ R j
  lowG : w0.heap.size ≤ G
  lowB : w0.heap.size ≤ bx
  below : Below w0.heap.size w0 w
section
variable {w0 w1 w w' : World} {G bx n N k : Nat} {R : Nat → Nat} {A A' : Nat → Nat → Nat}
theorem GridK.kept (h : GridK w0 G bx n N k R A w) (hc : ∀ (j : Nat) (cs : Array Value) (t : TypeId), w.heap[j]? = some (.cells cs t (0, 0)) → w'.heap[j]? = some (.cells cs t (0, 0))) (hb : Below w0.heap.size w0 w') : GridK w0 G bx n N k R A w' :=
  ⟨hc _ _ _ h.box, by obtain ⟨cs, h1, h2⟩ := h.top; exact ⟨cs, hc _ _ _ h1, h2⟩, fun i hi => ⟨by obtain ⟨cs, h1, h2⟩ := (h.rows i hi).block; exact ⟨cs, hc _ _ _ h1, h2⟩, (h.rows i hi).low, hb⟩, h.inj, h.lowG, h.lowB, hb⟩
theorem GridK.step (h : GridK w0 G bx n N k R A w) (hb : Below w.heap.size w w') : GridK w0 G bx n N k R A w' := h.kept (fun j _ _ hj => (hb.block j (row_lt hj)).trans hj) (h.below.trans (hb.mono h.below.size))
theorem GridK.drewN (h : GridK w0 G bx n N k R A w) (m : Nat) : GridK w0 G bx n N k R A (w.drewN m) := h.step (below_drewN' w m _)
theorem GridK.from (h : GridK w1 G bx n N k R A w) (hb : Below w0.heap.size w0 w1) : GridK w0 G bx n N k R A w :=
  ⟨h.box, h.top, fun i hi => Mine.from (h.rows i hi) hb, h.inj, Nat.le_trans hb.size h.lowG, Nat.le_trans hb.size h.lowB, hb.trans (h.below.mono hb.size)⟩
theorem GridK.congr (h : GridK w0 G bx n N k R A w) (hA : ∀ i, i < k → ∀ j, j < N → A i j = A' i j) : GridK w0 G bx n N k R A' w :=
  ⟨h.box, h.top, fun i hi => (h.rows i hi).congr (hA i hi), h.inj, h.lowG, h.lowB, h.below⟩
theorem GridK.ne (h : GridK w0 G bx n N k R A w) : G ≠ bx := fun e => by
  obtain ⟨cs, h1, _⟩ := h.top
  have h2 := h.box
  unfold Box at h2
  rw [← e, h1] at h2
  injection h2 with h2
  injection h2 with _ h3 _
  exact absurd h3 (by decide)
theorem GridK.neR (h : GridK w0 G bx n N k R A w) {i : Nat} (hi : i < k) : G ≠ R i ∧ bx ≠ R i := by
  obtain ⟨cs, h1, _⟩ := (h.rows i hi).block
  constructor
  · intro e
    obtain ⟨cs', h3, _⟩ := h.top
    rw [e, h1] at h3
    injection h3 with h3
    injection h3 with _ h4 _
    exact absurd h4 (by decide)
  · intro e
    have h2 := h.box
    unfold Box at h2
    rw [e, h1] at h2
    injection h2 with h2
    injection h2 with _ h4 _
    exact absurd h4 (by decide)
theorem GridK.cell (h : GridK w0 G bx n N k R A w) {i : Nat} (hi : i < n) : w.cell? ⟨G, i, none⟩ = some (if i < k then .slice (some ⟨R i, 0, none⟩) N N else .slice none 0 0) := by
  obtain ⟨cs, h1, _, h3⟩ := h.top
  rw [cell_of_row w G i _ _ _ h1, h3 i hi]
theorem GridK.free (h : GridK w0 G bx n N k R A w) (i : Nat) : w.frozen? ⟨G, i, none⟩ = false := by
  obtain ⟨cs, h1, _⟩ := h.top
  simp [World.frozen?, h1]
/-- One list more. -/
theorem GridK.put (h : GridK w0 G bx n N k R A w) (hk : k < n) {B : Nat} (hB : Mine w0 B N (A k) w) (hne : ∀ i, i < k → R i ≠ B) : GridK w0 G bx n N (k + 1) (fun i => if i = k then B else R i) A (w.setCell ⟨G, k, none⟩ (.slice (some ⟨B, 0, none⟩) N N)) := by
  obtain ⟨cs, h1, h2, h3⟩ := h.top
  have hGB : B ≠ G := fun e => by
    obtain ⟨cs', h4, _⟩ := hB.block
    rw [e, h1] at h4
    injection h4 with h4
    injection h4 with _ h5 _
    exact absurd h5 (by decide)
  refine ⟨h.box.other _ _ (fun e => h.ne e.symm), ⟨_, heap_setCell_same w G k cs _ _ h1, by simpa using h2, fun i hi => ?_⟩, fun i hi => ?_, fun i j hi hj hij => ?_, h.lowG, h.lowB, h.below.setCell (p := ⟨G, k, none⟩) h.lowG _⟩
  · rw [Array.getElem?_setIfInBounds]
    by_cases e : k = i
    · subst e; rw [if_pos rfl, if_pos (by omega), if_pos (by omega), if_pos rfl]
    · rw [if_neg e, h3 i hi]
      by_cases hlt : i < k
      · rw [if_pos hlt, if_pos (by omega), if_neg (fun h => e h.symm)]
      · rw [if_neg hlt, if_neg (by omega)]
  · by_cases e : i = k
    · subst e
      simp only [if_true]
      exact Mine.other hB hGB h.lowG _
    · simp only [if_neg e]
      exact Mine.other (h.rows i (by omega)) (fun e2 => (h.neR (show i < k by omega)).1 e2.symm) h.lowG _
  · by_cases e : i = k
    · subst e
      have hji : ¬ j = i := fun e => hij e.symm
      simp only [if_true, if_neg hji]
      exact fun e2 => hne j (by omega) e2.symm
    · by_cases e2 : j = k
      · subst e2
        simp only [if_true, if_neg e]
        exact hne i (by omega)
      · simp only [if_neg e, if_neg e2]
        exact h.inj i j (by omega) (by omega) hij
/-- One number is written. -/
theorem GridK.set (h : GridK w0 G bx n N k R A w) {i j x : Nat} (hi : i < k) (hA : ∀ a b, a < k → b < N → A' a b = if a = i ∧ b = j then x else A a b) : GridK w0 G bx n N k R A' (w.setCell ⟨R i, j, none⟩ (.int .u64 ((x : Nat) : Int))) := by
  have hlow := (h.rows i hi).low
  refine ⟨h.box.other _ _ (h.neR hi).2, ?_, fun a ha => ?_, h.inj, h.lowG, h.lowB, h.below.setCell (p := ⟨R i, j, none⟩) hlow _⟩
  · obtain ⟨cs, h1, h2, h3⟩ := h.top
    exact ⟨cs, (Below.heap_setCell w ⟨R i, j, none⟩ _ G (h.neR hi).1).trans h1, h2, h3⟩
  · by_cases e : a = i
    · subst e
      refine (h.rows a ha).set j x fun b hb => ?_
      rw [hA a b ha hb]
      by_cases e2 : b = j
      · rw [if_pos ⟨rfl, e2⟩, if_pos e2]
      · rw [if_neg (fun h => e2 h.2), if_neg e2]
    · exact (Mine.other (h.rows a ha) (h.inj a i ha hi e) hlow _).congr fun b hb => by rw [hA a b ha hb, if_neg (fun h => e h.1)]
/-- What the lists read as. -/
theorem GridK.mat (h : GridK w0 G bx n N n R A w) : Mat w (some ⟨G, 0, none⟩) n (fun _ => N) A := fun i hi => by
  have hc := h.cell hi
  rw [if_pos hi] at hc
  exact ⟨_, _, _, rfl, by rw [add_zero']; exact hc, (h.rows i hi).rd, fun e => by cases e⟩
/-- The lists as make leaves them: none is made yet. -/
theorem run_madeR (n : Nat) (hn : n ≤ 1000000) (w : World) :
    (Instr.makeSlice 24 (.int .i64 (n : Int)) (.int .i64 (n : Int))).run Try.prog w = .ok (.slice (some ⟨w.heap.size, 0, none⟩) n n) (w.alloc (.cells (madeCells (Value.slice none 0 0).cells (n * 1)) 23)) := by
  obtain ⟨i0, hi, hz0, hz1, hz2⟩ := info_parts info_rows
  have hr := run_make (P := Try.prog) w 24 23 i0 (.slice none 0 0) Try.underlying24 hi hz0 .i64 .i64 n n (by omega) (by omega) (by rw [hz2]; omega) (by omega)
  simp only [Int.toNat_natCast, hz1] at hr
  exact hr
theorem madeR_get (n i : Nat) (hi : i < n) : (madeCells (Value.slice none 0 0).cells (n * 1))[i]? = some (.slice none 0 0) := by simp [madeCells, hi, Value.cells, Nat.mod_one]
theorem GridK.start (hbox : Box w bx 24 (.slice (some ⟨G, 0, none⟩) n n)) (htop : w.heap[G]? = some (.cells (madeCells (Value.slice none 0 0).cells (n * 1)) 23 (0, 0))) (hG : w0.heap.size ≤ G) (hB : w0.heap.size ≤ bx) (hb : Below w0.heap.size w0 w) : GridK w0 G bx n N 0 R A w :=
  ⟨hbox, ⟨_, htop, by rw [size_madeCells, Nat.mul_one], fun i hi => by rw [if_neg (by omega)]; exact madeR_get n i hi⟩, fun _ h => absurd h (by omega), fun _ _ h => absurd h (by omega), hG, hB, hb⟩
end
end M
end Go.Proofs.Ytccpdjjgpkkkbaa

/- BivW4: The walk of the polynomial of two through rows, up to where its points are judged, and behind that. -/
namespace Go.Proofs.Ytccpdjjgpkkkbaa
open Go Go.RowKit Go.Lib Go.Shelf
namespace M
attribute [local go_sem] Oper.semAt_some
theorem RowB.at_ {lo : Nat} {W : World} {vo : Option Addr} {n c : Nat} {z : Nat → Nat} (h : RowB lo W (.slice vo n c) n z) {i : Nat} (hi : i < n) : ∃ ad, vo = some ad ∧ W.cell? (ad.add i) = some (.int .u64 ((z i : Nat) : Int)) := by
  obtain ⟨ao, c', e, hr⟩ := h.rd
  injection e with e1 _ _
  subst e1
  exact hr.at_ hi
theorem RowB.setOther {lo : Nat} {W : World} {v : Value} {n : Nat} {z : Nat → Nat} (h : RowB lo W v n z) {p : Addr} (hp : p.block < lo) (x : Value) : RowB lo (W.setCell p x) v n z := by
  rcases h with h | ⟨B, cs, h0, h1, h2, h3⟩
  · exact .inl h
  · exact .inr ⟨B, cs, h0, h1, (Below.heap_setCell W p x B (by omega)).trans h2, h3⟩
/-- What the judging of the points ends in. -/
def Judged (w0 : World) (m : Nat) (xo : Option Addr) (cx : Nat) (ro : Option Addr) (cr q : Nat) (c : Int) (a a' : Act) (w' : World) : Prop := ∃ B0 v, Below w0.heap.size w0 w' ∧
  a' = { a with tmps := (((((((((a.tmps.setIfInBounds 19 (.slice xo m cx)).setIfInBounds 20 (.slice ro m cr)).setIfInBounds 22 (.int .u64 (q : Int))).setIfInBounds 21 (.slice (some ⟨B0, 0, none⟩) m m)).setIfInBounds 23 (.tuple #[v, .int .i64 c])).setIfInBounds 18 (.tuple #[v, .int .i64 c])).setIfInBounds 24 v).setIfInBounds 25 (.int .i64 c)).setIfInBounds 8 v).setIfInBounds 9 (.int .i64 c) }
/-- What the race of the two makings ends in. -/
def Raced (w0 : World) (m N : Nat) (ro : Option Addr) (cr : Nat) (a a' : Act) (w' : World) : Prop := ∃ G bx, GridK w0 G bx m N 0 (fun _ => 0) (fun _ _ => 0) w' ∧
  a' = { a with tmps := ((((((a.tmps.setIfInBounds 29 (.slice ro m cr)).setIfInBounds 30 (.int .i64 (m : Int))).setIfInBounds 32 (.slice ro m cr)).setIfInBounds 31 (.slice (some ⟨G, 0, none⟩) m m)).setIfInBounds 33 (.int .i64 (N : Int))).setIfInBounds 10 (.pointer (some ⟨bx, 0, none⟩))).setIfInBounds 11 (.int .i64 (N : Int)) }
theorem race_ab (w : World) (m N : Nat) : GridK w w.heap.size (w.heap.size + 1) m N 0 (fun _ => 0) (fun _ _ => 0) (((w.alloc (.cells (madeCells (Value.slice none 0 0).cells (m * 1)) 23)).alloc (.cells #[.slice none 0 0] 24)).setCell ⟨w.heap.size + 1, 0, none⟩ (.slice (some ⟨w.heap.size, 0, none⟩) m m)) := by
  have h1 := heap_alloc_new w (.cells (madeCells (Value.slice none 0 0).cells (m * 1)) 23)
  have b1 := below_box w (.cells (madeCells (Value.slice none 0 0).cells (m * 1)) 23)
  have s1 : (w.alloc (.cells (madeCells (Value.slice none 0 0).cells (m * 1)) 23)).heap.size = w.heap.size + 1 := World.size_alloc _ _
  generalize w.alloc (.cells (madeCells (Value.slice none 0 0).cells (m * 1)) 23) = w1 at *
  have h2 := Box.new w1 24 (.slice none 0 0)
  have b2 := below_box w1 (.cells #[.slice none 0 0] 24)
  rw [s1] at h2
  generalize w1.alloc (.cells #[.slice none 0 0] 24) = w2 at *
  refine GridK.start (h2.set _) ?_ (Nat.le_refl _) (by omega) ((b1.trans (b2.mono b1.size)).setCell (p := ⟨w.heap.size + 1, 0, none⟩) (by show w.heap.size ≤ w.heap.size + 1; omega) _)
  rw [Below.heap_setCell w2 ⟨w.heap.size + 1, 0, none⟩ _ w.heap.size (by show w.heap.size ≠ w.heap.size + 1; omega)]
  exact (b2.block _ (by omega)).trans h1
theorem race_ba (w : World) (m N : Nat) : GridK w (w.heap.size + 1) w.heap.size m N 0 (fun _ => 0) (fun _ _ => 0) (((w.alloc (.cells #[.slice none 0 0] 24)).alloc (.cells (madeCells (Value.slice none 0 0).cells (m * 1)) 23)).setCell ⟨w.heap.size, 0, none⟩ (.slice (some ⟨w.heap.size + 1, 0, none⟩) m m)) := by
  have h1 := Box.new w 24 (.slice none 0 0)
  have b1 := below_box w (.cells #[.slice none 0 0] 24)
  have s1 : (w.alloc (.cells #[.slice none 0 0] 24)).heap.size = w.heap.size + 1 := World.size_alloc _ _
  generalize w.alloc (.cells #[.slice none 0 0] 24) = w1 at *
  have h2 := heap_alloc_new w1 (.cells (madeCells (Value.slice none 0 0).cells (m * 1)) 23)
  have b2 := below_box w1 (.cells (madeCells (Value.slice none 0 0).cells (m * 1)) 23)
  rw [s1] at h2
  generalize w1.alloc (.cells (madeCells (Value.slice none 0 0).cells (m * 1)) 23) = w2 at *
  refine GridK.start ((h1.below b2).set _) ?_ (by omega) (Nat.le_refl _) ((b1.trans (b2.mono b1.size)).setCell (p := ⟨w.heap.size, 0, none⟩) (Nat.le_refl _) _)
  rw [Below.heap_setCell w2 ⟨w.heap.size, 0, none⟩ _ (w.heap.size + 1) (by show w.heap.size + 1 ≠ w.heap.size; omega)]
  exact h2
set_option maxRecDepth 100000 in
set_option maxHeartbeats 8000000 in
theorem bthrough_ok (xo ro : Option Addr) (n cx cr q : Nat) (z : Nat → Nat) (L : Nat → Nat) (F : Nat → Nat → Nat) (hz : ∀ k, z k < 18446744073709551616) (hF : ∀ i j, F i j < 18446744073709551616) (hn : n ≤ 12) (hl : ∀ i, i < n → L i ≤ 1000) (hC : MM.thruC q n n z = 0) (w : World) (hr : Rd w xo n z) (hs : Mat w ro n L F) :
    Calls Try.prog 7 #[.slice xo n cx, .slice ro n cr, .int .u64 (q : Int)] w fun e w' => ∃ G bx R, e = .returned (.tuple #[.slice (some ⟨G, 0, none⟩) n n, .int .i64 0]) ∧ GridK w G bx n (MM.widU L n) n R (fun i j => MM.thruU q z (MM.trn L F j) n i) w' := by
  refine (callsIn_wide (n := 4)).1 ?_
  have HCOL := Lib.hid (fun (u : World) (hb : Below w.heap.size w u) => column_any ro cr n 0 L F (by omega) u (hs.below hb))
  change Hid (∀ u, Below w.heap.size w u → Calls Try.prog 23 #[.slice ro n cr, .int .i64 0] u fun e w' => ∃ B, e = .returned (.slice (some ⟨B, 0, none⟩) n n) ∧ Mine u B n (MM.trn L F 0) w') at HCOL
  have HTH := Lib.hid (fun (u : World) (bo : Option Addr) (c2 : Nat) (y : Nat → Nat) (hy : ∀ k, y k < 18446744073709551616) (hb : Below w.heap.size w u) (h : Rd u bo n y) => thruP_any xo bo n n cx c2 q z y hz hy hn u (hr.below hb) h)
  rw [hC] at HTH
  have HLO := Lib.hid (fun (u : World) (hb : Below w.heap.size w u) => longest_any ro cr n L F (by omega) hl u (hs.below hb))
  have hN := MM.widU_le n hl
  obtain ⟨N, hNN⟩ : ∃ N, MM.widU L n = N := ⟨_, rfl⟩
  have HTL := Lib.hid (fun j k => MM.trn_lt (L := L) hF j k)
  have HMAT := Lib.hid hs
  have HLL := Lib.hid hl
  have HNE := Lib.hid hNN
  rw [hNN] at HLO hN ⊢
  clear hz hF hr hs hC hl hNN
  have hl1 : 1 ≤ 4 := by omega
  refine callsIn_of_wp_marks Try.func7 rfl trivial ?_ rfl
  simp only [Try.ntmps7, List.size_toArray, List.length_cons, List.length_nil, Nat.reduceAdd, Nat.reduceSub, Array.replicate_succ, Array.replicate_zero, List.push_toArray, List.append_toArray, List.nil_append, List.cons_append]
  gi_upto_region 1 with fail
  obtain ⟨g, hg⟩ : ∃ g, w.heap.size = g := ⟨_, rfl⟩
  obtain ⟨W1, h1, b1, s1, x1, x2⟩ := boxes2 w 23 22 (.slice xo n cx) (.int .u64 (q : Int))
  rw [hg] at s1 x1 x2
  rw [h1, hg]
  clear h1
  refine wpIn_wide.2 (RK.cut (Judged W1 n xo cx ro cr q 0) (RK.region (Below W1.heap.size W1) 100 (by kernel_rfl) ?_) ?_)
  · have HS0 : Below W1.heap.size W1 W1.drew := below_drewN' W1 1 _
    refine RK.Any.take 0 19 (.slice xo n cx) rfl rfl (by kernel_rfl) (by kernel_rfl) (by kernel_rfl) (by kernel_rfl) (fun _ _ _ h => by cases h.1) (by rfl) (fun W' hb => ?_) HS0 ?_
    · have c := (x1.below hb).cell; go_simp
    simp only [List.setIfInBounds_toArray, List.set_cons_zero, List.set_cons_succ]
    refine RK.Any.take 1 20 (.slice ro n cr) rfl rfl (by kernel_rfl) (by kernel_rfl) (by kernel_rfl) (by kernel_rfl) (fun _ _ _ h => by cases h.1) (by rfl) (fun W' hb => ?_) HS0 ?_
    · skip; go_simp
    simp only [List.setIfInBounds_toArray, List.set_cons_zero, List.set_cons_succ]
    refine RK.Any.take 3 22 (.int .u64 (q : Int)) rfl rfl (by kernel_rfl) (by kernel_rfl) (by kernel_rfl) (by kernel_rfl) (fun _ _ _ h => by cases h.1) (by rfl) (fun W' hb => ?_) HS0 ?_
    · have c := (x2.below hb).cell; go_simp
    simp only [List.setIfInBounds_toArray, List.set_cons_zero, List.set_cons_succ]
    refine RK.Any.call 2 21 23 #[.slice ro n cr, .int .i64 0] (by kernel_rfl) rfl rfl (by rfl) (by go_simp) (Calls.mono (HCOL.out _ (b1.trans (HS0.mono b1.size))) ?_)
    rintro E W2 ⟨B0, rfl, hm2⟩
    have HS2 : Below W1.heap.size W1 W2 := HS0.trans (hm2.below.mono HS0.size)
    refine ⟨_, rfl, fun _ => HS2, ?_⟩
    simp only [List.setIfInBounds_toArray, List.set_cons_zero, List.set_cons_succ]
    refine RK.Any.call 4 23 22 #[.slice xo n cx, .slice (some ⟨B0, 0, none⟩) n n, .int .u64 (q : Int)] (by kernel_rfl) rfl rfl (by rfl) (by go_simp) (Calls.mono (HTH.out W2 (some ⟨B0, 0, none⟩) n _ (fun k => HTL.out 0 k) (b1.trans (HS2.mono b1.size)) hm2.rd) ?_)
    rintro E W3 ⟨v3, rfl, hb3, _, hrow3⟩
    obtain ⟨vo, vc, rfl, _⟩ := (hrow3 rfl).rd
    have HS3 : Below W1.heap.size W1 W3 := HS2.trans (hb3.mono HS2.size)
    refine ⟨_, rfl, fun _ => HS3, ?_⟩
    simp only [List.setIfInBounds_toArray, List.set_cons_zero, List.set_cons_succ]
    refine RK.Any.take 5 18 (.tuple #[.slice vo n vc, .int .i64 0]) rfl rfl (by kernel_rfl) (by kernel_rfl) (by kernel_rfl) (by kernel_rfl) (fun _ _ _ h => by cases h.1) (by rfl) (fun W' hb => ?_) HS3 ?_
    · skip; go_simp
    simp only [List.setIfInBounds_toArray, List.set_cons_zero, List.set_cons_succ]
    refine RK.Any.take 6 24 (.slice vo n vc) rfl rfl (by kernel_rfl) (by kernel_rfl) (by kernel_rfl) (by kernel_rfl) (fun _ _ _ h => by cases h.1) (by rfl) (fun W' hb => ?_) HS3 ?_
    · skip; go_simp
    simp only [List.setIfInBounds_toArray, List.set_cons_zero, List.set_cons_succ]
    refine RK.Any.take 7 25 (.int .i64 0) rfl rfl (by kernel_rfl) (by kernel_rfl) (by kernel_rfl) (by kernel_rfl) (fun _ _ _ h => by cases h.1) (by rfl) (fun W' hb => ?_) HS3 ?_
    · skip; go_simp
    simp only [List.setIfInBounds_toArray, List.set_cons_zero, List.set_cons_succ]
    refine RK.Any.take 8 8 (.slice vo n vc) rfl rfl (by kernel_rfl) (by kernel_rfl) (by kernel_rfl) (by kernel_rfl) (fun _ _ _ h => by cases h.1) (by rfl) (fun W' hb => ?_) HS3 ?_
    · skip; go_simp
    simp only [List.setIfInBounds_toArray, List.set_cons_zero, List.set_cons_succ]
    refine RK.Any.take 9 9 (.int .i64 0) rfl rfl (by kernel_rfl) (by kernel_rfl) (by kernel_rfl) (by kernel_rfl) (fun _ _ _ h => by cases h.1) (by rfl) (fun W' hb => ?_) HS3 ?_
    · skip; go_simp
    simp only [List.setIfInBounds_toArray, List.set_cons_zero, List.set_cons_succ]
    refine RK.Any.done (by kernel_rfl) ?_
    refine ⟨rfl, B0, .slice vo n vc, HS3, ?_⟩
    simp only [List.setIfInBounds_toArray, List.set_cons_zero, List.set_cons_succ]
  rintro a1 W3 ⟨B0, v3, HS3, rfl⟩
  simp only [List.setIfInBounds_toArray, List.set_cons_zero, List.set_cons_succ]
  have b03 : Below w.heap.size w W3 := b1.trans (HS3.mono b1.size)
  have y1 : Box W3 g 23 (.slice xo n cx) := x1.below HS3
  have y2 : Box W3 (g + 1) 22 (.int .u64 (q : Int)) := x2.below HS3
  clear HS3 x1 x2 b1 HCOL
  gi_upto_region 4 with fail
  refine wpIn_wide.2 (RK.cut (Raced W3 n N ro cr) (RK.region (fun _ => True) 100 (by kernel_rfl) ?_) ?_)
  · have hmkA := fun u => run_madeR n (by omega) u
    have hlo : ∀ u, Below W3.heap.size W3 u → Calls Try.prog 24 #[.slice ro n cr] u fun e w' => e = .returned (.int .i64 ((N : Nat) : Int)) ∧ u = w' := fun u hb => HLO.out u (b03.trans (hb.mono b03.size))
    have hab := race_ab W3.drew n N
    have hba := race_ba W3.drew n N
    have hb0 : Below W3.heap.size W3 W3.drew := below_drewN' W3 1 _
    have hlw : ∀ u, Below W3.drew.heap.size W3.drew u → Below W3.heap.size W3 u := fun u hu => hb0.trans hu
    have bxab : Box ((W3.drew.alloc (.cells (madeCells (Value.slice none 0 0).cells (n * 1)) 23)).alloc (.cells #[.slice none 0 0] 24)) (W3.drew.heap.size + 1) 24 (.slice none 0 0) := by
      have h := Box.new (W3.drew.alloc (.cells (madeCells (Value.slice none 0 0).cells (n * 1)) 23)) 24 (.slice none 0 0)
      rwa [World.size_alloc] at h
    have bxba : Box ((W3.drew.alloc (.cells #[.slice none 0 0] 24)).alloc (.cells (madeCells (Value.slice none 0 0).cells (n * 1)) 23)) W3.drew.heap.size 24 (.slice none 0 0) := (Box.new W3.drew 24 (.slice none 0 0)).below (below_box _ _)
    refine RK.Any.take 0 29 (.slice ro n cr) rfl rfl (by kernel_rfl) (by kernel_rfl) (by kernel_rfl) (by kernel_rfl) (fun _ _ _ h => by cases h.1) (by rfl) (fun W' hb => ?_) trivial ?_
    · skip; go_simp
    simp only [List.setIfInBounds_toArray, List.set_cons_zero, List.set_cons_succ]
    refine RK.Any.take 1 30 (.int .i64 (n : Int)) rfl rfl (by kernel_rfl) (by kernel_rfl) (by kernel_rfl) (by kernel_rfl) (fun _ _ _ h => by cases h.1) (by rfl) (fun W' hb => ?_) trivial ?_
    · skip; go_simp
    simp only [List.setIfInBounds_toArray, List.set_cons_zero, List.set_cons_succ]
    refine RK.Any.take 3 32 (.slice ro n cr) rfl rfl (by kernel_rfl) (by kernel_rfl) (by kernel_rfl) (by kernel_rfl) (fun _ _ _ h => by cases h.1) (by rfl) (fun W' hb => ?_) trivial ?_
    · skip; go_simp
    simp only [List.setIfInBounds_toArray, List.set_cons_zero, List.set_cons_succ]
    generalize W3.drew = w0 at *
    refine RK.Any.each [2, 4, 5] (by kernel_rfl) (by simp) fun i hi => ?_
    simp only [List.mem_cons, List.not_mem_nil, or_false] at hi
    rcases hi with rfl | rfl | rfl
    · have hmk := hmkA (w0)
      refine RK.wpOp_exec (t := 31) (v := .slice (some ⟨w0.heap.size, 0, none⟩) n n) (w1 := (w0).alloc (.cells (madeCells (Value.slice none 0 0).cells (n * 1)) 23)) rfl rfl (by rfl) (by go_simp) ?_
      refine ⟨fun _ => trivial, ?_⟩
      simp only [List.setIfInBounds_toArray, List.set_cons_zero, List.set_cons_succ]
      refine RK.Any.each [4, 5] (by kernel_rfl) (by simp) fun i hi => ?_
      simp only [List.mem_cons, List.not_mem_nil, or_false] at hi
      rcases hi with rfl | rfl
      · refine RK.wpOp_call (t := 33) (g := 24) (args := #[.slice ro n cr]) rfl rfl (by rfl) (by go_simp) (Calls.mono (hlo _ (hlw _ (by exact below_box _ _))) ?_)
        rintro E W' ⟨rfl, rfl⟩
        refine ⟨_, rfl, fun _ => trivial, ?_⟩
        simp only [List.setIfInBounds_toArray, List.set_cons_zero, List.set_cons_succ]
        refine RK.Any.exec 5 10 (.pointer (some ⟨w0.heap.size + 1, 0, none⟩)) (w1 := ((w0).alloc (.cells (madeCells (Value.slice none 0 0).cells (n * 1)) 23)).alloc (.cells #[.slice none 0 0] 24)) (by kernel_rfl) rfl rfl (by rfl) (by go_simp) trivial ?_
        simp only [List.setIfInBounds_toArray, List.set_cons_zero, List.set_cons_succ]
        have hbx := (Box.cell (W := ((w0).alloc (.cells (madeCells (Value.slice none 0 0).cells (n * 1)) 23)).alloc (.cells #[.slice none 0 0] 24)) (B := w0.heap.size + 1) (t := 24) (v := .slice none 0 0) bxab)
        have hfr := (Box.free (W := ((w0).alloc (.cells (madeCells (Value.slice none 0 0).cells (n * 1)) 23)).alloc (.cells #[.slice none 0 0] 24)) (B := w0.heap.size + 1) (t := 24) (v := .slice none 0 0) bxab)
        refine RK.Any.store 6 (w1 := (((w0).alloc (.cells (madeCells (Value.slice none 0 0).cells (n * 1)) 23)).alloc (.cells #[.slice none 0 0] 24)).setCell ⟨w0.heap.size + 1, 0, none⟩ (.slice (some ⟨w0.heap.size, 0, none⟩) n n)) (by kernel_rfl) rfl rfl (by rfl) (by go_simp) (fun _ => trivial) ?_
        refine RK.Any.take 7 11 (.int .i64 (N : Int)) rfl rfl (by kernel_rfl) (by kernel_rfl) (by kernel_rfl) (by kernel_rfl) (fun _ _ _ h => by cases h.1) (by rfl) (fun W' hb => ?_) trivial ?_
        · skip; go_simp
        simp only [List.setIfInBounds_toArray, List.set_cons_zero, List.set_cons_succ]
        refine RK.Any.done (by kernel_rfl) ?_
        refine ⟨rfl, w0.heap.size, w0.heap.size + 1, (hab).from hb0, ?_⟩
        simp only [List.setIfInBounds_toArray, List.set_cons_zero, List.set_cons_succ]
      · refine RK.wpOp_exec (t := 10) (v := .pointer (some ⟨w0.heap.size + 1, 0, none⟩)) (w1 := ((w0).alloc (.cells (madeCells (Value.slice none 0 0).cells (n * 1)) 23)).alloc (.cells #[.slice none 0 0] 24)) rfl rfl (by rfl) (by go_simp) ?_
        refine ⟨fun _ => trivial, ?_⟩
        simp only [List.setIfInBounds_toArray, List.set_cons_zero, List.set_cons_succ]
        refine RK.Any.call 4 33 24 #[.slice ro n cr] (by kernel_rfl) rfl rfl (by rfl) (by go_simp) (Calls.mono (hlo _ (hlw _ (by exact (below_box _ _).trans ((below_box _ _).mono (below_box _ _).size)))) ?_)
        rintro E W' ⟨rfl, rfl⟩
        refine ⟨_, rfl, fun _ => trivial, ?_⟩
        simp only [List.setIfInBounds_toArray, List.set_cons_zero, List.set_cons_succ]
        have hbx := (Box.cell (W := ((w0).alloc (.cells (madeCells (Value.slice none 0 0).cells (n * 1)) 23)).alloc (.cells #[.slice none 0 0] 24)) (B := w0.heap.size + 1) (t := 24) (v := .slice none 0 0) bxab)
        have hfr := (Box.free (W := ((w0).alloc (.cells (madeCells (Value.slice none 0 0).cells (n * 1)) 23)).alloc (.cells #[.slice none 0 0] 24)) (B := w0.heap.size + 1) (t := 24) (v := .slice none 0 0) bxab)
        refine RK.Any.store 6 (w1 := (((w0).alloc (.cells (madeCells (Value.slice none 0 0).cells (n * 1)) 23)).alloc (.cells #[.slice none 0 0] 24)).setCell ⟨w0.heap.size + 1, 0, none⟩ (.slice (some ⟨w0.heap.size, 0, none⟩) n n)) (by kernel_rfl) rfl rfl (by rfl) (by go_simp) (fun _ => trivial) ?_
        refine RK.Any.take 7 11 (.int .i64 (N : Int)) rfl rfl (by kernel_rfl) (by kernel_rfl) (by kernel_rfl) (by kernel_rfl) (fun _ _ _ h => by cases h.1) (by rfl) (fun W' hb => ?_) trivial ?_
        · skip; go_simp
        simp only [List.setIfInBounds_toArray, List.set_cons_zero, List.set_cons_succ]
        refine RK.Any.done (by kernel_rfl) ?_
        refine ⟨rfl, w0.heap.size, w0.heap.size + 1, (hab).from hb0, ?_⟩
        simp only [List.setIfInBounds_toArray, List.set_cons_zero, List.set_cons_succ]
    · refine RK.wpOp_call (t := 33) (g := 24) (args := #[.slice ro n cr]) rfl rfl (by rfl) (by go_simp) (Calls.mono (hlo _ (hlw _ (by exact Below.refl _ _))) ?_)
      rintro E W' ⟨rfl, rfl⟩
      refine ⟨_, rfl, fun _ => trivial, ?_⟩
      simp only [List.setIfInBounds_toArray, List.set_cons_zero, List.set_cons_succ]
      refine RK.Any.each [2, 5] (by kernel_rfl) (by simp) fun i hi => ?_
      simp only [List.mem_cons, List.not_mem_nil, or_false] at hi
      rcases hi with rfl | rfl
      · have hmk := hmkA (w0)
        refine RK.wpOp_exec (t := 31) (v := .slice (some ⟨w0.heap.size, 0, none⟩) n n) (w1 := (w0).alloc (.cells (madeCells (Value.slice none 0 0).cells (n * 1)) 23)) rfl rfl (by rfl) (by go_simp) ?_
        refine ⟨fun _ => trivial, ?_⟩
        simp only [List.setIfInBounds_toArray, List.set_cons_zero, List.set_cons_succ]
        refine RK.Any.exec 5 10 (.pointer (some ⟨w0.heap.size + 1, 0, none⟩)) (w1 := ((w0).alloc (.cells (madeCells (Value.slice none 0 0).cells (n * 1)) 23)).alloc (.cells #[.slice none 0 0] 24)) (by kernel_rfl) rfl rfl (by rfl) (by go_simp) trivial ?_
        simp only [List.setIfInBounds_toArray, List.set_cons_zero, List.set_cons_succ]
        have hbx := (Box.cell (W := ((w0).alloc (.cells (madeCells (Value.slice none 0 0).cells (n * 1)) 23)).alloc (.cells #[.slice none 0 0] 24)) (B := w0.heap.size + 1) (t := 24) (v := .slice none 0 0) bxab)
        have hfr := (Box.free (W := ((w0).alloc (.cells (madeCells (Value.slice none 0 0).cells (n * 1)) 23)).alloc (.cells #[.slice none 0 0] 24)) (B := w0.heap.size + 1) (t := 24) (v := .slice none 0 0) bxab)
        refine RK.Any.store 6 (w1 := (((w0).alloc (.cells (madeCells (Value.slice none 0 0).cells (n * 1)) 23)).alloc (.cells #[.slice none 0 0] 24)).setCell ⟨w0.heap.size + 1, 0, none⟩ (.slice (some ⟨w0.heap.size, 0, none⟩) n n)) (by kernel_rfl) rfl rfl (by rfl) (by go_simp) (fun _ => trivial) ?_
        refine RK.Any.take 7 11 (.int .i64 (N : Int)) rfl rfl (by kernel_rfl) (by kernel_rfl) (by kernel_rfl) (by kernel_rfl) (fun _ _ _ h => by cases h.1) (by rfl) (fun W' hb => ?_) trivial ?_
        · skip; go_simp
        simp only [List.setIfInBounds_toArray, List.set_cons_zero, List.set_cons_succ]
        refine RK.Any.done (by kernel_rfl) ?_
        refine ⟨rfl, w0.heap.size, w0.heap.size + 1, (hab).from hb0, ?_⟩
        simp only [List.setIfInBounds_toArray, List.set_cons_zero, List.set_cons_succ]
      · refine RK.wpOp_exec (t := 10) (v := .pointer (some ⟨w0.heap.size, 0, none⟩)) (w1 := (w0).alloc (.cells #[.slice none 0 0] 24)) rfl rfl (by rfl) (by go_simp) ?_
        refine ⟨fun _ => trivial, ?_⟩
        simp only [List.setIfInBounds_toArray, List.set_cons_zero, List.set_cons_succ]
        have hmk := hmkA ((w0).alloc (.cells #[.slice none 0 0] 24))
        rw [World.size_alloc] at hmk
        refine RK.Any.exec 2 31 (.slice (some ⟨w0.heap.size + 1, 0, none⟩) n n) (w1 := ((w0).alloc (.cells #[.slice none 0 0] 24)).alloc (.cells (madeCells (Value.slice none 0 0).cells (n * 1)) 23)) (by kernel_rfl) rfl rfl (by rfl) (by go_simp) trivial ?_
        simp only [List.setIfInBounds_toArray, List.set_cons_zero, List.set_cons_succ]
        have hbx := (Box.cell (W := ((w0).alloc (.cells #[.slice none 0 0] 24)).alloc (.cells (madeCells (Value.slice none 0 0).cells (n * 1)) 23)) (B := w0.heap.size) (t := 24) (v := .slice none 0 0) bxba)
        have hfr := (Box.free (W := ((w0).alloc (.cells #[.slice none 0 0] 24)).alloc (.cells (madeCells (Value.slice none 0 0).cells (n * 1)) 23)) (B := w0.heap.size) (t := 24) (v := .slice none 0 0) bxba)
        refine RK.Any.store 6 (w1 := (((w0).alloc (.cells #[.slice none 0 0] 24)).alloc (.cells (madeCells (Value.slice none 0 0).cells (n * 1)) 23)).setCell ⟨w0.heap.size, 0, none⟩ (.slice (some ⟨w0.heap.size + 1, 0, none⟩) n n)) (by kernel_rfl) rfl rfl (by rfl) (by go_simp) (fun _ => trivial) ?_
        refine RK.Any.take 7 11 (.int .i64 (N : Int)) rfl rfl (by kernel_rfl) (by kernel_rfl) (by kernel_rfl) (by kernel_rfl) (fun _ _ _ h => by cases h.1) (by rfl) (fun W' hb => ?_) trivial ?_
        · skip; go_simp
        simp only [List.setIfInBounds_toArray, List.set_cons_zero, List.set_cons_succ]
        refine RK.Any.done (by kernel_rfl) ?_
        refine ⟨rfl, w0.heap.size + 1, w0.heap.size, (hba).from hb0, ?_⟩
        simp only [List.setIfInBounds_toArray, List.set_cons_zero, List.set_cons_succ]
    · refine RK.wpOp_exec (t := 10) (v := .pointer (some ⟨w0.heap.size, 0, none⟩)) (w1 := (w0).alloc (.cells #[.slice none 0 0] 24)) rfl rfl (by rfl) (by go_simp) ?_
      refine ⟨fun _ => trivial, ?_⟩
      simp only [List.setIfInBounds_toArray, List.set_cons_zero, List.set_cons_succ]
      refine RK.Any.each [2, 4] (by kernel_rfl) (by simp) fun i hi => ?_
      simp only [List.mem_cons, List.not_mem_nil, or_false] at hi
      rcases hi with rfl | rfl
      · have hmk := hmkA ((w0).alloc (.cells #[.slice none 0 0] 24))
        rw [World.size_alloc] at hmk
        refine RK.wpOp_exec (t := 31) (v := .slice (some ⟨w0.heap.size + 1, 0, none⟩) n n) (w1 := ((w0).alloc (.cells #[.slice none 0 0] 24)).alloc (.cells (madeCells (Value.slice none 0 0).cells (n * 1)) 23)) rfl rfl (by rfl) (by go_simp) ?_
        refine ⟨fun _ => trivial, ?_⟩
        simp only [List.setIfInBounds_toArray, List.set_cons_zero, List.set_cons_succ]
        refine RK.Any.call 4 33 24 #[.slice ro n cr] (by kernel_rfl) rfl rfl (by rfl) (by go_simp) (Calls.mono (hlo _ (hlw _ (by exact (below_box _ _).trans ((below_box _ _).mono (below_box _ _).size)))) ?_)
        rintro E W' ⟨rfl, rfl⟩
        refine ⟨_, rfl, fun _ => trivial, ?_⟩
        simp only [List.setIfInBounds_toArray, List.set_cons_zero, List.set_cons_succ]
        have hbx := (Box.cell (W := ((w0).alloc (.cells #[.slice none 0 0] 24)).alloc (.cells (madeCells (Value.slice none 0 0).cells (n * 1)) 23)) (B := w0.heap.size) (t := 24) (v := .slice none 0 0) bxba)
        have hfr := (Box.free (W := ((w0).alloc (.cells #[.slice none 0 0] 24)).alloc (.cells (madeCells (Value.slice none 0 0).cells (n * 1)) 23)) (B := w0.heap.size) (t := 24) (v := .slice none 0 0) bxba)
        refine RK.Any.store 6 (w1 := (((w0).alloc (.cells #[.slice none 0 0] 24)).alloc (.cells (madeCells (Value.slice none 0 0).cells (n * 1)) 23)).setCell ⟨w0.heap.size, 0, none⟩ (.slice (some ⟨w0.heap.size + 1, 0, none⟩) n n)) (by kernel_rfl) rfl rfl (by rfl) (by go_simp) (fun _ => trivial) ?_
        refine RK.Any.take 7 11 (.int .i64 (N : Int)) rfl rfl (by kernel_rfl) (by kernel_rfl) (by kernel_rfl) (by kernel_rfl) (fun _ _ _ h => by cases h.1) (by rfl) (fun W' hb => ?_) trivial ?_
        · skip; go_simp
        simp only [List.setIfInBounds_toArray, List.set_cons_zero, List.set_cons_succ]
        refine RK.Any.done (by kernel_rfl) ?_
        refine ⟨rfl, w0.heap.size + 1, w0.heap.size, (hba).from hb0, ?_⟩
        simp only [List.setIfInBounds_toArray, List.set_cons_zero, List.set_cons_succ]
      · refine RK.wpOp_call (t := 33) (g := 24) (args := #[.slice ro n cr]) rfl rfl (by rfl) (by go_simp) (Calls.mono (hlo _ (hlw _ (by exact below_box _ _))) ?_)
        rintro E W' ⟨rfl, rfl⟩
        refine ⟨_, rfl, fun _ => trivial, ?_⟩
        simp only [List.setIfInBounds_toArray, List.set_cons_zero, List.set_cons_succ]
        have hmk := hmkA ((w0).alloc (.cells #[.slice none 0 0] 24))
        rw [World.size_alloc] at hmk
        refine RK.Any.exec 2 31 (.slice (some ⟨w0.heap.size + 1, 0, none⟩) n n) (w1 := ((w0).alloc (.cells #[.slice none 0 0] 24)).alloc (.cells (madeCells (Value.slice none 0 0).cells (n * 1)) 23)) (by kernel_rfl) rfl rfl (by rfl) (by go_simp) trivial ?_
        simp only [List.setIfInBounds_toArray, List.set_cons_zero, List.set_cons_succ]
        have hbx := (Box.cell (W := ((w0).alloc (.cells #[.slice none 0 0] 24)).alloc (.cells (madeCells (Value.slice none 0 0).cells (n * 1)) 23)) (B := w0.heap.size) (t := 24) (v := .slice none 0 0) bxba)
        have hfr := (Box.free (W := ((w0).alloc (.cells #[.slice none 0 0] 24)).alloc (.cells (madeCells (Value.slice none 0 0).cells (n * 1)) 23)) (B := w0.heap.size) (t := 24) (v := .slice none 0 0) bxba)
        refine RK.Any.store 6 (w1 := (((w0).alloc (.cells #[.slice none 0 0] 24)).alloc (.cells (madeCells (Value.slice none 0 0).cells (n * 1)) 23)).setCell ⟨w0.heap.size, 0, none⟩ (.slice (some ⟨w0.heap.size + 1, 0, none⟩) n n)) (by kernel_rfl) rfl rfl (by rfl) (by go_simp) (fun _ => trivial) ?_
        refine RK.Any.take 7 11 (.int .i64 (N : Int)) rfl rfl (by kernel_rfl) (by kernel_rfl) (by kernel_rfl) (by kernel_rfl) (fun _ _ _ h => by cases h.1) (by rfl) (fun W' hb => ?_) trivial ?_
        · skip; go_simp
        simp only [List.setIfInBounds_toArray, List.set_cons_zero, List.set_cons_succ]
        refine RK.Any.done (by kernel_rfl) ?_
        refine ⟨rfl, w0.heap.size + 1, w0.heap.size, (hba).from hb0, ?_⟩
        simp only [List.setIfInBounds_toArray, List.set_cons_zero, List.set_cons_succ]
  · rintro a4 W4 ⟨G, bx, hgrid, rfl⟩
    simp only [List.setIfInBounds_toArray, List.set_cons_zero, List.set_cons_succ]
    have HG := Lib.hid hgrid
    have hc := hgrid.box.cell
    clear hgrid
    gi_upto_region 6 with fail
    clear hc
    gi_loopw [36] (fun s36 wx => ∃ k : Nat, k ≤ n ∧ s36 = .int .i64 (k : Int) ∧ Hid (∃ R, GridK W3 G bx n N k R (fun _ _ => 0) wx)) (fun s36 _ => n - (RowKit.intOf s36).toNat)
    case atStart => exact ⟨0, Nat.zero_le _, rfl, Lib.hid ⟨_, HG.out⟩⟩
    case round =>
      clear HG
      obtain ⟨k, hk, rfl, HJ⟩ := hrel
      by_cases hlt : k < n
      · have hkI : (k : Int) < (n : Int) := by omega
        have hk0 : (0 : Int) ≤ (k : Int) := Int.natCast_nonneg _
        obtain ⟨R, hg⟩ := HJ.out
        clear HJ
        gi_upto_region 8 with fail
        refine wpIn_wide.2 (RK.cut (fun a a' w' => ∃ B, (∃ R', GridK W3 G bx n N (k + 1) R' (fun _ _ => 0) w') ∧ a' = { a with tmps := ((((a.tmps.setIfInBounds 39 (.slice (some ⟨G, 0, none⟩) n n)).setIfInBounds 40 (.int .i64 (k : Int))).setIfInBounds 41 (.int .i64 (N : Int))).setIfInBounds 42 (.slice (some ⟨B, 0, none⟩) N N)).setIfInBounds 43 (.pointer (some ⟨G, k, none⟩)) }) (RK.region (fun w => Box w bx 24 (.slice (some ⟨G, 0, none⟩) n n)) 100 (by kernel_rfl) ?_) ?_)
        · have hg0 := hg.drewN 1
          change GridK W3 G bx n N k R (fun _ _ => 0) wr.drew at hg0
          generalize wr.drew = w0 at *
          have HS0 := hg0.box
          refine RK.Any.take 0 39 (.slice (some ⟨G, 0, none⟩) n n) rfl rfl (by kernel_rfl) (by kernel_rfl) (by kernel_rfl) (by kernel_rfl) (fun _ _ _ h => by cases h.1) (by rfl) (fun W' hb => ?_) HS0 ?_
          · have c := hb.cell; go_simp
          simp only [List.setIfInBounds_toArray, List.set_cons_zero, List.set_cons_succ]
          refine RK.Any.take 1 40 (.int .i64 (k : Int)) rfl rfl (by kernel_rfl) (by kernel_rfl) (by kernel_rfl) (by kernel_rfl) (fun _ _ _ h => by cases h.1) (by rfl) (fun W' hb => ?_) HS0 ?_
          · skip; go_simp
          simp only [List.setIfInBounds_toArray, List.set_cons_zero, List.set_cons_succ]
          refine RK.Any.take 2 41 (.int .i64 (N : Int)) rfl rfl (by kernel_rfl) (by kernel_rfl) (by kernel_rfl) (by kernel_rfl) (fun _ _ _ h => by cases h.1) (by rfl) (fun W' hb => ?_) HS0 ?_
          · skip; go_simp
          simp only [List.setIfInBounds_toArray, List.set_cons_zero, List.set_cons_succ]
          have hmk := run_made N (by omega) w0
          have hm0 := Mine.made w0 N
          have hb1 := below_box w0 (.cells (madeCells (Value.int .u64 0).cells (N * 1)) 22)
          obtain ⟨w1, hw1⟩ : ∃ w1, w0.alloc (.cells (madeCells (Value.int .u64 0).cells (N * 1)) 22) = w1 := ⟨_, rfl⟩
          rw [hw1] at hmk hm0 hb1
          have hg1 := hg0.step hb1
          obtain ⟨B, hB⟩ : ∃ B, w0.heap.size = B := ⟨_, rfl⟩
          rw [hB] at hmk hm0
          have hput := hg1.put hlt (Mine.from hm0 hg0.below) (fun i hi => by have := (hg0.rows i hi).lt; omega)
          have hcl := hg1.cell hlt
          have hfr := hg1.free k
          rw [if_neg (by omega)] at hcl
          refine RK.Any.exec 3 42 (.slice (some ⟨B, 0, none⟩) N N) (w1 := w1) (by kernel_rfl) rfl rfl (by rfl) (by go_simp) hg1.box ?_
          simp only [List.setIfInBounds_toArray, List.set_cons_zero, List.set_cons_succ]
          refine RK.Any.take 4 43 (.pointer (some ⟨G, k, none⟩)) rfl rfl (by kernel_rfl) (by kernel_rfl) (by kernel_rfl) (by kernel_rfl) (fun _ _ _ h => by cases h.1) (by rfl) (fun W' hb => ?_) hg1.box ?_
          · skip; go_simp
          simp only [List.setIfInBounds_toArray, List.set_cons_zero, List.set_cons_succ]
          refine RK.Any.store 5 (w1 := w1.setCell ⟨G, k, none⟩ (.slice (some ⟨B, 0, none⟩) N N)) (by kernel_rfl) rfl rfl (by rfl) (by go_simp) (fun _ => hput.box) ?_
          refine RK.Any.done (by kernel_rfl) ?_
          exact ⟨rfl, B, ⟨_, hput⟩, rfl⟩
        · rintro a5 W5 ⟨B, hg', rfl⟩
          simp only [List.setIfInBounds_toArray, List.set_cons_zero, List.set_cons_succ]
          have HJ := Lib.hid hg'
          clear hg hg'
          gi_wp2
          go_roundw
          case rel => exact ⟨k + 1, by omega, by go_num, HJ⟩
          case measure => simp [RowKit.intOf]; omega
      · have hkI : ¬ (k : Int) < (n : Int) := by omega
        obtain rfl : k = n := by omega
        gi_wp2_with (refine ⟨trivial, ?_⟩; gi_at_call 25; refine (callsIn_wide.2 (columns_any _ _ _ _)).mono ?_; rintro E w' ⟨rfl, rfl⟩)
        obtain ⟨R, hg⟩ := HJ.out
        obtain ⟨P, hP⟩ : ∃ P, wr.heap.size = P := ⟨_, rfl⟩
        have hbp := Box.new wr 24 (.slice ro k cr)
        have b4 := below_box wr (.cells #[.slice ro k cr] 24)
        obtain ⟨W4', h4⟩ : ∃ W4', wr.alloc (.cells #[.slice ro k cr] 24) = W4' := ⟨_, rfl⟩
        rw [h4] at hbp b4
        rw [hP] at hbp
        rw [h4, hP]
        refine RL.enter' (gf := 42) (lb := #[.pointer (some ⟨P, 0, none⟩)]) rfl (enters_of Try.func42 (by kernel_rfl) rfl) fun fn r hr => ?_
        have HRR := Lib.hid hr
        clear hr
        simp only [List.append_toArray, List.cons_append, List.nil_append]
        obtain ⟨D, hD⟩ : ∃ D, W4'.heap.size = D := ⟨_, rfl⟩
        obtain ⟨W5, hW5⟩ : ∃ W5, (W4'.alloc (.deferred (some []))).alloc (.loop (r .ready none)) = W5 := ⟨_, rfl⟩
        have b5 : Below W4'.heap.size W4' W5 := by rw [← hW5]; exact (below_box _ _).trans ((below_box _ _).mono (by simp))
        have hl5 : W5.heap[D + 1]? = some (.loop (r .ready none)) := by
          have := World.alloc_heap_new (W4'.alloc (.deferred (some []))) (.loop (r .ready none))
          rwa [World.size_alloc, hD, hW5] at this
        have hD5 : W5.heap[D]? = some (.deferred (some [])) := by
          have h1 := World.alloc_heap_new W4' (.deferred (some []))
          rw [hD] at h1
          have h2 := (below_box (W4'.alloc (.deferred (some []))) (.loop (r .ready none))).block D (row_lt h1)
          rw [hW5] at h2
          exact h2.trans h1
        rw [hD, hW5]
        have hg5 := hg.step (b4.trans (b5.mono b4.size))
        have hp5 := hbp.below b5
        have hWD : W3.heap.size ≤ D := by have := hg.below.size; have := b4.size; omega
        obtain ⟨J, hJ⟩ : ∃ J : Nat → World → Prop, J = fun j X => GridK W3 G bx k N k R (fun i b => if b < j then MM.thruU q z (MM.trn L F b) k i else 0) X ∧ X.heap[D + 1]? = some (.loop (r .ready none)) ∧ X.heap[D]? = some (.deferred (some [])) ∧ Box X P 24 (.slice ro k cr) := ⟨_, rfl⟩
        have hKR : ∀ j X, J j X → Box X P 24 (.slice ro k cr) ∧ Mat X ro k L F := fun j X h => by
          rw [hJ] at h
          exact ⟨h.2.2.2, HMAT.out.below (b03.trans (h.1.below.mono b03.size))⟩
        have hKS : ∀ j X X', J j X → Below X.heap.size X X' → J j X' := fun j X X' h hb => by
          rw [hJ] at h ⊢
          exact ⟨h.1.step hb, (hb.block _ (row_lt h.2.1)).trans h.2.1, (hb.block _ (row_lt h.2.2.1)).trans h.2.2.1, h.2.2.2.below hb⟩
        have h0 : J 0 W5 := by
          rw [hJ]
          exact ⟨hg5.congr fun i _ b _ => by rw [if_neg (by omega)], hl5, hD5, hp5⟩
        have hKY : ∀ j B X, j < N → J j X → Row X ⟨B, 0, none⟩ k (MM.trn L F j) → YieldAt Fence.wide (4 - 1 - 1) Try.prog (D + 1) #[.int .i64 (j : Int), .slice (some ⟨B, 0, none⟩) k k] X fun e X' => e = .returned (.bool true) ∧ J (j + 1) X' := by
          intro j B X hjN hjX hrow
          rw [hJ] at hjX
          obtain ⟨hgX, hlX, hDX, hPX⟩ := hjX
          apply RL.round' HRR.out
          case hl => exact hlX
          case hs => rfl
          case hassign =>
            intro K hK
            gi_wp2
            exact hK
          case hbody =>
            obtain ⟨X1, hX1⟩ : ∃ X1, X.putObj (D + 1) (.loop (r .busy none)) = X1 := ⟨_, rfl⟩
            have hoX : ∀ i, i ≠ D + 1 → X1.heap[i]? = X.heap[i]? := fun i hi => by rw [← hX1]; exact World.putObj_heap_other hi
            have hlX1 : X1.heap[D + 1]? = some (.loop (r .busy none)) := by rw [← hX1]; exact World.putObj_heap_same (row_lt hlX)
            have hcX : ∀ (i : Nat) (cs : Array Value) (t : TypeId), X.heap[i]? = some (.cells cs t (0, 0)) → X1.heap[i]? = some (.cells cs t (0, 0)) := fun i cs t h => (hoX i (fun e => by rw [e, hlX] at h; cases h)).trans h
            have hbX : Below W3.heap.size X X1 := by rw [← hX1]; exact RL.below_put (by omega) hgX.below.size
            have hgX1 := hgX.kept hcX (hgX.below.trans hbX)
            have hDX1 : X1.heap[D]? = some (.deferred (some [])) := (hoX D (by omega)).trans hDX
            have hPX1 : Box X1 P 24 (.slice ro k cr) := hcX _ _ _ hPX
            have hrow1 : Row X1 ⟨B, 0, none⟩ k (MM.trn L F j) := fun i hi => by
              have h1 := hrow i hi
              rw [← h1]
              refine World.cell?_of_block (hoX _ (fun e => ?_))
              simp [World.cell?, e, hlX] at h1
            have hb1 : Below w.heap.size w X1 := b03.trans (hgX1.below.mono b03.size)
            have z1 : Box X1 g 23 (.slice xo k cx) := y1.below hgX1.below
            have z2 : Box X1 (g + 1) 22 (.int .u64 (q : Int)) := y2.below hgX1.below
            have HTJ := Lib.hid (HTH.out X1 (some ⟨B, 0, none⟩) k _ (fun i => HTL.out j i) hb1 (fun _ => ⟨_, rfl, hrow1⟩))
            have zc1 := z1.cell
            have zc2 := z2.cell
            have hl2 : 1 ≤ 4 - 1 - 1 := by omega
            rw [hX1]
            clear hX1 hoX hcX hbX hrow hrow1 hgX hlX hDX hPX z1 z2
            gi_wp2
            refine ⟨trivial, ?_⟩
            gi_at_call 22
            refine (((callsIn_wide.2 HTJ.out).inRound _).mono ?_)
            rintro E X2 ⟨v, rfl, hb2, _, hrw⟩
            obtain ⟨vo, vc, rfl, _⟩ := (hrw trivial).rd
            have hrw2 := hrw trivial
            clear hrw
            have hg2 := hgX1.step hb2
            have zb := hg2.box.cell
            have hlX2 : X2.heap[D + 1]? = some (.loop (r .busy none)) := (hb2.block _ (row_lt hlX1)).trans hlX1
            have hDX2 : X2.heap[D]? = some (.deferred (some [])) := (hb2.block _ (row_lt hDX1)).trans hDX1
            obtain ⟨C, hC⟩ : ∃ C : Nat → Nat → Nat, C = fun b a => MM.thruU q z (MM.trn L F b) k a := ⟨_, rfl⟩
            have hrdC : RowB X1.heap.size X2 (.slice vo k vc) k (C j) := by rw [hC]; exact hrw2
            have HRL := Lib.hid (fun i (hi : i < k) => (hgX1.rows i hi).lt)
            have HB0 : Hid (GridK W3 G bx k N k R (fun a b => if b < j ∨ (b = j ∧ a < 0) then C b a else 0) X2 ∧ X2.heap[D + 1]? = some (.loop (r .busy none)) ∧ X2.heap[D]? = some (.deferred (some [])) ∧ Box X2 P 24 (.slice ro k cr) ∧ RowB X1.heap.size X2 (.slice vo k vc) k (C j)) := Lib.hid ⟨hg2.congr fun a _ b _ => by
              rw [hC]
              by_cases h : b < j
              · rw [if_pos h, if_pos (.inl h)]
              · rw [if_neg h, if_neg (by omega)], hlX2, hDX2, hPX1.below hb2, hrdC⟩
            have HCD := Lib.hid hC
            obtain ⟨lo, hlo⟩ : ∃ lo, X1.heap.size = lo := ⟨_, rfl⟩
            rw [hlo] at HB0 HRL
            clear hlX2 hDX2 hg2 hrdC hrw2 hC hb2 hlX1 hDX1 hPX1 hgX1 HTJ hb1 zc1 zc2 hlo
            gi_upto_region 15 with fail
            clear zb
            gi_loopw [58] (fun s58 wx => ∃ i : Nat, i ≤ k ∧ s58 = .int .i64 (i : Int) ∧ Hid (GridK W3 G bx k N k R (fun a b => if b < j ∨ (b = j ∧ a < i) then C b a else 0) wx ∧ wx.heap[D + 1]? = some (.loop (r .busy none)) ∧ wx.heap[D]? = some (.deferred (some [])) ∧ Box wx P 24 (.slice ro k cr) ∧ RowB lo wx (.slice vo k vc) k (C j))) (fun s58 _ => k - (RowKit.intOf s58).toNat)
            case atStart => exact ⟨0, Nat.zero_le _, rfl, HB0⟩
            case round =>
              clear HB0
              obtain ⟨i, hi, rfl, HI⟩ := hrel
              by_cases hli : i < k
              · have hiI : (i : Int) < (k : Int) := by omega
                have hi0 : (0 : Int) ≤ (i : Int) := Int.natCast_nonneg _
                have hj0 : (0 : Int) ≤ (j : Int) := Int.natCast_nonneg _
                have hjI : (j : Int) < (N : Int) := by omega
                gi_upto_region 17 with fail
                obtain ⟨vad, rfl, hcv⟩ := HI.out.2.2.2.2.at_ hli
                have hcb := HI.out.1.box.cell
                have hcg := HI.out.1.cell hli
                rw [if_pos hli] at hcg
                have hcr := (HI.out.1.rows i hli).cell hjN
                have hfr := (HI.out.1.rows i hli).free j
                have HNN : Hid (∀ nq, GridK W3 G bx k N k R (fun a b => if b < j ∨ (b = j ∧ a < i + 1) then C b a else 0) ((wr.drewN nq).setCell ⟨R i, j, none⟩ (.int .u64 ((C j i : Nat) : Int))) ∧ ((wr.drewN nq).setCell ⟨R i, j, none⟩ (.int .u64 ((C j i : Nat) : Int))).heap[D + 1]? = some (.loop (r .busy none)) ∧ ((wr.drewN nq).setCell ⟨R i, j, none⟩ (.int .u64 ((C j i : Nat) : Int))).heap[D]? = some (.deferred (some [])) ∧ Box ((wr.drewN nq).setCell ⟨R i, j, none⟩ (.int .u64 ((C j i : Nat) : Int))) P 24 (.slice ro k cr) ∧ RowB lo ((wr.drewN nq).setCell ⟨R i, j, none⟩ (.int .u64 ((C j i : Nat) : Int))) (.slice (some vad) k vc) k (C j)) := Lib.hid fun nq => by
                  obtain ⟨h1, h2, h3, h4, h5⟩ := HI.out
                  obtain ⟨cs, hcs, _⟩ := (h1.rows i hli).block
                  have n1 : D + 1 ≠ R i := fun e => by rw [← e, h2] at hcs; cases hcs
                  have n2 : D ≠ R i := fun e => by rw [← e, h3] at hcs; cases hcs
                  have n3 : P ≠ R i := fun e => by
                    rw [← e, show wr.heap[P]? = _ from h4] at hcs
                    injection hcs with hcs
                    injection hcs with _ e2 _
                    exact absurd e2 (by decide)
                  refine ⟨(h1.drewN nq).set hli fun a b ha hb => ?_, (Below.heap_setCell (wr.drewN nq) ⟨R i, j, none⟩ _ _ n1).trans h2, (Below.heap_setCell (wr.drewN nq) ⟨R i, j, none⟩ _ _ n2).trans h3, (h4.drewN nq).other _ _ n3, (h5.drewN nq).setOther (HRL.out i hli) _⟩
                  by_cases e : a = i ∧ b = j
                  · obtain ⟨rfl, rfl⟩ := e
                    rw [if_pos (.inr ⟨rfl, by omega⟩), if_pos ⟨rfl, rfl⟩]
                  · rw [if_neg e]
                    by_cases h : b < j ∨ (b = j ∧ a < i)
                    · rw [if_pos h, if_pos (by omega)]
                    · rw [if_neg h, if_neg (by omega)]
                generalize C j i = x at *
                refine QT.region_in (D + 1) _ 10 (by kernel_rfl) (by simp) (fun h => by obtain ⟨_, _, h⟩ := h; exact h) (by kernel_rfl) ?_
                simp only [List.take_succ_cons, List.take_zero, List.drop_succ_cons, List.drop_zero]
                repeat (quiet_step (fail))
                refine wpQuiet_nil ?_
                intro nq
                go_wp2_with fail
                clear hcb hcg hcr hfr hcv
                have HNQ := Lib.hid (HNN.out nq)
                clear HNN
                gi_wp2
                go_roundw
                case rel => exact ⟨i + 1, by omega, by go_num, HNQ⟩
                case measure => simp [RowKit.intOf]; omega
              · have hiI : ¬ (i : Int) < (k : Int) := by omega
                obtain rfl : i = k := by omega
                have HFIN : Hid (wr.heap[D + 1]? = some (.loop (r .busy none)) ∧ J (j + 1) (wr.putObj (D + 1) (.loop (r .ready none)))) := Lib.hid (by
                  obtain ⟨h1, h2, h3, h4, _⟩ := HI.out
                  refine ⟨h2, ?_⟩
                  rw [hJ]
                  obtain ⟨Z, hZ⟩ : ∃ Z, wr.putObj (D + 1) (.loop (r .ready none)) = Z := ⟨_, rfl⟩
                  have hoZ : ∀ a, a ≠ D + 1 → Z.heap[a]? = wr.heap[a]? := fun a ha => by rw [← hZ]; exact World.putObj_heap_other ha
                  have hcZ : ∀ (a : Nat) (cs : Array Value) (t : TypeId), wr.heap[a]? = some (.cells cs t (0, 0)) → Z.heap[a]? = some (.cells cs t (0, 0)) := fun a cs t h => (hoZ a (fun e => by rw [e, h2] at h; cases h)).trans h
                  have hlZ : Z.heap[D + 1]? = some (.loop (r .ready none)) := by rw [← hZ]; exact World.putObj_heap_same (row_lt h2)
                  have hbZ : Below W3.heap.size wr Z := by rw [← hZ]; exact RL.below_put (by omega) h1.below.size
                  rw [hZ]
                  refine ⟨(h1.kept hcZ (h1.below.trans hbZ)).congr fun a ha b hb => ?_, hlZ, (hoZ D (by omega)).trans h3, hcZ _ _ _ h4⟩
                  rw [HCD.out]
                  by_cases h : b < j + 1
                  · rw [if_pos h, if_pos (by omega)]
                  · rw [if_neg h, if_neg (by omega)])
                clear HI
                gi_wp2
                exact ⟨HFIN.out.1, rfl, by have h := HFIN.out.2; rw [hJ] at h; exact h⟩
        have hrun := columns1_in (4 - 1) (by omega) (D + 1) P ro cr k L F (by omega) HLL.out J hKR hKS (by rw [HNE.out]; exact hKY) W5 h0
        rw [HNE.out] at hrun
        refine CallsIn.mono hrun ?_
        rintro E Y ⟨hret, hjY⟩
        rw [hJ] at hjY
        obtain ⟨hgY, hlY, hDY, hPY⟩ := hjY
        refine ⟨hret, .inl ⟨hlY, ?_⟩⟩
        obtain ⟨Y1, hY1⟩ : ∃ Y1, Y.putObj (D + 1) (.loop (r .exhausted none)) = Y1 := ⟨_, rfl⟩
        have hoY : ∀ a, a ≠ D + 1 → Y1.heap[a]? = Y.heap[a]? := fun a ha => by rw [← hY1]; exact World.putObj_heap_other ha
        have hcY : ∀ (a : Nat) (cs : Array Value) (t : TypeId), Y.heap[a]? = some (.cells cs t (0, 0)) → Y1.heap[a]? = some (.cells cs t (0, 0)) := fun a cs t h => (hoY a (fun e => by rw [e, hlY] at h; cases h)).trans h
        have hbY : Below W3.heap.size Y Y1 := by rw [← hY1]; exact RL.below_put (by omega) hgY.below.size
        have hgY1 := (hgY.kept hcY (hgY.below.trans hbY)).congr (A' := fun i b => MM.thruU q z (MM.trn L F b) k i) fun i _ b hb => by rw [if_pos hb]
        have hmk : Marks [D] Y1 := ⟨by simp, fun E hE => by
          have e : E = D := by simpa using hE
          rw [e]; exact (hoY D (by omega)).trans hDY⟩
        have HMK := Lib.hid hmk
        have HGY := Lib.hid hgY1
        have zb := hgY1.box.cell
        rw [hY1]
        clear hrun hKY hKS hKR h0 hJ hg5 hp5 hl5 hD5 hW5 b4 b5 hbp h4 hgY hlY hDY hPY hY1 hoY hcY hbY hgY1 hmk hg HJ
        gi_wp2
        refine leaves_marks (B := W3.heap.size) [D] Y1 HMK.out (fun E hE => by
          have e : E = D := by simpa using hE
          omega) fun w' hb hcs => ?_
        refine ⟨.tuple #[.slice (some ⟨G, 0, none⟩) k k, .int .i64 0], ?_, G, rfl, bx, R, (HGY.out.kept (fun a cs t h => hcs a cs t _ h) (HGY.out.below.trans hb)).from b03⟩
        simp [results, Try.results7, go_sem]
end M
end Go.Proofs.Ytccpdjjgpkkkbaa

/- BivW5: The walk of the polynomial of two through rows where something is wrong with its points, and its word for all arguments. -/
namespace Go.Proofs.Ytccpdjjgpkkkbaa
open Go Go.RowKit Go.Lib Go.Shelf
namespace M
attribute [local go_sem] Oper.semAt_some
/-- What the judging of the points ends in. -/
def Judged2 (w0 : World) (n m : Nat) (xo : Option Addr) (cx : Nat) (ro : Option Addr) (cr q : Nat) (c : Int) (a a' : Act) (w' : World) : Prop := ∃ B0 v, Below w0.heap.size w0 w' ∧
  a' = { a with tmps := (((((((((a.tmps.setIfInBounds 19 (.slice xo n cx)).setIfInBounds 20 (.slice ro m cr)).setIfInBounds 22 (.int .u64 (q : Int))).setIfInBounds 21 (.slice (some ⟨B0, 0, none⟩) m m)).setIfInBounds 23 (.tuple #[v, .int .i64 c])).setIfInBounds 18 (.tuple #[v, .int .i64 c])).setIfInBounds 24 v).setIfInBounds 25 (.int .i64 c)).setIfInBounds 8 v).setIfInBounds 9 (.int .i64 c) }
set_option maxRecDepth 100000 in
set_option maxHeartbeats 8000000 in
theorem bthrough_bad (xo ro : Option Addr) (n m cx cr q : Nat) (z : Nat → Nat) (L : Nat → Nat) (F : Nat → Nat → Nat) (hz : ∀ k, z k < 18446744073709551616) (hF : ∀ i j, F i j < 18446744073709551616) (hn : n ≤ 12) (hm : m ≤ 1000) (hC : MM.thruC q n m z ≠ 0) (w : World) (hr : Rd w xo n z) (hs : Mat w ro m L F) :
    Calls Try.prog 7 #[.slice xo n cx, .slice ro m cr, .int .u64 (q : Int)] w fun e w' => e = .returned (.tuple #[.slice none 0 0, .int .i64 (MM.thruC q n m z)]) ∧ Below w.heap.size w w' := by
  refine (callsIn_wide (n := 4)).1 ?_
  have HCOL := Lib.hid (fun (u : World) (hb : Below w.heap.size w u) => column_any ro cr m 0 L F (by omega) u (hs.below hb))
  change Hid (∀ u, Below w.heap.size w u → Calls Try.prog 23 #[.slice ro m cr, .int .i64 0] u fun e w' => ∃ B, e = .returned (.slice (some ⟨B, 0, none⟩) m m) ∧ Mine u B m (MM.trn L F 0) w') at HCOL
  have HTH := Lib.hid (fun (u : World) (bo : Option Addr) (c2 : Nat) (y : Nat → Nat) (hy : ∀ k, y k < 18446744073709551616) (hb : Below w.heap.size w u) (h : Rd u bo m y) => thruP_any xo bo n m cx c2 q z y hz hy hn u (hr.below hb) h)
  have HTL := Lib.hid (fun j k => MM.trn_lt (L := L) hF j k)
  obtain ⟨c, hc⟩ : ∃ c, MM.thruC q n m z = c := ⟨_, rfl⟩
  rw [hc] at HTH hC ⊢
  have hcb : (c != 0) = true := by simpa using hC
  clear hz hF hr hs hc
  have hl1 : 1 ≤ 4 := by omega
  refine callsIn_of_wp Try.func7 rfl trivial ?_ rfl
  simp only [Try.ntmps7, List.size_toArray, List.length_cons, List.length_nil, Nat.reduceAdd, Nat.reduceSub, Array.replicate_succ, Array.replicate_zero, List.push_toArray, List.append_toArray, List.nil_append, List.cons_append]
  gi_upto_region 1 with fail
  obtain ⟨g, hg⟩ : ∃ g, w.heap.size = g := ⟨_, rfl⟩
  obtain ⟨W1, h1, b1, s1, x1, x2⟩ := boxes2 w 23 22 (.slice xo n cx) (.int .u64 (q : Int))
  rw [hg] at s1 x1 x2
  rw [h1, hg]
  clear h1
  refine wpIn_wide.2 (RK.cut (Judged2 W1 n m xo cx ro cr q c) (RK.region (Below W1.heap.size W1) 100 (by kernel_rfl) ?_) ?_)
  · have HS0 : Below W1.heap.size W1 W1.drew := below_drewN' W1 1 _
    refine RK.Any.take 0 19 (.slice xo n cx) rfl rfl (by kernel_rfl) (by kernel_rfl) (by kernel_rfl) (by kernel_rfl) (fun _ _ _ h => by cases h.1) (by rfl) (fun W' hb => ?_) HS0 ?_
    · have c := (x1.below hb).cell; go_simp
    simp only [List.setIfInBounds_toArray, List.set_cons_zero, List.set_cons_succ]
    refine RK.Any.take 1 20 (.slice ro m cr) rfl rfl (by kernel_rfl) (by kernel_rfl) (by kernel_rfl) (by kernel_rfl) (fun _ _ _ h => by cases h.1) (by rfl) (fun W' hb => ?_) HS0 ?_
    · skip; go_simp
    simp only [List.setIfInBounds_toArray, List.set_cons_zero, List.set_cons_succ]
    refine RK.Any.take 3 22 (.int .u64 (q : Int)) rfl rfl (by kernel_rfl) (by kernel_rfl) (by kernel_rfl) (by kernel_rfl) (fun _ _ _ h => by cases h.1) (by rfl) (fun W' hb => ?_) HS0 ?_
    · have c := (x2.below hb).cell; go_simp
    simp only [List.setIfInBounds_toArray, List.set_cons_zero, List.set_cons_succ]
    refine RK.Any.call 2 21 23 #[.slice ro m cr, .int .i64 0] (by kernel_rfl) rfl rfl (by rfl) (by go_simp) (Calls.mono (HCOL.out _ (b1.trans (HS0.mono b1.size))) ?_)
    rintro E W2 ⟨B0, rfl, hm2⟩
    have HS2 : Below W1.heap.size W1 W2 := HS0.trans (hm2.below.mono HS0.size)
    refine ⟨_, rfl, fun _ => HS2, ?_⟩
    simp only [List.setIfInBounds_toArray, List.set_cons_zero, List.set_cons_succ]
    refine RK.Any.call 4 23 22 #[.slice xo n cx, .slice (some ⟨B0, 0, none⟩) m m, .int .u64 (q : Int)] (by kernel_rfl) rfl rfl (by rfl) (by go_simp) (Calls.mono (HTH.out W2 (some ⟨B0, 0, none⟩) m _ (fun k => HTL.out 0 k) (b1.trans (HS2.mono b1.size)) hm2.rd) ?_)
    rintro E W3 ⟨v3, rfl, hb3, hnil, _⟩
    obtain rfl := hnil hC
    have HS3 : Below W1.heap.size W1 W3 := HS2.trans (hb3.mono HS2.size)
    refine ⟨_, rfl, fun _ => HS3, ?_⟩
    simp only [List.setIfInBounds_toArray, List.set_cons_zero, List.set_cons_succ]
    refine RK.Any.take 5 18 (.tuple #[.slice none 0 0, .int .i64 c]) rfl rfl (by kernel_rfl) (by kernel_rfl) (by kernel_rfl) (by kernel_rfl) (fun _ _ _ h => by cases h.1) (by rfl) (fun W' hb => ?_) HS3 ?_
    · skip; go_simp
    simp only [List.setIfInBounds_toArray, List.set_cons_zero, List.set_cons_succ]
    refine RK.Any.take 6 24 (.slice none 0 0) rfl rfl (by kernel_rfl) (by kernel_rfl) (by kernel_rfl) (by kernel_rfl) (fun _ _ _ h => by cases h.1) (by rfl) (fun W' hb => ?_) HS3 ?_
    · skip; go_simp
    simp only [List.setIfInBounds_toArray, List.set_cons_zero, List.set_cons_succ]
    refine RK.Any.take 7 25 (.int .i64 c) rfl rfl (by kernel_rfl) (by kernel_rfl) (by kernel_rfl) (by kernel_rfl) (fun _ _ _ h => by cases h.1) (by rfl) (fun W' hb => ?_) HS3 ?_
    · skip; go_simp
    simp only [List.setIfInBounds_toArray, List.set_cons_zero, List.set_cons_succ]
    refine RK.Any.take 8 8 (.slice none 0 0) rfl rfl (by kernel_rfl) (by kernel_rfl) (by kernel_rfl) (by kernel_rfl) (fun _ _ _ h => by cases h.1) (by rfl) (fun W' hb => ?_) HS3 ?_
    · skip; go_simp
    simp only [List.setIfInBounds_toArray, List.set_cons_zero, List.set_cons_succ]
    refine RK.Any.take 9 9 (.int .i64 c) rfl rfl (by kernel_rfl) (by kernel_rfl) (by kernel_rfl) (by kernel_rfl) (fun _ _ _ h => by cases h.1) (by rfl) (fun W' hb => ?_) HS3 ?_
    · skip; go_simp
    simp only [List.setIfInBounds_toArray, List.set_cons_zero, List.set_cons_succ]
    refine RK.Any.done (by kernel_rfl) ?_
    refine ⟨rfl, B0, .slice none 0 0, HS3, ?_⟩
    simp only [List.setIfInBounds_toArray, List.set_cons_zero, List.set_cons_succ]
  rintro a1 W3 ⟨B0, v3, HS3, rfl⟩
  simp only [List.setIfInBounds_toArray, List.set_cons_zero, List.set_cons_succ]
  have b03 : Below w.heap.size w W3 := b1.trans (HS3.mono b1.size)
  clear HS3 x1 x2 b1 HCOL HTH
  gi_wp2
  refine bodyPost_ret (v := .tuple #[.slice none 0 0, .int .i64 c]) (by simp [results, Try.results7, go_sem]) rfl ⟨rfl, b03⟩
end M
end Go.Proofs.Ytccpdjjgpkkkbaa

/- ThruE: The polynomial through points as it is reckoned, for closed statements. Nothing here speaks of the program. -/
namespace Go.Proofs.Ytccpdjjgpkkkbaa
namespace MM
/-! ### As it is reckoned. -/
def eu (m : Nat) : Nat → Nat → Nat → Nat → Nat → Nat
  | 0, _, _, inv, _ => inv
  | k + 1, rest, next, inv, aft => if next = 0 then inv else eu m k next (rest % next) aft (subm inv (rest / next * aft % m) m)
theorem eu_inv {a m : Nat} (hg : Nat.gcd a m = 1) : ∀ k rest next inv aft, next < k → InvAt a m rest next inv aft → IsInv a m (eu m k rest next inv aft)
  | 0, _, _, _, _, h, _ => absurd h (by omega)
  | k + 1, rest, next, inv, aft, hk, h => by
    unfold eu
    by_cases e : next = 0
    · subst e
      rw [if_pos rfl]
      obtain ⟨h1, h2⟩ := h.done
      exact h2 (by rw [h1, hg])
    · rw [if_neg e]
      exact eu_inv hg k _ _ _ _ (by have := Nat.mod_lt rest (Nat.pos_of_ne_zero e); omega) (h.step (Nat.pos_of_ne_zero e))
def invE (a m : Nat) : Nat := if Good m ∧ Nat.gcd a m = 1 then eu m (m + 1) m (a % m) 0 1 else 0
theorem invU_eq (a m : Nat) : invU a m = invE a m := by
  by_cases h : Good m ∧ Nat.gcd a m = 1
  · have h1 := eu_inv h.2 (m + 1) m (a % m) 0 1 (by have := Nat.mod_lt a h.1.1; omega) (InvAt.start a m h.1.1)
    rw [invU_of h.1 h1]; unfold invE; rw [if_pos h]
  · unfold invU invE; rw [if_neg h, if_neg h]
def facE (q : Nat) (z y : Nat → Nat) (i : Nat) (o : Nat → Nat) : Nat := mulU (subU (y i) (evalU o (z i) q i) q) (invE (evalU (noneU q z i) (z i) q (i + 1)) q) q
def thruE (q : Nat) (z y : Nat → Nat) : Nat → Nat → Nat
  | 0 => fun _ => 0
  | i + 1 => sumU i (i + 1) q (thruE q z y i) (scaleU (facE q z y i (thruE q z y i)) q (noneU q z i))
theorem thruE_eq (q : Nat) (z y : Nat → Nat) : ∀ n, thruU q z y n = thruE q z y n
  | 0 => rfl
  | n + 1 => by
    rw [thruU, thruE, thruE_eq q z y n]
    unfold facU facE
    rw [invU_eq]
end MM
end Go.Proofs.Ytccpdjjgpkkkbaa

/- Law06b: What package bivar's calls answer at given lists, as facts that a walk meets; lists of lists in new memory; the examples that each statement of layer 6 asks for ahead of its own. -/
namespace Go.Proofs.Ytccpdjjgpkkkbaa
open Go Go.RowKit Go.Lib
namespace MM
def nl (l : List Nat) (k : Nat) : Nat := l.getD k 0
def lenL (rows : List (List Nat)) (i : Nat) : Nat := (rows.getD i []).length
def nlR (rows : List (List Nat)) (i : Nat) : Nat → Nat := nl (rows.getD i [])
theorem nl_lt {l : List Nat} (h : l.all (· < 18446744073709551616) = true) (k : Nat) : nl l k < 18446744073709551616 := by
  unfold nl
  by_cases hk : k < l.length
  · rw [List.getD_eq_getElem?_getD, List.getElem?_eq_getElem hk]
    have := List.all_eq_true.1 h _ (List.getElem_mem hk)
    simpa using this
  · rw [List.getD_eq_getElem?_getD, List.getElem?_eq_none (by omega)]; show (0 : Nat) < _; omega
theorem nlR_lt {rows : List (List Nat)} (h : rows.all (fun l => l.all (· < 18446744073709551616)) = true) (i k : Nat) : nlR rows i k < 18446744073709551616 := by
  unfold nlR
  by_cases hk : i < rows.length
  · rw [List.getD_eq_getElem?_getD, List.getElem?_eq_getElem hk]
    exact nl_lt (List.all_eq_true.1 h _ (List.getElem_mem hk)) k
  · rw [List.getD_eq_getElem?_getD, List.getElem?_eq_none (by omega)]; show (0 : Nat) < _; omega
end MM
namespace M
def ua (l : List Nat) : Array Value := (l.map fun (x : Nat) => Value.int .u64 (x : Int)).toArray
/-- A row in a new block. -/
theorem row_at {W : World} (l : List Nat) {b n : Nat} (hb : W.heap.size = b) (hn : l.length = n) : Row (W.alloc (.cells (ua l) 22)) ⟨b, 0, none⟩ n (MM.nl l) := by
  subst hb hn
  refine Row.of_block (heap_alloc_new _ _) fun k hk => ?_
  unfold ua MM.nl
  rw [List.getD_eq_getElem?_getD]
  simp [hk]
theorem row_rd' {W : World} {a : Addr} {n : Nat} {z : Nat → Nat} (h : Row W a n z) : Rd W (some a) n z := fun _ => ⟨_, rfl, h⟩
theorem rd_nil (W : World) (z : Nat → Nat) : Rd W none 0 z := fun h => absurd h (by omega)
theorem Row.alloc {W : World} {a : Addr} {n : Nat} {z : Nat → Nat} (h : Row W a n z) (o : Obj) : Row (W.alloc o) a n z := h.below (below_box _ _)
theorem Rd.alloc {W : World} {ao : Option Addr} {n : Nat} {z : Nat → Nat} (h : Rd W ao n z) (o : Obj) : Rd (W.alloc o) ao n z := h.below (below_box _ _)
theorem Mat.alloc {W : World} {ao : Option Addr} {m : Nat} {L : Nat → Nat} {F : Nat → Nat → Nat} (h : Mat W ao m L F) (o : Obj) : Mat (W.alloc o) ao m L F := h.below (below_box _ _)
/-- A slice that reads as a list. -/
def Sl (W : World) (v : Value) (l : List Nat) : Prop := ∃ bo c, v = .slice bo l.length c ∧ SrcN W bo l.length c (MM.nl l)
theorem Sl.nil (W : World) : Sl W (.slice none 0 0) [] := ⟨none, 0, rfl, rd_nil _ _, fun _ => ⟨rfl, rfl⟩⟩
theorem Sl.row {W : World} {a n : Nat} {l : List Nat} (h : Row W ⟨a, 0, none⟩ n (MM.nl l)) (hn : l.length = n) : Sl W (.slice (some ⟨a, 0, none⟩) n n) l := by subst hn; exact ⟨_, _, rfl, row_rd' h, fun h => by cases h⟩
theorem mat_new {W : World} {vs : List Value} {rows : List (List Nat)} {b m : Nat} (hb : W.heap.size = b) (hm : rows.length = m) (h : ∀ i, i < m → ∃ v, vs[i]? = some v ∧ Sl W v (rows.getD i [])) : Mat (W.alloc (.cells vs.toArray 23)) (some ⟨b, 0, none⟩) m (MM.lenL rows) (MM.nlR rows) := fun i hi => by
  subst hb hm
  obtain ⟨v, h1, bo, c, rfl, h2⟩ := h i hi
  refine ⟨_, bo, c, rfl, ?_, h2.below (below_box _ _)⟩
  rw [add_zero', cell_of_row _ _ _ _ _ _ (heap_alloc_new W _), List.getElem?_toArray]
  exact h1
theorem mat1 {W : World} {v0 : Value} {l0 : List Nat} {b : Nat} (hb : W.heap.size = b) (h0 : Sl W v0 l0) : Mat (W.alloc (.cells #[v0] 23)) (some ⟨b, 0, none⟩) 1 (MM.lenL [l0]) (MM.nlR [l0]) :=
  mat_new (vs := [v0]) hb rfl fun i hi => by
    match i, hi with
    | 0, _ => exact ⟨_, rfl, h0⟩
theorem mat2 {W : World} {v0 v1 : Value} {l0 l1 : List Nat} {b : Nat} (hb : W.heap.size = b) (h0 : Sl W v0 l0) (h1 : Sl W v1 l1) : Mat (W.alloc (.cells #[v0, v1] 23)) (some ⟨b, 0, none⟩) 2 (MM.lenL [l0, l1]) (MM.nlR [l0, l1]) :=
  mat_new (vs := [v0, v1]) hb rfl fun i hi => by
    match i, hi with
    | 0, _ => exact ⟨_, rfl, h0⟩
    | 1, _ => exact ⟨_, rfl, h1⟩
theorem mat3 {W : World} {v0 v1 v2 : Value} {l0 l1 l2 : List Nat} {b : Nat} (hb : W.heap.size = b) (h0 : Sl W v0 l0) (h1 : Sl W v1 l1) (h2 : Sl W v2 l2) : Mat (W.alloc (.cells #[v0, v1, v2] 23)) (some ⟨b, 0, none⟩) 3 (MM.lenL [l0, l1, l2]) (MM.nlR [l0, l1, l2]) :=
  mat_new (vs := [v0, v1, v2]) hb rfl fun i hi => by
    match i, hi with
    | 0, _ => exact ⟨_, rfl, h0⟩
    | 1, _ => exact ⟨_, rfl, h1⟩
    | 2, _ => exact ⟨_, rfl, h2⟩
theorem mat0 (W : World) (rows : List (List Nat)) : Mat W none 0 (MM.lenL rows) (MM.nlR rows) := fun _ h => absurd h (by omega)
/-- The polynomial through rows, at lists. -/
theorem through_is (lx : List Nat) (rows res : List (List Nat)) (q n N : Nat) {qi : Int} (hq : (q : Int) = qi) (hx : lx.all (· < 18446744073709551616) = true) (hr : rows.all (fun l => l.all (· < 18446744073709551616)) = true)
    (h : n ≤ 12 ∧ MM.widU (MM.lenL rows) n = N ∧ N ≤ 1000 ∧ MM.thruC q n n (MM.nl lx) = 0 ∧ (∀ i, i < n → MM.lenL res i = N) ∧ ∀ i, i < n → ∀ j, j < N → MM.thruE q (MM.nl lx) (MM.trn (MM.lenL rows) (MM.nlR rows) j) n i = MM.nlR res i j)
    {W : World} {xo ro : Option Addr} {cx cr : Nat} (h1 : Rd W xo n (MM.nl lx)) (h2 : Mat W ro n (MM.lenL rows) (MM.nlR rows)) :
    Calls Try.prog 7 #[.slice xo n cx, .slice ro n cr, .int .u64 qi] W fun e w' => ∃ G, e = .returned (.tuple #[.slice (some ⟨G, 0, none⟩) n n, .int .i64 0]) ∧ Mat w' (some ⟨G, 0, none⟩) n (MM.lenL res) (MM.nlR res) ∧ Below W.heap.size W w' := by
  subst hq
  obtain ⟨a1, a2, a3, a4, a5, a6⟩ := h
  refine (bthrough_ok xo ro n cx cr q (MM.nl lx) _ _ (MM.nl_lt hx) (MM.nlR_lt hr) a1 (fun i hi => Nat.le_trans (MM.le_widU hi) (by omega)) a4 W h1 h2).mono ?_
  rintro e w' ⟨G, bx, R, rfl, hg⟩
  rw [a2] at hg
  refine ⟨G, rfl, hg.mat.congr (fun i hi => (a5 i hi).symm) fun i hi j hj => ?_, hg.below⟩
  rw [MM.thruE_eq]
  exact a6 i hi j hj
/-- .. refused. -/
theorem through_no (lx : List Nat) (rows : List (List Nat)) (q n m : Nat) (c : Int) {qi : Int} (hq : (q : Int) = qi) (hx : lx.all (· < 18446744073709551616) = true) (hr : rows.all (fun l => l.all (· < 18446744073709551616)) = true)
    (h : n ≤ 12 ∧ m ≤ 1000 ∧ MM.thruC q n m (MM.nl lx) = c ∧ c ≠ 0) {W : World} {xo ro : Option Addr} {cx cr : Nat} (h1 : Rd W xo n (MM.nl lx)) (h2 : Mat W ro m (MM.lenL rows) (MM.nlR rows)) :
    Calls Try.prog 7 #[.slice xo n cx, .slice ro m cr, .int .u64 qi] W fun e w' => e = .returned (.tuple #[.slice none 0 0, .int .i64 c]) ∧ Below W.heap.size W w' := by
  subst hq
  obtain ⟨a1, a2, a3, a4⟩ := h
  have := bthrough_bad xo ro n m cx cr q (MM.nl lx) _ _ (MM.nl_lt hx) (MM.nlR_lt hr) a1 a2 (by rw [a3]; exact a4) W h1 h2
  rwa [a3] at this
theorem at_is (rows : List (List Nat)) (x y q m v : Nat) {xi yi qi vi : Int} (hx : (x : Int) = xi) (hy : (y : Int) = yi) (hq : (q : Int) = qi) (hv : (v : Int) = vi)
    (h : m ≤ 1000 ∧ (∀ i, i < m → MM.lenL rows i ≤ 1000) ∧ x < 18446744073709551616 ∧ y < 18446744073709551616 ∧ MM.atP q x y m (MM.lenL rows) (MM.nlR rows) = v) {W : World} {ao : Option Addr} {c : Nat} (hm : Mat W ao m (MM.lenL rows) (MM.nlR rows)) :
    Calls Try.prog 10 #[.slice ao m c, .int .u64 xi, .int .u64 yi, .int .u64 qi] W fun e w' => e = .returned (.int .u64 vi) ∧ Below W.heap.size W w' := by
  subst hx hy hq hv
  obtain ⟨a1, a2, a3, a4, a5⟩ := h
  have := at_any ao c m x y q _ _ a1 a2 a3 a4 W hm
  rwa [a5] at this
theorem row_is (rows : List (List Nat)) (res : List Nat) (x q m n : Nat) {xi qi : Int} (hx : (x : Int) = xi) (hq : (q : Int) = qi) (hr : rows.all (fun l => l.all (· < 18446744073709551616)) = true)
    (h : m ≤ 1000 ∧ (∀ i, i < m → MM.lenL rows i ≤ 1000) ∧ x < 18446744073709551616 ∧ MM.widU (MM.lenL rows) m = n ∧ ∀ j, j < n → MM.rowP q x (MM.lenL rows) (MM.nlR rows) j m = MM.nl res j) {W : World} {ao : Option Addr} {c : Nat} (hm : Mat W ao m (MM.lenL rows) (MM.nlR rows)) :
    Calls Try.prog 11 #[.slice ao m c, .int .u64 xi, .int .u64 qi] W fun e w' => ∃ B, e = .returned (.slice (some ⟨B, 0, none⟩) n n) ∧ Row w' ⟨B, 0, none⟩ n (MM.nl res) ∧ Below W.heap.size W w' := by
  subst hx hq
  obtain ⟨a1, a2, a3, a4, a5⟩ := h
  refine (row_any ao c m x q _ _ a1 a2 (MM.nlR_lt hr) a3 W hm).mono ?_
  rintro e w' ⟨rfl, h⟩
  rw [a4] at h ⊢
  exact ⟨_, rfl, fun k hk => by rw [h.row k hk]; simp only [a5 k hk], h.below⟩
theorem col_is (rows : List (List Nat)) (res : List Nat) (y q m : Nat) {yi qi : Int} (hy : (y : Int) = yi) (hq : (q : Int) = qi)
    (h : m ≤ 1000 ∧ (∀ i, i < m → MM.lenL rows i ≤ 1000) ∧ y < 18446744073709551616 ∧ ∀ j, j < m → MM.colP q y (MM.lenL rows) (MM.nlR rows) j = MM.nl res j) {W : World} {ao : Option Addr} {c : Nat} (hm : Mat W ao m (MM.lenL rows) (MM.nlR rows)) :
    Calls Try.prog 12 #[.slice ao m c, .int .u64 yi, .int .u64 qi] W fun e w' => ∃ B, e = .returned (.slice (some ⟨B, 0, none⟩) m m) ∧ Row w' ⟨B, 0, none⟩ m (MM.nl res) ∧ Below W.heap.size W w' := by
  subst hy hq
  obtain ⟨a1, a2, a3, a4⟩ := h
  refine (col_any ao c m y q _ _ a1 a2 a3 W hm).mono ?_
  rintro e w' ⟨rfl, h⟩
  exact ⟨_, rfl, fun k hk => by rw [h.row k hk, a4 k hk], h.below⟩
theorem nums_is {W : World} {ao bo : Option Addr} {n ca cb : Nat} {z : Nat → Nat} (hn : n ≤ 1000) (ha : Rd W ao n z) (hb : Rd W bo n z) :
    Calls Try.prog 13 #[.slice ao n ca, .slice bo n cb] W fun e w' => e = .returned (.bool true) ∧ Below W.heap.size W w' :=
  (rnums_yes ao bo n ca cb z (by omega) W ha hb).mono fun e w' ⟨he, d, hd⟩ => ⟨he, hd ▸ below_drewN' _ _ _⟩
theorem polys_is {W : World} {ao bo : Option Addr} {m ca cb : Nat} {L : Nat → Nat} {F : Nat → Nat → Nat} (hm : m ≤ 1000 ∧ ∀ i, i < m → L i ≤ 1000) (ha : Mat W ao m L F) (hb : Mat W bo m L F) :
    Calls Try.prog 9 #[.slice ao m ca, .slice bo m cb] W fun e w' => e = .returned (.bool true) ∧ Below W.heap.size W w' :=
  (rpolys_yes ao bo m ca cb L F (by omega) hm.2 W ha hb).mono fun e w' ⟨he, d, hd⟩ => ⟨he, hd ▸ below_drewN' _ _ _⟩
/-- What was there at w stands. -/
structure St (w W : World) : Prop where
  below : Below w.heap.size w W
theorem St.start (w : World) : St w w := ⟨Below.refl _ _⟩
theorem St.step {w W W' : World} (h : St w W) (hb : Below W.heap.size W W') : St w W' := ⟨h.below.trans (hb.mono h.below.size)⟩
theorem St.alloc {w W : World} (h : St w W) (o : Obj) : St w (W.alloc o) := h.step (below_box _ _)
set_option maxHeartbeats 8000000 in
set_option maxRecDepth 100000 in
theorem works_any (w : World) : Calls Try.prog 8 #[] w fun e w' => e = .returned (.bool true) ∧ Below w.heap.size w w' := by
  have hF : Mat (((w.alloc (.cells #[.int .u64 1, .int .u64 2] 22)).alloc (.cells #[.int .u64 3, .int .u64 4] 22)).alloc (.cells #[.slice (some ⟨w.heap.size, 0, none⟩) 2 2, .slice (some ⟨w.heap.size + 1, 0, none⟩) 2 2] 23)) (some ⟨w.heap.size + 1 + 1, 0, none⟩) 2 (MM.lenL [[1, 2], [3, 4]]) (MM.nlR [[1, 2], [3, 4]]) := mat2 (by simp) (Sl.row ((row_at [1, 2] rfl rfl).alloc _) rfl) (Sl.row (row_at [3, 4] (by simp) rfl) rfl)
  have hS : St w (((w.alloc (.cells #[.int .u64 1, .int .u64 2] 22)).alloc (.cells #[.int .u64 3, .int .u64 4] 22)).alloc (.cells #[.slice (some ⟨w.heap.size, 0, none⟩) 2 2, .slice (some ⟨w.heap.size + 1, 0, none⟩) 2 2] 23)) := (((St.start w).alloc _).alloc _).alloc _
  go_enter Try.func8, Try.ntmps8
  go_upto_region 2 with fail
  generalize ((w.alloc (.cells #[.int .u64 1, .int .u64 2] 22)).alloc (.cells #[.int .u64 3, .int .u64 4] 22)).alloc (.cells #[.slice (some ⟨w.heap.size, 0, none⟩) 2 2, .slice (some ⟨w.heap.size + 1, 0, none⟩) 2 2] 23) = W1 at *
  generalize w.heap.size + 1 + 1 = B at *
  have HF := Lib.hid hF
  have HS := Lib.hid hS
  clear hF hS
  go_wp2_with fail
  refine (through_is [1, 2] [[4, 6], [7, 10]] [[1, 2], [3, 4]] 11 2 2 rfl (by decide) (by decide) (by decide +kernel) ((((row_rd' (row_at [1, 2] rfl rfl)).alloc _).alloc _).alloc _) (mat2 (by simp) (Sl.row ((row_at [4, 6] (by simp) rfl).alloc _) rfl) (Sl.row (row_at [7, 10] (by simp) rfl) rfl))).mono ?_
  rintro e w2 ⟨G, rfl, hg, hb⟩
  have HF2 := Lib.hid (((((HF.out.alloc _).alloc _).alloc _).alloc _).below hb)
  have HS2 := Lib.hid (((((HS.out.alloc _).alloc _).alloc _).alloc _).step hb)
  have HG2 := Lib.hid hg
  clear hg hb HF HS
  go_wp2_with fail
  refine (through_no [1, 12] [[4, 6], [7, 10]] 11 2 2 6 rfl (by decide) (by decide) (by decide +kernel) ((((row_rd' (row_at [1, 12] rfl rfl)).alloc _).alloc _).alloc _) (mat2 (by simp) (Sl.row ((row_at [4, 6] (by simp) rfl).alloc _) rfl) (Sl.row (row_at [7, 10] (by simp) rfl) rfl))).mono ?_
  rintro e w3 ⟨rfl, hb⟩
  have HF3 := Lib.hid (((((HF2.out.alloc _).alloc _).alloc _).alloc _).below hb)
  have HS3 := Lib.hid (((((HS2.out.alloc _).alloc _).alloc _).alloc _).step hb)
  have HG3 := Lib.hid (((((HG2.out.alloc _).alloc _).alloc _).alloc _).below hb)
  clear hb HF2 HS2 HG2
  go_wp2_with fail
  refine (through_no [1, 2] [[4]] 11 2 1 1 rfl (by decide) (by decide) (by decide +kernel) (((row_rd' (row_at [1, 2] rfl rfl)).alloc _).alloc _) (mat1 (by simp) (Sl.row (row_at [4] (by simp) rfl) rfl))).mono ?_
  rintro e w4 ⟨rfl, hb⟩
  have HF4 := Lib.hid ((((HF3.out.alloc _).alloc _).alloc _).below hb)
  have HS4 := Lib.hid ((((HS3.out.alloc _).alloc _).alloc _).step hb)
  have HG4 := Lib.hid ((((HG3.out.alloc _).alloc _).alloc _).below hb)
  clear hb HF3 HS3 HG3
  go_wp2_with fail
  refine (at_is [[1, 2], [3, 4]] 2 5 11 2 2 rfl rfl rfl rfl (by decide +kernel) HF4.out).mono ?_
  rintro e w5 ⟨rfl, hb⟩
  have HF5 := Lib.hid (HF4.out.below hb)
  have HS5 := Lib.hid (HS4.out.step hb)
  have HG5 := Lib.hid (HG4.out.below hb)
  clear hb HF4 HS4 HG4
  go_wp2_with fail
  refine (row_is [[1, 2], [3, 4]] [7, 10] 2 11 2 2 rfl rfl (by decide) (by decide +kernel) HF5.out).mono ?_
  rintro e w6 ⟨B6, rfl, hr, hb⟩
  have HF6 := Lib.hid (HF5.out.below hb)
  have HS6 := Lib.hid (HS5.out.step hb)
  have HG6 := Lib.hid (HG5.out.below hb)
  have HR6 := Lib.hid hr
  clear hb hr HF5 HS5 HG5
  go_wp2_with fail
  refine (nums_is (by decide) (row_rd' (HR6.out.alloc _)) (row_rd' (row_at [7, 10] rfl rfl))).mono ?_
  rintro e w7 ⟨rfl, hb⟩
  have HF7 := Lib.hid ((HF6.out.alloc _).below hb)
  have HS7 := Lib.hid ((HS6.out.alloc _).step hb)
  have HG7 := Lib.hid ((HG6.out.alloc _).below hb)
  clear hb HF6 HS6 HG6 HR6
  go_wp2_with fail
  refine (col_is [[1, 2], [3, 4]] [0, 1] 5 11 2 rfl rfl (by decide +kernel) HF7.out).mono ?_
  rintro e w8 ⟨B8, rfl, hr, hb⟩
  have HF8 := Lib.hid (HF7.out.below hb)
  have HS8 := Lib.hid (HS7.out.step hb)
  have HG8 := Lib.hid (HG7.out.below hb)
  have HR8 := Lib.hid hr
  clear hb hr HF7 HS7 HG7
  go_wp2_with fail
  refine (nums_is (by decide) (row_rd' (HR8.out.alloc _)) (row_rd' (row_at [0, 1] rfl rfl))).mono ?_
  rintro e w9 ⟨rfl, hb⟩
  have HF9 := Lib.hid ((HF8.out.alloc _).below hb)
  have HS9 := Lib.hid ((HS8.out.alloc _).step hb)
  have HG9 := Lib.hid ((HG8.out.alloc _).below hb)
  clear hb HF8 HS8 HG8 HR8
  go_wp2_with fail
  refine (polys_is (by decide) HG9.out HF9.out).mono ?_
  rintro e w10 ⟨rfl, hb⟩
  have HS10 := Lib.hid (HS9.out.step hb)
  clear hb HF9 HS9 HG9
  go_wp2_with fail
  go_ret
  exact ⟨rfl, HS10.out.below⟩
end M
end Go.Proofs.Ytccpdjjgpkkkbaa

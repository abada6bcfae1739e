/- The walk of Decode where nothing is wrong with its arguments. -/
import Derived.Test.YtaogdhpiiclejaaDoorRobW4
namespace Go.Proofs.YtaogdhpiiclejaaDoor
open Go Go.RowKit Go.Lib Go.Shelf
namespace MM
theorem pick_tw {q t n : Nat} {z : Nat → Nat} (h : tw6 q z n = 0) {s : List Nat} (hs : s ∈ setsF (2 * t + 1) 0 n) : tw6 q (pick z s) s.length = 0 := by
  obtain ⟨h1, h2, h3⟩ := (mem_sets _ _ _ _).1 hs
  unfold tw6 at h ⊢
  by_cases ht : twAll q (pick z s) s.length = true
  · obtain ⟨i, k, hi, hk, h0⟩ := (twAll_iff _).1 ht
    unfold pick at h0
    rw [getD_at hi, getD_at (by omega)] at h0
    rw [if_pos ((twAll_iff n).2 ⟨_, _, (h3 _ (List.getElem_mem hi)).2, List.pairwise_iff_getElem.1 h2 k i (by omega) hi hk, h0⟩)] at h
    omega
  · rw [if_neg ht]
theorem pick_no {q t n : Nat} {z : Nat → Nat} (hq : Good q) (h : noAll q z n = false) {s : List Nat} (hs : s ∈ setsF (2 * t + 1) 0 n) : noAll q (pick z s) s.length = false := by
  obtain ⟨_, h2, h3⟩ := (mem_sets _ _ _ _).1 hs
  exact (noAll_iff hq _).2 fun i k hi hk => pick_un ((noAll_iff hq n).1 h) h2 (fun x hx => (h3 x hx).2) i k hi hk
end MM
namespace M
attribute [local go_sem] Oper.semAt_some
/-- What Decode tells where a set's polynomial fits, and where none does. -/
def Told (w : World) (q t n : Nat) (z y : Nat → Nat) (o : Option (List Nat)) (vc vw : Value) (ec : Int) (W : World) : Prop :=
  Below w.heap.size w W ∧ match o with
    | none => vc = .slice none 0 0 ∧ vw = .slice none 0 0 ∧ ec = 5
    | some s => ec = 0 ∧ (∃ B, vc = .slice (some ⟨B, 0, none⟩) (t + 1 : Nat) s.length ∧ w.heap.size ≤ B ∧ Row W ⟨B, 0, none⟩ (t + 1) (MM.thruU q (MM.pick z s) (MM.pick y s) s.length)) ∧ SetV W vw (MM.missL q (t + 1) n z y (MM.thruU q (MM.pick z s) (MM.pick y s) s.length))
theorem boxes7 (w : World) (t1 t2 t3 t4 t5 t6 t7 : TypeId) (v1 v2 v3 v4 v5 v6 v7 : Value) : ∃ W, ((((((w.alloc (.cells #[v1] t1)).alloc (.cells #[v2] t2)).alloc (.cells #[v3] t3)).alloc (.cells #[v4] t4)).alloc (.cells #[v5] t5)).alloc (.cells #[v6] t6)).alloc (.cells #[v7] t7) = W ∧ Below w.heap.size w W ∧ W.heap.size = w.heap.size + 1 + 1 + 1 + 1 + 1 + 1 + 1 ∧
    Box W w.heap.size t1 v1 ∧ Box W (w.heap.size + 1) t2 v2 ∧ Box W (w.heap.size + 1 + 1) t3 v3 ∧ Box W (w.heap.size + 1 + 1 + 1) t4 v4 ∧ Box W (w.heap.size + 1 + 1 + 1 + 1) t5 v5 ∧ Box W (w.heap.size + 1 + 1 + 1 + 1 + 1) t6 v6 ∧ Box W (w.heap.size + 1 + 1 + 1 + 1 + 1 + 1) t7 v7 := by
  obtain ⟨W4, h4, b4, s4, x1, x2, x3, x4⟩ := boxes4 w t1 t2 t3 t4 v1 v2 v3 v4
  obtain ⟨W7, h7, b7, s7, x5, x6, x7⟩ := boxes3 W4 t5 t6 t7 v5 v6 v7
  rw [s4] at s7 x5 x6 x7
  exact ⟨W7, by rw [h4, h7], b4.trans (b7.mono b4.size), s7, x1.below b7, x2.below b7, x3.below b7, x4.below b7, x5, x6, x7⟩
theorem results_cells3 {fn : Func} {p u v : Tmp} {t1 t2 t3 : TypeId} (h : fn.results = #[.cell p t1, .cell u t2, .cell v t3]) (tmps : Array Value) (P : Program) (w : World) :
    (results fn tmps).run P w = ((asAddr (tmps.getD p undef)).run P w).andThen fun a w1 => ((loadVar t1 a).run P w1).andThen fun x w2 => ((asAddr (tmps.getD u undef)).run P w2).andThen fun b w3 => ((loadVar t2 b).run P w3).andThen fun y w4 => ((asAddr (tmps.getD v undef)).run P w4).andThen fun c w5 => ((loadVar t3 c).run P w5).andThen fun z w6 => .ok (.tuple #[x, y, z]) w6 := by
  simp only [results, h]
  simp [Sem.run_bind, Result.andThen]
theorem SetV.same {W W' : World} {v : Value} {x : List Nat} (h : SetV W v x) (hk : ∀ (B : Nat) (cs : Array Value), W.heap[B]? = some (.cells cs 3 (0, 0)) → W'.heap[B]? = some (.cells cs 3 (0, 0))) : SetV W' v x := by
  obtain h | ⟨g, c, e, B, cs, e1, h1, h2⟩ := h
  · exact .inl h
  · exact .inr ⟨g, c, e, B, cs, e1, hk B cs h1, h2⟩
theorem Row.cells {W W' : World} {ad : Addr} {n : Nat} {z : Nat → Nat} (h : Row W ad n z) (hc : CellsAs W W') : Row W' ad n z := fun k hk => by
  have h1 := h k hk
  rw [← h1]
  refine World.cell?_of_block ?_
  cases ho : W.heap[(ad.add k).block]? with
  | none => simp [World.cell?, ho] at h1
  | some o =>
    cases o with
    | cells cs t fr => exact hc _ _ _ _ ho
    | _ => simp [World.cell?, ho] at h1
/-- What the rounds that go on, and the one that stops, stand on. -/
def DecJ (w W5 : World) (q t : Nat) (z y : Nat → Nat) (pre : List (List Nat)) (X : World) : Prop := (∀ s ∈ pre, MM.fitB q t z y s = false) ∧ Below w.heap.size w X ∧ RL.Holds 0 W5 X
def DecX (w : World) (g D q t n : Nat) (z y : Nat → Nat) (rd : Loop) (pre : List (List Nat)) (X : World) : Prop :=
  ∃ ini s, pre = ini ++ [s] ∧ (∀ s' ∈ ini, MM.fitB q t z y s' = false) ∧ MM.fitB q t z y s = true ∧ X.heap[D + 1]? = some (.loop rd) ∧ X.heap[D]? = some (.deferred (some [])) ∧
    ∃ vc vw, Box X (g + 1 + 1 + 1 + 1) 22 vc ∧ Box X (g + 1 + 1 + 1 + 1 + 1) 28 vw ∧ Box X (g + 1 + 1 + 1 + 1 + 1 + 1) 29 (.int .i64 0) ∧ Told w q t n z y (some s) vc vw 0 X
/-- The polynomial through a set's points. -/
theorem thru_set (xo yo : Option Addr) (n cx cy q : Nat) (z y : Nat → Nat) (hz : ∀ k, z k < 18446744073709551616) (hy : ∀ k, y k < 18446744073709551616) (hq : MM.Good q) (hn : n ≤ 12) (h0 : 0 < n) (hT : MM.tw6 q z n = 0) (hN : MM.noAll q z n = false) (w : World) (hr : Rd w xo n z) (hs : Rd w yo n y) :
    Calls Tryd.prog 14 #[.slice xo n cx, .slice yo n cy, .int .u64 (q : Int)] w fun e w' => ∃ B, e = .returned (.tuple #[.slice (some ⟨B, 0, none⟩) n n, .int .i64 0]) ∧ w.heap.size ≤ B ∧ B < w'.heap.size ∧ (∃ cs, w'.heap[B]? = some (.cells cs 23 (0, 0)) ∧ cs.size = n) ∧ Row w' ⟨B, 0, none⟩ n (MM.thruU q z y n) ∧ Below w.heap.size w w' := by
  refine (through_good xo yo n cx cy q z y hz hy hq (by omega) (sorts_short n hn) hT w hr hs).mono ?_
  rintro e w' (⟨v, rfl, hv, hb, _⟩ | ⟨_, _, j, hj, hne⟩)
  · obtain ⟨h, _⟩ | ⟨B, cs, rfl, h1, h2, h3, h4⟩ := hv
    · omega
    · refine ⟨B, rfl, h1, row_lt h2, ⟨cs, h2, h3⟩, ?_, hb⟩
      refine Row.of_block h2 fun k hk => ?_
      rw [h4 k hk, MM.thr_eq hq]
  · exact absurd ((MM.thr_all hq n).2 hN j hj) hne
set_option maxRecDepth 100000 in
set_option maxHeartbeats 4000000 in
theorem decode_good (xo yo : Option Addr) (n cx cy q t : Nat) (z y : Nat → Nat) (hz : ∀ k, z k < 18446744073709551616) (hy : ∀ k, y k < 18446744073709551616) (w : World) (hl : Laid w) (hr : Rd w xo n z) (hs : Rd w yo n y) (hE : MM.decErr q t n n z = 0) (hn : n ≤ 7) (ht : t ≤ 2) (hq : MM.Good q) (hT : MM.tw6 q z n = 0) (hN : MM.noAll q z n = false) :
    Calls Tryd.prog 8 #[.slice xo n cx, .slice yo n cy, .int .i64 (t : Int), .int .u64 (q : Int)] w fun e w' => ∃ vc vw ec, e = .returned (.tuple #[vc, vw, .int .i64 ec]) ∧ Told w q t n z y ((MM.setsF (2 * t + 1) 0 n).find? (MM.fitB q t z y)) vc vw ec w' := by
  refine (callsIn_wide (n := 3)).1 ?_
  have hck := fun (W : World) (hb : Below w.heap.size w W) => dcheck_any xo yo n n cx cy q t z hz W (laid_below hl hb) (hr.below hb)
  rw [hE] at hck
  have HCK := Lib.hid hck
  have HZ := Lib.hid hz
  have HY := Lib.hid hy
  have HQ := Lib.hid hq
  have HR := Lib.hid hr
  have HS := Lib.hid hs
  have HT := Lib.hid hT
  have HN := Lib.hid hN
  clear hck hz hy hq hr hs hT hN hE hl
  have hl1 : 1 ≤ 3 := by omega
  refine callsIn_of_wp_marks Tryd.func8 rfl trivial ?_ rfl
  simp only [Tryd.ntmps8, List.size_toArray, List.length_cons, List.length_nil, Nat.reduceAdd, Nat.reduceSub, Array.replicate_succ, Array.replicate_zero, List.push_toArray, List.append_toArray, List.nil_append, List.cons_append]
  gi_upto_region 1 with fail
  obtain ⟨g, hg⟩ : ∃ g, w.heap.size = g := ⟨_, rfl⟩
  obtain ⟨W1, h1, b1, s1, x1, x2, x3, x4, x5, x6, x7⟩ := boxes7 w 22 22 3 23 22 28 29 (.slice xo n cx) (.slice yo n cy) (.int .i64 (t : Int)) (.int .u64 (q : Int)) (.slice none 0 0) (.slice none 0 0) (.int .i64 0)
  rw [hg] at s1 x1 x2 x3 x4 x5 x6 x7
  rw [h1, hg]
  have c1 := x1.cell
  have c2 := x2.cell
  have c3 := x3.cell
  have c4 := x4.cell
  gi_upto_region 2 with (refine ⟨trivial, ?_⟩; gi_at_call 12; refine (callsIn_wide.2 (HCK.out _ b1)).mono ?_; rintro E W2 ⟨rfl, b2⟩; have k7 := (x7.below b2).cell; have f7 := (x7.below b2).free)
  obtain ⟨W3, hW3⟩ : ∃ W3, W2.setCell ⟨g + 1 + 1 + 1 + 1 + 1 + 1, 0, none⟩ (.int .i64 0) = W3 := ⟨_, rfl⟩
  have y1 : Box W3 g 22 (.slice xo n cx) := by rw [← hW3]; exact (x1.below b2).other _ _ (by show g ≠ g + 1 + 1 + 1 + 1 + 1 + 1; omega)
  have y2 : Box W3 (g + 1) 22 (.slice yo n cy) := by rw [← hW3]; exact (x2.below b2).other _ _ (by show g + 1 ≠ g + 1 + 1 + 1 + 1 + 1 + 1; omega)
  have y3 : Box W3 (g + 1 + 1) 3 (.int .i64 (t : Int)) := by rw [← hW3]; exact (x3.below b2).other _ _ (by show g + 1 + 1 ≠ g + 1 + 1 + 1 + 1 + 1 + 1; omega)
  have y4 : Box W3 (g + 1 + 1 + 1) 23 (.int .u64 (q : Int)) := by rw [← hW3]; exact (x4.below b2).other _ _ (by show g + 1 + 1 + 1 ≠ g + 1 + 1 + 1 + 1 + 1 + 1; omega)
  have y5 : Box W3 (g + 1 + 1 + 1 + 1) 22 (.slice none 0 0) := by rw [← hW3]; exact (x5.below b2).other _ _ (by show g + 1 + 1 + 1 + 1 ≠ g + 1 + 1 + 1 + 1 + 1 + 1; omega)
  have y6 : Box W3 (g + 1 + 1 + 1 + 1 + 1) 28 (.slice none 0 0) := by rw [← hW3]; exact (x6.below b2).other _ _ (by show g + 1 + 1 + 1 + 1 + 1 ≠ g + 1 + 1 + 1 + 1 + 1 + 1; omega)
  have y7 : Box W3 (g + 1 + 1 + 1 + 1 + 1 + 1) 29 (.int .i64 0) := by rw [← hW3]; exact (x7.below b2).set _
  have b3 : Below w.heap.size w W3 := by rw [← hW3]; exact (b1.trans (b2.mono b1.size)).setCell (by show w.heap.size ≤ g + 1 + 1 + 1 + 1 + 1 + 1; omega) _
  have z1 := y1.cell
  have z3 := y3.cell
  have z7 := y7.cell
  have hw1 : IntKind.i64.wrap (2 * (t : Int)) = 2 * (t : Int) := IntWalk.i64_in _ (by omega)
  have hw2 : IntKind.i64.wrap (2 * (t : Int) + 1) = 2 * (t : Int) + 1 := IntWalk.i64_in _ (by omega)
  rw [hW3]
  clear hW3 k7 f7 c1 c2 c3 c4 HCK h1 x1 x2 x3 x4 x5 x6 x7 b1 b2
  gi_wp2_with (refine ⟨trivial, ?_⟩; gi_at_call 13; refine (callsIn_wide.2 (sets_any _ _ _ _)).mono ?_; rintro E w' ⟨rfl, rfl⟩)
  obtain ⟨h, hh0⟩ : ∃ h, W3.heap.size = h := ⟨_, rfl⟩
  obtain ⟨W4, h4, b4, s4, u1, u2, u3⟩ := boxes3 W3 3 3 3 (.int .i64 0) (.int .i64 (n : Int)) (.int .i64 (2 * (t : Int) + 1))
  rw [hh0] at s4 u1 u2 u3
  rw [h4, hh0]
  have hgh : g + 1 + 1 + 1 + 1 + 1 + 1 < h := by have := row_lt y7; omega
  clear z1 z3 z7 hw1
  refine RL.enter' (gf := 25) (lb := #[.pointer (some ⟨h + 1 + 1, 0, none⟩), .pointer (some ⟨h, 0, none⟩), .pointer (some ⟨h + 1, 0, none⟩)]) rfl (enters_of Tryd.func25 (by kernel_rfl) rfl) fun fn r hr => ?_
  have HRR := Lib.hid hr
  clear hr
  simp only [List.append_toArray, List.cons_append, List.nil_append]
  obtain ⟨D, hD⟩ : ∃ D, W4.heap.size = D := ⟨_, rfl⟩
  obtain ⟨W5, hW5⟩ : ∃ W5, (W4.alloc (.deferred (some []))).alloc (.loop (r .ready none)) = W5 := ⟨_, rfl⟩
  have b5 : Below W4.heap.size W4 W5 := by rw [← hW5]; exact (below_box _ _).trans ((below_box _ _).mono (by simp))
  have s5 : W5.heap.size = D + 1 + 1 := by rw [← hW5, World.size_alloc, World.size_alloc, hD]
  have hl5 : W5.heap[D + 1]? = some (.loop (r .ready none)) := by
    have := World.alloc_heap_new (W4.alloc (.deferred (some []))) (.loop (r .ready none))
    rwa [World.size_alloc, hD, hW5] at this
  have hD5 : W5.heap[D]? = some (.deferred (some [])) := by
    have h1 := World.alloc_heap_new W4 (.deferred (some []))
    rw [hD] at h1
    have h2 := (below_box (W4.alloc (.deferred (some []))) (.loop (r .ready none))).block D (row_lt h1)
    rw [hW5] at h2
    exact h2.trans h1
  rw [hD, hW5]
  have hhD : h < D := by have := b4.size; omega
  have b35 : Below W3.heap.size W3 W5 := b4.trans (b5.mono b4.size)
  have b05 : Below w.heap.size w W5 := b3.trans (b35.mono b3.size)
  have q1 := y1.below b35
  have q2 := y2.below b35
  have q3 := y3.below b35
  have q4 := y4.below b35
  have q5 := y5.below b35
  have q6 := y6.below b35
  have q7 := y7.below b35
  clear y1 y2 y3 y4 y5 y6 y7 hW5
  have HRND : Rounds (D + 1) W5.heap.size (DecJ w W5 q t z y) (DecX w g D q t n z y (r .done (some .ret))) (MM.setsF (2 * t + 1) 0 n) := by
    intro m pre x v X ⟨hnf, hbw, hh⟩ hp hX hv
    have hlX := hh.own _ _ (by omega) hl5
    have hxm : x ∈ MM.setsF (2 * t + 1) 0 n := hp.subset (by simp)
    obtain ⟨hxl, hxp, hxb⟩ := (MM.mem_sets _ _ _ _).1 hxm
    obtain ⟨gx, c, rfl, hxi⟩ : ∃ gx c, v = .slice (some ⟨gx, 0, none⟩) x.length c ∧ SetIn X (some ⟨gx, 0, none⟩) x := by
      obtain ⟨_, rfl⟩ | h := hv
      · simp at hxl
      · exact h
    have HXL := Lib.hid hxl
    have hxs : x.length ≤ 5 := by omega
    have hx0 : 0 < x.length := by omega
    have hxt : t + 1 ≤ x.length := by omega
    clear hxl
    refine RL.round' HRR.out { tmps := #[.slice xo n cx, .slice yo n cy, .int .i64 (t : Int), .int .u64 (q : Int), .pointer (some ⟨g, 0, none⟩), .pointer (some ⟨g + 1, 0, none⟩), .pointer (some ⟨g + 1 + 1, 0, none⟩), .pointer (some ⟨g + 1 + 1 + 1, 0, none⟩), .pointer (some ⟨g + 1 + 1 + 1 + 1, 0, none⟩), .pointer (some ⟨g + 1 + 1 + 1 + 1 + 1, 0, none⟩), .pointer (some ⟨g + 1 + 1 + 1 + 1 + 1 + 1, 0, none⟩), .slice (some ⟨gx, 0, none⟩) x.length c, undef, undef, .slice xo n cx, .slice yo n cy, .int .i64 (t : Int), .int .u64 (q : Int), .int .i64 0, .int .i64 0, .bool false, undef, .slice xo n cx, .int .i64 (n : Int), .int .i64 (t : Int), .int .i64 (2 * (t : Int)), .int .i64 (2 * (t : Int) + 1), .func (.func 25) #[] #[.pointer (some ⟨h + 1 + 1, 0, none⟩), .pointer (some ⟨h, 0, none⟩), .pointer (some ⟨h + 1, 0, none⟩)], .slice (some ⟨gx, 0, none⟩) x.length c, undef, undef, undef, undef, undef, undef, undef, undef, undef, undef, undef, undef, undef, undef, undef, undef, undef, undef, undef, undef, undef, undef, undef, undef, undef, undef], defers := [] } hlX rfl ?_ ?_
    · intro K hK
      gi_wp2
      exact hK
    · obtain ⟨X1, hX1⟩ : ∃ X1, X.putObj (D + 1) (.loop (r .busy none)) = X1 := ⟨_, rfl⟩
      have hbX : Below w.heap.size X X1 := by rw [← hX1]; exact RL.below_put (by omega) (by have := hbw.size; omega)
      have hoX : ∀ j, j ≠ D + 1 → X1.heap[j]? = X.heap[j]? := fun j hj => by rw [← hX1]; exact World.putObj_heap_other hj
      have hlX1 : X1.heap[D + 1]? = some (.loop (r .busy none)) := by rw [← hX1]; exact World.putObj_heap_same (row_lt hlX)
      have sX1 : X1.heap.size = X.heap.size := by rw [← hX1, World.putObj_size]
      have p1 : Box X1 g 22 (.slice xo n cx) := (hoX _ (by omega)).trans (hh.box q1)
      have p2 : Box X1 (g + 1) 22 (.slice yo n cy) := (hoX _ (by omega)).trans (hh.box q2)
      have p3 : Box X1 (g + 1 + 1) 3 (.int .i64 (t : Int)) := (hoX _ (by omega)).trans (hh.box q3)
      have p4 : Box X1 (g + 1 + 1 + 1) 23 (.int .u64 (q : Int)) := (hoX _ (by omega)).trans (hh.box q4)
      have p5 : Box X1 (g + 1 + 1 + 1 + 1) 22 (.slice none 0 0) := (hoX _ (by omega)).trans (hh.box q5)
      have p6 : Box X1 (g + 1 + 1 + 1 + 1 + 1) 28 (.slice none 0 0) := (hoX _ (by omega)).trans (hh.box q6)
      have p7 : Box X1 (g + 1 + 1 + 1 + 1 + 1 + 1) 29 (.int .i64 0) := (hoX _ (by omega)).trans (hh.box q7)
      have hwX1 : Below w.heap.size w X1 := hbw.trans hbX
      have hxi1 : SetIn X1 (some ⟨gx, 0, none⟩) x := by
        obtain ⟨B, cs, e1, e2, e3⟩ := hxi
        exact ⟨B, cs, e1, (hoX B (fun e => by rw [e, hlX] at e2; cases e2)).trans e2, e3⟩
      have hrX := HR.out.below hwX1
      have hsX := HS.out.below hwX1
      have htw := MM.pick_tw HT.out hxm
      have hno := MM.pick_no HQ.out HN.out hxm
      have hpz : ∀ k, MM.pick z x k < 18446744073709551616 := fun k => HZ.out _
      have hpy : ∀ k, MM.pick y x k < 18446744073709551616 := fun k => HY.out _
      have hxn : ∀ i ∈ x, i < n := fun i hi => (hxb i hi).2
      have hw3 : IntKind.i64.wrap ((t : Int) + 1) = (t : Int) + 1 := IntWalk.i64_in _ (by omega)
      rw [hX1]
      dsimp only
      gi_upto_region 6 with fail
      refine RK.region_in (D + 1) _ (Below X1.heap.size X1) 100 (by kernel_rfl) (by simp) (fun h => by obtain ⟨_, _, h⟩ := h; exact h) ?_
      have HS0 : Below X1.heap.size X1 X1.drew := below_drewN' X1 1 _
      refine RK.Any.take 0 30 (.slice xo n cx) rfl rfl (by kernel_rfl) (by kernel_rfl) (by kernel_rfl) (by kernel_rfl) (fun _ _ _ h => h) (by rfl) (fun W' hb => ?_) HS0 ?_
      · have c := (p1.below hb).cell; go_simp
      simp only [List.setIfInBounds_toArray, List.set_cons_zero, List.set_cons_succ]
      refine RK.Any.take 1 31 (.slice (some ⟨gx, 0, none⟩) x.length c) rfl rfl (by kernel_rfl) (by kernel_rfl) (by kernel_rfl) (by kernel_rfl) (fun _ _ _ h => h) (by rfl) (fun W' hb => ?_) HS0 ?_
      · skip; go_simp
      simp only [List.setIfInBounds_toArray, List.set_cons_zero, List.set_cons_succ]
      refine RK.Any.take 3 33 (.slice yo n cy) rfl rfl (by kernel_rfl) (by kernel_rfl) (by kernel_rfl) (by kernel_rfl) (fun _ _ _ h => h) (by rfl) (fun W' hb => ?_) HS0 ?_
      · have c := (p2.below hb).cell; go_simp
      simp only [List.setIfInBounds_toArray, List.set_cons_zero, List.set_cons_succ]
      refine RK.Any.take 4 34 (.slice (some ⟨gx, 0, none⟩) x.length c) rfl rfl (by kernel_rfl) (by kernel_rfl) (by kernel_rfl) (by kernel_rfl) (fun _ _ _ h => h) (by rfl) (fun W' hb => ?_) HS0 ?_
      · skip; go_simp
      simp only [List.setIfInBounds_toArray, List.set_cons_zero, List.set_cons_succ]
      refine RK.Any.take 6 36 (.int .u64 (q : Int)) rfl rfl (by kernel_rfl) (by kernel_rfl) (by kernel_rfl) (by kernel_rfl) (fun _ _ _ h => h) (by rfl) (fun W' hb => ?_) HS0 ?_
      · have c := (p4.below hb).cell; go_simp
      simp only [List.setIfInBounds_toArray, List.set_cons_zero, List.set_cons_succ]
      refine RK.Any.call 2 32 15 #[.slice xo n cx, .slice (some ⟨gx, 0, none⟩) x.length c] (by kernel_rfl) rfl rfl (by rfl) (by go_simp) (Calls.mono (among_any xo (some ⟨gx, 0, none⟩) n cx c z x (by omega) hxn _ (hrX.below HS0) (hxi1.below HS0)) ?_)
      rintro E X2 ⟨rfl, hm2⟩
      have HS2 : Below X1.heap.size X1 X2 := HS0.trans (hm2.below.mono HS0.size)
      obtain ⟨B1, hB1⟩ : ∃ B1, X1.drew.heap.size = B1 := ⟨_, rfl⟩
      rw [hB1] at hm2 ⊢
      have r1 : Rd X2 (some ⟨B1, 0, none⟩) x.length (MM.pick z x) := hm2.rd
      refine ⟨_, rfl, fun _ => HS2, ?_⟩
      simp only [List.setIfInBounds_toArray, List.set_cons_zero, List.set_cons_succ]
      refine RK.Any.call 5 35 15 #[.slice yo n cy, .slice (some ⟨gx, 0, none⟩) x.length c] (by kernel_rfl) rfl rfl (by rfl) (by go_simp) (Calls.mono (among_any yo (some ⟨gx, 0, none⟩) n cy c y x (by omega) hxn _ (hsX.below HS2) (hxi1.below HS2)) ?_)
      rintro E X3 ⟨rfl, hm3⟩
      have HS3 : Below X1.heap.size X1 X3 := HS2.trans (hm3.below.mono HS2.size)
      have r1b := r1.below hm3.below
      obtain ⟨B2, hB2⟩ : ∃ B2, X2.heap.size = B2 := ⟨_, rfl⟩
      rw [hB2] at hm3 ⊢
      have r2 : Rd X3 (some ⟨B2, 0, none⟩) x.length (MM.pick y x) := hm3.rd
      refine ⟨_, rfl, fun _ => HS3, ?_⟩
      simp only [List.setIfInBounds_toArray, List.set_cons_zero, List.set_cons_succ]
      refine RK.Any.call 7 37 14 #[.slice (some ⟨B1, 0, none⟩) x.length x.length, .slice (some ⟨B2, 0, none⟩) x.length x.length, .int .u64 (q : Int)] (by kernel_rfl) rfl rfl (by rfl) (by go_simp) (Calls.mono (thru_set _ _ x.length _ _ q _ _ hpz hpy HQ.out (by omega) (by omega) htw hno _ r1b r2) ?_)
      rintro E X4 ⟨B3, rfl, hB3, hbl4, hsz3, r3, b34⟩
      have HS4 : Below X1.heap.size X1 X4 := HS3.trans (b34.mono HS3.size)
      refine ⟨_, rfl, fun _ => HS4, ?_⟩
      simp only [List.setIfInBounds_toArray, List.set_cons_zero, List.set_cons_succ]
      refine RK.Any.take 8 29 (.tuple #[.slice (some ⟨B3, 0, none⟩) x.length x.length, .int .i64 0]) rfl rfl (by kernel_rfl) (by kernel_rfl) (by kernel_rfl) (by kernel_rfl) (fun _ _ _ h => h) (by rfl) (fun W' hb => ?_) HS4 ?_
      · skip; go_simp
      simp only [List.setIfInBounds_toArray, List.set_cons_zero, List.set_cons_succ]
      refine RK.Any.take 9 38 (.slice (some ⟨B3, 0, none⟩) x.length x.length) rfl rfl (by kernel_rfl) (by kernel_rfl) (by kernel_rfl) (by kernel_rfl) (fun _ _ _ h => h) (by rfl) (fun W' hb => ?_) HS4 ?_
      · skip; go_simp
      simp only [List.setIfInBounds_toArray, List.set_cons_zero, List.set_cons_succ]
      refine RK.Any.take 10 39 (.int .i64 0) rfl rfl (by kernel_rfl) (by kernel_rfl) (by kernel_rfl) (by kernel_rfl) (fun _ _ _ h => h) (by rfl) (fun W' hb => ?_) HS4 ?_
      · skip; go_simp
      simp only [List.setIfInBounds_toArray, List.set_cons_zero, List.set_cons_succ]
      refine RK.Any.take 11 12 (.slice (some ⟨B3, 0, none⟩) x.length x.length) rfl rfl (by kernel_rfl) (by kernel_rfl) (by kernel_rfl) (by kernel_rfl) (fun _ _ _ h => h) (by rfl) (fun W' hb => ?_) HS4 ?_
      · skip; go_simp
      simp only [List.setIfInBounds_toArray, List.set_cons_zero, List.set_cons_succ]
      refine RK.Any.take 12 13 (.int .i64 0) rfl rfl (by kernel_rfl) (by kernel_rfl) (by kernel_rfl) (by kernel_rfl) (fun _ _ _ h => h) (by rfl) (fun W' hb => ?_) HS4 ?_
      · skip; go_simp
      simp only [List.setIfInBounds_toArray, List.set_cons_zero, List.set_cons_succ]
      refine RK.Any.done (by kernel_rfl) ?_
      gi_upto_region 7 with fail
      have HF : Hid (MM.fitB q t z y x = decide (MM.degU (MM.thruU q (MM.pick z x) (MM.pick y x) x.length) q x.length ≤ (t : Int))) := Lib.hid rfl
      have hdeg := fun W' (hb : Below X4.heap.size X4 W') => degree_any (some ⟨B3, 0, none⟩) x.length x.length q _ (by omega) W' (fun _ => ⟨_, rfl, r3.below hb⟩)
      rw [MM.degC_good HQ.out] at hdeg
      have HDEG := Lib.hid hdeg
      obtain ⟨f, hf⟩ : ∃ f, MM.thruU q (MM.pick z x) (MM.pick y x) x.length = f := ⟨_, rfl⟩
      rw [hf] at HF HDEG r3
      have HFF := Lib.hid hf
      obtain ⟨dg, hdg⟩ : ∃ dg, MM.degU f q x.length = dg := ⟨_, rfl⟩
      rw [hdg] at HF HDEG
      have hB3h : D + 1 < B3 := by have := HS3.size; omega
      clear hdeg hf hdg htw hno hpz hpy hm2 hm3 r1 r1b r2 HS0 HS2 HS3 b34
      have k3 := p3.below HS4
      have k4 := p4.below HS4
      refine RK.region_in (D + 1) _ (Below X4.heap.size X4) 100 (by kernel_rfl) (by simp) (fun h => by obtain ⟨_, _, h⟩ := h; exact h) ?_
      have HT0 : Below X4.heap.size X4 X4.drew := below_drewN' X4 1 _
      refine RK.Any.take 0 40 (.slice (some ⟨B3, 0, none⟩) x.length x.length) rfl rfl (by kernel_rfl) (by kernel_rfl) (by kernel_rfl) (by kernel_rfl) (fun _ _ _ h => h) (by rfl) (fun W' hb => ?_) HT0 ?_
      · skip; go_simp
      simp only [List.setIfInBounds_toArray, List.set_cons_zero, List.set_cons_succ]
      refine RK.Any.take 1 41 (.int .u64 (q : Int)) rfl rfl (by kernel_rfl) (by kernel_rfl) (by kernel_rfl) (by kernel_rfl) (fun _ _ _ h => h) (by rfl) (fun W' hb => ?_) HT0 ?_
      · have c := (k4.below hb).cell; go_simp
      simp only [List.setIfInBounds_toArray, List.set_cons_zero, List.set_cons_succ]
      refine RK.Any.take 3 43 (.int .i64 (t : Int)) rfl rfl (by kernel_rfl) (by kernel_rfl) (by kernel_rfl) (by kernel_rfl) (fun _ _ _ h => h) (by rfl) (fun W' hb => ?_) HT0 ?_
      · have c := (k3.below hb).cell; go_simp
      simp only [List.setIfInBounds_toArray, List.set_cons_zero, List.set_cons_succ]
      refine RK.Any.call 2 42 16 #[.slice (some ⟨B3, 0, none⟩) x.length x.length, .int .u64 (q : Int)] (by kernel_rfl) rfl rfl (by rfl) (by go_simp) (Calls.mono (HDEG.out _ HT0) ?_)
      rintro E X5 ⟨rfl, b5x⟩
      have HT1 : Below X4.heap.size X4 X5 := HT0.trans (b5x.mono HT0.size)
      refine ⟨_, rfl, fun _ => HT1, ?_⟩
      simp only [List.setIfInBounds_toArray, List.set_cons_zero, List.set_cons_succ]
      refine RK.Any.take 4 44 (.bool (decide (dg ≤ (t : Int)))) rfl rfl (by kernel_rfl) (by kernel_rfl) (by kernel_rfl) (by kernel_rfl) (fun _ _ _ h => h) (by rfl) (fun W' hb => ?_) HT1 ?_
      · skip; go_simp
      simp only [List.setIfInBounds_toArray, List.set_cons_zero, List.set_cons_succ]
      refine RK.Any.done (by kernel_rfl) ?_
      have HX5 : Below X1.heap.size X1 X5 := HS4.trans (HT1.mono HS4.size)
      have hlX5 : X5.heap[D + 1]? = some (.loop (r .busy none)) := (HX5.block _ (row_lt hlX1)).trans hlX1
      have r5 := r3.below HT1
      have hB35 : B3 < X5.heap.size := by have := HT1.size; omega
      clear HDEG HT0 b5x
      by_cases hfit : dg ≤ (t : Int)
      · have HFT : Hid (MM.fitB q t z y x = true) := Lib.hid (by rw [HF.out]; exact decide_eq_true hfit)
        have v1 := p1.below HX5
        have v2 := p2.below HX5
        have v3 := p3.below HX5
        have v4 := p4.below HX5
        have v5 := p5.below HX5
        have v6 := p6.below HX5
        have v7 := p7.below HX5
        have m3 := v3.cell
        have m5 := v5.cell
        have n5 := v5.free
        have hxt2 : (t : Int) + 1 ≤ (x.length : Int) := by omega
        have hxt3 : (0 : Int) ≤ (t : Int) + 1 := by omega
        have hxt4 : ((t : Int) + 1).toNat = t + 1 := by omega
        gi_upto_region 9 with fail
        obtain ⟨X6, hX6⟩ : ∃ X6, X5.setCell ⟨g + 1 + 1 + 1 + 1, 0, none⟩ (.slice (some ⟨B3, 0, none⟩) (t + 1) x.length) = X6 := ⟨_, rfl⟩
        have hoX6 : ∀ j, j ≠ g + 1 + 1 + 1 + 1 → X6.heap[j]? = X5.heap[j]? := fun j hj => by rw [← hX6]; exact Below.heap_setCell _ _ _ _ hj
        have e1 : Box X6 g 22 (.slice xo n cx) := (hoX6 _ (by omega)).trans v1
        have e2 : Box X6 (g + 1) 22 (.slice yo n cy) := (hoX6 _ (by omega)).trans v2
        have e4 : Box X6 (g + 1 + 1 + 1) 23 (.int .u64 (q : Int)) := (hoX6 _ (by omega)).trans v4
        have e5 : Box X6 (g + 1 + 1 + 1 + 1) 22 (.slice (some ⟨B3, 0, none⟩) (t + 1) x.length) := by rw [← hX6]; exact v5.set _
        have e6 : Box X6 (g + 1 + 1 + 1 + 1 + 1) 28 (.slice none 0 0) := (hoX6 _ (by omega)).trans v6
        have e7 : Box X6 (g + 1 + 1 + 1 + 1 + 1 + 1) 29 (.int .i64 0) := (hoX6 _ (by omega)).trans v7
        have r6 : Row X6 ⟨B3, 0, none⟩ (t + 1) f := fun k hk => by
          rw [← r5 k (by omega)]
          exact World.cell?_of_block (hoX6 _ (by rw [show (Addr.add ⟨B3, 0, none⟩ k).block = B3 by unfold Addr.add; split <;> rfl]; omega))
        have hwX6 : Below w.heap.size w X6 := by rw [← hX6]; exact (hwX1.trans (HX5.mono hwX1.size)).setCell (by show w.heap.size ≤ g + 1 + 1 + 1 + 1; omega) _
        have sX6 : X6.heap.size = X5.heap.size := by rw [← hX6, World.size_setCell]
        have hMS := Lib.hid (fun W' (hb : Below X6.heap.size X6 W') => missed_any (some ⟨B3, 0, none⟩) xo yo (t + 1) n x.length cx cy q f z y (by omega) (by omega) (by have := HQ.out.1; omega) HZ.out HY.out W' (fun _ => ⟨_, rfl, r6.below hb⟩) ((HR.out.below hwX6).below hb) ((HS.out.below hwX6).below hb))
        rw [hX6]
        clear m3 m5 n5 hxt2 hxt3 hxt4 v1 v2 v3 v4 v5 v6 v7 p1 p2 p3 p4 p5 p6 p7 k3 k4
        refine RK.region_in (D + 1) _ (fun W => Box W g 22 (.slice xo n cx) ∧ Box W (g + 1) 22 (.slice yo n cy) ∧ Box W (g + 1 + 1 + 1) 23 (.int .u64 (q : Int)) ∧ Box W (g + 1 + 1 + 1 + 1) 22 (.slice (some ⟨B3, 0, none⟩) (t + 1) x.length)) 100 (by kernel_rfl) (by simp) (fun h => by obtain ⟨_, _, h⟩ := h; exact h) ?_
        have HU0 : Box X6.drew g 22 (.slice xo n cx) ∧ Box X6.drew (g + 1) 22 (.slice yo n cy) ∧ Box X6.drew (g + 1 + 1 + 1) 23 (.int .u64 (q : Int)) ∧ Box X6.drew (g + 1 + 1 + 1 + 1) 22 (.slice (some ⟨B3, 0, none⟩) (t + 1) x.length) := ⟨e1, e2, e4, e5⟩
        refine RK.Any.take 0 49 (.slice (some ⟨B3, 0, none⟩) (t + 1) x.length) rfl rfl (by kernel_rfl) (by kernel_rfl) (by kernel_rfl) (by kernel_rfl) (fun _ _ _ h => h) (by rfl) (fun W' hb => ?_) HU0 ?_
        · have c := hb.2.2.2.cell; go_simp
        simp only [List.setIfInBounds_toArray, List.set_cons_zero, List.set_cons_succ]
        refine RK.Any.take 1 50 (.slice (some ⟨B3, 0, none⟩) (t + 1) x.length) rfl rfl (by kernel_rfl) (by kernel_rfl) (by kernel_rfl) (by kernel_rfl) (fun _ _ _ h => h) (by rfl) (fun W' hb => ?_) HU0 ?_
        · have c := hb.2.2.2.cell; go_simp
        simp only [List.setIfInBounds_toArray, List.set_cons_zero, List.set_cons_succ]
        refine RK.Any.take 2 51 (.slice xo n cx) rfl rfl (by kernel_rfl) (by kernel_rfl) (by kernel_rfl) (by kernel_rfl) (fun _ _ _ h => h) (by rfl) (fun W' hb => ?_) HU0 ?_
        · have c := hb.1.cell; go_simp
        simp only [List.setIfInBounds_toArray, List.set_cons_zero, List.set_cons_succ]
        refine RK.Any.take 3 52 (.slice yo n cy) rfl rfl (by kernel_rfl) (by kernel_rfl) (by kernel_rfl) (by kernel_rfl) (fun _ _ _ h => h) (by rfl) (fun W' hb => ?_) HU0 ?_
        · have c := hb.2.1.cell; go_simp
        simp only [List.setIfInBounds_toArray, List.set_cons_zero, List.set_cons_succ]
        refine RK.Any.take 4 53 (.int .u64 (q : Int)) rfl rfl (by kernel_rfl) (by kernel_rfl) (by kernel_rfl) (by kernel_rfl) (fun _ _ _ h => h) (by rfl) (fun W' hb => ?_) HU0 ?_
        · have c := hb.2.2.1.cell; go_simp
        simp only [List.setIfInBounds_toArray, List.set_cons_zero, List.set_cons_succ]
        refine RK.Any.call 5 54 17 #[.slice (some ⟨B3, 0, none⟩) (t + 1) x.length, .slice xo n cx, .slice yo n cy, .int .u64 (q : Int)] (by kernel_rfl) rfl rfl (by rfl) (by go_simp) (Calls.mono (hMS.out _ (below_drewN' X6 1 _)) ?_)
        rintro E X7 ⟨vw, rfl, how⟩
        have b67 : Below X6.heap.size X6 X7 := (below_drewN' X6 1 _).trans (how.below.mono (Nat.le_refl _))
        have g1 := e1.below b67
        have g2 := e2.below b67
        have g4 := e4.below b67
        have g5 := e5.below b67
        have g6 := e6.below b67
        have g7 := e7.below b67
        have hvw := how.setV
        obtain ⟨so, sl, sc, rfl⟩ : ∃ so sl sc, vw = .slice so sl sc := by
          obtain ⟨rfl, _⟩ | ⟨_, _, rfl, _⟩ := how.setV <;> exact ⟨_, _, _, rfl⟩
        refine ⟨_, rfl, fun _ => ⟨g1, g2, g4, g5⟩, ?_⟩
        simp only [List.setIfInBounds_toArray, List.set_cons_zero, List.set_cons_succ]
        obtain ⟨X8, hX8⟩ : ∃ X8, X7.setCell ⟨g + 1 + 1 + 1 + 1, 0, none⟩ (.slice (some ⟨B3, 0, none⟩) (t + 1) x.length) = X8 := ⟨_, rfl⟩
        have hoX8 : ∀ j, j ≠ g + 1 + 1 + 1 + 1 → X8.heap[j]? = X7.heap[j]? := fun j hj => by rw [← hX8]; exact Below.heap_setCell _ _ _ _ hj
        have i5 : Box X8 (g + 1 + 1 + 1 + 1) 22 (.slice (some ⟨B3, 0, none⟩) (t + 1) x.length) := by rw [← hX8]; exact g5.set _
        have i6 : Box X8 (g + 1 + 1 + 1 + 1 + 1) 28 (.slice none 0 0) := (hoX8 _ (by omega)).trans g6
        obtain ⟨X9, hX9⟩ : ∃ X9, X8.setCell ⟨g + 1 + 1 + 1 + 1 + 1, 0, none⟩ (.slice so sl sc) = X9 := ⟨_, rfl⟩
        have hoX9 : ∀ j, j ≠ g + 1 + 1 + 1 + 1 + 1 → X9.heap[j]? = X8.heap[j]? := fun j hj => by rw [← hX9]; exact Below.heap_setCell _ _ _ _ hj
        have j6 : Box X9 (g + 1 + 1 + 1 + 1 + 1) 28 (.slice so sl sc) := by rw [← hX9]; exact i6.set _
        have j7 : Box X9 (g + 1 + 1 + 1 + 1 + 1 + 1) 29 (.int .i64 0) := (hoX9 _ (by omega)).trans ((hoX8 _ (by omega)).trans g7)
        obtain ⟨Y, hY⟩ : ∃ Y, X9.setCell ⟨g + 1 + 1 + 1 + 1 + 1 + 1, 0, none⟩ (.int .i64 0) = Y := ⟨_, rfl⟩
        have hoY : ∀ j, j ≠ g + 1 + 1 + 1 + 1 + 1 + 1 → Y.heap[j]? = X9.heap[j]? := fun j hj => by rw [← hY]; exact Below.heap_setCell _ _ _ _ hj
        have l7 : Box Y (g + 1 + 1 + 1 + 1 + 1 + 1) 29 (.int .i64 0) := by rw [← hY]; exact j7.set _
        have l6 : Box Y (g + 1 + 1 + 1 + 1 + 1) 28 (.slice so sl sc) := (hoY _ (by omega)).trans j6
        have l5 : Box Y (g + 1 + 1 + 1 + 1) 22 (.slice (some ⟨B3, 0, none⟩) (t + 1) x.length) := (hoY _ (by omega)).trans ((hoX9 _ (by omega)).trans i5)
        have hoA : ∀ j, j ≠ g + 1 + 1 + 1 + 1 → j ≠ g + 1 + 1 + 1 + 1 + 1 → j ≠ g + 1 + 1 + 1 + 1 + 1 + 1 → Y.heap[j]? = X7.heap[j]? := fun j n1 n2 n3 => (hoY j n3).trans ((hoX9 j n2).trans (hoX8 j n1))
        have c8a := g5.cell
        have c8b := g5.free
        have c9a := i6.cell
        have c9b := i6.free
        have cYa := j7.cell
        have cYb := j7.free

        refine RK.Any.store 6 (w1 := X8) (by kernel_rfl) rfl rfl (by rfl) (by go_simp) (fun _ => ⟨(hoX8 _ (by omega)).trans g1, (hoX8 _ (by omega)).trans g2, (hoX8 _ (by omega)).trans g4, i5⟩) ?_
        refine RK.Any.store 7 (w1 := X9) (by kernel_rfl) rfl rfl (by rfl) (by go_simp) (fun _ => ⟨(hoX9 _ (by omega)).trans ((hoX8 _ (by omega)).trans g1), (hoX9 _ (by omega)).trans ((hoX8 _ (by omega)).trans g2), (hoX9 _ (by omega)).trans ((hoX8 _ (by omega)).trans g4), (hoX9 _ (by omega)).trans i5⟩) ?_
        refine RK.Any.store 8 (w1 := Y) (by kernel_rfl) rfl rfl (by rfl) (by go_simp) (fun _ => ⟨(hoA _ (by omega) (by omega) (by omega)).trans g1, (hoA _ (by omega) (by omega) (by omega)).trans g2, (hoA _ (by omega) (by omega) (by omega)).trans g4, l5⟩) ?_
        have hall : ∀ (j : Nat) (o : Obj), j ≠ D + 1 → j ≠ g + 1 + 1 + 1 + 1 → j ≠ g + 1 + 1 + 1 + 1 + 1 → j ≠ g + 1 + 1 + 1 + 1 + 1 + 1 → X.heap[j]? = some o → Y.heap[j]? = some o := fun j o n0 n1 n2 n3 ho => by
          have o1 := (hoX j n0).trans ho
          have o5 := (HX5.block j (row_lt o1)).trans o1
          have o6 := (hoX6 j n1).trans o5
          exact (hoA j n1 n2 n3).trans ((b67.block j (row_lt o6)).trans o6)
        have hlX6 := (hoX6 (D + 1) (by omega)).trans hlX5
        have hlY := (hoA (D + 1) (by omega) (by omega) (by omega)).trans ((b67.block _ (row_lt hlX6)).trans hlX6)
        have hDY := hall D _ (by omega) (by omega) (by omega) (by omega) (hh.own D _ (by omega) hD5)
        have hwY : Below w.heap.size w Y := by
          rw [← hY, ← hX9, ← hX8]
          exact (((hwX6.trans (b67.mono hwX6.size)).setCell (by show w.heap.size ≤ g + 1 + 1 + 1 + 1; omega) _).setCell (by show w.heap.size ≤ g + 1 + 1 + 1 + 1 + 1; omega) _).setCell (by show w.heap.size ≤ g + 1 + 1 + 1 + 1 + 1 + 1; omega) _
        have r7 := r6.below b67
        have rY : Row Y ⟨B3, 0, none⟩ (t + 1) f := fun k hk => by
          rw [← r7 k hk]
          have hb : (Addr.add ⟨B3, 0, none⟩ k).block = B3 := by unfold Addr.add; split <;> rfl
          exact World.cell?_of_block (by rw [hb]; exact hoA _ (by omega) (by omega) (by omega))
        have vY := hvw.same (W' := Y) fun j cs hj => by
          have n1 : j ≠ g + 1 + 1 + 1 + 1 := fun e => by rw [e, show X7.heap[g + 1 + 1 + 1 + 1]? = _ from g5] at hj; cases hj
          have n2 : j ≠ g + 1 + 1 + 1 + 1 + 1 := fun e => by rw [e, show X7.heap[g + 1 + 1 + 1 + 1 + 1]? = _ from g6] at hj; cases hj
          have n3 : j ≠ g + 1 + 1 + 1 + 1 + 1 + 1 := fun e => by rw [e, show X7.heap[g + 1 + 1 + 1 + 1 + 1 + 1]? = _ from g7] at hj; cases hj
          exact (hoA j n1 n2 n3).trans hj
        have HSTOP : Hid (Y.heap[D + 1]? = some (.loop (r .busy none)) ∧ GoesOn (D + 1 + 1) (DecJ w W5 q t z y) (DecX w g D q t n z y (r .done (some .ret))) (pre ++ [x]) X (.returned (.bool false)) (Y.putObj (D + 1) (.loop (r .done (some .ret))))) := Lib.hid (by
          obtain ⟨Z, hZ⟩ : ∃ Z, Y.putObj (D + 1) (.loop (r .done (some .ret))) = Z := ⟨_, rfl⟩
          have hoZ : ∀ j, j ≠ D + 1 → Z.heap[j]? = Y.heap[j]? := fun j hj => by rw [← hZ]; exact World.putObj_heap_other hj
          have sZ : Z.heap.size = Y.heap.size := by rw [← hZ, World.putObj_size]
          have hwZ : Below w.heap.size w Z := by rw [← hZ]; exact hwY.trans (RL.below_put (by omega) hwY.size)
          have hcZ : CellsAs Y Z := by rw [← hZ]; exact cells_put hlY rfl
          refine ⟨hlY, .inr ⟨rfl, ⟨pre, x, rfl, hnf, HFT.out, by rw [World.putObj_heap_same (row_lt hlY)], by rw [hZ]; exact (hoZ D (by omega)).trans hDY, _, _, by rw [hZ]; exact (hoZ _ (by omega)).trans l5, by rw [hZ]; exact (hoZ _ (by omega)).trans l6, by rw [hZ]; exact (hoZ _ (by omega)).trans l7, ?_⟩, ?_⟩⟩
          · rw [hZ]
            refine ⟨hwZ, rfl, ⟨B3, rfl, by omega, ?_⟩, ?_⟩
            · rw [HFF.out]
              exact rY.cells hcZ
            · rw [HFF.out]
              exact vY.same fun j cs hj => hcZ _ _ _ _ hj
          · rw [hZ]
            refine ⟨?_, fun j o hj ho => (hoZ j (by omega)).trans (hall j o (by omega) (by omega) (by omega) (by omega) ho)⟩
            have := HX5.size
            have := b67.size
            have h1 : Y.heap.size = X7.heap.size := by rw [← hY, ← hX9, ← hX8, World.size_setCell, World.size_setCell, World.size_setCell]
            omega)
        refine RK.Any.done (by kernel_rfl) ?_
        clear hall hlX6 hlY hDY hwY r7 rY vY hoA hoX8 hoX9 hoY hX8 hX9 hY i5 i6 j6 j7 l5 l6 l7 c8a c8b c9a c9b cYa cYb e1 e2 e4 e5 e6 e7 g1 g2 g4 g5 g6 g7
        gi_wp2
        exact HSTOP.out
      · have HFT : Hid (MM.fitB q t z y x = false) := Lib.hid (by rw [HF.out]; exact decide_eq_false hfit)
        have HNORM : Hid (X5.heap[D + 1]? = some (.loop (r .busy none)) ∧ GoesOn (D + 1 + 1) (DecJ w W5 q t z y) (DecX w g D q t n z y (r .done (some .ret))) (pre ++ [x]) X (.returned (.bool true)) (X5.putObj (D + 1) (.loop (r .ready none)))) := Lib.hid (by
          have hk : RL.Holds 0 (X.putObj (D + 1) (.loop (r .busy none))) X5 := by rw [hX1]; exact RL.Holds.of_below HX5
          have hw5 : Below w.heap.size w X5 := hwX1.trans (HX5.mono hwX1.size)
          refine ⟨hlX5, .inl ⟨rfl, ⟨fun s hs => ?_, hw5.trans (RL.below_put (by omega) hw5.size), ?_⟩, ?_⟩⟩
          · rcases List.mem_append.1 hs with hs | hs
            · exact hnf s hs
            · obtain rfl : s = x := by simpa using hs
              exact HFT.out
          · have := RL.Holds.turn (o2 := .loop (r .ready none)) hh hl5 rfl (Nat.zero_le _) hk
            rwa [RL.putObj_self hl5] at this
          · have := RL.Holds.turn (o2 := .loop (r .ready none)) (RL.Holds.refl 0 X) hlX rfl (Nat.zero_le _) hk
            rw [RL.putObj_self hlX] at this
            exact this.up (Nat.zero_le _))
        gi_wp2
        exact HNORM.out
  have hstJ : Stable W5.heap.size (DecJ w W5 q t z y) := fun pre X Y h hb hc => ⟨h.1, h.2.1.trans (hb.mono (by have := b05.size; omega)), h.2.2.below hb⟩
  have hstX : Stable W5.heap.size (DecX w g D q t n z y (r .done (some .ret))) := fun pre X Y h hb hc => by
    obtain ⟨ini, s, e1, e2, e3, e4, e5, vc, vw, k5, k6, k7, hw, hT⟩ := h
    refine ⟨ini, s, e1, e2, e3, (hb.block _ (by omega)).trans e4, (hb.block _ (by omega)).trans e5, vc, vw, hc _ _ _ _ k5, hc _ _ _ _ k6, hc _ _ _ _ k7, hw.trans (hb.mono (by have := b05.size; omega)), hT.1, ?_, hT.2.2.same fun j cs hj => hc _ _ _ _ hj⟩
    obtain ⟨B, e, h1, h2⟩ := hT.2.1
    exact ⟨B, e, h1, h2.cells hc⟩
  have e2t : ((2 * t + 1 : Nat) : Int) = 2 * (t : Int) + 1 := by omega
  rw [← e2t] at u3
  refine CallsIn.mono (sets1_in n (by omega) (2 * t + 1) (by omega) 0 (by omega) (3 - 1) (D + 1) (h + 1 + 1) h (h + 1) _ _ W5 (u3.below b5) (u1.below b5) (u2.below b5) hstJ hstX ⟨fun s hs => (by cases hs), b05, RL.Holds.refl _ _⟩ HRND) ?_
  rintro E Y ⟨hret, ⟨hnf, hbw, hh⟩ | ⟨pre, x, hp, ini, s, he, hini, hfit, hlr, hDd, vc, vw, k5, k6, k7, hT⟩⟩
  · refine ⟨hret, .inl ⟨hh.own _ _ (Nat.zero_le _) hl5, ?_⟩⟩
    obtain ⟨Y1, hY1⟩ : ∃ Y1, Y.putObj (D + 1) (.loop (r .exhausted none)) = Y1 := ⟨_, rfl⟩
    have hoY : ∀ j, j ≠ D + 1 → Y1.heap[j]? = Y.heap[j]? := fun j hj => by rw [← hY1]; exact World.putObj_heap_other hj
    have a5 : Box Y1 (g + 1 + 1 + 1 + 1) 22 (.slice none 0 0) := (hoY _ (by omega)).trans (hh.box q5)
    have a6 : Box Y1 (g + 1 + 1 + 1 + 1 + 1) 28 (.slice none 0 0) := (hoY _ (by omega)).trans (hh.box q6)
    have a7 : Box Y1 (g + 1 + 1 + 1 + 1 + 1 + 1) 29 (.int .i64 0) := (hoY _ (by omega)).trans (hh.box q7)
    have aD : Y1.heap[D]? = some (.deferred (some [])) := (hoY D (by omega)).trans (hh.own D _ (Nat.zero_le _) hD5)
    have hw1 : Below w.heap.size w Y1 := by rw [← hY1]; exact hbw.trans (RL.below_put (by omega) hbw.size)
    rw [hY1]
    obtain ⟨Y2, hY2⟩ : ∃ Y2, Y1.setCell ⟨g + 1 + 1 + 1 + 1, 0, none⟩ (.slice none 0 0) = Y2 := ⟨_, rfl⟩
    obtain ⟨Y3, hY3⟩ : ∃ Y3, Y2.setCell ⟨g + 1 + 1 + 1 + 1 + 1, 0, none⟩ (.slice none 0 0) = Y3 := ⟨_, rfl⟩
    obtain ⟨Y4, hY4⟩ : ∃ Y4, Y3.setCell ⟨g + 1 + 1 + 1 + 1 + 1 + 1, 0, none⟩ (.int .i64 5) = Y4 := ⟨_, rfl⟩
    have b5' : Box Y2 (g + 1 + 1 + 1 + 1) 22 (.slice none 0 0) := by rw [← hY2]; exact a5.set _
    have b6' : Box Y2 (g + 1 + 1 + 1 + 1 + 1) 28 (.slice none 0 0) := by rw [← hY2]; exact a6.other _ _ (by show g + 1 + 1 + 1 + 1 + 1 ≠ g + 1 + 1 + 1 + 1; omega)
    have b7' : Box Y2 (g + 1 + 1 + 1 + 1 + 1 + 1) 29 (.int .i64 0) := by rw [← hY2]; exact a7.other _ _ (by show g + 1 + 1 + 1 + 1 + 1 + 1 ≠ g + 1 + 1 + 1 + 1; omega)
    have d5' : Box Y3 (g + 1 + 1 + 1 + 1) 22 (.slice none 0 0) := by rw [← hY3]; exact b5'.other _ _ (by show g + 1 + 1 + 1 + 1 ≠ g + 1 + 1 + 1 + 1 + 1; omega)
    have d6' : Box Y3 (g + 1 + 1 + 1 + 1 + 1) 28 (.slice none 0 0) := by rw [← hY3]; exact b6'.set _
    have d7' : Box Y3 (g + 1 + 1 + 1 + 1 + 1 + 1) 29 (.int .i64 0) := by rw [← hY3]; exact b7'.other _ _ (by show g + 1 + 1 + 1 + 1 + 1 + 1 ≠ g + 1 + 1 + 1 + 1 + 1; omega)
    have f5' : Box Y4 (g + 1 + 1 + 1 + 1) 22 (.slice none 0 0) := by rw [← hY4]; exact d5'.other _ _ (by show g + 1 + 1 + 1 + 1 ≠ g + 1 + 1 + 1 + 1 + 1 + 1; omega)
    have f6' : Box Y4 (g + 1 + 1 + 1 + 1 + 1) 28 (.slice none 0 0) := by rw [← hY4]; exact d6'.other _ _ (by show g + 1 + 1 + 1 + 1 + 1 ≠ g + 1 + 1 + 1 + 1 + 1 + 1; omega)
    have f7' : Box Y4 (g + 1 + 1 + 1 + 1 + 1 + 1) 29 (.int .i64 5) := by rw [← hY4]; exact d7'.set _
    have hmk : Marks [D] Y4 := by
      have h1 : Marks [D] Y1 := ⟨by simp, fun E hE => by
        have e : E = D := by simpa using hE
        rw [e]; exact aD⟩
      have h2 : Marks [D] Y2 := by rw [← hY2]; exact h1.setCell a5.cell
      have h3 : Marks [D] Y3 := by rw [← hY3]; exact h2.setCell b6'.cell
      rw [← hY4]
      exact h3.setCell d7'.cell
    have hw4 : Below w.heap.size w Y4 := by
      rw [← hY4, ← hY3, ← hY2]
      exact ((hw1.setCell (by show w.heap.size ≤ g + 1 + 1 + 1 + 1; omega) _).setCell (by show w.heap.size ≤ g + 1 + 1 + 1 + 1 + 1; omega) _).setCell (by show w.heap.size ≤ g + 1 + 1 + 1 + 1 + 1 + 1; omega) _
    have hnone : (MM.setsF (2 * t + 1) 0 n).find? (MM.fitB q t z y) = none := List.find?_eq_none.2 fun s hs => by simp [hnf s hs]
    have a5c := a5.cell
    have a5f := a5.free
    have b6c := b6'.cell
    have b6f := b6'.free
    have d7c := d7'.cell
    have d7f := d7'.free
    have HFIN : Hid (∀ w', Below w.heap.size Y4 w' → CellsAs Y4 w' → Box w' (g + 1 + 1 + 1 + 1) 22 (.slice none 0 0) ∧ Box w' (g + 1 + 1 + 1 + 1 + 1) 28 (.slice none 0 0) ∧ Box w' (g + 1 + 1 + 1 + 1 + 1 + 1) 29 (.int .i64 5) ∧ Told w q t n z y ((MM.setsF (2 * t + 1) 0 n).find? (MM.fitB q t z y)) (.slice none 0 0) (.slice none 0 0) 5 w') := Lib.hid fun w' hb hc => ⟨hc _ _ _ _ f5', hc _ _ _ _ f6', hc _ _ _ _ f7', by rw [hnone]; exact ⟨hw4.trans hb, rfl, rfl, rfl⟩⟩
    have HMK := Lib.hid hmk
    have hgD : w.heap.size ≤ D := by omega
    clear HRND hstJ hstX u1 u2 u3 b3 b4 b5 b35 b05 q1 q2 q3 q4 q5 q6 q7 hl5 hD5 hnf hbw hh a5 a6 a7 aD hw1 b5' b6' b7' d5' d6' d7' f5' f6' f7' hmk hw4 hnone
    gi_wp2
    refine leaves_marks (B := w.heap.size) [D] Y4 HMK.out (fun E hE => by
      have e : E = D := by simpa using hE
      omega) fun w' hb hcs => ?_
    obtain ⟨m5, m6, m7, hT⟩ := HFIN.out w' hb hcs
    have n5 := m5.cell
    have n6 := m6.cell
    have n7 := m7.cell
    refine ⟨_, ?_, _, _, _, rfl, hT⟩
    rw [results_cells3 rfl]
    simp [go_sem, n5, n6, n7]
  · refine ⟨hret, .inr ⟨_, hlr, ?_⟩⟩
    obtain ⟨Y1, hY1⟩ : ∃ Y1, Y.putObj (D + 1) (.loop (r .exhausted (some .ret))) = Y1 := ⟨_, rfl⟩
    have hcY : CellsAs Y Y1 := by rw [← hY1]; exact cells_put hlr rfl
    have hmk : Marks [D] Y1 := ⟨by simp, fun E hE => by
      have e : E = D := by simpa using hE
      rw [e, ← hY1]
      exact (World.putObj_heap_other (by omega)).trans hDd⟩
    have hbY : Below w.heap.size Y Y1 := by rw [← hY1]; exact RL.below_put (by omega) hT.1.size
    have hsome : (MM.setsF (2 * t + 1) 0 n).find? (MM.fitB q t z y) = some s := by
      obtain ⟨rest, hrest⟩ := hp
      rw [he] at hrest
      refine List.find?_eq_some_iff_append.2 ⟨hfit, ini, rest, ?_, fun a ha => by simp [hini a ha]⟩
      rw [← hrest]; simp
    have HFIN : Hid (∀ w', Below w.heap.size Y1 w' → CellsAs Y1 w' → Box w' (g + 1 + 1 + 1 + 1) 22 vc ∧ Box w' (g + 1 + 1 + 1 + 1 + 1) 28 vw ∧ Box w' (g + 1 + 1 + 1 + 1 + 1 + 1) 29 (.int .i64 0) ∧ Told w q t n z y ((MM.setsF (2 * t + 1) 0 n).find? (MM.fitB q t z y)) vc vw 0 w') := Lib.hid fun w' hb hc => by
      have hc2 := hcY.trans hc
      refine ⟨hc2 _ _ _ _ k5, hc2 _ _ _ _ k6, hc2 _ _ _ _ k7, ?_⟩
      rw [hsome]
      obtain ⟨hw, hz0, ⟨B, e1, e2, e3⟩, hv⟩ := hT
      exact ⟨(hw.trans hbY).trans hb, hz0, ⟨B, e1, e2, e3.cells hc2⟩, hv.same fun j cs hj => hc2 _ _ _ _ hj⟩
    have HMK := Lib.hid hmk
    have hgD : w.heap.size ≤ D := by omega
    obtain ⟨s1v, s2v, s3v, rfl⟩ : ∃ so sl sc, vc = .slice so sl sc := by
      obtain ⟨B, e1, _⟩ := hT.2.2.1
      exact ⟨_, _, _, e1⟩
    obtain ⟨so, sl, sc, rfl⟩ : ∃ so sl sc, vw = .slice so sl sc := by
      obtain ⟨rfl, _⟩ | ⟨_, _, rfl, _⟩ := hT.2.2.2 <;> exact ⟨_, _, _, rfl⟩
    rw [hY1]
    clear HRND hstJ hstX u1 u2 u3 b3 b4 b5 b35 b05 q1 q2 q3 q4 q5 q6 q7 hl5 hD5 hmk hbY hsome hcY hY1 hT k5 k6 k7 hDd hlr
    gi_wp2
    refine leaves_marks (B := w.heap.size) [D] Y1 HMK.out (fun E hE => by
      have e : E = D := by simpa using hE
      omega) fun w' hb hcs => ?_
    obtain ⟨m5, m6, m7, hT⟩ := HFIN.out w' hb hcs
    have n5 := m5.cell
    have n6 := m6.cell
    have n7 := m7.cell
    refine ⟨_, ?_, _, _, _, rfl, hT⟩
    rw [results_cells3 rfl]
    simp [go_sem, n5, n6, n7]
end M
end Go.Proofs.YtaogdhpiiclejaaDoor

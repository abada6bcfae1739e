/- The texts RangeK, DskBack, DskRd, DskStep, one behind the other. -/
import Derived.Test.YtoacmingocmaaaaGreatDoorWB6
import Derived.Test.YtoacmingocmaaaaGreatDoorWB5
/- A range over a function, outermost in its activation, by an invariant that speaks of cells alone: the loop's own block and its mark are carried along here, once and for all. -/
namespace Go.Proofs.YtoacmingocmaaaaGreatDoor
open Go Go.RowKit
namespace M
theorem CellsAs.refl (X : World) : CellsAs X X := fun _ _ _ _ h => h
theorem CellsAs.trans' {X Y Z : World} (h : CellsAs X Y) (k : CellsAs Y Z) : CellsAs X Z := fun j cs t fr e => k j cs t fr (h j cs t fr e)
theorem CellsAs.of_below {X Y : World} (h : Below X.heap.size X Y) : CellsAs X Y := fun k _ _ _ e => (h.block k (row_lt e)).trans e
theorem CellsAs.put {X : World} {l : Nat} {o o' : Obj} (hl : X.heap[l]? = some o) (ho : o.isCells = false) : CellsAs X (X.putObj l o') := fun k _ _ _ e => (World.putObj_heap_other (fun e' => by subst e'; rw [hl] at e; cases e; cases ho)).trans e
theorem cell_block {X : World} {a : Addr} {v : Value} (h : X.cell? a = some v) : ∃ cs t fr, X.heap[a.block]? = some (.cells cs t fr) := by
  unfold World.cell? at h
  cases e : X.heap[a.block]? with
  | none => rw [e] at h; simp at h
  | some o =>
    rw [e] at h
    cases o with
    | cells cs t fr => exact ⟨cs, t, fr, rfl⟩
    | _ => simp at h
theorem CellsAs.cell {X Y : World} (h : CellsAs X Y) {a : Addr} {v : Value} (hc : X.cell? a = some v) : Y.cell? a = some v := by
  obtain ⟨cs, t, fr, hb⟩ := cell_block hc
  rw [← hc]
  exact World.cell?_of_block ((h _ _ _ _ hb).trans hb.symm)
end M
namespace RL
open M
/-- What is no cells stays as it is. -/
def Objs (X Y : World) : Prop := ∀ (k : Nat) (o : Obj), o.isCells = false → X.heap[k]? = some o → Y.heap[k]? = some o
theorem Objs.refl (X : World) : Objs X X := fun _ _ _ h => h
theorem Objs.trans {X Y Z : World} (h : Objs X Y) (k : Objs Y Z) : Objs X Z := fun j o ho e => k j o ho (h j o ho e)
theorem Objs.of_below {X Y : World} (h : Below X.heap.size X Y) : Objs X Y := fun k _ _ e => (h.block k (row_lt e)).trans e
theorem Objs.setCell {X : World} {a : Addr} {u : Value} (hc : X.cell? a = some u) (v : Value) : Objs X (X.setCell a v) := fun k o ho e => (Below.heap_setCell X a v k (fun e' => by
  obtain ⟨cs, t, fr, hb⟩ := cell_block hc
  rw [e', hb] at e
  cases e; cases ho)).trans e
theorem Objs.drewN (X : World) (n : Nat) : Objs X (X.drewN n) := fun _ _ _ e => e
theorem Objs.grown {X Y : World} {row : Option Nat} (h : X.grownBy Y row) (hr : ∀ k, row = some k → ∃ cs t fr, X.heap[k]? = some (.cells cs t fr)) : Objs X Y := fun k o ho e => (h.block k (row_lt e) (fun e' => by
  obtain ⟨cs, t, fr, hb⟩ := hr k e'.symm
  rw [hb] at e; cases e; cases ho)).trans e
/-- How a round's body is left, by an invariant on cells. -/
def Leaves (X1 : World) (J Jx : World → Prop) : Exit → Act → World → Prop
  | .normal, _, W => J W ∧ Objs X1 W
  | .ret, _, W => Jx W ∧ Objs X1 W
  | _, _, _ => False
section
variable {n : Nat} {P : Program}
/-- A round, where the assignment may lay something anew. -/
theorem roundA {l : Nat} {fn : FuncId} {tmps : Array Value} {ps : Array Tmp} {assign body : Code} {D : Nat} {args : Array Value} {R : Ending → World → Prop} {W W1 : World} {r : LoopState → Option Code → Loop} (hr : r = loopRec fn tmps ps assign body D) (a1 : Act)
    (hl : W.heap[l]? = some (.loop (r .ready none))) (hl1 : W1.heap[l]? = some (.loop (r .ready none))) (hs : args.size = ps.size)
    (hassign : ∀ K : Act → World → Prop, K a1 W1 → assign.wpIn (Fence.wide.inRound l) n P (Exit.then K (fun _ _ _ => False)) { tmps := (ps.zip args).foldl (fun t (p, v) => t.setIfInBounds p v) tmps, defers := [] } W)
    (hbody : body.wpIn (Fence.wide.inRound l) n P (Left l r R) a1 (W1.putObj l (.loop (r .busy none)))) :
    YieldAt Fence.wide n P l args W R := by
  subst hr
  refine ⟨fn, _, assign, body, run_yield hl hs, roundIn_of_wpIn trivial (hassign _ ⟨_, run_beginRound hl1 rfl, wpIn_mono hbody ?_⟩)⟩
  rintro e a3 W3 h
  cases e with
  | normal => exact ⟨_, _, run_endRound none h.1, h.2⟩
  | ret => exact ⟨_, _, run_endRound _ h.1, h.2⟩
  | exit id => exact ⟨_, _, run_endRound _ h.1, h.2⟩
  | goto t => exact ⟨_, _, run_endRound _ h.1, h.2⟩
  | panic _ => exact h
  | outgrown => exact h
/-- What a function that is ranged over does: it yields N times, as long as it is told to go on. -/
def Seq (n : Nat) (P : Program) (gf : FuncId) (lb : Array Value) (N : Nat) (I : Nat → World → Prop) (El : Nat → Array Value → World → Prop) : Prop :=
  ∀ (l : Nat) (W : World) (J : Nat → World → Prop) (Jx : World → Prop), (∀ j X, J j X → I j X) → (∀ j X Y, J j X → Below X.heap.size X Y → J j Y) → (∀ X Y, Jx X → Below X.heap.size X Y → Jx Y) → J 0 W →
    (∀ j args X, j < N → J j X → El j args X → YieldAt Fence.wide (n - 1) P l args X fun e Y => (e = .returned (.bool true) ∧ J (j + 1) Y) ∨ (e = .returned (.bool false) ∧ Jx Y)) →
    CallsIn Fence.wide n P gf (#[.func (.yield l) #[] #[]] ++ lb) W fun e Y => (∃ v, e = .returned v) ∧ (J N Y ∨ Jx Y)
theorem range {g : Operand} {ps : Array Tmp} {assign body : Code} {Q : Exit → Act → World → Prop} {a : Act} {w : World} {gf : Nat} {lb : Array Value} (B N : Nat) (I : Nat → World → Prop) (Ix : World → Prop) (El : Nat → Array Value → World → Prop)
    (hg : a.eval g = .func (.func gf) #[] lb) (eg : ∀ args w, (callFunc gf args).run P w = .ok (.enter gf args) w)
    (hB : B ≤ w.heap.size)
    (hS : ∀ j X Y, I j X → Below B X Y → CellsAs X Y → I j Y) (hSx : ∀ X Y, Ix X → Below B X Y → CellsAs X Y → Ix Y)
    (hE : ∀ j args X Y, El j args X → CellsAs X Y → El j args Y)
    (h0 : I 0 w) (hseq : Seq (n - 1) P gf lb N (fun j X => I j X ∧ B ≤ X.heap.size) El)
    (hround : ∀ (l j : Nat) (args : Array Value) (X : World), j < N → I j X → El j args X → B ≤ l → B ≤ X.heap.size →
      ∃ a1 W1, Below X.heap.size X W1 ∧ args.size = ps.size ∧
        (∀ K : Act → World → Prop, K a1 W1 → assign.wpIn (Fence.wide.inRound l) (n - 1 - 1) P (Exit.then K (fun _ _ _ => False)) { tmps := (ps.zip args).foldl (fun t (p, v) => t.setIfInBounds p v) a.tmps, defers := [] } X) ∧
        ∀ X1, CellsAs W1 X1 → I j X1 → El j args X1 → B ≤ X1.heap.size → body.wpIn (Fence.wide.inRound l) (n - 1 - 1) P (Leaves X1 (fun Y => I (j + 1) Y ∧ B ≤ Y.heap.size) (fun Y => Ix Y ∧ B ≤ Y.heap.size)) a1 X1)
    (hend : ∀ Y D, I N Y → Y.heap[D]? = some (.deferred (some [])) → B ≤ D → B ≤ Y.heap.size → Q .normal { a with defers := M.mark D :: a.defers } Y)
    (hstop : ∀ Y D, Ix Y → Y.heap[D]? = some (.deferred (some [])) → B ≤ D → B ≤ Y.heap.size → Code.ret.wpIn Fence.wide n P Q { a with defers := M.mark D :: a.defers } Y) :
    (Code.rangeFunc g ps assign body).wpIn Fence.wide n P Q a w := by
  refine enter' hg eg fun fn r hr => ?_
  obtain ⟨D, hD⟩ : ∃ D, w.heap.size = D := ⟨_, rfl⟩
  obtain ⟨W, hW⟩ : ∃ W, (w.alloc (.deferred (some []))).alloc (.loop (r .ready none)) = W := ⟨_, rfl⟩
  have b4 : Below w.heap.size w W := by rw [← hW]; exact (below_box _ _).trans ((below_box _ _).mono (by simp))
  have hl4 : W.heap[D + 1]? = some (.loop (r .ready none)) := by
    have := World.alloc_heap_new (w.alloc (.deferred (some []))) (.loop (r .ready none))
    rwa [World.size_alloc, hD, hW] at this
  have hD4 : W.heap[D]? = some (.deferred (some [])) := by
    have h1 := World.alloc_heap_new w (.deferred (some []))
    rw [hD] at h1
    have h2 := (below_box (w.alloc (.deferred (some []))) (.loop (r .ready none))).block D (row_lt h1)
    rw [hW] at h2
    exact h2.trans h1
  rw [hW]
  rw [hD] at hr hB ⊢
  have hturn : ∀ (X : World) (st st' : LoopState) (pe pe' : Option Code), X.heap[D + 1]? = some (.loop (r st pe)) → B ≤ X.heap.size → Below B X (X.putObj (D + 1) (.loop (r st' pe'))) ∧ CellsAs X (X.putObj (D + 1) (.loop (r st' pe'))) :=
    fun X st st' pe pe' h hs => ⟨below_put (by omega) hs, CellsAs.put h rfl⟩
  have hother : ∀ (X : World) (o : Obj), X.heap[D]? = some (.deferred (some [])) → (X.putObj (D + 1) o).heap[D]? = some (.deferred (some [])) := fun X o h => (World.putObj_heap_other (by omega)).trans h
  obtain ⟨J, hJ⟩ : ∃ J : Nat → World → Prop, J = fun j X => (I j X ∧ B ≤ X.heap.size) ∧ X.heap[D + 1]? = some (.loop (r .ready none)) ∧ X.heap[D]? = some (.deferred (some [])) := ⟨_, rfl⟩
  obtain ⟨Jx, hJx⟩ : ∃ Jx : World → Prop, Jx = fun X => (Ix X ∧ B ≤ X.heap.size) ∧ X.heap[D + 1]? = some (.loop (r .done (some .ret))) ∧ X.heap[D]? = some (.deferred (some [])) := ⟨_, rfl⟩
  refine (hseq (D + 1) W J Jx (fun j X h => by rw [hJ] at h; exact h.1) (fun j X Y h hb => ?_) (fun X Y h hb => ?_) ?_ ?_).mono ?_
  · rw [hJ] at h ⊢
    exact ⟨⟨hS _ _ _ h.1.1 (hb.mono h.1.2) (.of_below hb), Nat.le_trans h.1.2 hb.size⟩, (hb.block _ (row_lt h.2.1)).trans h.2.1, (hb.block _ (row_lt h.2.2)).trans h.2.2⟩
  · rw [hJx] at h ⊢
    exact ⟨⟨hSx _ _ h.1.1 (hb.mono h.1.2) (.of_below hb), Nat.le_trans h.1.2 hb.size⟩, (hb.block _ (row_lt h.2.1)).trans h.2.1, (hb.block _ (row_lt h.2.2)).trans h.2.2⟩
  · rw [hJ]
    exact ⟨⟨hS _ _ _ h0 (b4.mono (by omega)) (.of_below b4), by have := b4.size; omega⟩, hl4, hD4⟩
  · intro j args X hj hJX hEl
    rw [hJ] at hJX
    obtain ⟨⟨hI, hsX⟩, hlX, hDX⟩ := hJX
    obtain ⟨a1, W1, hb1, hsz, hassign, hbody⟩ := hround (D + 1) j args X hj hI hEl (by omega) hsX
    have hlW : W1.heap[D + 1]? = some (.loop (r .ready none)) := (hb1.block _ (row_lt hlX)).trans hlX
    have hDW : W1.heap[D]? = some (.deferred (some [])) := (hb1.block _ (row_lt hDX)).trans hDX
    have hsW : B ≤ W1.heap.size := Nat.le_trans hsX hb1.size
    obtain ⟨t1, t2⟩ := hturn W1 .ready .busy none none hlW hsW
    refine roundA hr a1 hlX hlW hsz hassign (wpIn_mono (hbody _ t2 (hS _ _ _ hI ((hb1.mono hsX).trans t1) ((CellsAs.of_below hb1).trans' t2)) (hE _ _ _ _ hEl ((CellsAs.of_below hb1).trans' t2)) (by rw [World.putObj_size]; exact hsW)) ?_)
    have hbusy : (W1.putObj (D + 1) (.loop (r .busy none))).heap[D + 1]? = some (.loop (r .busy none)) := World.putObj_heap_same (row_lt hlW)
    have hDb := hother W1 (.loop (r .busy none)) hDW
    rintro e a3 W3 h
    cases e with
    | normal =>
      obtain ⟨⟨h1, h2⟩, h3⟩ := h
      have k1 := h3 _ _ rfl hbusy
      have k2 := h3 _ _ rfl hDb
      obtain ⟨t3, t4⟩ := hturn W3 .busy .ready none none k1 h2
      refine ⟨k1, .inl ⟨rfl, ?_⟩⟩
      rw [hJ]
      exact ⟨⟨hS _ _ _ h1 t3 t4, by rw [World.putObj_size]; exact h2⟩, World.putObj_heap_same (row_lt k1), hother _ _ k2⟩
    | ret =>
      obtain ⟨⟨h1, h2⟩, h3⟩ := h
      have k1 := h3 _ _ rfl hbusy
      have k2 := h3 _ _ rfl hDb
      obtain ⟨t3, t4⟩ := hturn W3 .busy .done none (some .ret) k1 h2
      refine ⟨k1, .inr ⟨rfl, ?_⟩⟩
      rw [hJx]
      exact ⟨⟨hSx _ _ h1 t3 t4, by rw [World.putObj_size]; exact h2⟩, World.putObj_heap_same (row_lt k1), hother _ _ k2⟩
    | exit id => exact h.elim
    | goto t => exact h.elim
    | panic _ => exact h.elim
    | outgrown => exact h.elim
  · rintro E Y ⟨hret, hj | hj⟩
    · rw [hJ] at hj
      obtain ⟨⟨h1, h2⟩, k1, k2⟩ := hj
      obtain ⟨t3, t4⟩ := hturn Y .ready .exhausted none none k1 h2
      exact ⟨hret, .inl ⟨k1, hend _ D (hS _ _ _ h1 t3 t4) (hother _ _ k2) hB (by rw [World.putObj_size]; exact h2)⟩⟩
    · rw [hJx] at hj
      obtain ⟨⟨h1, h2⟩, k1, k2⟩ := hj
      obtain ⟨t3, t4⟩ := hturn Y .done .exhausted (some .ret) (some .ret) k1 h2
      exact ⟨hret, .inr ⟨.ret, k1, hstop _ D (hSx _ _ h1 t3 t4) (hother _ _ k2) hB (by rw [World.putObj_size]; exact h2)⟩⟩
end
end RL
end Go.Proofs.YtoacmingocmaaaaGreatDoor
/- The library's Backward over a row of writes. -/
namespace Go.Proofs.YtoacmingocmaaaaGreatDoor
open Go Go.RowKit Go.Lib Go.Shelf
namespace M
open MM
attribute [local go_sem] Oper.semAt_some
theorem backward_any (v : Value) (w : World) (hv : ∃ ao n c, v = .slice ao n c) :
    Calls Tryz.prog 57 #[v] w fun e w' => e = .returned (.func (.func 79) #[] #[.pointer (some ⟨w.heap.size, 0, none⟩)]) ∧ w.alloc (.cells #[v] 55) = w' := by
  obtain ⟨ao, n, c, rfl⟩ := hv
  go_enter Tryz.func57, Tryz.ntmps57
  go_wp2_with fail
  go_ret
  exact ⟨rfl, rfl⟩
set_option maxRecDepth 100000 in
set_option maxHeartbeats 4000000 in
theorem back_seq (n : Nat) (Bs : Nat) (ao : Option Addr) (L cap : Nat) (c : List (Int × By)) (hL : c.length = L) (hL9 : L ≤ 1000000) (hcap : L ≤ cap) (I : Nat → World → Prop)
    (hI : ∀ j X, I j X → Box X Bs 55 (.slice ao L cap) ∧ CacheAt X (.slice ao L cap) c) :
    RL.Seq n Tryz.prog 79 #[.pointer (some ⟨Bs, 0, none⟩)] L I (fun j args _ => ∃ x, c[L - 1 - j]? = some x ∧ args = #[.int .i64 ((L - 1 - j : Nat) : Int), wv x.1 x.2]) := by
  intro l W J Jx hJI hJS _ h0 hY
  have HI := Lib.hid (fun j X (h : J j X) => hI j X (hJI j X h))
  have HY := Lib.hid hY
  have HL := Lib.hid hL
  have cB := (HI.out 0 W h0).1.cell
  have H0 := Lib.hid h0
  have hL1 : (L : Int) ≤ 1000000 := by omega
  clear hI hJI hJS hY h0 hL
  refine callsIn_of_wp Tryz.func79 rfl trivial ?_ rfl
  simp only [Tryz.ntmps79, List.size_toArray, List.length_cons, List.length_nil, Nat.reduceAdd, Nat.reduceSub, Array.replicate_succ, Array.replicate_zero, List.push_toArray, List.append_toArray, List.nil_append, List.cons_append]
  gi_wp2
  clear cB
  gi_loopw [3] (fun i wr => ∃ (j : Nat) (d : Int), j ≤ L ∧ i = .int .i64 d ∧ d = (L : Int) - 1 - j ∧ Hid (J j wr)) (fun i _ => (RowKit.intOf i + 1).toNat)
  case atStart => exact ⟨0, _, Nat.zero_le _, rfl, by omega, H0⟩
  case round =>
    clear H0
    obtain ⟨j, d, hj, rfl, hd, HJ⟩ := hrel
    by_cases hlt : j < L
    · obtain ⟨k, hk⟩ : ∃ k : Nat, L - 1 - j = k := ⟨_, rfl⟩
      obtain rfl : d = (k : Int) := by omega
      have hdk : Hid ((k : Int) = (L : Int) - 1 - j) := Lib.hid hd
      clear hd
      have cB := (HI.out j wr HJ.out).1.cell
      have hC := (HI.out j wr HJ.out).2
      obtain ⟨x, hx⟩ : ∃ x, c[k]? = some x := ⟨_, List.getElem?_eq_getElem (by rw [HL.out]; omega)⟩
      obtain ⟨g, cap2, hv, hrg⟩ := write_range hC hx
      obtain rfl : ao = some ⟨g, 0, none⟩ := by injection hv
      have hc0 := hrg 0 _ rfl
      have hc1 := hrg 1 _ rfl
      rw [Nat.add_zero] at hc0
      obtain ⟨fn, tmps, assign, body, hy, hR⟩ := HY.out j #[.int .i64 (k : Int), wv x.1 x.2] wr hlt HJ.out ⟨x, by rw [hk]; exact hx, by rw [hk]⟩
      have HRD := Lib.hid hR
      have hj0 : (0 : Int) ≤ (k : Int) := Int.natCast_nonneg _
      have hj1 : (k : Int) < (L : Int) := by omega
      obtain ⟨xk, xt⟩ := x
      simp only at hc0 hc1 hy
      clear hR hC hrg hv hx
      gi_wp2
      refine ⟨fun h => (by cases h), HRD.out.mono ?_⟩
      rintro e W3 (⟨rfl, hJ3⟩ | ⟨rfl, hJx3⟩)
      · have HJ3 := Lib.hid hJ3
        clear hJ3
        gi_wp2
        go_roundw
        case rel => exact ⟨j + 1, _, by omega, rfl, by have := hdk.out; omega, HJ3⟩
        case measure => simp [RowKit.intOf]
      · have HJ3 := Lib.hid hJx3
        clear hJx3
        gi_wp2
        refine bodyPost_ret (results_none rfl _ _ _) rfl ?_
        exact ⟨⟨_, rfl⟩, .inr HJ3.out⟩
    · obtain rfl : j = L := by omega
      obtain rfl : d = -1 := by omega
      clear hd
      gi_wp2
      go_end0
      exact ⟨⟨_, rfl⟩, .inl HJ.out⟩
end M
end Go.Proofs.YtoacmingocmaaaaGreatDoor
/- The walk of reading a sector. -/
namespace Go.Proofs.YtoacmingocmaaaaGreatDoor
open Go Go.RowKit Go.Lib Go.Shelf
namespace M
open MM
attribute [local go_sem] Oper.semAt_some
theorem Box.as {W W' : World} {B : Nat} {t : TypeId} {v : Value} (h : Box W B t v) (hb : CellsAs W W') : Box W' B t v := hb _ _ _ _ h
theorem clone_any (t : By) (ht : t.length ≤ 1000000) (W : World) : Calls Tryz.prog 58 #[.string ⟨t.toArray⟩] W fun e w' => e = .returned (.string ⟨t.toArray⟩) ∧ Below W.heap.size W w' := by
  have hC := fun W => Tryz.stringslite_Clone ⟨t.toArray⟩ W (by rw [Lib.size_eq]; show t.length ≤ _; omega)
  go_enter Tryz.func58, Tryz.ntmps58
  go_wp2_with (go_at_call 80; (with_reducible refine (hC _).mono ?_); rintro e w' ⟨rfl, hb⟩)
  go_ret
  exact ⟨rfl, hb⟩
theorem read_alive {s : Dsk} (hs : s.Wf) (hd : s.dead = false) (k : Int) : (∀ t, lastOf s.c k = some t → s.read k = t ∧ t.length = 512) ∧ (lastOf s.c k = none → s.read k = s.platter k) := by
  unfold Dsk.read Dsk.platter
  rw [hd]
  refine ⟨fun t ht => ?_, fun ht => ?_⟩
  · obtain ⟨h1, h2⟩ := hs.c _ (lastOf_some ht)
    simp only at h1 h2
    simp [h1, ht, h2]
  · simp [ht]
section
variable {w : World} {F : Nat → Prop} {B N : Nat} {s : Dsk}
set_option maxRecDepth 100000 in
set_option maxHeartbeats 8000000 in
theorem read_any (h : Dk w F B N s) (k : Int) : Calls Tryz.prog 36 #[ptr B, .int .i64 k] w fun e w' => e = .returned (.string ⟨(s.read k).toArray⟩) ∧ Below w.heap.size w w' := by
  refine (callsIn_wide (n := 4)).1 ?_
  obtain ⟨g, hg⟩ : ∃ g, w.heap.size = g := ⟨_, rfl⟩
  have x1 := Box.new w 3 (.int .i64 k)
  have b1 := below_box w (.cells #[.int .i64 k] 3)
  have s1 : (w.alloc (.cells #[.int .i64 k] 3)).heap.size = g + 1 := by rw [World.size_alloc, hg]
  rw [hg] at x1
  obtain ⟨W1, hW1⟩ : ∃ W1, w.alloc (.cells #[.int .i64 k] 3) = W1 := ⟨_, rfl⟩
  rw [hW1] at x1 b1 s1
  have x2 := Box.new W1 9 (.string ⟨#[]⟩)
  have b2 := below_box W1 (.cells #[.string ⟨#[]⟩] 9)
  have s2 : (W1.alloc (.cells #[.string ⟨#[]⟩] 9)).heap.size = g + 1 + 1 := by rw [World.size_alloc, s1]
  rw [s1] at x2
  obtain ⟨W2, hW2⟩ : ∃ W2, W1.alloc (.cells #[.string ⟨#[]⟩] 9) = W2 := ⟨_, rfl⟩
  rw [hW2] at x2 b2 s2
  have y1 := x1.below b2
  have b0 : Below w.heap.size w W2 := b1.trans (b2.mono b1.size)
  have HD2 := Lib.hid (h.step b0)
  have HDE := Lib.hid (dead_any HD2.out)
  have c2 := x2.cell
  have f2 := x2.free
  obtain ⟨m, v, fu, le, n, hl⟩ := h.lies
  have cv := (box_cells ((b0.block B (h.old B h.FB)).trans hl.box)).2.1
  rw [hg] at b0
  have hl4 : 1 ≤ 4 := by omega
  by_cases hd : s.dead = true
  · rw [hd] at HDE
    have hr : s.read k = [] := by unfold Dsk.read; rw [if_pos hd]
    rw [hr]
    have HB := Lib.hid (b0.setCell (p := ⟨g + 1, 0, none⟩) (by show g ≤ g + 1; omega) (.string ⟨#[]⟩))
    have HX := Lib.hid (x2.set (.string ⟨#[]⟩))
    clear x1 b1 b2 y1 b0 x2 hl cv hr
    refine callsIn_wide.2 ?_
    go_enter Tryz.func36, Tryz.ntmps36
    go_wp2_with (go_at_call 45; (with_reducible refine HDE.out.mono ?_); rintro e w' ⟨rfl, hw'⟩; replace hw' := hw'.symm; subst hw')
    have c3 := HX.out.cell
    generalize W2.setCell ⟨g + 1, 0, none⟩ (.string ⟨#[]⟩) = W3 at *
    refine bodyPost_ret (v := .string ⟨#[]⟩) (w := W3) (by simp [results, Tryz.results36, go_sem, c3]) rfl ⟨rfl, by first | exact HB.out | (rw [hg]; exact HB.out)⟩
  have hd' : s.dead = false := by simpa using hd
  rw [hd'] at HDE
  obtain ⟨hhit, hmiss⟩ := read_alive h.wf hd' k
  obtain ⟨R, hR⟩ : ∃ R, s.read k = R := ⟨_, rfl⟩
  rw [hR] at hhit hmiss ⊢
  have HCW := Lib.hid h.wf.c
  have hfew := hl.few
  have hN := h.N
  obtain ⟨co, L, cap, rfl, hLL, hcap⟩ : ∃ co L cap, v = .slice co L cap ∧ s.c.length = L ∧ L ≤ cap := by
    rcases hl.cache.rd with ⟨rfl, hn⟩ | ⟨g', cap, hv, hc, _⟩
    · exact ⟨none, 0, 0, rfl, by rw [hn]; rfl, Nat.le_refl _⟩
    · exact ⟨_, _, cap, hv, rfl, hc⟩
  have HDW : Hid (∀ X, Below g w X → Dk X F B N s) := Lib.hid fun X hX => h.step (hg ▸ hX)
  have HB2 := Lib.hid b0
  have HX2 := Lib.hid x2
  have HY1 := Lib.hid y1
  have HCA : Hid (∀ X, Below g w X → CacheAt X (.slice co L cap) s.c) := Lib.hid fun X hX => hl.cache.of fun g' hg' => hX.block g' (by have := h.old g' (hl.vF g' hg'); omega)
  have hgw := Lib.hid hg
  clear hd hl h x1 b1 b2 hR
  refine callsIn_of_wp_marks Tryz.func36 rfl trivial ?_ rfl
  simp only [Tryz.ntmps36, List.size_toArray, List.length_cons, List.length_nil, Nat.reduceAdd, Nat.reduceSub, Array.replicate_succ, Array.replicate_zero, List.push_toArray, List.append_toArray, List.nil_append, List.cons_append]
  gi_upto_region 3 with (refine ⟨trivial, ?_⟩; gi_at_call 45; refine (callsIn_wide.2 HDE.out).mono ?_; rintro e w' ⟨rfl, hw'⟩; replace hw' := hw'.symm; subst hw')
  gi_wp2_with (refine ⟨trivial, ?_⟩; gi_at_call 57; refine (callsIn_wide.2 (backward_any (.slice co L cap) _ ⟨_, _, _, rfl⟩)).mono ?_; rintro e w4 ⟨rfl, hw4⟩; have HW4 := Lib.hid hw4; clear hw4)
  have b3 := below_box W2 (.cells #[.slice co L cap] 55)
  have x3 := Box.new W2 55 (.slice co L cap)
  have s3 : (W2.alloc (.cells #[.slice co L cap] 55)).heap.size = g + 1 + 1 + 1 := by rw [World.size_alloc, s2]
  rw [HW4.out] at b3 x3 s3
  rw [s2] at x3
  have b04 : Below g w w4 := HB2.out.trans (b3.mono (by omega))
  have k2 := HX2.out.below b3
  have k1 := HY1.out.below b3

  clear x2 y1 b0 c2 f2 cv HW4 b3 HDE
  obtain ⟨I, hI⟩ : ∃ I : Nat → World → Prop, I = fun j X => Below g w X ∧ Box X g 3 (.int .i64 k) ∧ Box X (g + 1) 9 (.string ⟨#[]⟩) ∧ Box X (g + 1 + 1) 55 (.slice co L cap) ∧ ∀ (i : Nat) (y : Int × By), L - j ≤ i → s.c[i]? = some y → y.1 ≠ k := ⟨_, rfl⟩
  obtain ⟨Ix, hIx⟩ : ∃ Ix : World → Prop, Ix = fun X => Below g w X ∧ Box X (g + 1) 9 (.string ⟨R.toArray⟩) := ⟨_, rfl⟩
  refine RL.range (gf := 79) (lb := #[.pointer (some ⟨g + 1 + 1, 0, none⟩)]) (g + 1 + 1 + 1) L I Ix (fun j args _ => ∃ x, s.c[L - 1 - j]? = some x ∧ args = #[.int .i64 ((L - 1 - j : Nat) : Int), wv x.1 x.2]) rfl (enters_of Tryz.func79 (by kernel_rfl) rfl) (Nat.le_of_eq s3.symm) ?hS ?hSx (fun _ _ _ _ h _ => h) ?h0 ?hseq ?hround ?hend ?hstop
  case hS =>
    intro j X Y h hb hc
    rw [hI] at h ⊢
    obtain ⟨h1, h2, h3, h4, h5⟩ := h
    exact ⟨h1.trans (hb.mono (by omega)), h2.as hc, h3.as hc, h4.as hc, h5⟩
  case hSx =>
    intro X Y h hb hc
    rw [hIx] at h ⊢
    exact ⟨h.1.trans (hb.mono (by omega)), h.2.as hc⟩
  case h0 =>
    rw [hI]
    refine ⟨b04, k1, k2, x3, fun i y hi hy => ?_⟩
    have := (List.getElem?_eq_some_iff.1 hy).1
    omega
  case hseq =>
    exact back_seq (4 - 1) (g + 1 + 1) co L cap s.c hLL (by omega) hcap (fun j X => I j X ∧ g + 1 + 1 + 1 ≤ X.heap.size) (fun j X h => by rw [hI] at h; exact ⟨h.1.2.2.2.1, HCA.out X h.1.1⟩)
  case hround =>
    rintro l j args X hj hIX ⟨x, hx, rfl⟩ hBl hBX
    have HXI := Lib.hid hx
    obtain ⟨_, hx5⟩ := HCW.out x (List.mem_of_getElem? hx)
    obtain ⟨xk, xt⟩ := x
    simp only at hx5
    have q1 := below_box X (.cells #[.int .i64 xk, .string ⟨xt.toArray⟩] 77)
    have n1 := heap_alloc_new X (.cells #[.int .i64 xk, .string ⟨xt.toArray⟩] 77)
    obtain ⟨h, hh⟩ : ∃ h, X.heap.size = h := ⟨_, rfl⟩
    apply Exists.intro
    refine ⟨X.alloc (.cells #[.int .i64 xk, .string ⟨xt.toArray⟩] 77), q1, rfl, fun K hK => ?_, fun X1 hc hI1 _ hB1 => ?_⟩
    · gi_wp2
      exact hK
    · have d0 : (X.alloc (.cells #[.int .i64 xk, .string ⟨xt.toArray⟩] 77)).cell? ⟨X.heap.size, 0, none⟩ = some (.int .i64 xk) := (cell_of_row _ _ 0 _ _ _ n1).trans rfl
      have d1 : (X.alloc (.cells #[.int .i64 xk, .string ⟨xt.toArray⟩] 77)).cell? ⟨X.heap.size, 1, none⟩ = some (.string ⟨xt.toArray⟩) := (cell_of_row _ _ 1 _ _ _ n1).trans rfl
      have v0 := hc.cell d0
      have v1 := hc.cell d1
      rw [hI] at hI1
      obtain ⟨i1, i2, i3, i4, i5⟩ := hI1
      have ck := i2.cell
      simp only [hh] at v0 v1 ⊢
      have hl2 : 1 ≤ 4 - 1 - 1 := by omega
      clear d0 d1 n1 q1 hc hIX
      by_cases he : xk = k
      · have hlast := lastOf_hit HXI.out (show ((xk, xt) : Int × By).1 = k from he) (fun i' y h1 h2 => i5 i' y (by omega) h2)
        have hRx := (hhit _ hlast).1
        have HCL := Lib.hid (clone_any xt (by omega) X1)
        have HI3 := Lib.hid (And.intro i1 i3)
        have HRX := Lib.hid hRx
        clear i1 i3 i4 i5 hlast hRx
        gi_wp2_with (refine ⟨trivial, ?_⟩; gi_at_call 58; refine ((callsIn_wide.2 HCL.out).inRound _).mono ?_; rintro E X2 ⟨rfl, hb2⟩; have HB2 := Lib.hid hb2; have r3 := (HI3.out.2.below hb2).cell; have r4 := (HI3.out.2.below hb2).free; clear hb2)
        have h3 := HI3.out.2.below HB2.out
        refine ⟨⟨?_, by rw [World.size_setCell]; exact Nat.le_trans hB1 HB2.out.size⟩, (RL.Objs.of_below HB2.out).trans (RL.Objs.setCell h3.cell _)⟩
        rw [hIx, HRX.out]
        exact ⟨(HI3.out.1.trans (HB2.out.mono (by omega))).setCell (p := ⟨g + 1, 0, none⟩) (by show g ≤ g + 1; omega) _, h3.set _⟩
      · have HIJ : Hid (I (j + 1) X1) := Lib.hid (by
          rw [hI]
          refine ⟨i1, i2, i3, i4, fun i' y h1 h2 => ?_⟩
          by_cases e : i' = L - 1 - j
          · subst e
            rw [HXI.out] at h2
            cases h2
            exact he
          · exact i5 i' y (by omega) h2)
        clear i1 i3 i4 i5 hI hIx
        gi_wp2
        exact ⟨⟨HIJ.out, hB1⟩, RL.Objs.refl _⟩
  case hend =>
    intro Y D hIY hD hBD hBY
    rw [hI] at hIY
    obtain ⟨i1, i2, i3, i4, i5⟩ := hIY
    have hlast : lastOf s.c k = none := lastOf_miss fun i' y h => i5 i' y (by omega) h
    have hRP := hmiss hlast
    have HPL := platter_any (HDW.out Y i1) k
    rw [← hRP] at HPL
    have HPL := Lib.hid HPL
    have ck := i2.cell
    have HI3 := Lib.hid (And.intro i1 i3)
    have HD := Lib.hid hD
    clear i1 i3 i4 i5 hlast hRP hhit hmiss hI hIx
    gi_wp2_with (refine ⟨trivial, ?_⟩; gi_at_call 14; refine (callsIn_wide.2 HPL.out).mono ?_; rintro E X2 ⟨rfl, hb2⟩; have HB2 := Lib.hid hb2; have r3 := (HI3.out.2.below hb2).cell; have r4 := (HI3.out.2.below hb2).free; clear hb2)
    have h3 := HI3.out.2.below HB2.out
    have HFIN := Lib.hid (And.intro ((HI3.out.1.trans (HB2.out.mono (by omega))).setCell (p := ⟨g + 1, 0, none⟩) (by show g ≤ g + 1; omega) (.string ⟨R.toArray⟩)) (h3.set (.string ⟨R.toArray⟩)))
    have HMK : Hid (Marks [D] (X2.setCell ⟨g + 1, 0, none⟩ (.string ⟨R.toArray⟩))) := Lib.hid ⟨by simp, fun E hE => by
      have e : E = D := by simpa using hE
      rw [e]; exact RL.Objs.setCell r3 _ _ _ rfl ((HB2.out.block D (row_lt HD.out)).trans HD.out)⟩
    clear h3
    refine leaves_marks (B := g) [D] _ HMK.out (fun E hE => by
      have e : E = D := by simpa using hE
      omega) fun w' hb' hcs => ?_
    have hcell := hcs _ _ _ _ HFIN.out.2
    have hc := Box.cell hcell
    refine ⟨.string ⟨R.toArray⟩, by simp [results, Tryz.results36, go_sem, hc], rfl, ?_⟩
    rw [hgw.out]
    exact HFIN.out.1.trans hb'
  case hstop =>
    intro Y D hIY hD hBD hBY
    rw [hIx] at hIY
    obtain ⟨i1, i3⟩ := hIY
    have HFIN := Lib.hid (And.intro i1 i3)
    have hmk : Marks [D] Y := ⟨by simp, fun E hE => by
      have e : E = D := by simpa using hE
      rw [e]; exact hD⟩
    have HMK := Lib.hid hmk
    clear i1 i3 hmk hI hIx
    gi_wp2
    refine leaves_marks (B := g) [D] _ HMK.out (fun E hE => by
      have e : E = D := by simpa using hE
      omega) fun w' hb' hcs => ?_
    have hcell := hcs _ _ _ _ HFIN.out.2
    have hc := Box.cell hcell
    refine ⟨.string ⟨R.toArray⟩, by simp [results, Tryz.results36, go_sem, hc], rfl, ?_⟩
    rw [hgw.out]
    exact HFIN.out.1.trans hb'
end
end M
end Go.Proofs.YtoacmingocmaaaaGreatDoor
/- One step of a statement, done to a disk of the program's. -/
namespace Go.Proofs.YtoacmingocmaaaaGreatDoor
open Go Go.RowKit Go.Lib
namespace M
open MM
section
variable {w : World} {F : Nat → Prop} {B N : Nat} {s : Dsk}
theorem Did.after {w1 w' : World} {M : Nat} {s' : Dsk} (hb : Below w.heap.size w w1) (h : Did w1 F B M s' w') : Did w F B M s' w' := by
  obtain ⟨F', h1, h2, h3⟩ := h
  exact ⟨F', h1, fun k hk => (h2 k hk).imp id fun h => Nat.le_trans hb.size h, (Chg.of_below F hb).trans h3 fun _ h => .inl h⟩
theorem Did.up {w' : World} {M M' : Nat} {s' : Dsk} (h : Did w F B M s' w') (hM : M ≤ M') (hM' : M' ≤ 1000000) : Did w F B M' s' w' := by
  obtain ⟨F', h1, h2, h3⟩ := h
  exact ⟨F', h1.up hM hM', h2, h3⟩
theorem Did.of {w' : World} {M : Nat} {s' : Dsk} (h : Dk w' F B M s') (hc : Chg F w w') : Did w F B M s' w' := ⟨F, h, fun _ h => .inl h, hc⟩
end
end M
end Go.Proofs.YtoacmingocmaaaaGreatDoor

/- The walk of the iterator of sets: all sets of so many numbers, in their order, till a round says that it is enough. -/
import Derived.Test.YtaogdhpiiclejaaDoorRobW3
import Derived.Sort.CutIn
import Derived.Shelf.RegionOpen
namespace Go.Proofs.YtaogdhpiiclejaaDoor
open Go Go.RowKit Go.Lib Go.Shelf
namespace MM
/-- The sets of s + 1 numbers whose least is one of the first k from a on. -/
def preF (s a e : Nat) : Nat → List (List Nat)
  | 0 => []
  | k + 1 => preF s a e k ++ (setsF s (a + k + 1) e).map ((a + k) :: ·)
theorem preF_is (s a e : Nat) : ∀ k, preF s a e k = (List.range' a k).flatMap fun l => (setsF s (l + 1) e).map (l :: ·)
  | 0 => rfl
  | k + 1 => by rw [preF, preF_is s a e k, List.range'_1_concat, List.flatMap_append]; simp
theorem preF_all (s a e : Nat) : preF s a e (e - s - a) = setsF (s + 1) a e := preF_is s a e _
theorem preF_more (s a e : Nat) : ∀ k j, k ≤ j → preF s a e k <+: preF s a e j
  | k, 0, h => by obtain rfl : k = 0 := by omega
                  exact List.prefix_refl _
  | k, j + 1, h => by
    by_cases e1 : k = j + 1
    · subst e1; exact List.prefix_refl _
    · exact (preF_more s a e k j (by omega)).trans (List.prefix_append _ _)
theorem preF_in {s a e k : Nat} {p : List (List Nat)} (hk : k < e - s - a) (hp : p <+: setsF s (a + k + 1) e) : preF s a e k ++ p.map ((a + k) :: ·) <+: setsF (s + 1) a e := by
  rw [← preF_all]
  refine List.IsPrefix.trans ?_ (preF_more s a e (k + 1) _ hk)
  obtain ⟨t, ht⟩ := hp
  refine ⟨t.map ((a + k) :: ·), ?_⟩
  rw [preF, List.append_assoc, ← List.map_append, ht]
end MM
namespace M
attribute [local go_sem] Oper.semAt_some
/-- A set as it is handed on. -/
def SetV (W : World) (v : Value) (x : List Nat) : Prop := (v = .slice none 0 0 ∧ x = []) ∨ ∃ g c, v = .slice (some ⟨g, 0, none⟩) x.length c ∧ SetIn W (some ⟨g, 0, none⟩) x
theorem SetV.below {W W' : World} {v : Value} {x : List Nat} (h : SetV W v x) (hb : Below W.heap.size W W') : SetV W' v x := by
  obtain h | ⟨g, c, e, h⟩ := h
  · exact .inl h
  · exact .inr ⟨g, c, e, h.below hb⟩
theorem SetV.holds {C : Nat} {W W' : World} {v : Value} {x : List Nat} (h : SetV W v x) (hb : RL.Holds C W W') : SetV W' v x := by
  obtain h | ⟨g, c, e, h⟩ := h
  · exact .inl h
  · exact .inr ⟨g, c, e, h.holds hb⟩
theorem SetV.other {C : Nat} {W W' : World} {v : Value} {x : List Nat} (h : SetV W v x) (ho : ∀ j, j ≠ C → W'.heap[j]? = W.heap[j]?) (hC : ∃ o, W.heap[C]? = some o ∧ o.isCells = false) : SetV W' v x := by
  obtain h | ⟨g, c, e, B, cs, e1, h1, h2⟩ := h
  · exact .inl h
  · refine .inr ⟨g, c, e, B, cs, e1, (ho B (fun e2 => ?_)).trans h1, h2⟩
    obtain ⟨o, hw, hc⟩ := hC
    rw [← e2, h1] at hw
    cases hw; cases hc
theorem OwnI.setV {w0 w : World} {B : Nat} {v : Value} {l : List Nat} (h : OwnI w0 B v l w) : SetV w v l := by
  obtain h | ⟨g, c, e, _, _, h⟩ := h.val
  · exact .inl h
  · exact .inr ⟨g, c, e, h⟩
theorem OwnI.one (W : World) (x : Nat) : OwnI W W.heap.size (.slice (some ⟨W.heap.size, 0, none⟩) 1 1) [x] (W.alloc (.cells #[.int .i64 (x : Int)] 3)) :=
  ⟨World.ownsRow_lit W #[.int .i64 (x : Int)] 1 (Nat.le_refl _) (by decide) rfl, by simp, Nat.le_refl _, below_box _ _⟩
/-- The word for one number and a set behind it. -/
theorem append_set (W : World) (x0 : Nat) (v : Value) (x : List Nat) (hx : x.length ≤ 1000) (hs : SetV W v x) :
    ∃ v' w', (Builtin.append_ #[28, 28] 28 #[.slice (some ⟨W.heap.size, 0, none⟩) 1 1, v]).run Tryd.prog (W.alloc (.cells #[.int .i64 (x0 : Int)] 3)) = .ok v' w' ∧ SetV w' v' (x0 :: x) ∧ Below W.heap.size W w' := by
  obtain ⟨rfl, rfl⟩ | ⟨g, c, rfl, hs⟩ := hs
  · obtain ⟨i0, hi, hz0, hz1, hz2⟩ := info_parts info_i64
    have h := OwnI.one W x0
    exact ⟨_, _, run_append_owned_none (P := Tryd.prog) _ W.heap.size 28 28 3 i0 1 Tryd.underlying28 hi _ 1 _ h.own, h.setV, h.below⟩
  · obtain ⟨v', w', hr, ho⟩ := (OwnI.one W x0).more c (hs.below (below_box _ _)) (by simp; omega)
    exact ⟨v', w', hr, ho.setV, ho.below⟩
/-- What outlasts whatever is laid anew, and turns of what was laid anew but for cells. -/
def Stable (B : Nat) (J : List (List Nat) → World → Prop) : Prop := ∀ pre X Y, J pre X → Below B X Y → CellsAs X Y → J pre Y
theorem CellsAs.trans {X Y Z : World} (h : CellsAs X Y) (k : CellsAs Y Z) : CellsAs X Z := fun j cs t fr e => k j cs t fr (h j cs t fr e)
theorem cells_below {X Y : World} (h : Below X.heap.size X Y) : CellsAs X Y := fun k _ _ _ e => (h.block k (row_lt e)).trans e
theorem cells_put {X : World} {l : Nat} {o o' : Obj} (hl : X.heap[l]? = some o) (ho : o.isCells = false) : CellsAs X (X.putObj l o') := fun k _ _ _ e => (World.putObj_heap_other (fun e' => by subst e'; rw [hl] at e; cases e; cases ho)).trans e
/-- How a round on a set goes on, or stops. -/
def GoesOn (B : Nat) (J Jx : List (List Nat) → World → Prop) (pre : List (List Nat)) (X : World) (E : Ending) (Y : World) : Prop :=
  (E = .returned (.bool true) ∧ J pre Y ∧ RL.Holds B X Y) ∨ (E = .returned (.bool false) ∧ Jx pre Y ∧ RL.Keeps B X Y)
theorem GoesOn.two {B : Nat} {J Jx : List (List Nat) → World → Prop} {pre : List (List Nat)} {X Y : World} {E : Ending} (h : GoesOn B J Jx pre X E Y) : ∃ b, E = .returned (.bool b) ∧ ((b = true ∧ J pre Y ∧ RL.Holds B X Y) ∨ (b = false ∧ Jx pre Y ∧ RL.Keeps B X Y)) := by
  obtain ⟨h1, h2⟩ | ⟨h1, h2⟩ := h
  · exact ⟨true, h1, .inl ⟨rfl, h2⟩⟩
  · exact ⟨false, h1, .inr ⟨rfl, h2⟩⟩
def Rounds (l B : Nat) (J Jx : List (List Nat) → World → Prop) (S : List (List Nat)) : Prop :=
  ∀ (m : Nat) (pre : List (List Nat)) (x : List Nat) (v : Value) (X : World), J pre X → pre ++ [x] <+: S → B ≤ X.heap.size → SetV X v x → YieldAt Fence.wide m Tryd.prog l #[v] X (GoesOn B J Jx (pre ++ [x]) X)
def GivesSets (J Jx : List (List Nat) → World → Prop) (S : List (List Nat)) (E : Ending) (Y : World) : Prop :=
  (∃ v, E = .returned v) ∧ (J S Y ∨ ∃ pre x, pre ++ [x] <+: S ∧ Jx (pre ++ [x]) Y)
def SetsIn (s a e : Nat) : Prop :=
  ∀ (n l Ps Pf Pe : Nat) (J Jx : List (List Nat) → World → Prop) (w : World), Box w Ps 3 (.int .i64 (s : Int)) → Box w Pf 3 (.int .i64 (a : Int)) → Box w Pe 3 (.int .i64 (e : Int)) →
    Stable w.heap.size J → Stable w.heap.size Jx → J [] w → Rounds l w.heap.size J Jx (MM.setsF s a e) →
    CallsIn Fence.wide n Tryd.prog 25 #[.func (.yield l) #[] #[], .pointer (some ⟨Ps, 0, none⟩), .pointer (some ⟨Pf, 0, none⟩), .pointer (some ⟨Pe, 0, none⟩)] w (GivesSets J Jx (MM.setsF s a e))
theorem sets1_zero (a e : Nat) : SetsIn 0 a e := by
  intro n l Ps Pf Pe J Jx w hs ha he hJ hJx h0 hR
  obtain ⟨W1, hW1⟩ : ∃ W1, w.alloc (.cells #[.func (.yield l) #[] #[]] 53) = W1 := ⟨_, rfl⟩
  have b1 : Below w.heap.size w W1 := hW1 ▸ below_box _ _
  have c1 := (hs.below b1).cell
  have y1 : Box W1 w.heap.size 53 (.func (.yield l) #[] #[]) := by rw [← hW1]; exact Box.new _ _ _
  have cy := y1.cell
  obtain ⟨fn, tmps, assign, body, hy, hR1⟩ := hR (n - 1) [] [] (.slice none 0 0) W1 (hJ _ _ _ h0 b1 (cells_below b1)) (by simp [MM.setsF]) b1.size (.inl ⟨rfl, rfl⟩)
  have HRD := Lib.hid hR1
  clear hR1 hR hJ hJx h0 hs ha he b1 y1
  refine callsIn_of_wp Tryd.func25 rfl trivial ?_ rfl
  simp only [Tryd.ntmps25, List.size_toArray, List.length_cons, List.length_nil, Nat.reduceAdd, Nat.reduceSub, Array.replicate_succ, Array.replicate_zero, List.push_toArray, List.append_toArray, List.nil_append, List.cons_append]
  gi_wp2
  refine ⟨fun e => (by cases e), HRD.out.mono ?_⟩
  rintro E Y (⟨rfl, hJ3, _⟩ | ⟨rfl, hJ3, _⟩)
  · have HJ3 := Lib.hid hJ3
    clear hJ3
    gi_wp2
    refine bodyPost_ret (results_none rfl _ _ _) rfl ?_
    exact ⟨⟨_, rfl⟩, .inl HJ3.out⟩
  · have HJ3 := Lib.hid hJ3
    clear hJ3
    gi_wp2
    refine bodyPost_ret (results_none rfl _ _ _) rfl ?_
    exact ⟨⟨_, rfl⟩, .inr ⟨[], [], List.prefix_refl _, HJ3.out⟩⟩
/-- What the walk of one place's sets stands on. -/
structure SetsAt (l s a e Ps Pf Pe B g k : Nat) (J : List (List Nat) → World → Prop) (Ds : List Nat) (X : World) : Prop where
  size : B < X.heap.size
  at_ : J (MM.preF s a e k) X
  bs : Box X Ps 3 (.int .i64 ((s : Int) + 1))
  bf : Box X Pf 3 (.int .i64 (a : Int))
  be : Box X Pe 3 (.int .i64 (e : Int))
  by_ : Box X B 53 (.func (.yield l) #[] #[])
  bg : Box X g 3 (.int .i64 ((a + k : Nat) : Int))
  marks : Marks Ds X
  low : ∀ D, D ∈ Ds → B ≤ D
def placeOf (a : Act) (X : World) : Nat := match a.tmps.getD 5 undef with
  | .pointer (some ad) => (match X.cell? ad with
    | some v => (RowKit.intOf v).toNat
    | none => 0)
  | _ => 0
theorem placeOf_box {a : Act} {X : World} {g c : Nat} {t : TypeId} (h : a.tmps.getD 5 undef = .pointer (some ⟨g, 0, none⟩)) (hb : Box X g t (.int .i64 (c : Int))) : placeOf a X = c := by
  unfold placeOf
  rw [h]
  simp only [hb.cell, RowKit.intOf, Int.toNat_natCast]
section
attribute [-go_sem] Builtin.append_
set_option maxRecDepth 100000 in
set_option maxHeartbeats 4000000 in
theorem sets1_succ (s a e : Nat) (hs : s ≤ 900) (he : e ≤ 1000000) (ha : a ≤ 1000000) (ih : ∀ b, b ≤ 1000000 → SetsIn s b e) : SetsIn (s + 1) a e := by
  intro n l Ps Pf Pe J Jx w hbs hba hbe hJ hJx h0 hR
  obtain ⟨W1, hW1⟩ : ∃ W1, w.alloc (.cells #[.func (.yield l) #[] #[]] 53) = W1 := ⟨_, rfl⟩
  have b1 : Below w.heap.size w W1 := hW1 ▸ below_box _ _
  have y1 : Box W1 w.heap.size 53 (.func (.yield l) #[] #[]) := by rw [← hW1]; exact Box.new _ _ _
  have cy := y1.cell
  have hs1 : ((s + 1 : Nat) : Int) = (s : Int) + 1 := by omega
  rw [hs1] at hbs
  have cs1 := (hbs.below b1).cell
  have ca1 := (hba.below b1).cell
  have HR := Lib.hid hR
  have HJ := Lib.hid hJ
  have HJx := Lib.hid hJx
  have hse : (((s : Int) + 1) == (0 : Int)) = false := by simp; omega
  clear hR hJ hJx hs1
  refine callsIn_of_wp_marks Tryd.func25 rfl trivial ?_ rfl
  simp only [Tryd.ntmps25, List.size_toArray, List.length_cons, List.length_nil, Nat.reduceAdd, Nat.reduceSub, Array.replicate_succ, Array.replicate_zero, List.push_toArray, List.append_toArray, List.nil_append, List.cons_append]
  gi_upto_region 4 with fail
  obtain ⟨B, hB⟩ : ∃ B, w.heap.size = B := ⟨_, rfl⟩
  have hsz : W1.heap.size = B + 1 := by rw [← hB, ← hW1, World.size_alloc]
  obtain ⟨W2, hW2⟩ : ∃ W2, W1.alloc (.cells #[.int .i64 (a : Int)] 3) = W2 := ⟨_, rfl⟩
  have b2 : Below W1.heap.size W1 W2 := hW2 ▸ below_box _ _
  have g2 : Box W2 (B + 1) 3 (.int .i64 (a : Int)) := by rw [← hW2, ← hsz]; exact Box.new _ _ _
  have b12 : Below w.heap.size w W2 := b1.trans (b2.mono b1.size)
  have hst : SetsAt l s a e Ps Pf Pe B (B + 1) 0 J [] W2 := ⟨by have := b2.size; omega, HJ.out _ _ _ h0 b12 (cells_below b12), hbs.below b12, hba.below b12, hbe.below b12, by rw [← hB]; exact y1.below b2, g2, Marks.nil _, fun _ h => (by cases h)⟩
  rw [hB] at HR HJ HJx ⊢
  rw [hsz, hW2]
  have HST := Lib.hid hst
  clear hst g2 b2 b12 hW2 hW1 hsz hB b1 y1 cy cs1 ca1 hbs hba hbe hse h0
  refine wpIn_loop (fun a' wx => ∃ (g k : Nat) (Ds : List Nat) (u12 u13 u14 u15 u16 u17 u18 u19 u20 u21 u22 u23 u24 u33 : Value), a' = { tmps := #[.func (.yield l) #[] #[], .pointer (some ⟨Ps, 0, none⟩), .pointer (some ⟨Pf, 0, none⟩), .pointer (some ⟨Pe, 0, none⟩), .pointer (some ⟨B, 0, none⟩), .pointer (some ⟨g, 0, none⟩), undef, .int .i64 ((s : Int) + 1), .bool false, undef, undef, .int .i64 (a : Int), u12, u13, u14, u15, u16, u17, u18, u19, u20, u21, u22, u23, u24, undef, undef, undef, undef, undef, undef, undef, undef, u33], defers := Ds.map mark } ∧ k ≤ e - s - a ∧ Hid (SetsAt l s a e Ps Pf Pe B g k J Ds wx)) (fun a' wx => e - placeOf a' wx) ?start ?round
  case start => exact ⟨B + 1, 0, [], _, _, _, _, _, _, _, _, _, _, _, _, _, _, rfl, Nat.zero_le _, HST⟩
  case round =>
    clear HST
    rintro a' wr ⟨g, k, Ds, u12, u13, u14, u15, u16, u17, u18, u19, u20, u21, u22, u23, u24, u33, rfl, hk, HI⟩
    have cs := HI.out.bs.cell
    have ce := HI.out.be.cell
    obtain ⟨c, hc⟩ : ∃ c, a + k = c := ⟨_, rfl⟩
    have bg := HI.out.bg
    rw [hc] at bg
    have cg := bg.cell
    have hw1 : IntKind.i64.wrap ((c : Int) + ((s : Int) + 1)) = (c : Int) + ((s : Int) + 1) := IntWalk.i64_in _ (by omega)
    have hw2 : IntKind.i64.wrap ((c : Int) + 1) = (c : Int) + 1 := IntWalk.i64_in _ (by omega)
    have hw3 : IntKind.i64.wrap (s : Int) = (s : Int) := IntWalk.i64_in _ (by omega)
    have hw4 : (s : Int) + 1 - 1 = (s : Int) := by omega
    have HC := Lib.hid hc
    by_cases hlt : k < e - s - a
    · have hle : (c : Int) + ((s : Int) + 1) ≤ (e : Int) := by omega
      clear hc
      gi_wp2_with (refine ⟨trivial, fun e => (by cases e), ?_⟩; gi_at_call 13; refine (callsIn_wide.2 (sets_any _ _ _ _)).mono ?_; rintro E w' ⟨rfl, rfl⟩)
      obtain ⟨h, hh⟩ : ∃ h, wr.heap.size = h := ⟨_, rfl⟩
      obtain ⟨W3, h3, b3, s3, x1, x2, x3⟩ := boxes3 wr 3 3 3 (.int .i64 ((c : Int) + 1)) (.int .i64 (e : Int)) (.int .i64 (s : Int))
      rw [hh] at s3 x1 x2 x3
      rw [h3, hh]
      clear cs ce cg hw1 hw3 hw4 hle
      have b3' : Below B wr W3 := b3.mono (by have := HI.out.size; omega)
      have hgw : g < wr.heap.size := row_lt bg
      have hBw : B < wr.heap.size := row_lt HI.out.by_
      have bg3 : Box W3 g 3 (.int .i64 (c : Int)) := bg.below b3
      have by3 : Box W3 B 53 (.func (.yield l) #[] #[]) := HI.out.by_.below b3
      have bg0 := bg
      clear bg
      refine RL.enter' (gf := 25) (lb := #[.pointer (some ⟨h + 1 + 1, 0, none⟩), .pointer (some ⟨h, 0, none⟩), .pointer (some ⟨h + 1, 0, none⟩)]) rfl (enters_of Tryd.func25 (by kernel_rfl) rfl) fun fn r hr => ?_
      have HRR := Lib.hid hr
      clear hr
      simp only [List.append_toArray, List.cons_append, List.nil_append]
      obtain ⟨D, hD⟩ : ∃ D, W3.heap.size = D := ⟨_, rfl⟩
      obtain ⟨W4, hW4⟩ : ∃ W4, (W3.alloc (.deferred (some []))).alloc (.loop (r .ready none)) = W4 := ⟨_, rfl⟩
      have b4 : Below W3.heap.size W3 W4 := by rw [← hW4]; exact (below_box _ _).trans ((below_box _ _).mono (by simp))
      have s4 : W4.heap.size = D + 1 + 1 := by rw [← hW4, World.size_alloc, World.size_alloc, hD]
      have hl4 : W4.heap[D + 1]? = some (.loop (r .ready none)) := by
        have := World.alloc_heap_new (W3.alloc (.deferred (some []))) (.loop (r .ready none))
        rwa [World.size_alloc, hD, hW4] at this
      have hD4 : W4.heap[D]? = some (.deferred (some [])) := by
        have h1 := World.alloc_heap_new W3 (.deferred (some []))
        rw [hD] at h1
        have h2 := (below_box (W3.alloc (.deferred (some []))) (.loop (r .ready none))).block D (row_lt h1)
        rw [hW4] at h2
        exact h2.trans h1
      rw [hD, hW4]
      have hBD : B < D := by have := b3.size; omega
      have b4' : Below B W3 W4 := b4.mono (by omega)
      have bw4 : Below B wr W4 := b3'.trans b4'
      have bg4 := bg3.below b4
      have by4 := by3.below b4
      have hgD : g < D := by have := b3.size; omega
      have hrow : MM.preF s a e k ++ [] = MM.preF s a e k := List.append_nil _
      have HRND : Rounds (D + 1) W4.heap.size (fun pre X => J (MM.preF s a e k ++ pre.map (c :: ·)) X ∧ RL.Holds B W4 X) (fun pre X => Jx (MM.preF s a e k ++ pre.map (c :: ·)) X ∧ RL.Keeps B (W4.putObj (D + 1) (.loop (r .done (some .ret)))) X) (MM.setsF s (c + 1) e) := by
        intro m pre x v X ⟨hj, hh⟩ hp hX hv
        have hlX := hh.own _ _ (by omega) hl4
        have hxl : x.length = s := ((MM.mem_sets s (c + 1) e x).1 (hp.subset (by simp))).1
        refine RL.round' HRR.out { tmps := #[.func (.yield l) #[] #[], .pointer (some ⟨Ps, 0, none⟩), .pointer (some ⟨Pf, 0, none⟩), .pointer (some ⟨Pe, 0, none⟩), .pointer (some ⟨B, 0, none⟩), .pointer (some ⟨g, 0, none⟩), v, .int .i64 ((s : Int) + 1), .bool false, undef, undef, .int .i64 (a : Int), .int .i64 (c : Int), .int .i64 ((s : Int) + 1), .int .i64 ((c : Int) + ((s : Int) + 1)), .int .i64 (e : Int), .bool true, u17, u18, .int .i64 (c : Int), .int .i64 ((c : Int) + 1), .int .i64 (e : Int), .int .i64 ((s : Int) + 1), .int .i64 (s : Int), .func (.func 25) #[] #[.pointer (some ⟨h + 1 + 1, 0, none⟩), .pointer (some ⟨h, 0, none⟩), .pointer (some ⟨h + 1, 0, none⟩)], v, undef, undef, undef, undef, undef, undef, undef, u33], defers := [] } hlX rfl ?_ ?_
        · intro K hK
          gi_wp2
          exact hK
        · obtain ⟨X1, hX1⟩ : ∃ X1, X.putObj (D + 1) (.loop (r .busy none)) = X1 := ⟨_, rfl⟩
          have hbX : Below B X X1 := by rw [← hX1]; exact RL.below_put (by omega) (by omega)
          have hoX : ∀ j, j ≠ D + 1 → X1.heap[j]? = X.heap[j]? := fun j hj => by rw [← hX1]; exact World.putObj_heap_other hj
          have hlX1 : X1.heap[D + 1]? = some (.loop (r .busy none)) := by rw [← hX1]; exact World.putObj_heap_same (row_lt hlX)
          have bgX : Box X1 g 3 (.int .i64 (c : Int)) := (hoX g (by omega)).trans (hh.box bg4)
          have byX : Box X1 B 53 (.func (.yield l) #[] #[]) := (hoX B (by omega)).trans (hh.box by4)
          have hvX : SetV X1 v x := hv.other hoX ⟨_, hlX, rfl⟩
          obtain ⟨v2, X2, hr2, hv2, hb2⟩ := append_set X1.drew c v x (by omega) (hvX.below (below_drewN' X1 1 _))
          have hsX1 : X1.heap.size = X.heap.size := by rw [← hX1, World.putObj_size]
          have hb12 : Below X1.heap.size X1 X2 := (below_drewN' X1 1 _).trans hb2
          have hbX2 : Below B X X2 := hbX.trans (hb12.mono (by omega))
          have hcX2 : CellsAs X X2 := by
            have := cells_put (o' := .loop (r .busy none)) hlX rfl
            rw [hX1] at this
            exact this.trans (cells_below hb12)
          have hgo := HR.out (m - 1) (MM.preF s a e k ++ pre.map (c :: ·)) (c :: x) v2 X2 (HJ.out _ _ _ hj hbX2 hcX2) (by
            have := MM.preF_in hlt (p := pre ++ [x]) (by rw [HC.out]; exact hp)
            rw [HC.out] at this
            simpa using this) (by have := hb12.size; omega) hv2
          obtain ⟨fn2, tmps2, assign2, body2, hy, hRI⟩ := hgo
          have HRI := Lib.hid hRI
          have hpx : MM.preF s a e k ++ pre.map (c :: ·) ++ [c :: x] = MM.preF s a e k ++ (pre ++ [x]).map (c :: ·) := by simp
          rw [hpx] at HRI
          have hbusy : ∀ Y, RL.Keeps B X2 Y → Y.heap[D + 1]? = some (.loop (r .busy none)) := fun Y hk => hk.own _ _ (by omega) ((hb12.block _ (row_lt hlX1)).trans hlX1)
          have hX1X2 : RL.Holds B X1 X2 := RL.Holds.of_below hb12
          have HNORM : Hid (∀ Y, J (MM.preF s a e k ++ (pre ++ [x]).map (c :: ·)) Y ∧ RL.Holds B X2 Y → Y.heap[D + 1]? = some (.loop (r .busy none)) ∧ GoesOn W4.heap.size (fun pre X => J (MM.preF s a e k ++ pre.map (c :: ·)) X ∧ RL.Holds B W4 X) (fun pre X => Jx (MM.preF s a e k ++ pre.map (c :: ·)) X ∧ RL.Keeps B (W4.putObj (D + 1) (.loop (r .done (some .ret)))) X) (pre ++ [x]) X (.returned (.bool true)) (Y.putObj (D + 1) (.loop (r .ready none)))) := Lib.hid fun Y ⟨h1, h2⟩ => by
            have hb := hbusy Y h2.keeps
            have hk : RL.Holds B (X.putObj (D + 1) (.loop (r .busy none))) Y := by rw [hX1]; exact hX1X2.trans h2
            refine ⟨hb, .inl ⟨rfl, ⟨HJ.out _ _ _ h1 (RL.below_put (by omega) (by have := h2.size; have := hb12.size; omega)) (cells_put hb rfl), ?_⟩, ?_⟩⟩
            · have := RL.Holds.turn (o2 := .loop (r .ready none)) hh hl4 rfl (by omega) hk
              rwa [RL.putObj_self hl4] at this
            · have := RL.Holds.turn (o2 := .loop (r .ready none)) (RL.Holds.refl B X) hlX rfl (by omega) hk
              rw [RL.putObj_self hlX] at this
              exact this.up (by omega)
          have HSTOP : Hid (∀ Y, Jx (MM.preF s a e k ++ (pre ++ [x]).map (c :: ·)) Y ∧ RL.Keeps B X2 Y → Y.heap[D + 1]? = some (.loop (r .busy none)) ∧ GoesOn W4.heap.size (fun pre X => J (MM.preF s a e k ++ pre.map (c :: ·)) X ∧ RL.Holds B W4 X) (fun pre X => Jx (MM.preF s a e k ++ pre.map (c :: ·)) X ∧ RL.Keeps B (W4.putObj (D + 1) (.loop (r .done (some .ret)))) X) (pre ++ [x]) X (.returned (.bool false)) (Y.putObj (D + 1) (.loop (r .done (some .ret))))) := Lib.hid fun Y ⟨h1, h2⟩ => by
            have hb := hbusy Y h2
            have hk : RL.Keeps B (X.putObj (D + 1) (.loop (r .busy none))) Y := by rw [hX1]; exact hX1X2.keeps.trans h2
            refine ⟨hb, .inr ⟨rfl, ⟨HJx.out _ _ _ h1 (RL.below_put (by omega) (by have := h2.size; have := hb12.size; omega)) (cells_put hb rfl), ?_⟩, ?_⟩⟩
            · exact RL.Keeps.turn hh.keeps hl4 (by omega) hk
            · have := RL.Keeps.turn (o2 := .loop (r .done (some .ret))) (RL.Keeps.refl B X) hlX (by omega) hk
              exact (RL.Keeps.put (by omega)).trans (this.up (by omega))
          clear hbusy hX1X2 hpx
          rw [s4] at HNORM HSTOP
          have cgX := bgX.cell
          have cyX := byX.cell
          have hBX : B < X1.heap.size := row_lt byX
          have hne1 : ¬ (B = X1.heap.size) := by omega
          have hne2 : ¬ (X1.heap.size = B) := by omega
          have cyA : (X1.alloc (.cells #[.int .i64 (c : Int)] 3)).cell? ⟨B, 0, none⟩ = some (.func (.yield l) #[] #[]) := (byX.below (below_box _ _)).cell
          have cyB : X2.cell? ⟨B, 0, none⟩ = some (.func (.yield l) #[] #[]) := (byX.below hb12).cell
          have hmix : Tryd.prog.follows .mixedOrders = true := by kernel_rfl
          have hr3 : (Builtin.append_ #[28, 28] 28 #[.slice (some ⟨X1.heap.size, 0, none⟩) 1 1, v]).run Tryd.prog (X1.alloc (.cells #[.int .i64 (c : Int)] 3)).drew = .ok v2 X2 := hr2
          rw [hX1]
          dsimp only
          clear hb12 hlX1 hlX hsX1 hbX2 hoX hbX bgX byX hvX hv2 hb2 hv hh hj hRI hX1 hr2 hrow hX
          gi_upto_region 8 with fail
          gi_region_with_o (refine ⟨fun e => (by cases e), HRI.out.mono ?_⟩; rintro E Y hgo; obtain ⟨b, rfl, hgo2⟩ := hgo.two; have HB := Lib.hid hgo2; clear hgo hgo2)
          all_goals (
            obtain ⟨rfl, h8⟩ | ⟨rfl, h8⟩ := HB.out
            · gi_wp2
              exact HNORM.out Y h8
            · gi_wp2
              exact HSTOP.out Y h8)
      have hst1 : Stable W4.heap.size (fun pre X => J (MM.preF s a e k ++ pre.map (c :: ·)) X ∧ RL.Holds B W4 X) := fun pre X Y h hb hc => ⟨HJ.out _ _ _ h.1 (hb.mono (by omega)) hc, h.2.below hb⟩
      have hst2 : Stable W4.heap.size (fun pre X => Jx (MM.preF s a e k ++ pre.map (c :: ·)) X ∧ RL.Keeps B (W4.putObj (D + 1) (.loop (r .done (some .ret)))) X) := fun pre X Y h hb hc => ⟨HJx.out _ _ _ h.1 (hb.mono (by omega)) hc, h.2.below (by rw [World.putObj_size]; exact hb)⟩
      have e1 : ((c + 1 : Nat) : Int) = (c : Int) + 1 := by omega
      rw [← e1] at x1
      have hcb : c + 1 ≤ 1000000 := by have := HC.out; omega
      refine CallsIn.mono (ih (c + 1) hcb (n - 1) (D + 1) (h + 1 + 1) h (h + 1) _ _ W4 (x3.below b4) (x1.below b4) (x2.below b4) hst1 hst2 ⟨by rw [List.map_nil, List.append_nil]; exact HJ.out _ _ _ HI.out.at_ bw4 (cells_below (b3.trans (b4.mono b3.size))), RL.Holds.refl _ _⟩ HRND) ?_
      rintro E Y ⟨hret, ⟨hj, hk2⟩ | ⟨pre, x, hp, hj, hk2⟩⟩
      · refine ⟨hret, .inl ⟨hk2.own _ _ (by omega) hl4, ?_⟩⟩
        obtain ⟨Y1, hY1⟩ : ∃ Y1, Y.putObj (D + 1) (.loop (r .exhausted none)) = Y1 := ⟨_, rfl⟩
        have hoY : ∀ j, j ≠ D + 1 → Y1.heap[j]? = Y.heap[j]? := fun j hj => by rw [← hY1]; exact World.putObj_heap_other hj
        have sY : W4.heap.size ≤ Y1.heap.size := by rw [← hY1, World.putObj_size]; exact hk2.size
        have hbx : ∀ (j : Nat) (t : TypeId) (v : Value), Box wr j t v → Box Y1 j t v := fun j t v hb => (hoY j (by have := row_lt hb; have := b3.size; omega)).trans (hk2.box ((hb.below b3).below b4))
        have hjY : J (MM.preF s a e (k + 1)) Y1 := by
          rw [MM.preF, HC.out, ← hY1]
          exact HJ.out _ _ _ hj (RL.below_put (by omega) (by have := hk2.size; omega)) (cells_put (hk2.own _ _ (by omega) hl4) rfl)
        have hmk : Marks (D :: Ds) Y1 := by
          refine Marks.cons ⟨HI.out.marks.nodup, fun E hE => ?_⟩ ((hoY D (by omega)).trans (hk2.own _ _ (by omega) hD4)) (fun hE => by have := HI.out.marks.lt hE; have := b3.size; omega)
          have hlt2 := HI.out.marks.lt hE
          have hlow := HI.out.low E hE
          have hw := HI.out.marks.at_ E hE
          have hw3 := (b3.block E hlt2).trans hw
          have hw4 := (b4.block E (row_lt hw3)).trans hw3
          exact (hoY E (by have := b3.size; omega)).trans (hk2.own _ _ hlow hw4)
        have hlowY : ∀ E, E ∈ D :: Ds → B ≤ E := fun E hE => by
          rcases List.mem_cons.1 hE with rfl | hE
          · omega
          · exact HI.out.low E hE
        have bgY := hbx _ _ _ bg0
        have cgY := bgY.cell
        have hnew : SetsAt l s a e Ps Pf Pe B Y1.heap.size (k + 1) J (D :: Ds) (Y1.alloc (.cells #[.int .i64 ((c : Int) + 1)] 3)) := by
          obtain ⟨Y3, hY3⟩ : ∃ Y3, Y1.alloc (.cells #[.int .i64 ((c : Int) + 1)] 3) = Y3 := ⟨_, rfl⟩
          have bx3 : Box Y3 Y1.heap.size 3 (.int .i64 ((c : Int) + 1)) := by rw [← hY3]; exact Box.new _ _ _
          have by3 : Below Y1.heap.size Y1 Y3 := by rw [← hY3]; exact below_box _ _
          rw [hY3]
          have hck : ((a + (k + 1) : Nat) : Int) = (c : Int) + 1 := by have := HC.out; omega
          exact ⟨by have := by3.size; omega, HJ.out _ _ _ hjY (by3.mono (by omega)) (cells_below by3), (hbx _ _ _ HI.out.bs).below by3, (hbx _ _ _ HI.out.bf).below by3, (hbx _ _ _ HI.out.be).below by3, (hbx _ _ _ HI.out.by_).below by3, by rw [hck]; exact bx3, hmk.below by3, hlowY⟩
        have HNEW := Lib.hid hnew
        rw [hY1]
        clear hnew hmk hlowY hjY hbx hoY sY bgY hY1 hj hk2 hret hst1 hst2 HRND bg4 by4 by3 bg3 hl4 hD4 b4 b3 b3' b4' bw4 x1 x2 x3 hW4 hD h3 hh s4 s3
        gi_wp2
        refine ⟨⟨_, k + 1, D :: Ds, ⟨rfl, rfl⟩, by omega, HNEW⟩, ?_⟩
        rw [placeOf_box (c := c + 1) (g := Y1.heap.size) rfl (by rw [e1]; exact Box.new _ _ _), placeOf_box (c := c) (g := g) rfl bg0]
        have := HC.out
        omega
      · refine ⟨hret, .inr ⟨_, hk2.own _ _ (by omega) (World.putObj_heap_same (row_lt hl4)), ?_⟩⟩
        obtain ⟨Y1, hY1⟩ : ∃ Y1, Y.putObj (D + 1) (.loop (r .exhausted (some .ret))) = Y1 := ⟨_, rfl⟩
        have hoY : ∀ j, j ≠ D + 1 → Y1.heap[j]? = Y.heap[j]? := fun j hj => by rw [← hY1]; exact World.putObj_heap_other hj
        have hkp : ∀ (j : Nat) (o : Obj), B ≤ j → j ≠ D + 1 → W4.heap[j]? = some o → Y1.heap[j]? = some o := fun j o hj hne ho => (hoY j hne).trans (hk2.own _ _ hj ((World.putObj_heap_other hne).trans ho))
        have hjY : Jx (MM.preF s a e k ++ (pre ++ [x]).map (c :: ·)) Y1 := by
          rw [← hY1]
          exact HJx.out _ _ _ hj (RL.below_put (by omega) (by have := hk2.size; rw [World.putObj_size] at this; omega)) (cells_put (hk2.own _ _ (by omega) (World.putObj_heap_same (row_lt hl4))) rfl)
        have hmk : Marks (D :: Ds) Y1 := by
          refine Marks.cons ⟨HI.out.marks.nodup, fun E hE => ?_⟩ (hkp D _ (by omega) (by omega) hD4) (fun hE => by have := HI.out.marks.lt hE; have := b3.size; omega)
          have hlt2 := HI.out.marks.lt hE
          have hw := HI.out.marks.at_ E hE
          have hw3 := (b3.block E hlt2).trans hw
          have hw4 := (b4.block E (row_lt hw3)).trans hw3
          exact hkp E _ (HI.out.low E hE) (by have := b3.size; omega) hw4
        have hlowY : ∀ E, E ∈ D :: Ds → B ≤ E := fun E hE => by
          rcases List.mem_cons.1 hE with rfl | hE
          · omega
          · exact HI.out.low E hE
        have hpf : MM.preF s a e k ++ (pre ++ [x]).map (c :: ·) <+: MM.setsF (s + 1) a e := by
          have := MM.preF_in hlt (p := pre ++ [x]) (by rw [HC.out]; exact hp)
          rwa [HC.out] at this
        have HFIN : Hid (∀ w', Below B Y1 w' → CellsAs Y1 w' → GivesSets J Jx (MM.setsF (s + 1) a e) (.returned (.tuple #[])) w') := Lib.hid fun w' hb hcs => by
          refine ⟨⟨_, rfl⟩, .inr ⟨MM.preF s a e k ++ pre.map (c :: ·), c :: x, ?_, ?_⟩⟩
          · simpa using hpf
          · have := HJx.out _ _ _ hjY hb hcs
            simpa using this
        have HMK := Lib.hid (And.intro hmk hlowY)
        rw [hY1]
        clear hmk hlowY hjY hoY hY1 hj hk2 hret hst1 hst2 HRND bg4 by4 by3 bg3 hl4 hD4 b4 b3 b3' b4' bw4 x1 x2 x3 hW4 hD h3 hh s4 s3 hkp hpf hp
        gi_wp2
        refine leaves_marks (B := B) (D :: Ds) Y1 HMK.out.1 HMK.out.2 fun w' hb hcs => ?_
        exact ⟨_, results_none rfl _ _ _, HFIN.out w' hb hcs⟩
    · have hle : ¬ ((c : Int) + ((s : Int) + 1) ≤ (e : Int)) := by omega
      clear hc
      gi_wp2
      refine leaves_marks (B := B) Ds wr HI.out.marks HI.out.low fun w' hb hcs => ?_
      obtain rfl : k = e - s - a := by omega
      exact ⟨_, results_none rfl _ _ _, ⟨_, rfl⟩, .inl (by rw [← MM.preF_all]; exact HJ.out _ _ _ HI.out.at_ hb hcs)⟩
end
/-- The iterator's word: all sets, or up to one on which a round has said that it is enough. -/
theorem sets1_in (e : Nat) (he : e ≤ 1000000) : ∀ s, s ≤ 900 → ∀ a, a ≤ 1000000 → SetsIn s a e
  | 0, _, a, _ => sets1_zero a e
  | s + 1, hs, a, ha => sets1_succ s a e (by omega) he ha (sets1_in e he s (by omega))
end M
end Go.Proofs.YtaogdhpiiclejaaDoor

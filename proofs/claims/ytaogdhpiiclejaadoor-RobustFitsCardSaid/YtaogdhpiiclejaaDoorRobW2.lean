/- The walks of what is wrong with the arguments, of the sets' own function, and of the points that a polynomial misses. -/
import Derived.Test.YtaogdhpiiclejaaDoorRobW1
import Derived.Lib.AppendZeros
namespace Go.Proofs.YtaogdhpiiclejaaDoor
open Go Go.RowKit Go.Lib Go.Shelf
namespace MM
/-- What is wrong with the arguments. -/
def decErr (q : Nat) (t : Int) (n m : Nat) (z : Nat → Nat) : Int := if primeOf q = false ∨ t < 0 ∨ 2 < t ∨ n ≠ m then 1 else if 7 < n then 40 else if tw6 q z n ≠ 0 then 6 else if noAll q z n = true then 5 else 0
end MM
namespace M
attribute [local go_sem] Oper.semAt_some
theorem laid_below {w w' : World} (h : Laid w) (hb : Below w.heap.size w w') : Laid w' := by
  obtain ⟨⟨t, fr, h1⟩, h2⟩ := h
  refine ⟨⟨t, fr, ?_⟩, fun j hj => ?_⟩
  · have hs : (0 : Nat) < w.heap.size := row_lt h1
    rw [hb.block _ hs]; exact h1
  · have hc := h2 j hj
    have hs := World.block_lt_of_cell? w _ hc
    rw [hb.cell hs]; exact hc
theorem good_of_prime {q : Nat} (h : MM.primeOf q = true) : MM.Good q := by
  unfold MM.primeOf MM.primeB at h
  by_cases h1 : q < 2 ∨ 2305843009213693952 < q
  · rw [if_pos h1] at h; cases h
  · exact ⟨by omega, by omega⟩
/-- The weights' word where the places are few. -/
theorem weights_few (ao : Option Addr) (n cap q : Nat) (z : Nat → Nat) (hz : ∀ k, z k < 18446744073709551616) (hq : MM.Good q) (hn : n ≤ 7) (w : World) (hr : Rd w ao n z) :
    Calls Tryd.prog 24 #[.slice ao n cap, .int .u64 0, .int .u64 (q : Int)] w fun e w' => ∃ v, e = .returned (.tuple #[v, .int .i64 (if MM.tw6 q z n ≠ 0 then 6 else if MM.noAll q z n = true then 5 else 0)]) ∧ Below w.heap.size w w' := by
  have hS := sorts_short n (by omega)
  by_cases hT : MM.tw6 q z n = 0
  · rw [if_neg (by simpa using hT)]
    refine Calls.mono (weights_good ao n cap 0 q z hz hq (by omega) hS hT w hr) ?_
    rintro e w' (⟨B, rfl, hm, hi⟩ | ⟨rfl, hb, j, hj, hi⟩)
    · rw [(MM.und_all hq n).1 hi]
      exact ⟨_, rfl, hm.below⟩
    · rw [if_pos (by
        cases h : MM.noAll q z n with
        | true => rfl
        | false => exact absurd ((MM.und_all hq n).2 h j hj) hi)]
      exact ⟨_, rfl, hb⟩
  · rw [if_pos hT]
    have h6 : MM.tw6 q z n = 6 := by
      unfold MM.tw6 at hT ⊢
      by_cases h : MM.twAll q z n = true
      · rw [if_pos h]
      · rw [if_neg h] at hT; exact absurd rfl hT
    refine Calls.mono (weights_err ao n cap 0 q 6 (by decide) w fun W hb => ?_) ?_
    · have := check_good ao n cap q z hz hq (by omega) hS W (hr.below hb)
      rwa [h6] at this
    · rintro e w' ⟨rfl, hb⟩
      exact ⟨_, rfl, hb⟩
set_option maxHeartbeats 4000000 in
theorem dcheck_any (xo yo : Option Addr) (n m cx cy q : Nat) (t : Int) (z : Nat → Nat) (hz : ∀ k, z k < 18446744073709551616) (w : World) (hl : Laid w) (hr : Rd w xo n z) :
    Calls Tryd.prog 12 #[.slice xo n cx, .slice yo m cy, .int .i64 t, .int .u64 (q : Int)] w fun e w' => e = .returned (.int .i64 (MM.decErr q t n m z)) ∧ Below w.heap.size w w' := by
  have hpr := prime_any q w hl
  unfold MM.decErr
  cases hp : MM.primeOf q with
  | false =>
    rw [if_pos (.inl rfl)]
    rw [hp] at hpr
    have HP := Lib.hid hpr
    clear hpr hr hz hl
    go_enter Tryd.func12, Tryd.ntmps12
    go_wp2_with (go_at_call 11; (with_reducible refine HP.out.mono ?_); rintro e w' ⟨rfl, nd, rfl⟩)
    all_goals (first | (exfalso; omega) | (go_ret; exact ⟨rfl, below_drewN' _ _ _⟩))
  | true =>
    have hq := good_of_prime hp
    rw [hp] at hpr
    have HP := Lib.hid hpr
    have HW := Lib.hid (fun (W : World) (hb : Below w.heap.size w W) (hn : n ≤ 7) => weights_few xo n cx q z hz hq hn W (hr.below hb))
    clear hpr hr hz hl hq
    obtain ⟨c, hc⟩ : ∃ c : Int, (if MM.tw6 q z n ≠ 0 then 6 else if MM.noAll q z n = true then 5 else 0) = c := ⟨_, rfl⟩
    rw [hc] at HW ⊢
    by_cases h0 : t < 0
    · rw [if_pos (.inr (.inl h0))]
      go_enter Tryd.func12, Tryd.ntmps12
      go_wp2_with (go_at_call 11; (with_reducible refine HP.out.mono ?_); rintro e w' ⟨rfl, nd, rfl⟩)
      all_goals (first | (exfalso; omega) | (go_ret; exact ⟨rfl, below_drewN' _ _ _⟩))
    · by_cases h2 : 2 < t
      · rw [if_pos (.inr (.inr (.inl h2)))]
        go_enter Tryd.func12, Tryd.ntmps12
        go_wp2_with (go_at_call 11; (with_reducible refine HP.out.mono ?_); rintro e w' ⟨rfl, nd, rfl⟩)
        all_goals (first | (exfalso; omega) | (go_ret; exact ⟨rfl, below_drewN' _ _ _⟩))
      · by_cases hne : n = m
        · rw [if_neg (by rintro (h | h | h | h) <;> first | cases h | omega)]
          subst hne
          have e1 : ((n : Int) != (n : Int)) = false := by simp
          by_cases h7 : 7 < n
          · rw [if_pos h7]
            have h7' : (7 : Int) < (n : Int) := by omega
            go_enter Tryd.func12, Tryd.ntmps12
            go_wp2_with (go_at_call 11; (with_reducible refine HP.out.mono ?_); rintro e w' ⟨rfl, nd, rfl⟩)
            all_goals (first | (exfalso; omega) | (go_ret; exact ⟨rfl, below_drewN' _ _ _⟩))
          · rw [if_neg h7]
            have h7' : ¬ (7 : Int) < (n : Int) := by omega
            go_enter Tryd.func12, Tryd.ntmps12
            go_wp2_with (first | (go_at_call 11; (with_reducible refine HP.out.mono ?_); rintro e w' ⟨rfl, nd, rfl⟩) | (go_at_call 24; (refine (HW.out _ (below_drewN' w _ _) (by omega)).mono ?_); rintro e w' ⟨v, rfl, hb⟩))
            all_goals (first | (exfalso; omega) | (go_ret; exact ⟨rfl, (below_drewN' w _ _).trans (hb.mono (by simp))⟩))
        · rw [if_pos (.inr (.inr (.inr hne)))]
          have e1 : ((n : Int) != (m : Int)) = true := by simp; omega
          go_enter Tryd.func12, Tryd.ntmps12
          go_wp2_with (go_at_call 11; (with_reducible refine HP.out.mono ?_); rintro e w' ⟨rfl, nd, rfl⟩)
          all_goals (first | (exfalso; omega) | (go_ret; exact ⟨rfl, below_drewN' _ _ _⟩))
theorem sets_any (a b s : Int) (w : World) :
    Calls Tryd.prog 13 #[.int .i64 a, .int .i64 b, .int .i64 s] w fun e w' =>
      e = .returned (.func (.func 25) #[] #[.pointer (some ⟨w.heap.size + 1 + 1, 0, none⟩), .pointer (some ⟨w.heap.size, 0, none⟩), .pointer (some ⟨w.heap.size + 1, 0, none⟩)]) ∧
      ((w.alloc (.cells #[.int .i64 a] 3)).alloc (.cells #[.int .i64 b] 3)).alloc (.cells #[.int .i64 s] 3) = w' := by
  go_enter Tryd.func13, Tryd.ntmps13
  go_wp2_with fail
  go_ret
  exact ⟨rfl, rfl⟩
/-! ### Rows of whole numbers that a call makes by appends. -/
theorem info_i64 : (Tryd.prog.info? 3).map (fun i => (i.zero, i.size, i.bytes)) = some (some (.int .i64 0), 1, 8) := by kernel_rfl
def ilist (l : List Nat) : List Value := l.map fun k => .int .i64 ((k : Nat) : Int)
theorem ilist_len (l : List Nat) : (ilist l).length = l.length := by simp [ilist]
theorem ilist_one (l : List Nat) : ∀ u ∈ ilist l, u.oneCell' = true := fun u hu => by
  simp [ilist] at hu
  obtain ⟨k, _, rfl⟩ := hu
  rfl
theorem ilist_get {l : List Nat} {k : Nat} (h : k < l.length) : (ilist l)[k]? = some (.int .i64 ((l.getD k 0 : Nat) : Int)) := by simp [ilist, h]
structure OwnI (w0 : World) (B : Nat) (v : Value) (l : List Nat) (w : World) : Prop where
  own : w.ownsRow B 3 1 v l.length (ilist l)
  size : B ≤ w.heap.size
  low : w0.heap.size ≤ B
  below : Below w0.heap.size w0 w
section
variable {w0 w w' : World} {B : Nat} {v : Value} {l : List Nat}
theorem OwnI.start (w0 : World) : OwnI w0 w0.heap.size (.slice none 0 0) [] w0 := ⟨⟨by simp [ilist], .inl ⟨rfl, rfl⟩⟩, Nat.le_refl _, Nat.le_refl _, Below.refl _ _⟩
theorem OwnI.step (h : OwnI w0 B v l w) (hb : Below w.heap.size w w') : OwnI w0 B v l w' :=
  ⟨h.own.kept (row := none) ⟨hb.os, hb.tape, hb.output, hb.size, fun k hk _ => hb.block k hk⟩ (by cases v.ownBlock <;> simp), Nat.le_trans h.size hb.size, h.low, h.below.trans (hb.mono h.below.size)⟩
theorem OwnI.drewN (h : OwnI w0 B v l w) (n : Nat) : OwnI w0 B v l (w.drewN n) := h.step (below_drewN' w n _)
theorem OwnI.alloc (h : OwnI w0 B v l w) (o : Obj) : OwnI w0 B v l (w.alloc o) := h.step (below_box _ _)
theorem OwnI.grow {l' : List Nat} (h : OwnI w0 B v l w) {v' : Value} {k : Nat} {xs : List Value} (ho : w'.ownsRow B 3 1 v' k xs) (hk : k = l'.length) (hx : xs = ilist l') (hg : w.grownBy w' v.ownBlock) : OwnI w0 B v' l' w' :=
  ⟨hx ▸ hk ▸ ho, Nat.le_trans h.size hg.size, h.low,
   h.below.trans ⟨hg.os, hg.tape, hg.output, hg.size, fun j hj => hg.block j (Nat.lt_of_lt_of_le hj h.below.size) (fun e => by have := (h.own.lt j e.symm).1; have := h.low; omega)⟩⟩
theorem OwnI.val (h : OwnI w0 B v l w) : (v = .slice none 0 0 ∧ l = []) ∨ ∃ g c, v = .slice (some ⟨g, 0, none⟩) l.length c ∧ B ≤ g ∧ l.length ≤ c ∧ SetIn w (some ⟨g, 0, none⟩) l := by
  obtain ⟨_, ⟨h1, h2⟩ | ⟨g, cap, cur, h1, h2, h3, h4, h5, _, h7⟩⟩ := h.own
  · exact .inl ⟨h1, List.eq_nil_of_length_eq_zero h2⟩
  · refine .inr ⟨g, cap, h1, h2, h4, g, cur, rfl, h3, fun j hj => ?_⟩
    have e1 : (cur.toList.take (l.length * 1))[j]? = (ilist l)[j]? := by rw [h7]
    rw [ilist_get hj, List.getElem?_take_of_lt (by omega)] at e1
    simpa using e1
/-- A row, and some numbers behind it. -/
theorem OwnI.more (h : OwnI w0 B v l w) {g : Nat} {l2 : List Nat} (c : Nat) (hs : SetIn w (some ⟨g, 0, none⟩) l2) (hb : l.length + l2.length ≤ 1000000) :
    ∃ v' w', (Builtin.append_ #[28, 28] 28 #[v, .slice (some ⟨g, 0, none⟩) l2.length c]).run Tryd.prog w = .ok v' w' ∧ OwnI w0 B v' (l ++ l2) w' := by
  obtain ⟨i0, hi, hz0, hz1, hz2⟩ := info_parts info_i64
  obtain ⟨ad, e, hcell⟩ := hs.cell
  obtain rfl : ad = ⟨g, 0, none⟩ := by simpa using e.symm
  obtain ⟨v', w', hr, ho, hg, _⟩ := run_append_own (P := Tryd.prog) w B 28 28 3 i0 (.int .i64 0) 1 8 Tryd.underlying28 hi hz0 hz1 hz2 rfl (by decide) v l.length (ilist l) h.own ⟨g, 0, none⟩ l2.length c (ilist l2) (by rw [ilist_len, Nat.mul_one]) (fun j u hj => by
    have hl := (List.getElem?_eq_some_iff.1 hj).1
    rw [ilist_len] at hl
    rw [ilist_get hl] at hj
    rw [← hj]; exact hcell j hl) (ilist_one l2) (by unfold maxLen; omega) (by omega) h.size
  exact ⟨v', w', hr, h.grow ho (by simp) (by simp [ilist]) hg⟩
theorem one_set (W : World) (x : Nat) : SetIn (W.alloc (.cells #[.int .i64 (x : Int)] 3)) (some ⟨W.heap.size, 0, none⟩) [x] := ⟨W.heap.size, _, rfl, heap_alloc_new _ _, fun k hk => by
  obtain rfl : k = 0 := by simpa using hk
  rfl⟩
end
end M
end Go.Proofs.YtaogdhpiiclejaaDoor

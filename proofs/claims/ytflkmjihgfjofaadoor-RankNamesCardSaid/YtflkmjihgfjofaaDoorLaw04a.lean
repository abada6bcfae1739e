/- What package rank's calls answer at given rows, as facts that a walk meets; rows of rows in new memory; two lists that are the same. -/
import Derived.Test.YtflkmjihgfjofaaDoorRankW7
import Derived.Laws.Append
import Derived.Lib.AppendZeros
namespace Go.Proofs.YtflkmjihgfjofaaDoor
open Go Go.RowKit Go.Lib
namespace MM
/-- The same as it is reckoned. -/
def addE (q w : Nat) (s : Nat × Bs) (r : Nat → Nat) : Nat × Bs :=
  if (red q w s.2 w r).1 = w then s else (s.1 + 1, fun j => if j = (red q w s.2 w r).1 then some (fun i => mulU ((red q w s.2 w r).2 i) (invE ((red q w s.2 w r).2 (red q w s.2 w r).1) q) q) else s.2 j)
theorem addB_eq : @addB = @addE := by
  funext q w s r; unfold addB addE; simp only [invU_eq]
def allE (q w : Nat) (rows : List (List Nat)) : Nat × Bs := rows.foldl (fun s r => addE q w s (wideU q (ofL r))) noB
theorem allB_eq : @allB = @allE := by funext q w rows; unfold allB allE; rw [addB_eq]
def rankE (rows : List (List Nat)) (q : Nat) : Nat := (allE q (widU rows) rows).1
theorem rankU_eq (rows : List (List Nat)) (q : Nat) : rankU rows q = rankE rows q := by unfold rankU rankE; rw [allB_eq]
def hangsE (rows : List (List Nat)) (row : List Nat) (q : Nat) : Bool :=
  (red q (max (widU rows) row.length) (allE q (max (widU rows) row.length) rows).2 (max (widU rows) row.length) (wideU q (ofL row))).1 == max (widU rows) row.length
theorem hangsU_eq (rows : List (List Nat)) (row : List Nat) (q : Nat) : hangsU rows row q = hangsE rows row q := by unfold hangsU hangsE; rw [allB_eq]
def eqsE (q : Nat) (right : List Nat) (rows : List (List Nat)) : Nat × Bs := (List.range rows.length).foldl (fun s i => addE q (widU rows + 1) s (eqnRow q (widU rows) right rows i)) noB
theorem eqsA_eq (q : Nat) (right : List Nat) (rows : List (List Nat)) : eqsA q right rows = eqsE q right rows := by unfold eqsA eqsK eqsE; rw [addB_eq]
/-- What Solve tells, as a list. -/
def solE (q : Nat) (right : List Nat) (rows : List (List Nat)) : List Nat := (List.range (widU rows)).map (unkU q (widU rows) (eqsE q right rows).2 (widU rows) (fun _ => 0))
def okR (rows : List (List Nat)) : Bool := decide (rows.length ≤ 1000000) && rows.all fun r => decide (r.length ≤ 1000000) && r.all (· < 18446744073709551616)
theorem okR_of {rows : List (List Nat)} (h : okR rows = true) : rows.length ≤ 1000000 ∧ (∀ r ∈ rows, r.length ≤ 1000000) ∧ ∀ r ∈ rows, ∀ x ∈ r, x < 18446744073709551616 := by
  unfold okR at h
  rw [Bool.and_eq_true, List.all_eq_true] at h
  refine ⟨of_decide_eq_true h.1, fun r hr => ?_, fun r hr x hx => ?_⟩
  · have := h.2 r hr; rw [Bool.and_eq_true] at this; exact of_decide_eq_true this.1
  · have := h.2 r hr; rw [Bool.and_eq_true, List.all_eq_true] at this; exact of_decide_eq_true (this.2 x hx)
theorem prime_is {q : Nat} {r : Bool} (h : primeF q = r) : primeOf q = r := by rw [← h]; exact primeF_eq q
end MM
namespace M
theorem rank_is (rows : List (List Nat)) (q r : Nat) (hq : MM.primeF q = true) (hok : MM.okR rows = true) (hr : MM.rankE rows q = r) (W : World) (ao : Option Addr) (n cap : Nat) (hn : rows.length = n) (hl : Laid W) (h : NRows W ao rows) :
    Calls Tryd.prog 12 #[.slice ao n cap, .int .u64 (q : Int)] W fun e w' => e = .returned (.int .i64 (r : Int)) ∧ Below W.heap.size W w' := by
  subst hn
  obtain ⟨h1, h2, h3⟩ := MM.okR_of hok
  have := rank_yes ao cap q rows h1 h2 h3 (MM.prime_is hq) W hl h
  rwa [MM.rankU_eq, hr] at this
theorem hangs_is (rows : List (List Nat)) (row : List Nat) (q : Nat) (r : Bool) (hq : MM.primeF q = true) (hok : MM.okR rows = true) (hok2 : MM.okR [row] = true) (hr : MM.hangsE rows row q = r) (W : World) (ao ro : Option Addr) (n cap m c : Nat) (hn : rows.length = n) (hm : row.length = m) (hl : Laid W) (h : NRows W ao rows) (h2 : Rd W ro m (MM.ofL row)) :
    Calls Tryd.prog 14 #[.slice ao n cap, .slice ro m c, .int .u64 (q : Int)] W fun e w' => e = .returned (.bool r) ∧ Below W.heap.size W w' := by
  subst hn hm
  obtain ⟨a1, a2, a3⟩ := MM.okR_of hok
  obtain ⟨_, b2, b3⟩ := MM.okR_of hok2
  have := hangs_yes ao ro cap c q rows row (b2 row (by simp)) (b3 row (by simp)) a1 a2 a3 (MM.prime_is hq) W hl h h2
  rwa [MM.hangsU_eq, hr] at this
theorem solve_is (rows : List (List Nat)) (right sol : List Nat) (q : Nat) (hq : MM.primeF q = true) (hok : MM.okR rows = true) (hrn : right.length ≤ rows.length) (hb : ((MM.eqsE q right rows).2 (MM.widU rows)).isNone = true) (hs : MM.solE q right rows = sol) (W : World) (ao ro : Option Addr) (n cap m c k : Nat) (hn : rows.length = n) (hm : right.length = m) (hk : MM.widU rows = k) (hl : Laid W) (h : NRows W ao rows) (h2 : Rd W ro m (MM.ofL right)) :
    Calls Tryd.prog 13 #[.slice ao n cap, .slice ro m c, .int .u64 (q : Int)] W fun e w' => ∃ B, e = .returned (.tuple #[.slice (some ⟨B, 0, none⟩) k k, .int .i64 0]) ∧ Row w' ⟨B, 0, none⟩ k (MM.ofL sol) ∧ Below W.heap.size W w' := by
  subst hn hm hk
  obtain ⟨a1, a2, a3⟩ := MM.okR_of hok
  refine (solve_yes ao ro cap c q rows right a1 a2 a3 hrn (MM.prime_is hq) W hl h h2).mono ?_
  rintro e w' (⟨_, B, rfl, hm⟩ | ⟨hne, _⟩)
  · refine ⟨B, rfl, fun t ht => ?_, hm.below⟩
    have h4 := hm.row t ht
    rw [MM.eqsA_eq] at h4
    rw [h4, ← hs]
    unfold MM.solE MM.ofL
    rw [List.getD_eq_getElem?_getD, List.getElem?_map, List.getElem?_range ht]; rfl
  · exfalso
    rw [MM.eqsA_eq] at hne
    exact hne (by cases he : (MM.eqsE q right rows).2 (MM.widU rows) with
      | none => rfl
      | some x => rw [he] at hb; cases hb)
theorem solve_none (rows : List (List Nat)) (right : List Nat) (q : Nat) (hq : MM.primeF q = true) (hok : MM.okR rows = true) (hrn : right.length ≤ rows.length) (hb : ((MM.eqsE q right rows).2 (MM.widU rows)).isNone = false) (W : World) (ao ro : Option Addr) (n cap m c : Nat) (hn : rows.length = n) (hm : right.length = m) (hl : Laid W) (h : NRows W ao rows) (h2 : Rd W ro m (MM.ofL right)) :
    Calls Tryd.prog 13 #[.slice ao n cap, .slice ro m c, .int .u64 (q : Int)] W fun e w' => e = .returned (.tuple #[.slice none 0 0, .int .i64 5]) ∧ Below W.heap.size W w' := by
  subst hn hm
  obtain ⟨a1, a2, a3⟩ := MM.okR_of hok
  refine (solve_yes ao ro cap c q rows right a1 a2 a3 hrn (MM.prime_is hq) W hl h h2).mono ?_
  rintro e w' (⟨hno, _⟩ | ⟨_, he, hbl⟩)
  · exfalso
    rw [MM.eqsA_eq] at hno
    rw [hno] at hb; cases hb
  · exact ⟨he, hbl⟩
/-- Rows of rows in new memory. -/
theorem nrows_new (W : World) (bl : List (Nat × List Nat)) (h : ∀ p ∈ bl, Row W ⟨p.1, 0, none⟩ p.2.length (MM.ofL p.2)) :
    NRows (W.alloc (.cells (bl.map fun p => Value.slice (some ⟨p.1, 0, none⟩) p.2.length p.2.length).toArray 25)) (some ⟨W.heap.size, 0, none⟩) (bl.map (·.2)) := fun i hi => by
  rw [List.length_map] at hi
  have hg : (bl.map (·.2)).getD i [] = bl[i].2 := by rw [List.getD_eq_getElem?_getD, List.getElem?_map, List.getElem?_eq_getElem hi]; rfl
  rw [hg]
  refine ⟨_, some ⟨bl[i].1, 0, none⟩, bl[i].2.length, rfl, ?_, fun _ => ⟨_, rfl, (h _ (List.getElem_mem hi)).below (below_box _ _)⟩⟩
  have e : (⟨W.heap.size, 0, none⟩ : Addr).add i = ⟨W.heap.size, i, none⟩ := by
    unfold Addr.add
    by_cases h0 : i = 0
    · subst h0; rfl
    · rw [if_neg h0]; simp
  rw [e, cell_of_row _ _ _ _ _ _ (heap_alloc_new W _)]
  simp [hi]
theorem nrows_take {W : World} {ao : Option Addr} {rows : List (List Nat)} (h : NRows W ao rows) (k : Nat) : NRows W ao (rows.take k) := fun i hi => by
  rw [List.length_take] at hi
  have e : (rows.take k).getD i [] = rows.getD i [] := by rw [List.getD_eq_getElem?_getD, List.getD_eq_getElem?_getD, List.getElem?_take_of_lt (by omega)]
  rw [e]
  exact h i (by omega)
theorem nrows_nil (W : World) (ao : Option Addr) : NRows W ao [] := fun i hi => absurd hi (by simp)
theorem row_new (W : World) (l : List Nat) : Row (W.alloc (.cells (l.map fun (x : Nat) => Value.int .u64 (x : Int)).toArray 24)) ⟨W.heap.size, 0, none⟩ l.length (MM.ofL l) := Row.of_block (heap_alloc_new _ _) (fun k hk => by simp [MM.ofL, hk])
theorem row_rd {W : World} {a : Addr} {n : Nat} {z : Nat → Nat} (h : Row W a n z) : Rd W (some a) n z := fun _ => ⟨a, rfl, h⟩
theorem rd_none (W : World) (ao : Option Addr) (z : Nat → Nat) : Rd W ao 0 z := fun h => absurd h (by omega)
theorem Below.tr {W0 W W' : World} (h : Below W0.heap.size W0 W) (hb : Below W.heap.size W W') : Below W0.heap.size W0 W' := h.trans (hb.mono h.size)
set_option maxHeartbeats 1000000 in
theorem nums_yes (ao bo : Option Addr) (n ca cb : Nat) (z : Nat → Nat) (hn : n ≤ 9223372036854775807) (W : World) (ha : Rd W ao n z) (hb : Rd W bo n z) :
    Calls Tryd.prog 15 #[.slice ao n ca, .slice bo n cb] W fun e w' => e = .returned (.bool true) ∧ Below W.heap.size W w' := by
  have HA := Lib.hid ha
  have HB := Lib.hid hb
  clear ha hb
  go_enter Tryd.func15, Tryd.ntmps15
  go_wp2_with fail
  go_loopw [5] (fun s5 wx => ∃ k m : Nat, k ≤ n ∧ s5 = .int .i64 (k : Int) ∧ wx = W.drewN m) (fun s5 _ => n - (RowKit.intOf s5).toNat)
  case atStart => exact ⟨0, 0, Nat.zero_le _, rfl, rfl⟩
  case round =>
    obtain ⟨k, m, hk, rfl, rfl⟩ := hrel
    by_cases hlt : k < n
    · obtain ⟨ad, rfl, hc⟩ := HA.out.at_ hlt
      obtain ⟨bd, rfl, hd⟩ := HB.out.at_ hlt
      go_upto_region 6 with fail
      generalize hwr : W.drewN m = wr
      have hcell : wr.cell? (ad.add k) = some (.int .u64 ((z k : Nat) : Int)) := by rw [← hwr]; exact hc
      have hdell : wr.cell? (bd.add k) = some (.int .u64 ((z k : Nat) : Int)) := by rw [← hwr]; exact hd
      have HWR := Lib.hid hwr
      clear hwr hc hd
      have hk0 : (0 : Int) ≤ (k : Int) := Int.natCast_nonneg _
      have hk1 : (k : Int) < (n : Int) := by omega
      go_quiet (fail)
      go_wp2_with fail
      go_roundw
      case rel => exact ⟨k + 1, _, by omega, by go_num, by rw [← HWR.out]; exact World.drewN_drewN _ _ _⟩
      case measure => simp [RowKit.intOf]; omega
    · obtain rfl : k = n := by omega
      go_wp2_with fail
      go_ret
      exact ⟨rfl, below_drewN' _ _ _⟩
/-- The state of the law: nothing old has changed, and the two tables are laid. -/
structure St (w0 w : World) : Prop where
  below : Below w0.heap.size w0 w
  laid : Laid w
theorem St.step {w0 w w' : World} (h : St w0 w) (hb : Below w.heap.size w w') : St w0 w' := ⟨Below.tr h.below hb, h.laid.below hb⟩
theorem St.alloc {w0 w : World} (h : St w0 w) (o : Obj) : St w0 (w.alloc o) := h.step (below_box _ _)
/-- Numbers laid into a new block. -/
abbrev ns (l : List Nat) : Obj := .cells (l.map fun (x : Nat) => Value.int .u64 (x : Int)).toArray 24
end M
end Go.Proofs.YtflkmjihgfjofaaDoor

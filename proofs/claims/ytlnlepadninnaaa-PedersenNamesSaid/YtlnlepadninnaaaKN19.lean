/- The texts PedLaw, PedIs, Tame, one behind the other. -/
import Derived.Test.YtlnlepadninnaaaKN9
import Derived.Test.YtlnlepadninnaaaKN11
import Derived.IntWalk
import Derived.Deep.QuietTactic
import Derived.BigQuiet
import Derived.Test.YtlnlepadninnaaaKN15
import Derived.Test.YtlnlepadninnaaaKN18
import Derived.Test.YtlnlepadninnaaaKN8
/- What the statements of layer 8 do themselves: whether numbers, and lists, are the same; how many secrets there are; polynomials of two out of numbers. -/
namespace Go.Proofs.Ytlnlepadninnaaa
open Go Go.RowKit Go.Lib
namespace M
set_option maxRecDepth 100000 in
set_option maxHeartbeats 2000000 in
theorem nums8_yes (ao bo : Option Addr) (n ca cb : Nat) (z : Nat → Nat) (hn : n ≤ 9223372036854775807) (W : World) (ha : Rd W ao n z) (hb : Rd W bo n z) :
    Calls Try.prog 16 #[.slice ao n ca, .slice bo n cb] W fun e w' => e = .returned (.bool true) ∧ ∃ d, w' = W.drewN d := by
  have HA := Lib.hid ha
  have HB := Lib.hid hb
  clear ha hb
  go_enter Try.func16, Try.ntmps16
  go_wp2_with fail
  go_loopw [5] (fun s5 wx => ∃ k m : Nat, k ≤ n ∧ s5 = .int .i64 (k : Int) ∧ wx = W.drewN m) (fun s5 _ => n - (RowKit.intOf s5).toNat)
  case atStart => exact ⟨0, 0, Nat.zero_le _, rfl, rfl⟩
  case round =>
    obtain ⟨k, m, hk, rfl, rfl⟩ := hrel
    by_cases hlt : k < n
    · obtain ⟨ad, rfl, hc⟩ := HA.out.at_ hlt
      obtain ⟨bd, rfl, hd⟩ := HB.out.at_ hlt
      go_upto_region 6 with fail
      generalize hwr : W.drewN m = wr
      have hcell : wr.cell? (ad.add k) = some (.int .u64 ((z k : Nat) : Int)) := by rw [← hwr]; exact hc
      have hdell : wr.cell? (bd.add k) = some (.int .u64 ((z k : Nat) : Int)) := by rw [← hwr]; exact hd
      have HWR := Lib.hid hwr
      clear hwr hc hd
      have hk0 : (0 : Int) ≤ (k : Int) := Int.natCast_nonneg _
      have hk1 : (k : Int) < (n : Int) := by omega
      go_quiet (fail)
      go_wp2_with fail
      go_roundw
      case rel => exact ⟨k + 1, _, by omega, by go_num, by rw [← HWR.out]; exact World.drewN_drewN _ _ _⟩
      case measure => simp [RowKit.intOf]; omega
    · obtain rfl : k = n := by omega
      go_wp2_with fail
      go_ret
      exact ⟨rfl, _, rfl⟩
set_option maxRecDepth 100000 in
set_option maxHeartbeats 2000000 in
theorem lists8_yes (ao bo : Option Addr) (m ca cb : Nat) (L : Nat → Nat) (F : Nat → Nat → Nat) (hm : m ≤ 1000000) (hl : ∀ i, i < m → L i ≤ 1000) (W : World) (ha : Mat W ao m L F) (hb : Mat W bo m L F) :
    Calls Try.prog 8 #[.slice ao m ca, .slice bo m cb] W fun e w' => e = .returned (.bool true) ∧ ∃ d, w' = W.drewN d := by
  have HA := Lib.hid ha
  have HB := Lib.hid hb
  have HL := Lib.hid hl
  clear ha hb hl
  go_enter Try.func8, Try.ntmps8
  go_wp2_with fail
  go_loopw [5] (fun s5 wx => ∃ k d : Nat, k ≤ m ∧ s5 = .int .i64 (k : Int) ∧ wx = W.drewN d) (fun s5 _ => m - (RowKit.intOf s5).toNat)
  case atStart => exact ⟨0, 0, Nat.zero_le _, rfl, rfl⟩
  case round =>
    obtain ⟨k, d, hk, rfl, rfl⟩ := hrel
    by_cases hlt : k < m
    · obtain ⟨ad, a1, c1, rfl, hc, hs, _⟩ := HA.out k hlt
      obtain ⟨bd, b1, c2, rfl, hd, ht, _⟩ := HB.out k hlt
      have hlk := HL.out k hlt
      go_upto_region 6 with fail
      generalize hwr : W.drewN d = wr
      have hcell : wr.cell? (ad.add k) = some (.slice a1 (L k) c1) := by rw [← hwr]; exact hc
      have hdell : wr.cell? (bd.add k) = some (.slice b1 (L k) c2) := by rw [← hwr]; exact hd
      have HN := Lib.hid (fun e => nums8_yes a1 b1 (L k) c1 c2 (F k) (by omega) (wr.drewN e) (by rw [← hwr]; exact hs) (by rw [← hwr]; exact ht))
      have HWR := Lib.hid hwr
      generalize L k = lk at *
      clear hwr hc hd hs ht
      have hk0 : (0 : Int) ≤ (k : Int) := Int.natCast_nonneg _
      have hk1 : (k : Int) < (m : Int) := by omega
      go_quiet ((go_at_call 16; exact Calls.quiet_of (HN.out _)))
      go_wp2_with fail
      go_roundw
      case rel => exact ⟨k + 1, _, by omega, by go_num, by rw [← HWR.out]; exact World.drewN_drewN _ _ _⟩
      case measure => simp [RowKit.intOf]; omega
    · obtain rfl : k = m := by omega
      go_wp2_with fail
      go_ret
      exact ⟨rfl, _, rfl⟩
end M
end Go.Proofs.Ytlnlepadninnaaa
/- What package pedersen's calls answer at the parameters of the examples and at given lists, as facts that a walk meets; the examples that each statement of layer 8 asks for ahead of its own. -/
namespace Go.Proofs.Ytlnlepadninnaaa
open Go Go.RowKit Go.Lib
namespace M
/-- The parameters of the examples. -/
abbrev sm8 : Pm := ⟨23, 11, 4, 9, 4, 4, 1, 1, 1, 1, 1, 1⟩
set_option maxHeartbeats 400000 in
theorem small8_any : RetB 5 #[] (.agg sm8.cells) := by
  intro w
  go_enter Try.func5, Try.ntmps5
  go_wp2_with fail
  refine bodyPost_ret (v := .agg sm8.cells) (by simp [results, Try.results5, go_sem]) rfl ⟨rfl, ?_⟩
  exact (Below.refl _ _).alloc (Nat.le_refl _) _
/-- Pairs in a new block. -/
theorem pair_row {W : World} {b n : Nat} {cs : Array Value} {t : TypeId} (ls lt : List Nat) (h : W.heap[b]? = some (.cells cs t (0, 0))) (hc : ∀ k, k < n → cs[k * 2]? = some (.int .u64 ((MM.nl ls k : Nat) : Int)) ∧ cs[k * 2 + 1]? = some (.int .u64 ((MM.nl lt k : Nat) : Int))) : PairR W (some ⟨b, 0, none⟩) n (MM.nl ls) (MM.nl lt) :=
  fun k hk => ⟨b, rfl, by rw [cell_of_row _ _ _ _ _ _ h]; exact (hc k hk).1, by rw [cell_of_row _ _ _ _ _ _ h]; exact (hc k hk).2⟩
theorem coms_is (f r res : List (List Nat)) (n m k : Nat) (hf : f.all (fun l => l.all (· < 18446744073709551616)) = true) (hr : r.all (fun l => l.all (· < 18446744073709551616)) = true)
    (h : n ≤ 1000 ∧ m ≤ 1000 ∧ (∀ i, i < n → MM.lenL f i ≤ 1000) ∧ (∀ i, i < m → MM.lenL r i ≤ 1000) ∧ max n m = k ∧ (∀ i, i < k → max (getU n (MM.lenL f) i) (getU m (MM.lenL r) i) = MM.lenL res i) ∧
      ∀ i, i < k → ∀ j, j < MM.lenL res i → MM.comU 23 4 9 (getU (getU n (MM.lenL f) i) (MM.nlR f i) j) (getU (getU m (MM.lenL r) i) (MM.nlR r i) j) = MM.nlR res i j)
    {W : World} {ao bo : Option Addr} {ca cb : Nat} (ha : Mat W ao n (MM.lenL f) (MM.nlR f)) (hb : Mat W bo m (MM.lenL r) (MM.nlR r)) :
    Calls Try.prog 12 #[.agg sm8.cells, .slice ao n ca, .slice bo m cb] W fun e w' => ∃ v, e = .returned v ∧ (MatC W.heap.size w' v k (MM.lenL res) (MM.nlR res) ∧ CapOk v) ∧ Below W.heap.size W w' := by
  obtain ⟨a1, a2, a3, a4, a5, a6, a7⟩ := h
  refine (coms_any sm8 (by decide) (by decide) ao bo n ca m cb _ _ _ _ (MM.nlR_lt hf) (MM.nlR_lt hr) a3 a4 a1 a2 W ha hb).mono ?_
  rintro e w' ⟨v, rfl, ⟨hv, hcap⟩, hb'⟩
  rw [a5] at hv
  exact ⟨v, rfl, ⟨hv.congr a6 fun i hi j hj => by rw [a6 i hi] at hj; exact a7 i hi j hj, hcap⟩, hb'⟩
theorem share_is (c : List (List Nat)) (res : List Nat) (m x : Nat) {xi : Int} (hx : (x : Int) = xi) (hf : c.all (fun l => l.all (· < 18446744073709551616)) = true)
    (h : m ≤ 1000 ∧ (∀ i, i < m → MM.lenL c i ≤ 1000) ∧ x < 18446744073709551616 ∧ ∀ i, i < m → MM.atN 23 11 x (MM.nlR c i) (MM.lenL c i) = MM.nl res i) {W : World} {ao : Option Addr} {cap : Nat} (ha : Mat W ao m (MM.lenL c) (MM.nlR c)) :
    Calls Try.prog 13 #[.agg sm8.cells, .slice ao m cap, .int .u64 xi] W fun e w' => ∃ B, e = .returned (.slice (some ⟨B, 0, none⟩) m m) ∧ Row w' ⟨B, 0, none⟩ m (MM.nl res) ∧ Below W.heap.size W w' := by
  subst hx
  obtain ⟨a1, a2, a3, a4⟩ := h
  refine (share_any sm8 ao m cap x _ _ a1 a2 (MM.nlR_lt hf) a3 W ha).mono ?_
  rintro e w' ⟨B, rfl, hm⟩
  exact ⟨B, rfl, fun k hk => by rw [hm.row k hk]; simp only [a4 k hk], hm.below⟩
theorem formed_is (c : List (List Nat)) (m : Nat) (b : Bool) (hf : c.all (fun l => l.all (· < 18446744073709551616)) = true) (h : m ≤ 1000 ∧ (∀ i, i < m → MM.lenL c i ≤ 1000) ∧ formB sm8 m (MM.lenL c) (MM.nlR c) = b) {W : World} {ao : Option Addr} {cap : Nat} (ha : Mat W ao m (MM.lenL c) (MM.nlR c)) :
    Calls Try.prog 11 #[.agg sm8.cells, .slice ao m cap] W fun e w' => e = .returned (.bool b) ∧ Below W.heap.size W w' := by
  obtain ⟨a1, a2, a3⟩ := h
  rw [← a3]
  exact formed_any sm8 (by decide) (by decide) (by decide) (by decide) ao m cap _ _ a1 a2 (MM.nlR_lt hf) W ha
theorem fits_is (c : List (List Nat)) (ls lt : List Nat) (m x : Nat) (b : Bool) {xi : Int} (hx : (x : Int) = xi) (hf : c.all (fun l => l.all (· < 18446744073709551616)) = true) (hs : ls.all (· < 18446744073709551616) = true) (ht : lt.all (· < 18446744073709551616) = true)
    (h : m ≤ 1000 ∧ (∀ i, i < m → MM.lenL c i ≤ 1000) ∧ x < 18446744073709551616 ∧ fitB sm8 x m (MM.lenL c) (MM.nlR c) (MM.nl ls) (MM.nl lt) = b) {W : World} {ao bo : Option Addr} {cap cb : Nat} (ha : Mat W ao m (MM.lenL c) (MM.nlR c)) (hb : PairR W bo m (MM.nl ls) (MM.nl lt)) :
    Calls Try.prog 14 #[.agg sm8.cells, .slice ao m cap, .int .u64 xi, .slice bo m cb] W fun e w' => e = .returned (.bool b) ∧ Below W.heap.size W w' := by
  subst hx
  obtain ⟨a1, a2, a3, a4⟩ := h
  rw [← a4]
  exact fits_any sm8 (by decide) (by decide) ao bo m cap cb x _ _ _ _ a1 a2 (MM.nlR_lt hf) a3 (MM.nl_lt hs) (MM.nl_lt ht) W ha hb
theorem fits_not (n m x : Nat) {xi : Int} (hx : (x : Int) = xi) (h : m ≠ n) {W : World} {ao bo : Option Addr} {cap cb : Nat} :
    Calls Try.prog 14 #[.agg sm8.cells, .slice ao n cap, .int .u64 xi, .slice bo m cb] W fun e w' => e = .returned (.bool false) ∧ Below W.heap.size W w' := by
  subst hx
  exact fits_len sm8 ao bo n cap m cb x h W
theorem nums8_is {W : World} {ao bo : Option Addr} {n ca cb : Nat} {z : Nat → Nat} (hn : n ≤ 1000) (ha : Rd W ao n z) (hb : Rd W bo n z) :
    Calls Try.prog 16 #[.slice ao n ca, .slice bo n cb] W fun e w' => e = .returned (.bool true) ∧ Below W.heap.size W w' :=
  (nums8_yes ao bo n ca cb z (by omega) W ha hb).mono fun e w' ⟨he, d, hd⟩ => ⟨he, hd ▸ below_drewN' _ _ _⟩
theorem lists8_is {W : World} {ao bo : Option Addr} {m ca cb : Nat} {L : Nat → Nat} {F : Nat → Nat → Nat} (hm : m ≤ 1000 ∧ ∀ i, i < m → L i ≤ 1000) (ha : Mat W ao m L F) (hb : Mat W bo m L F) :
    Calls Try.prog 8 #[.slice ao m ca, .slice bo m cb] W fun e w' => e = .returned (.bool true) ∧ Below W.heap.size W w' :=
  (lists8_yes ao bo m ca cb L F (by omega) hm.2 W ha hb).mono fun e w' ⟨he, d, hd⟩ => ⟨he, hd ▸ below_drewN' _ _ _⟩
/-- The parameters' box stands; nothing old has changed. -/
structure St8 (w : World) (g : Nat) (W : World) : Prop where
  below : Below w.heap.size w W
  box : PBox W g sm8
theorem St8.step {w W W' : World} {g : Nat} (h : St8 w g W) (hb : Below W.heap.size W W') : St8 w g W' := ⟨h.below.trans (hb.mono h.below.size), h.box.below hb⟩
theorem St8.alloc {w W : World} {g : Nat} (h : St8 w g W) (o : Obj) : St8 w g (W.alloc o) := h.step (below_box _ _)
theorem Mat.alloc8 {W : World} {ao : Option Addr} {m : Nat} {L : Nat → Nat} {F : Nat → Nat → Nat} (h : Mat W ao m L F) (o : Obj) : Mat (W.alloc o) ao m L F := h.below (below_box _ _)
theorem MatV.cut {W : World} {ao : Option Addr} {m k : Nat} {L : Nat → Nat} {F : Nat → Nat → Nat} (h : Mat W ao m L F) (hk : k ≤ m) : Mat W ao k L F := fun i hi => h i (by omega)
end M
end Go.Proofs.Ytlnlepadninnaaa
/- A drawn region of which each operation, in whatever row, makes new memory at most: whatever the row, what each operation has yielded meets its word, as such words outlive new memory. -/
namespace Go.Proofs.Ytlnlepadninnaaa
open Go Go.RowKit Go.Lib
namespace RK
/-- Number i waits for number j. -/
def Dep (md : Region.Mode) (ops : Array Oper) (i j : Nat) : Bool := match ops[i]? with | some o => o.after.toList.any (fun e => Region.binds md e && e.on == j) | none => false
/-- The slots, where what is done holds val. -/
def slotsL (s : Nat → Bool) (val : Nat → Value) : List (Option Nat) → List Value → List Value
  | some i :: os, x :: l => (if s i then val i else x) :: slotsL s val os l
  | none :: os, x :: l => x :: slotsL s val os l
  | [], l => l
  | _ :: _, [] => []
theorem slotsL_get (s : Nat → Bool) (val : Nat → Value) : ∀ (own : List (Option Nat)) (l : List Value) (t : Nat), (slotsL s val own l)[t]? = (l[t]?).map fun x => match own[t]? with | some (some i) => if s i then val i else x | _ => x
  | [], l, t => by simp [slotsL]
  | some i :: os, [], t => by simp [slotsL]
  | none :: os, [], t => by simp [slotsL]
  | some i :: os, x :: l, 0 => by simp [slotsL]
  | none :: os, x :: l, 0 => by simp [slotsL]
  | some i :: os, x :: l, t + 1 => by simp [slotsL, slotsL_get s val os l t]
  | none :: os, x :: l, t + 1 => by simp [slotsL, slotsL_get s val os l t]
/-- Each slot's writer is told. -/
def ownB (ops : Array Oper) (own : List (Option Nat)) : Bool :=
  ((List.range ops.size).all fun i => match ops[i]? with | some o => (match o.dst with | some t => own[t]? == some (some i) | none => true) | none => true) &&
  ((List.range own.length).all fun t => match own[t]? with | some (some i) => (ops[i]?).map (·.dst) == some (some t) | _ => true)
theorem ownB_dst {ops : Array Oper} {own : List (Option Nat)} (h : ownB ops own = true) {i t : Nat} {o : Oper} (ho : ops[i]? = some o) (hd : o.dst = some t) : own[t]? = some (some i) := by
  simp only [ownB, Bool.and_eq_true] at h
  have := List.all_eq_true.1 h.1 i (List.mem_range.2 (Array.getElem?_eq_some_iff.1 ho).1)
  simpa [ho, hd] using this
theorem ownB_own {ops : Array Oper} {own : List (Option Nat)} (h : ownB ops own = true) {i t : Nat} (ho : own[t]? = some (some i)) : ∃ o, ops[i]? = some o ∧ o.dst = some t := by
  simp only [ownB, Bool.and_eq_true] at h
  have := List.all_eq_true.1 h.2 t (List.mem_range.2 (List.getElem?_eq_some_iff.1 ho).1)
  rw [ho] at this
  cases e : ops[i]? with
  | none => simp [e] at this
  | some o => exact ⟨o, rfl, by simpa [e] using this⟩
/-- Nobody waits for a later one. -/
def accB (ops : Array Oper) : Bool := (List.range ops.size).all fun i => match ops[i]? with | some o => o.after.all fun e => decide (e.on < i) | none => true
theorem accB_lt {ops : Array Oper} (h : accB ops = true) {i : Nat} {o : Oper} (ho : ops[i]? = some o) : ∀ e ∈ o.after, e.on < i := fun e he => by
  have := List.all_eq_true.1 h i (List.mem_range.2 (Array.getElem?_eq_some_iff.1 ho).1)
  simp only [ho] at this
  exact of_decide_eq_true (Array.all_eq_true_iff_forall_mem.1 this e he)
theorem count_set : ∀ (l : List Bool) (i : Nat), l[i]? = some false → (l.set i true).count false + 1 = l.count false
  | [], i, h => by simp at h
  | b :: l, 0, h => by
    simp at h; subst h
    simp
  | b :: l, i + 1, h => by
    have := count_set l i (by simpa using h)
    simp only [List.set_cons_succ, List.count_cons]
    omega
theorem get_false {s : Array Bool} {i : Nat} (h : s.getD i true = false) : s.toList[i]? = some false := by
  rw [Array.getElem?_toList]
  cases e : s[i]? with
  | none => rw [Array.getD_eq_getD_getElem?, e] at h; cases h
  | some b => rw [Array.getD_eq_getD_getElem?, e] at h; simp at h; rw [h]
section
variable {P : Program} {md : Region.Mode} {ops : Array Oper} {Q : Exit → Act → World → Prop} {S : World → Prop} {Post : Nat → Value → World → Prop}
/-- What number i finds, when it comes. -/
structure Finds (md : Region.Mode) (ops : Array Oper) (own : List (Option Nat)) (a0 : Act) (S : World → Prop) (Post : Nat → Value → World → Prop) (i : Nat) (a : Act) (val : Nat → Value) (w : World) : Prop where
  S : S w
  post : ∀ j, Dep md ops i j = true → Post j (val j) w
  ev : ∀ t j, own[t]? = some (some j) → Dep md ops i j = true → t < a0.tmps.size → a.tmps.getD t undef = val j
  old : ∀ t, (own[t]? = none ∨ own[t]? = some none) → a.tmps.getD t undef = a0.tmps.getD t undef
  young : ∀ t j, own[t]? = some (some j) → Dep md ops j i = true → a.tmps.getD t undef = a0.tmps.getD t undef
/-- What number i owes. -/
def Owes (P : Program) (ops : Array Oper) (Q : Exit → Act → World → Prop) (Post : Nat → Value → World → Prop) (i : Nat) (a : Act) (w : World) : Prop :=
  ∀ K : Act → World → Prop, (∀ v w', Below w.heap.size w w' → Post i v w' → K (a.put ((ops[i]?).bind (·.dst)) v) w') → wpOp P ops Q i K a w
theorem slots_put {own : List (Option Nat)} (hown : ownB ops own = true) {s : Array Bool} {val : Nat → Value} {i : Nat} {o : Oper} (ho : ops[i]? = some o) (hi : i < s.size) (v : Value) (a0 : Act) :
    Act.put { a0 with tmps := (slotsL (fun j => s.getD j true) val own a0.tmps.toList).toArray } o.dst v = { a0 with tmps := (slotsL (fun j => (s.setIfInBounds i true).getD j true) (fun j => if j = i then v else val j) own a0.tmps.toList).toArray } := by
  have hs : ∀ j, j ≠ i → (s.setIfInBounds i true).getD j true = s.getD j true := fun j hj => getD_set_ne true (fun e => hj e.symm)
  have hsi : (s.setIfInBounds i true).getD i true = true := by simp [hi]
  unfold Act.put
  cases hd : o.dst with
  | none =>
    simp only
    congr 2
    apply List.ext_getElem?
    intro t
    rw [slotsL_get, slotsL_get]
    cases e : own[t]? with
    | none => rfl
    | some x =>
      cases x with
      | none => rfl
      | some j =>
        have hj : j ≠ i := fun e2 => by
          subst e2
          obtain ⟨o', h1, h2⟩ := ownB_own hown e
          rw [ho] at h1; cases h1
          rw [hd] at h2; cases h2
        simp only [hs j hj, if_neg hj]
  | some t0 =>
    simp only
    congr 1
    have h0 := ownB_dst hown ho hd
    apply Array.ext_getElem?
    intro t
    rw [Array.getElem?_setIfInBounds]
    simp only [List.getElem?_toArray, List.size_toArray]
    have hlen : (slotsL (fun j => s.getD j true) val own a0.tmps.toList).length = a0.tmps.toList.length := by
      have hle : ∀ n, (slotsL (fun j => s.getD j true) val own a0.tmps.toList).length ≤ n ↔ a0.tmps.toList.length ≤ n := fun n => by
        rw [← List.getElem?_eq_none_iff, ← List.getElem?_eq_none_iff, slotsL_get]
        simp
      exact Nat.le_antisymm ((hle _).2 (Nat.le_refl _)) ((hle _).1 (Nat.le_refl _))
    rw [hlen]
    by_cases e0 : t0 = t
    · subst e0
      rw [if_pos rfl, slotsL_get, h0]
      simp only [hsi, if_true]
      by_cases hlt : t0 < a0.tmps.toList.length
      · rw [if_pos hlt, List.getElem?_eq_getElem hlt]; rfl
      · rw [if_neg hlt, List.getElem?_eq_none (Nat.le_of_not_lt hlt)]; rfl
    · rw [if_neg e0, slotsL_get, slotsL_get]
      cases e : own[t]? with
      | none => rfl
      | some x =>
        cases x with
        | none => rfl
        | some j =>
          have hj : j ≠ i := fun e2 => by
            subst e2
            obtain ⟨o', h1, h2⟩ := ownB_own hown e
            rw [ho] at h1; cases h1
            rw [hd] at h2; cases h2
            exact e0 rfl
          simp only [hs j hj, if_neg hj]
theorem dep_done {s : Array Bool} {i j : Nat} (hr : i ∈ Region.ready md ops s) (hd : Dep md ops i j = true) : s.getD j false = true := by
  obtain ⟨_, o, ho, hall⟩ := mem_ready.1 hr
  simp only [Dep, ho] at hd
  obtain ⟨e, he, hb⟩ := List.any_eq_true.1 hd
  simp only [Bool.and_eq_true, beq_iff_eq] at hb
  rw [← hb.2]
  exact hall e (Array.mem_toList_iff.1 he) hb.1
theorem done_true {s : Array Bool} {j : Nat} (h : s.getD j false = true) : s.getD j true = true := by
  rw [Array.getD_eq_getD_getElem?] at h ⊢
  cases e : s[j]? with
  | none => rw [e] at h; cases h
  | some b => rw [e] at h; simpa using h
/-- The law. -/
theorem tame_any (own : List (Option Nat)) (a0 : Act) (hown : ownB ops own = true) (hacc : accB ops = true)
    (hS : ∀ w w', S w → Below w.heap.size w w' → S w') (hP : ∀ i v w w', Post i v w → Below w.heap.size w w' → Post i v w')
    (step : ∀ i, i < ops.size → ∀ a val w, Finds md ops own a0 S Post i a val w → Owes P ops Q Post i a w)
    (fin : ∀ val w, S w → (∀ i, i < ops.size → Post i (val i) w) → Q .normal { a0 with tmps := (slotsL (fun _ => true) val own a0.tmps.toList).toArray } w) :
    ∀ (f : Nat) (s : Array Bool) (val : Nat → Value) (w : World), s.size = ops.size → s.toList.count false ≤ f → S w → (∀ i, i < ops.size → s.getD i true = true → Post i (val i) w) → (∀ j k, j < ops.size → s.getD j true = true → Dep md ops j k = true → s.getD k true = true) →
      wpAny P md ops Q f s { a0 with tmps := (slotsL (fun j => s.getD j true) val own a0.tmps.toList).toArray } w := by
  have hend : ∀ (s : Array Bool) (val : Nat → Value) (w : World), (∀ i, s.getD i true = true) → S w → (∀ i, i < ops.size → s.getD i true = true → Post i (val i) w) → Q .normal { a0 with tmps := (slotsL (fun j => s.getD j true) val own a0.tmps.toList).toArray } w := fun s val w h hw hp => by
    have e : (fun j => s.getD j true) = fun _ => true := funext h
    rw [e]
    exact fin val w hw fun i hi => hp i hi (h i)
  intro f
  induction f with
  | zero =>
    intro s val w hsz hc hw hp hcl
    have hall : ∀ i, s.getD i true = true := fun i => by
      cases e : s.getD i true with
      | true => rfl
      | false =>
        have := List.count_pos_iff.2 (List.mem_of_getElem? (get_false e))
        omega
    refine ⟨?_, hend s val w hall hw hp⟩
    cases e : Region.ready md ops s with
    | nil => rfl
    | cons x l =>
      have := (mem_ready.1 (show x ∈ Region.ready md ops s by rw [e]; exact List.mem_cons_self)).1
      rw [hall x] at this; cases this
  | succ f ih =>
    intro s val w hsz hc hw hp hcl
    refine ⟨fun hr => hend s val w (fun i => ?_) hw hp, fun i hi => ?_⟩
    · -- the least that is not done would be ready
      have hless : ∀ n i, i < n → s.getD i true = true := fun n => by
        induction n with
        | zero => intro i hi; omega
        | succ n ihn =>
          intro i hi
          by_cases e1 : i < n
          · exact ihn i e1
          · obtain rfl : i = n := by omega
            cases e : s.getD i true with
            | true => rfl
            | false =>
              exfalso
              have hlt : i < ops.size := by
                rcases Nat.lt_or_ge i ops.size with h | h
                · exact h
                · have := get_false e
                  rw [List.getElem?_eq_none (by simpa [hsz] using h)] at this; cases this
              have hm : i ∈ Region.ready md ops s := mem_ready.2 ⟨e, ops[i], Array.getElem?_eq_getElem hlt, fun ed he _ => by
                have h1 := accB_lt hacc (Array.getElem?_eq_getElem hlt) ed he
                have h2 := ihn ed.on h1
                rw [Array.getD_eq_getD_getElem?] at h2 ⊢
                rw [Array.getElem?_eq_getElem (by omega)] at h2 ⊢
                simpa using h2⟩
              rw [hr] at hm; cases hm
      exact hless (i + 1) i (by omega)
    · have hun := (mem_ready.1 hi).1
      obtain ⟨_, o, ho, _⟩ := mem_ready.1 hi
      have hlt : i < ops.size := (Array.getElem?_eq_some_iff.1 ho).1
      have hsl := fun t => slotsL_get (fun j => s.getD j true) val own a0.tmps.toList t
      have hget : ∀ (t : Nat) (x : Value), (∀ y, a0.tmps[t]? = some y → (slotsL (fun j => s.getD j true) val own a0.tmps.toList)[t]? = some x) → t < a0.tmps.size → (slotsL (fun j => s.getD j true) val own a0.tmps.toList).toArray.getD t undef = x := fun t x h1 h2 => by
        have := h1 _ (Array.getElem?_eq_getElem h2)
        rw [Array.getD_eq_getD_getElem?, List.getElem?_toArray, this]; rfl
      have hsame : ∀ t : Nat, (∀ x, (match own[t]? with | some (some i) => if s.getD i true then val i else x | _ => x) = x) → (slotsL (fun j => s.getD j true) val own a0.tmps.toList).toArray.getD t undef = a0.tmps.getD t undef := fun t h => by
        rw [Array.getD_eq_getD_getElem?, Array.getD_eq_getD_getElem?, List.getElem?_toArray, hsl t]
        simp only [Array.getElem?_toList]
        cases e : a0.tmps[t]? with
        | none => rfl
        | some x => simp only [Option.map_some, Option.getD_some]; exact h x
      have hfind : Finds md ops own a0 S Post i { a0 with tmps := (slotsL (fun j => s.getD j true) val own a0.tmps.toList).toArray } val w := by
        refine ⟨hw, fun j hd => ?_, fun t j ht hd hlt2 => ?_, fun t ht => ?_, fun t j ht hd => ?_⟩
        · have h1 := dep_done hi hd
          have hj : j < ops.size := by
            rcases Nat.lt_or_ge j s.size with h | h
            · omega
            · rw [Array.getD_eq_getD_getElem?, Array.getElem?_eq_none h] at h1; cases h1
          exact hp j hj (done_true h1)
        · refine hget t (val j) (fun y hy => ?_) hlt2
          rw [hsl t, show a0.tmps.toList[t]? = some y by rw [Array.getElem?_toList]; exact hy]
          simp only [Option.map_some, ht, done_true (dep_done hi hd), if_true]
        · refine hsame t fun x => ?_
          rcases ht with h | h <;> rw [h]
        · refine hsame t fun x => ?_
          rw [ht]
          have h1 : s.getD j true = false := by
            cases e : s.getD j true with
            | false => rfl
            | true =>
              obtain ⟨o', ho', _⟩ := ownB_own hown ht
              have := hcl j i (Array.getElem?_eq_some_iff.1 ho').1 e hd
              rw [hun] at this; cases this
          simp only [h1]; rfl
      refine step i hlt _ val w hfind _ fun v w' hb hpost => ?_
      rw [ho]
      simp only [Option.bind_some]
      rw [slots_put hown ho (by omega) v a0]
      refine ih _ _ w' (by simpa using hsz) ?_ (hS w w' hw hb) (fun j hj hdone => ?_) (fun j k hj hdone hd => ?_)
      · rw [Array.toList_setIfInBounds]
        have := count_set s.toList i (get_false hun)
        omega
      · by_cases e : j = i
        · subst e; rw [if_pos rfl]; exact hpost
        · rw [if_neg e]
          exact hP j _ w w' (hp j hj (by rwa [getD_set_ne true (fun h => e h.symm)] at hdone)) hb
      · have h2 : s.getD k true = true := by
          by_cases e : j = i
          · subst e; exact done_true (dep_done hi hd)
          · exact hcl j k hj (by rwa [getD_set_ne true (fun h => e h.symm)] at hdone) hd
        by_cases e : k = i
        · subst e; simp [hsz, hlt]
        · rw [getD_set_ne true (fun h => e h.symm)]; exact h2
end
/-- A word on a value, that outlives new memory. -/
structure Word where
  holds : Value → World → Prop
  keeps : ∀ v w w', holds v w → Below w.heap.size w w' → holds v w'
def Word.eq (x : Value) : Word := ⟨fun v _ => v = x, fun _ _ _ h _ => h⟩
def Word.any : Word := ⟨fun _ _ => True, fun _ _ _ _ _ => trivial⟩
def Said (L : List Word) (i : Nat) (v : Value) (w : World) : Prop := (L.getD i Word.any).holds v w
section
variable {P : Program} {ops : Array Oper} {Q : Exit → Act → World → Prop} {S : World → Prop} {Post : Nat → Value → World → Prop}
theorem tame {id : Nat} {a : Act} {w : World} (own : List (Option Nat)) (L : List Word) (S : World → Prop) (hm : P.follows .mixedOrders = true) (hown : ownB ops own = true) (hacc : accB ops = true)
    (hS0 : S w) (hS : ∀ w w', S w → Below w.heap.size w w' → S w')
    (step : ∀ i, i < ops.size → ∀ a' val w', Finds .any ops own a S (Said L) i a' val w' → Owes P ops Q (Said L) i a' w')
    (fin : ∀ val w', S w' → (∀ i, i < ops.size → Said L i (val i) w') → Q .normal { a with tmps := (slotsL (fun _ => true) val own a.tmps.toList).toArray } w') :
    (Code.region id ops true).wp P Q a w := by
  refine wp_region_any hm ?_
  have h0 : ∀ j, j < ops.size → (Array.replicate ops.size false).getD j true = false := fun j hj => by simp [hj]
  have h1 : ({ a with tmps := (slotsL (fun j => (Array.replicate ops.size false).getD j true) (fun _ => undef) own a.tmps.toList).toArray } : Act) = a := by
    have : (slotsL (fun j => (Array.replicate ops.size false).getD j true) (fun _ => undef) own a.tmps.toList).toArray = a.tmps := by
      apply Array.ext_getElem?
      intro t
      rw [List.getElem?_toArray, slotsL_get]
      rw [show a.tmps.toList[t]? = a.tmps[t]? by simp]
      cases a.tmps[t]? with
      | none => rfl
      | some x =>
        simp only [Option.map_some]
        congr 1
        cases e : own[t]? with
        | none => rfl
        | some y =>
          cases y with
          | none => rfl
          | some i =>
            obtain ⟨o, ho, _⟩ := ownB_own hown e
            simp only [h0 i (Array.getElem?_eq_some_iff.1 ho).1]
            rfl
    rw [this]
  have h2 := tame_any (P := P) (md := .any) (ops := ops) (Q := Q) (S := S) (Post := Said L) own a hown hacc hS (fun i v w w' h hb => (L.getD i Word.any).keeps v w w' h hb) step fin ops.size (Array.replicate ops.size false) (fun _ => undef) w.drew
    (by simp) (by simp) (hS _ _ hS0 (M.below_drewN' w 1 _)) (fun i hi h => by rw [h0 i hi] at h; cases h) (fun j k hj h _ => by rw [h0 j hj] at h; cases h)
  rw [h1] at h2
  exact h2
theorem owes_exec {i : Nat} {a : Act} {w w' : World} {o : Oper} {v : Value} (hi : ops[i]? = some o) (hw : Region.wanted o (yielded ops a.tmps) = true) (he : (execOp a.eval o).run P w = .ok (.value v) w') (hb : Below w.heap.size w w') (hp : Post i v w') : Owes P ops Q Post i a w := fun K hK => by
  unfold wpOp
  simp only [hi, hw, if_true]
  refine .inl ?_
  unfold Oper.wp
  rw [he, Oper.upon_value]
  have := hK v w' hb hp
  rwa [hi] at this
theorem owes_call {i : Nat} {a : Act} {w : World} {o : Oper} {g : FuncId} {args : Array Value} (hi : ops[i]? = some o) (hw : Region.wanted o (yielded ops a.tmps) = true) (he : (execOp a.eval o).run P w = .ok (.enter g args) w)
    (h : Calls P g args w fun e w' => ∃ v, e = .returned v ∧ Below w.heap.size w w' ∧ Post i v w') : Owes P ops Q Post i a w := fun K hK => by
  unfold wpOp
  simp only [hi, hw, if_true]
  refine .inl ?_
  unfold Oper.wp
  rw [he, Oper.upon_enter]
  refine h.mono ?_
  rintro e w' ⟨v, rfl, hb, hp⟩
  have := hK v w' hb hp
  rwa [hi] at this
theorem owes_skip {i : Nat} {a : Act} {w : World} {o : Oper} (hi : ops[i]? = some o) (hw : Region.wanted o (yielded ops a.tmps) = false) (hp : Post i undef w) : Owes P ops Q Post i a w := fun K hK => by
  unfold wpOp
  simp only [hi, hw]
  have := hK undef w (Below.refl _ _) hp
  rw [hi] at this
  exact this
theorem Finds.yields {md : Region.Mode} {own : List (Option Nat)} {a0 a : Act} {i j t : Nat} {b : Bool} {val : Nat → Value} {w : World} {oj : Oper} (hF : Finds md ops own a0 S Post i a val w) (hj : ops[j]? = some oj) (hd : oj.dst = some t) (ho : own[t]? = some (some j)) (hdep : Dep md ops i j = true) (ht : t < a0.tmps.size) (hv : val j = .bool b) : yielded ops a.tmps j = some b := by
  have h := hF.ev t j ho hdep ht
  rw [hv, Array.getD_eq_getD_getElem?] at h
  unfold yielded
  simp only [hj, Option.bind_some, hd]
  cases e : a.tmps[t]? with
  | none => rw [e] at h; simp [undef] at h
  | some x => rw [e] at h; simp only [Option.getD_some] at h; subst h; rfl
theorem wanted_if {o : Oper} {tm : Array Value} {j : Nat} {b : Bool} (hg : o.guard = some (j, b)) (h : yielded ops tm j = some b) : Region.wanted o (yielded ops tm) = true := by
  unfold Region.wanted
  rw [hg]
  simp [h]
theorem wanted_not {o : Oper} {tm : Array Value} {j : Nat} {b : Bool} (hg : o.guard = some (j, !b)) (h : yielded ops tm j = some b) : Region.wanted o (yielded ops tm) = false := by
  unfold Region.wanted
  rw [hg]
  cases b <;> simp [h]
theorem wanted_any {o : Oper} {y : Nat → Option Bool} (hg : o.guard = none) : Region.wanted o y = true := by
  unfold Region.wanted
  rw [hg]
end
end RK
end Go.Proofs.Ytlnlepadninnaaa

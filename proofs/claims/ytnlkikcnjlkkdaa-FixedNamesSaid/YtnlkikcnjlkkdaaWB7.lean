/- The texts Tame, FixLaw, one behind the other. -/
import Derived.Test.YtnlkikcnjlkkdaaWB5
import Derived.Test.YtnlkikcnjlkkdaaWB4
import Derived.Test.YtnlkikcnjlkkdaaWB6
/- A drawn region of which each operation, in whatever row, makes new memory at most: whatever the row, what each operation has yielded meets its word, as such words outlive new memory. -/
namespace Go.Proofs.Ytnlkikcnjlkkdaa
open Go Go.RowKit Go.Lib
namespace RK
/-- Number i waits for number j. -/
def Dep (md : Region.Mode) (ops : Array Oper) (i j : Nat) : Bool := match ops[i]? with | some o => o.after.toList.any (fun e => Region.binds md e && e.on == j) | none => false
/-- The slots, where what is done holds val. -/
def slotsL (s : Nat → Bool) (val : Nat → Value) : List (Option Nat) → List Value → List Value
  | some i :: os, x :: l => (if s i then val i else x) :: slotsL s val os l
  | none :: os, x :: l => x :: slotsL s val os l
  | [], l => l
  | _ :: _, [] => []
theorem slotsL_get (s : Nat → Bool) (val : Nat → Value) : ∀ (own : List (Option Nat)) (l : List Value) (t : Nat), (slotsL s val own l)[t]? = (l[t]?).map fun x => match own[t]? with | some (some i) => if s i then val i else x | _ => x
  | [], l, t => by simp [slotsL]
  | some i :: os, [], t => by simp [slotsL]
  | none :: os, [], t => by simp [slotsL]
  | some i :: os, x :: l, 0 => by simp [slotsL]
  | none :: os, x :: l, 0 => by simp [slotsL]
  | some i :: os, x :: l, t + 1 => by simp [slotsL, slotsL_get s val os l t]
  | none :: os, x :: l, t + 1 => by simp [slotsL, slotsL_get s val os l t]
/-- Each slot's writer is told. -/
def ownB (ops : Array Oper) (own : List (Option Nat)) : Bool :=
  ((List.range ops.size).all fun i => match ops[i]? with | some o => (match o.dst with | some t => own[t]? == some (some i) | none => true) | none => true) &&
  ((List.range own.length).all fun t => match own[t]? with | some (some i) => (ops[i]?).map (·.dst) == some (some t) | _ => true)
theorem ownB_dst {ops : Array Oper} {own : List (Option Nat)} (h : ownB ops own = true) {i t : Nat} {o : Oper} (ho : ops[i]? = some o) (hd : o.dst = some t) : own[t]? = some (some i) := by
  simp only [ownB, Bool.and_eq_true] at h
  have := List.all_eq_true.1 h.1 i (List.mem_range.2 (Array.getElem?_eq_some_iff.1 ho).1)
  simpa [ho, hd] using this
theorem ownB_own {ops : Array Oper} {own : List (Option Nat)} (h : ownB ops own = true) {i t : Nat} (ho : own[t]? = some (some i)) : ∃ o, ops[i]? = some o ∧ o.dst = some t := by
  simp only [ownB, Bool.and_eq_true] at h
  have := List.all_eq_true.1 h.2 t (List.mem_range.2 (List.getElem?_eq_some_iff.1 ho).1)
  rw [ho] at this
  cases e : ops[i]? with
  | none => simp [e] at this
  | some o => exact ⟨o, rfl, by simpa [e] using this⟩
/-- Nobody waits for a later one. -/
def accB (ops : Array Oper) : Bool := (List.range ops.size).all fun i => match ops[i]? with | some o => o.after.all fun e => decide (e.on < i) | none => true
theorem accB_lt {ops : Array Oper} (h : accB ops = true) {i : Nat} {o : Oper} (ho : ops[i]? = some o) : ∀ e ∈ o.after, e.on < i := fun e he => by
  have := List.all_eq_true.1 h i (List.mem_range.2 (Array.getElem?_eq_some_iff.1 ho).1)
  simp only [ho] at this
  exact of_decide_eq_true (Array.all_eq_true_iff_forall_mem.1 this e he)
theorem count_set : ∀ (l : List Bool) (i : Nat), l[i]? = some false → (l.set i true).count false + 1 = l.count false
  | [], i, h => by simp at h
  | b :: l, 0, h => by
    simp at h; subst h
    simp
  | b :: l, i + 1, h => by
    have := count_set l i (by simpa using h)
    simp only [List.set_cons_succ, List.count_cons]
    omega
theorem get_false {s : Array Bool} {i : Nat} (h : s.getD i true = false) : s.toList[i]? = some false := by
  rw [Array.getElem?_toList]
  cases e : s[i]? with
  | none => rw [Array.getD_eq_getD_getElem?, e] at h; cases h
  | some b => rw [Array.getD_eq_getD_getElem?, e] at h; simp at h; rw [h]
section
variable {P : Program} {md : Region.Mode} {ops : Array Oper} {Q : Exit → Act → World → Prop} {S : World → Prop} {Post : Nat → Value → World → Prop}
/-- What number i finds, when it comes. -/
structure Finds (md : Region.Mode) (ops : Array Oper) (own : List (Option Nat)) (a0 : Act) (S : World → Prop) (Post : Nat → Value → World → Prop) (i : Nat) (a : Act) (val : Nat → Value) (w : World) : Prop where
  S : S w
  post : ∀ j, Dep md ops i j = true → Post j (val j) w
  ev : ∀ t j, own[t]? = some (some j) → Dep md ops i j = true → t < a0.tmps.size → a.tmps.getD t undef = val j
  old : ∀ t, (own[t]? = none ∨ own[t]? = some none) → a.tmps.getD t undef = a0.tmps.getD t undef
  young : ∀ t j, own[t]? = some (some j) → Dep md ops j i = true → a.tmps.getD t undef = a0.tmps.getD t undef
/-- What number i owes. -/
def Owes (P : Program) (ops : Array Oper) (Q : Exit → Act → World → Prop) (Post : Nat → Value → World → Prop) (i : Nat) (a : Act) (w : World) : Prop :=
  ∀ K : Act → World → Prop, (∀ v w', Below w.heap.size w w' → Post i v w' → K (a.put ((ops[i]?).bind (·.dst)) v) w') → wpOp P ops Q i K a w
theorem slots_put {own : List (Option Nat)} (hown : ownB ops own = true) {s : Array Bool} {val : Nat → Value} {i : Nat} {o : Oper} (ho : ops[i]? = some o) (hi : i < s.size) (v : Value) (a0 : Act) :
    Act.put { a0 with tmps := (slotsL (fun j => s.getD j true) val own a0.tmps.toList).toArray } o.dst v = { a0 with tmps := (slotsL (fun j => (s.setIfInBounds i true).getD j true) (fun j => if j = i then v else val j) own a0.tmps.toList).toArray } := by
  have hs : ∀ j, j ≠ i → (s.setIfInBounds i true).getD j true = s.getD j true := fun j hj => getD_set_ne true (fun e => hj e.symm)
  have hsi : (s.setIfInBounds i true).getD i true = true := by simp [hi]
  unfold Act.put
  cases hd : o.dst with
  | none =>
    simp only
    congr 2
    apply List.ext_getElem?
    intro t
    rw [slotsL_get, slotsL_get]
    cases e : own[t]? with
    | none => rfl
    | some x =>
      cases x with
      | none => rfl
      | some j =>
        have hj : j ≠ i := fun e2 => by
          subst e2
          obtain ⟨o', h1, h2⟩ := ownB_own hown e
          rw [ho] at h1; cases h1
          rw [hd] at h2; cases h2
        simp only [hs j hj, if_neg hj]
  | some t0 =>
    simp only
    congr 1
    have h0 := ownB_dst hown ho hd
    apply Array.ext_getElem?
    intro t
    rw [Array.getElem?_setIfInBounds]
    simp only [List.getElem?_toArray, List.size_toArray]
    have hlen : (slotsL (fun j => s.getD j true) val own a0.tmps.toList).length = a0.tmps.toList.length := by
      have hle : ∀ n, (slotsL (fun j => s.getD j true) val own a0.tmps.toList).length ≤ n ↔ a0.tmps.toList.length ≤ n := fun n => by
        rw [← List.getElem?_eq_none_iff, ← List.getElem?_eq_none_iff, slotsL_get]
        simp
      exact Nat.le_antisymm ((hle _).2 (Nat.le_refl _)) ((hle _).1 (Nat.le_refl _))
    rw [hlen]
    by_cases e0 : t0 = t
    · subst e0
      rw [if_pos rfl, slotsL_get, h0]
      simp only [hsi, if_true]
      by_cases hlt : t0 < a0.tmps.toList.length
      · rw [if_pos hlt, List.getElem?_eq_getElem hlt]; rfl
      · rw [if_neg hlt, List.getElem?_eq_none (Nat.le_of_not_lt hlt)]; rfl
    · rw [if_neg e0, slotsL_get, slotsL_get]
      cases e : own[t]? with
      | none => rfl
      | some x =>
        cases x with
        | none => rfl
        | some j =>
          have hj : j ≠ i := fun e2 => by
            subst e2
            obtain ⟨o', h1, h2⟩ := ownB_own hown e
            rw [ho] at h1; cases h1
            rw [hd] at h2; cases h2
            exact e0 rfl
          simp only [hs j hj, if_neg hj]
theorem dep_done {s : Array Bool} {i j : Nat} (hr : i ∈ Region.ready md ops s) (hd : Dep md ops i j = true) : s.getD j false = true := by
  obtain ⟨_, o, ho, hall⟩ := mem_ready.1 hr
  simp only [Dep, ho] at hd
  obtain ⟨e, he, hb⟩ := List.any_eq_true.1 hd
  simp only [Bool.and_eq_true, beq_iff_eq] at hb
  rw [← hb.2]
  exact hall e (Array.mem_toList_iff.1 he) hb.1
theorem done_true {s : Array Bool} {j : Nat} (h : s.getD j false = true) : s.getD j true = true := by
  rw [Array.getD_eq_getD_getElem?] at h ⊢
  cases e : s[j]? with
  | none => rw [e] at h; cases h
  | some b => rw [e] at h; simpa using h
/-- The law. -/
theorem tame_any (own : List (Option Nat)) (a0 : Act) (hown : ownB ops own = true) (hacc : accB ops = true)
    (hS : ∀ w w', S w → Below w.heap.size w w' → S w') (hP : ∀ i v w w', Post i v w → Below w.heap.size w w' → Post i v w')
    (step : ∀ i, i < ops.size → ∀ a val w, Finds md ops own a0 S Post i a val w → Owes P ops Q Post i a w)
    (fin : ∀ val w, S w → (∀ i, i < ops.size → Post i (val i) w) → Q .normal { a0 with tmps := (slotsL (fun _ => true) val own a0.tmps.toList).toArray } w) :
    ∀ (f : Nat) (s : Array Bool) (val : Nat → Value) (w : World), s.size = ops.size → s.toList.count false ≤ f → S w → (∀ i, i < ops.size → s.getD i true = true → Post i (val i) w) → (∀ j k, j < ops.size → s.getD j true = true → Dep md ops j k = true → s.getD k true = true) →
      wpAny P md ops Q f s { a0 with tmps := (slotsL (fun j => s.getD j true) val own a0.tmps.toList).toArray } w := by
  have hend : ∀ (s : Array Bool) (val : Nat → Value) (w : World), (∀ i, s.getD i true = true) → S w → (∀ i, i < ops.size → s.getD i true = true → Post i (val i) w) → Q .normal { a0 with tmps := (slotsL (fun j => s.getD j true) val own a0.tmps.toList).toArray } w := fun s val w h hw hp => by
    have e : (fun j => s.getD j true) = fun _ => true := funext h
    rw [e]
    exact fin val w hw fun i hi => hp i hi (h i)
  intro f
  induction f with
  | zero =>
    intro s val w hsz hc hw hp hcl
    have hall : ∀ i, s.getD i true = true := fun i => by
      cases e : s.getD i true with
      | true => rfl
      | false =>
        have := List.count_pos_iff.2 (List.mem_of_getElem? (get_false e))
        omega
    refine ⟨?_, hend s val w hall hw hp⟩
    cases e : Region.ready md ops s with
    | nil => rfl
    | cons x l =>
      have := (mem_ready.1 (show x ∈ Region.ready md ops s by rw [e]; exact List.mem_cons_self)).1
      rw [hall x] at this; cases this
  | succ f ih =>
    intro s val w hsz hc hw hp hcl
    refine ⟨fun hr => hend s val w (fun i => ?_) hw hp, fun i hi => ?_⟩
    · -- the least that is not done would be ready
      have hless : ∀ n i, i < n → s.getD i true = true := fun n => by
        induction n with
        | zero => intro i hi; omega
        | succ n ihn =>
          intro i hi
          by_cases e1 : i < n
          · exact ihn i e1
          · obtain rfl : i = n := by omega
            cases e : s.getD i true with
            | true => rfl
            | false =>
              exfalso
              have hlt : i < ops.size := by
                rcases Nat.lt_or_ge i ops.size with h | h
                · exact h
                · have := get_false e
                  rw [List.getElem?_eq_none (by simpa [hsz] using h)] at this; cases this
              have hm : i ∈ Region.ready md ops s := mem_ready.2 ⟨e, ops[i], Array.getElem?_eq_getElem hlt, fun ed he _ => by
                have h1 := accB_lt hacc (Array.getElem?_eq_getElem hlt) ed he
                have h2 := ihn ed.on h1
                rw [Array.getD_eq_getD_getElem?] at h2 ⊢
                rw [Array.getElem?_eq_getElem (by omega)] at h2 ⊢
                simpa using h2⟩
              rw [hr] at hm; cases hm
      exact hless (i + 1) i (by omega)
    · have hun := (mem_ready.1 hi).1
      obtain ⟨_, o, ho, _⟩ := mem_ready.1 hi
      have hlt : i < ops.size := (Array.getElem?_eq_some_iff.1 ho).1
      have hsl := fun t => slotsL_get (fun j => s.getD j true) val own a0.tmps.toList t
      have hget : ∀ (t : Nat) (x : Value), (∀ y, a0.tmps[t]? = some y → (slotsL (fun j => s.getD j true) val own a0.tmps.toList)[t]? = some x) → t < a0.tmps.size → (slotsL (fun j => s.getD j true) val own a0.tmps.toList).toArray.getD t undef = x := fun t x h1 h2 => by
        have := h1 _ (Array.getElem?_eq_getElem h2)
        rw [Array.getD_eq_getD_getElem?, List.getElem?_toArray, this]; rfl
      have hsame : ∀ t : Nat, (∀ x, (match own[t]? with | some (some i) => if s.getD i true then val i else x | _ => x) = x) → (slotsL (fun j => s.getD j true) val own a0.tmps.toList).toArray.getD t undef = a0.tmps.getD t undef := fun t h => by
        rw [Array.getD_eq_getD_getElem?, Array.getD_eq_getD_getElem?, List.getElem?_toArray, hsl t]
        simp only [Array.getElem?_toList]
        cases e : a0.tmps[t]? with
        | none => rfl
        | some x => simp only [Option.map_some, Option.getD_some]; exact h x
      have hfind : Finds md ops own a0 S Post i { a0 with tmps := (slotsL (fun j => s.getD j true) val own a0.tmps.toList).toArray } val w := by
        refine ⟨hw, fun j hd => ?_, fun t j ht hd hlt2 => ?_, fun t ht => ?_, fun t j ht hd => ?_⟩
        · have h1 := dep_done hi hd
          have hj : j < ops.size := by
            rcases Nat.lt_or_ge j s.size with h | h
            · omega
            · rw [Array.getD_eq_getD_getElem?, Array.getElem?_eq_none h] at h1; cases h1
          exact hp j hj (done_true h1)
        · refine hget t (val j) (fun y hy => ?_) hlt2
          rw [hsl t, show a0.tmps.toList[t]? = some y by rw [Array.getElem?_toList]; exact hy]
          simp only [Option.map_some, ht, done_true (dep_done hi hd), if_true]
        · refine hsame t fun x => ?_
          rcases ht with h | h <;> rw [h]
        · refine hsame t fun x => ?_
          rw [ht]
          have h1 : s.getD j true = false := by
            cases e : s.getD j true with
            | false => rfl
            | true =>
              obtain ⟨o', ho', _⟩ := ownB_own hown ht
              have := hcl j i (Array.getElem?_eq_some_iff.1 ho').1 e hd
              rw [hun] at this; cases this
          simp only [h1]; rfl
      refine step i hlt _ val w hfind _ fun v w' hb hpost => ?_
      rw [ho]
      simp only [Option.bind_some]
      rw [slots_put hown ho (by omega) v a0]
      refine ih _ _ w' (by simpa using hsz) ?_ (hS w w' hw hb) (fun j hj hdone => ?_) (fun j k hj hdone hd => ?_)
      · rw [Array.toList_setIfInBounds]
        have := count_set s.toList i (get_false hun)
        omega
      · by_cases e : j = i
        · subst e; rw [if_pos rfl]; exact hpost
        · rw [if_neg e]
          exact hP j _ w w' (hp j hj (by rwa [getD_set_ne true (fun h => e h.symm)] at hdone)) hb
      · have h2 : s.getD k true = true := by
          by_cases e : j = i
          · subst e; exact done_true (dep_done hi hd)
          · exact hcl j k hj (by rwa [getD_set_ne true (fun h => e h.symm)] at hdone) hd
        by_cases e : k = i
        · subst e; simp [hsz, hlt]
        · rw [getD_set_ne true (fun h => e h.symm)]; exact h2
end
/-- A word on a value, that outlives new memory. -/
structure Word where
  holds : Value → World → Prop
  keeps : ∀ v w w', holds v w → Below w.heap.size w w' → holds v w'
def Word.eq (x : Value) : Word := ⟨fun v _ => v = x, fun _ _ _ h _ => h⟩
def Word.any : Word := ⟨fun _ _ => True, fun _ _ _ _ _ => trivial⟩
def Said (L : List Word) (i : Nat) (v : Value) (w : World) : Prop := (L.getD i Word.any).holds v w
section
variable {P : Program} {ops : Array Oper} {Q : Exit → Act → World → Prop} {S : World → Prop} {Post : Nat → Value → World → Prop}
theorem tame {id : Nat} {a : Act} {w : World} (own : List (Option Nat)) (L : List Word) (S : World → Prop) (hm : P.follows .mixedOrders = true) (hown : ownB ops own = true) (hacc : accB ops = true)
    (hS0 : S w) (hS : ∀ w w', S w → Below w.heap.size w w' → S w')
    (step : ∀ i, i < ops.size → ∀ a' val w', Finds .any ops own a S (Said L) i a' val w' → Owes P ops Q (Said L) i a' w')
    (fin : ∀ val w', S w' → (∀ i, i < ops.size → Said L i (val i) w') → Q .normal { a with tmps := (slotsL (fun _ => true) val own a.tmps.toList).toArray } w') :
    (Code.region id ops true).wp P Q a w := by
  refine wp_region_any hm ?_
  have h0 : ∀ j, j < ops.size → (Array.replicate ops.size false).getD j true = false := fun j hj => by simp [hj]
  have h1 : ({ a with tmps := (slotsL (fun j => (Array.replicate ops.size false).getD j true) (fun _ => undef) own a.tmps.toList).toArray } : Act) = a := by
    have : (slotsL (fun j => (Array.replicate ops.size false).getD j true) (fun _ => undef) own a.tmps.toList).toArray = a.tmps := by
      apply Array.ext_getElem?
      intro t
      rw [List.getElem?_toArray, slotsL_get]
      rw [show a.tmps.toList[t]? = a.tmps[t]? by simp]
      cases a.tmps[t]? with
      | none => rfl
      | some x =>
        simp only [Option.map_some]
        congr 1
        cases e : own[t]? with
        | none => rfl
        | some y =>
          cases y with
          | none => rfl
          | some i =>
            obtain ⟨o, ho, _⟩ := ownB_own hown e
            simp only [h0 i (Array.getElem?_eq_some_iff.1 ho).1]
            rfl
    rw [this]
  have h2 := tame_any (P := P) (md := .any) (ops := ops) (Q := Q) (S := S) (Post := Said L) own a hown hacc hS (fun i v w w' h hb => (L.getD i Word.any).keeps v w w' h hb) step fin ops.size (Array.replicate ops.size false) (fun _ => undef) w.drew
    (by simp) (by simp) (hS _ _ hS0 (M.below_drewN' w 1 _)) (fun i hi h => by rw [h0 i hi] at h; cases h) (fun j k hj h _ => by rw [h0 j hj] at h; cases h)
  rw [h1] at h2
  exact h2
theorem owes_exec {i : Nat} {a : Act} {w w' : World} {o : Oper} {v : Value} (hi : ops[i]? = some o) (hw : Region.wanted o (yielded ops a.tmps) = true) (he : (execOp a.eval o).run P w = .ok (.value v) w') (hb : Below w.heap.size w w') (hp : Post i v w') : Owes P ops Q Post i a w := fun K hK => by
  unfold wpOp
  simp only [hi, hw, if_true]
  refine .inl ?_
  unfold Oper.wp
  rw [he, Oper.upon_value]
  have := hK v w' hb hp
  rwa [hi] at this
theorem owes_call {i : Nat} {a : Act} {w : World} {o : Oper} {g : FuncId} {args : Array Value} (hi : ops[i]? = some o) (hw : Region.wanted o (yielded ops a.tmps) = true) (he : (execOp a.eval o).run P w = .ok (.enter g args) w)
    (h : Calls P g args w fun e w' => ∃ v, e = .returned v ∧ Below w.heap.size w w' ∧ Post i v w') : Owes P ops Q Post i a w := fun K hK => by
  unfold wpOp
  simp only [hi, hw, if_true]
  refine .inl ?_
  unfold Oper.wp
  rw [he, Oper.upon_enter]
  refine h.mono ?_
  rintro e w' ⟨v, rfl, hb, hp⟩
  have := hK v w' hb hp
  rwa [hi] at this
theorem owes_skip {i : Nat} {a : Act} {w : World} {o : Oper} (hi : ops[i]? = some o) (hw : Region.wanted o (yielded ops a.tmps) = false) (hp : Post i undef w) : Owes P ops Q Post i a w := fun K hK => by
  unfold wpOp
  simp only [hi, hw]
  have := hK undef w (Below.refl _ _) hp
  rw [hi] at this
  exact this
theorem Finds.yields {md : Region.Mode} {own : List (Option Nat)} {a0 a : Act} {i j t : Nat} {b : Bool} {val : Nat → Value} {w : World} {oj : Oper} (hF : Finds md ops own a0 S Post i a val w) (hj : ops[j]? = some oj) (hd : oj.dst = some t) (ho : own[t]? = some (some j)) (hdep : Dep md ops i j = true) (ht : t < a0.tmps.size) (hv : val j = .bool b) : yielded ops a.tmps j = some b := by
  have h := hF.ev t j ho hdep ht
  rw [hv, Array.getD_eq_getD_getElem?] at h
  unfold yielded
  simp only [hj, Option.bind_some, hd]
  cases e : a.tmps[t]? with
  | none => rw [e] at h; simp [undef] at h
  | some x => rw [e] at h; simp only [Option.getD_some] at h; subst h; rfl
theorem wanted_if {o : Oper} {tm : Array Value} {j : Nat} {b : Bool} (hg : o.guard = some (j, b)) (h : yielded ops tm j = some b) : Region.wanted o (yielded ops tm) = true := by
  unfold Region.wanted
  rw [hg]
  simp [h]
theorem wanted_not {o : Oper} {tm : Array Value} {j : Nat} {b : Bool} (hg : o.guard = some (j, !b)) (h : yielded ops tm j = some b) : Region.wanted o (yielded ops tm) = false := by
  unfold Region.wanted
  rw [hg]
  cases b <;> simp [h]
theorem wanted_any {o : Oper} {y : Nat → Option Bool} (hg : o.guard = none) : Region.wanted o y = true := by
  unfold Region.wanted
  rw [hg]
end
end RK
end Go.Proofs.Ytnlkikcnjlkkdaa
/- Lists that are given number by number: what reads so, words on them; models of such lists. -/
namespace Go.Proofs.Ytnlkikcnjlkkdaa
open Go Go.RowKit Go.Lib
namespace MM
def nl (l : List Nat) (k : Nat) : Nat := l.getD k 0
def il (l : List Int) (k : Nat) : Int := l.getD k 0
/-- A model of given rows and biases. -/
def moL (W : List (List Int)) (B : List Int) : Mo := ⟨W.length, fun i => (W.getD i []).length, fun i j => (W.getD i []).getD j 0, B.length, fun j => B.getD j 0⟩
end MM
namespace M
/-- A value that reads as these numbers, as these whole numbers. -/
def IsU (l : List Nat) (v : Value) (w : World) : Prop := ∃ ao c, v = .slice ao l.length c ∧ l.length ≤ c ∧ Rd w ao l.length (MM.nl l)
def IsI (l : List Int) (v : Value) (w : World) : Prop := ∃ ao c, v = .slice ao l.length c ∧ IRow w ao l.length c (MM.il l)
theorem IsU.below {l : List Nat} {v : Value} {w w' : World} (h : IsU l v w) (hb : Below w.heap.size w w') : IsU l v w' := let ⟨ao, c, e, h1, h2⟩ := h; ⟨ao, c, e, h1, h2.below hb⟩
theorem IsI.below {l : List Int} {v : Value} {w w' : World} (h : IsI l v w) (hb : Below w.heap.size w w') : IsI l v w' := let ⟨ao, c, e, h1⟩ := h; ⟨ao, c, e, h1.below hb⟩
def wU (l : List Nat) : RK.Word := ⟨IsU l, fun _ _ _ h hb => h.below hb⟩
def wI (l : List Int) : RK.Word := ⟨IsI l, fun _ _ _ h hb => h.below hb⟩
theorem isU_of {l : List Nat} {lo n : Nat} {w : World} {v : Value} {z : Nat → Nat} (h : NewU lo w v n z) (hn : n = l.length) (hz : ∀ k, k < l.length → z k = MM.nl l k) : IsU l v w := by
  subst hn
  obtain ⟨ao, c, e, h1, h2⟩ := NewU.rd h
  refine ⟨ao, c, e, h1, fun hn => ?_⟩
  obtain ⟨ad, e2, hr⟩ := h2 hn
  exact ⟨ad, e2, fun t ht => by rw [hr t ht, hz t ht]⟩
theorem isI_of {l : List Int} {lo n : Nat} {w : World} {v : Value} {z : Nat → Int} (h : NewI lo w v n z) (hn : n = l.length) (hz : ∀ k, k < l.length → z k = MM.il l k) : IsI l v w := by
  subst hn
  obtain ⟨ao, c, e, h1, h2⟩ := NewI.irow h
  exact ⟨ao, c, e, fun k hk => by rw [← hz k hk]; exact h1 k hk, h2⟩
/-- A slice that was just built. -/
theorem isU_new (w : World) (l : List Nat) {cs : Array Value} {n : Nat} (hn : l.length = n) (hc : cs = (l.map fun x : Nat => Value.int .u64 ((x : Nat) : Int)).toArray) : IsU l (.slice (some ⟨w.heap.size, 0, none⟩) n n) (w.alloc (.cells cs 23)) := by
  subst hn hc
  refine ⟨_, _, rfl, Nat.le_refl _, fun _ => ⟨_, rfl, fun k hk => ?_⟩⟩
  rw [row_add, cell_of_row _ _ _ _ _ _ (heap_alloc_new w _)]
  simp [MM.nl, hk]
theorem isI_new (w : World) (l : List Int) {cs : Array Value} {n : Nat} (hn : l.length = n) (hc : cs = (l.map fun x : Int => Value.int .i64 x).toArray) : IsI l (.slice (some ⟨w.heap.size, 0, none⟩) n n) (w.alloc (.cells cs 2)) := by
  subst hn hc
  refine ⟨_, _, rfl, fun k hk => ⟨_, rfl, ?_⟩, (fun h => by cases h), Nat.le_refl _⟩
  rw [row_add, cell_of_row _ _ _ _ _ _ (heap_alloc_new w _)]
  simp [MM.il, hk]
theorem il_ok {l : List Int} (h : (l.all fun x => decide (-9223372036854775808 ≤ x ∧ x ≤ 9223372036854775807)) = true) (j : Nat) : -9223372036854775808 ≤ MM.il l j ∧ MM.il l j ≤ 9223372036854775807 := by
  unfold MM.il
  rcases Nat.lt_or_ge j l.length with hj | hj
  · rw [List.getD_eq_getElem?_getD, List.getElem?_eq_getElem hj]
    exact of_decide_eq_true (List.all_eq_true.1 h _ (List.getElem_mem hj))
  · rw [List.getD_eq_getElem?_getD, List.getElem?_eq_none hj]; simp
theorem nl_ok {l : List Nat} (h : (l.all fun x => decide (x < 18446744073709551616)) = true) (j : Nat) : MM.nl l j < 18446744073709551616 := by
  unfold MM.nl
  rcases Nat.lt_or_ge j l.length with hj | hj
  · rw [List.getD_eq_getElem?_getD, List.getElem?_eq_getElem hj]
    exact of_decide_eq_true (List.all_eq_true.1 h _ (List.getElem_mem hj))
  · rw [List.getD_eq_getElem?_getD, List.getElem?_eq_none hj]; simp
/-- A list of slices that was just built. -/
theorem mat_new {w : World} {T : TypeId} (rows : List (List Int)) (vs : List Value) {n : Nat} (hv : ∀ i, i < n → ∃ u, vs[i]? = some u ∧ IsI (rows.getD i []) u w) :
    IMat (w.alloc (.cells vs.toArray T)) (some ⟨w.heap.size, 0, none⟩) n (fun i => (rows.getD i []).length) (fun i => MM.il (rows.getD i [])) := fun i hi => by
  obtain ⟨u, h1, ao, c, rfl, h2⟩ := hv i hi
  refine ⟨_, ao, c, rfl, ?_, h2.below (below_box w _)⟩
  rw [row_add, cell_of_row _ _ _ _ _ _ (heap_alloc_new w _)]
  simpa using h1
end M
end Go.Proofs.Ytnlkikcnjlkkdaa

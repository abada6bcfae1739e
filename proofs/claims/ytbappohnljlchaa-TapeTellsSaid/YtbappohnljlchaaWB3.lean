/- The texts QuietTail, QuietIn, RegK, RegX, one behind the other. -/
import Derived.StillTail
import Derived.Deep.QuietTactic
import Derived.RangeFuncCalls
import Derived.RangeFuncLeaves
import Derived.TacticsIn
import Derived.OrdersIn
import Derived.OrdersHeld
import Derived.Deep.RegionWith
import Derived.Test.YtbappohnljlchaaWB1
/- A region that draws its order, whose operations but the last ones only read, and call what only draws, and whose last ones come in one forced order behind all others (a store of what was reckoned): one walk of the text's order serves every order. -/
namespace Go.Proofs.Ytbappohnljlchaa
open Go
namespace QT
section
variable {P : Program} {ops : Array Oper} {md : Region.Mode} {C : World → Prop}
/-- Whatever order the head's operations come up in; behind f of them, L. -/
def Head (P : Program) (md : Region.Mode) (ops : Array Oper) (C : World → Prop) (n : Nat) (L : Array Bool → Act → Prop) : Nat → Array Bool → Act → Prop
  | 0, s, a => L s a
  | f + 1, s, a => (Region.ready md ops s = [] → False) ∧ ∀ i, i ∈ Region.ready md ops s → i < n ∧ qOp P ops C i (fun a' => Head P md ops C n L f (s.setIfInBounds i true) a') a

theorem Head.any {n g : Nat} {L : Array Bool → Act → Prop} {Q : Exit → Act → World → Prop} (hL : ∀ s a w, C w → L s a → wpAny P md ops Q g s a w) (f : Nat) :
    ∀ s a w, C w → Head P md ops C n L f s a → wpAny P md ops Q (f + g) s a w := by
  induction f with
  | zero => intro s a w hw h; rw [Nat.zero_add]; exact hL s a w hw h
  | succ f ih =>
    intro s a w hw h
    rw [Nat.add_right_comm]
    exact ⟨fun e => (h.1 e).elim, fun i hi => wpOp_of_qOp hw (fun a' w' hw' h' => ih _ a' w' hw' h') (h.2 i hi).2⟩

/-- Nothing of the tail comes up as long as one of the head is left. -/
def Waits (md : Region.Mode) (ops : Array Oper) (n : Nat) : Prop := ∀ s, HeadInv md ops n s → ∀ i, i < n → s.getD i true = false → ∀ t, t ∈ Region.ready md ops s → t < n

theorem Head.first {n i : Nat} {oi : Oper} {v : Value} {L : Array Bool → Act → Prop} (hi : ops[i]? = some oi) (hin : i < n) (hsel : ∀ (j : Nat) (o : Oper) cs b, ops[j]? = some o → o.op ≠ .select cs b)
    (hwait : Waits md ops n) (hdone : ∀ s a, L s a → ∀ j ∈ Region.ready md ops s, n ≤ j) (f : Nat) :
    ∀ s a, HeadInv md ops n s →
      (∀ j oj, ops[j]? = some oj → j ≠ i → s.getD j true = false → (∀ e ∈ oj.after, Region.binds md e = true → e.on ≠ i) → oi.apart ops oj = true) →
      i ∈ Region.ready md ops s → YieldsIn P ops C oi v a → Head P md ops C n L f (s.setIfInBounds i true) (a.put oi.dst v) → Head P md ops C n L (f + 1) s a := by
  induction f with
  | zero =>
    intro s a inv _ hr hy H
    have hun := (mem_ready.1 hr).1
    refine ⟨fun e => (by rw [e] at hr; cases hr), fun j hj => ?_⟩
    have hjn := hwait s inv i hin hun j hj
    refine ⟨hjn, ?_⟩
    rcases Nat.decEq j i with hji | rfl
    · exact absurd (hdone _ _ H j (ready_mono hj hji)) (by omega)
    · exact hy.qOp hi H
  | succ f ih =>
    intro s a inv hfree hr hy H
    have hun := (mem_ready.1 hr).1
    refine ⟨fun e => (by rw [e] at hr; cases hr), fun j hj => ?_⟩
    have hjn := hwait s inv i hin hun j hj
    refine ⟨hjn, ?_⟩
    rcases Nat.decEq j i with hji | rfl
    · obtain ⟨hju, oj, hoj, hall⟩ := mem_ready.1 hj
      have hno : ∀ e ∈ oj.after, Region.binds md e = true → e.on ≠ i := fun e he hb e1 => by
        have h1 := hall e he hb
        rw [e1, getD_both hun] at h1
        cases h1
      have hnext := qOp_put hoj (hfree j oj hoj hji hju hno) (fun cs b => hsel i oi cs b hi) (fun cs b => hsel j oj cs b hoj) hy (H.2 j (ready_mono hj hji)).2
      refine qOp_mono (fun a' h3 => ?_) hnext
      refine ih _ a' (inv.set hj hjn) (fun k ok hk hki hku => hfree k ok hk hki ?_) (ready_mono hr (Ne.symm hji)) h3.1 (by rw [Array.setIfInBounds_comm _ _ hji]; exact h3.2)
      rcases Nat.decEq j k with hjk | rfl
      · rwa [getD_set_ne true hjk] at hku
      · exact hju
    · exact hy.qOp hi H

theorem Head.lex {n g : Nat} {Lq : Act → Prop} (hsel : Region.noSelect ops = true) (hwait : Waits md ops n) (l : List Oper) :
    ∀ (k : Nat) (s : Array Bool) (a : Act), (∀ j, j < l.length → l[j]? = ops[k + j]?) → k + l.length = n → HeadInv md ops n s →
      Region.lexHead md ops g l.length k s = true → wpQuiet P ops C Lq l a → Head P md ops C n (fun s' a' => Region.seqB md ops g n s' = true ∧ Lq a') l.length s a := by
  induction l with
  | nil =>
    intro k s a _ hk _ hB h
    obtain rfl : k = n := by simpa using hk
    exact ⟨by simpa [Region.lexHead] using hB, h⟩
  | cons o l ih =>
    intro k s a hl hk inv hB h
    have h0 : ops[k]? = some o := by simpa using (hl 0 (by simp)).symm
    simp only [List.length_cons, Region.lexHead, Bool.and_eq_true] at hB
    have hkn : k < n := by simp only [List.length_cons] at hk; omega
    have hr : k ∈ Region.ready md ops s := by simpa using hB.1.1
    obtain ⟨v, hy, hK⟩ := yieldsIn_of_qOp (K := wpQuiet P ops C Lq l) h0 (by unfold qOp; simp only [h0]; exact h)
    refine Head.first h0 hkn (Region.noSelect_spec hsel) hwait (fun s' a' hL => seqB_ready hL.1) l.length s a inv (Region.free_spec h0 hB.1.2) hr hy ?_
    exact ih (k + 1) _ _ (fun j hj => by have := hl (j + 1) (by simp; omega); simpa [Nat.add_assoc, Nat.add_comm 1 j] using this) (by simp only [List.length_cons] at hk; omega) (inv.set hr hkn) hB.2 hK
end

theorem any_of {P : Program} {Q : Exit → Act → World → Prop} {a : Act} {w : World} {l : List Oper} (n : Nat) (hB : Region.lexTailB .any l.toArray n = true)
    (h : wpQuiet P l.toArray (fun w' => ∃ m, w' = w.drewN m) (fun a' => ∀ m, wpList P l.toArray Q (l.drop n) a' (w.drewN m)) (l.take n) a) : wpAny P .any l.toArray Q l.toArray.size (Array.replicate l.toArray.size false) a (w.drewN 1) := by
  simp only [Region.lexTailB, Bool.and_eq_true, decide_eq_true_eq] at hB
  obtain ⟨⟨⟨⟨hsel, hn⟩, hs⟩, hc⟩, hlex⟩ := hB
  have hn' : n < l.length := by simpa using hn
  have h1 : (l.take n).length = n := by rw [List.length_take]; omega
  have h2 : (l.drop n).length = l.toArray.size - n := by simp
  have hwait : Waits .any l.toArray n := fun s inv i hi hun t ht => Nat.lt_of_not_le fun hle => tail_waits hs hc hn inv _ i rfl hi hun t hle ht
  have inv0 : HeadInv .any l.toArray n (Array.replicate l.toArray.size false) :=
    ⟨by simp, fun j oj _ hl => (by rw [getD_replicate_false] at hl; cases hl), fun t _ ht => getD_in (by simpa using ht) (getD_replicate_false _ _)⟩
  have H := Head.lex (g := l.toArray.size - n) hsel hwait (l.take n) 0 _ a (fun j hj => by rw [h1] at hj; simp [hj]) (by rw [h1, Nat.zero_add]) inv0 (by rw [h1]; exact hlex) h
  have R := Head.any (Q := Q) (g := l.toArray.size - n) (fun s a' w' hw hL => by
    obtain ⟨m, rfl⟩ := hw
    have := wpAny_of_seq (md := .any) (Q' := Q) (l.drop n) n s a' (w.drewN m) (fun j => by simp [List.getElem?_drop]) (by rw [h2]; exact hL.1) (hL.2 m)
    rwa [h2] at this) _ _ _ (w.drewN 1) ⟨1, rfl⟩ H
  rwa [h1, show n + (l.toArray.size - n) = l.toArray.size by omega] at R

/-- The head, n operations, quiet; behind it the others in the text's order, from whatever world the head has left: that of the beginning after some draws. -/
theorem region {P : Program} {id : Nat} {Q : Exit → Act → World → Prop} {a : Act} {w : World} {l : List Oper} (n : Nat) (hm : P.follows .mixedOrders = true) (hB : Region.lexTailB .any l.toArray n = true)
    (h : wpQuiet P l.toArray (fun w' => ∃ m, w' = w.drewN m) (fun a' => ∀ m, wpList P l.toArray Q (l.drop n) a' (w.drewN m)) (l.take n) a) : (Code.region id l.toArray true).wp P Q a w :=
  wp_region_any hm (any_of n hB h)
end QT
end Go.Proofs.Ytbappohnljlchaa
/- The same region in a round of a range over a function: what holds of it outside holds of it there, as long as nothing of it defers. -/
namespace Go.Proofs.Ytbappohnljlchaa
open Go
namespace QT
section
variable {P : Program} {ops : Array Oper} {md : Region.Mode} {Q : Exit → Act → World → Prop}
theorem op_in {o : Oper} {a : Act} {w : World} {K : Act → World → Prop} (l n : Nat) (hd : ∀ c, o.op ≠ .defer c) (h : o.wp P a w K Q) : o.wpIn (Fence.wide.inRound l) n P a w K Q := by
  unfold Oper.wp at h
  refine ⟨fun _ _ => trivial, ?_⟩
  rw [show (Fence.wide.inRound l).round = some l from rfl, Oper.semAt_some l _ o hd]
  generalize (execOp a.eval o).run P w = r at *
  cases r with
  | ok v w' =>
    cases v with
    | value v => exact h
    | skip => exact h
    | defer d => exact h
    | enter f args => exact ⟨(fun e => by cases e), CallsIn.inRound l (callsIn_wide.2 h)⟩
    | row row args => exact ⟨(fun e => by cases e), fun c cs _ => let ⟨v, w', r, s⟩ := h c cs; ⟨v, w', r, stepsIn_wide.2 s⟩⟩
    | round l' f tmps assign body => exact h.elim
    | _ => exact h.elim
  | halt hl w' =>
    cases hl with
    | panic v => exact h
    | _ => exact h.elim
theorem opAt_in {a : Act} {w : World} {K K' : Act → World → Prop} (l n i : Nat) (hd : ∀ o ∈ ops.toList, ∀ c, o.op ≠ .defer c) (hno : ¬ LetsOut Q) (hK : ∀ a w, K a w → K' a w) (h : wpOp P ops Q i K a w) : wpOpIn (Fence.wide.inRound l) n P ops Q i K' a w := by
  unfold wpOp at h
  unfold wpOpIn
  cases ho : ops[i]? with
  | none => simp only [ho] at h; exact hK _ _ h
  | some o =>
    simp only [ho] at h
    have hm : o ∈ ops.toList := Array.mem_toList_iff.2 (Array.mem_of_getElem? ho)
    dsimp only
    by_cases hw : Region.wanted o (yielded ops a.tmps) = true
    · rw [if_pos hw] at h ⊢
      rcases h with h | h
      · exact op_in l n (hd o hm) (Oper.wp_mono hK h)
      · exact absurd h.2 hno
    · rw [if_neg hw] at h ⊢
      exact ⟨fun _ _ => trivial, hK _ _ h⟩
theorem any_in (l n : Nat) (hd : ∀ o ∈ ops.toList, ∀ c, o.op ≠ .defer c) (hno : ¬ LetsOut Q) : ∀ (g : Nat) (s : Array Bool) (a : Act) (w : World), wpAny P md ops Q g s a w → wpAnyIn (Fence.wide.inRound l) n P md ops Q g s a w
  | 0, _, _, _, h => h
  | g + 1, _, _, _, h => ⟨h.1, fun i hi => opAt_in l n i hd hno (fun a w => any_in l n hd hno g _ a w) (h.2 i hi)⟩
end
theorem region_in {P : Program} {id : Nat} {Q : Exit → Act → World → Prop} {a : Act} {w : World} {ops : List Oper} (l m n : Nat) (hm : P.follows .mixedOrders = true) (hd : ∀ o ∈ ops, ∀ c, o.op ≠ .defer c) (hno : ¬ LetsOut Q) (hB : Region.lexTailB .any ops.toArray n = true)
    (h : wpQuiet P ops.toArray (fun w' => ∃ m, w' = w.drewN m) (fun a' => ∀ m, wpList P ops.toArray Q (ops.drop n) a' (w.drewN m)) (ops.take n) a) : (Code.region id ops.toArray true).wpIn (Fence.wide.inRound l) m P Q a w :=
  wpIn_region_any hm (any_in l m (by simpa using hd) hno _ _ _ _ (any_of n hB h))
end QT
end Go.Proofs.Ytbappohnljlchaa
/- A region that draws its order, with loads beside calls that make memory, and a last store that may hit what it loads: the loads come first, whatever the order; outside, and in a round of a range over a function. -/
namespace Go.Proofs.Ytbappohnljlchaa
open Go
namespace RK
/-- A hypothesis that no tactic looks into till it is opened. -/
def Bar (p : Prop) : Prop := p
theorem Bar.out {p : Prop} (h : Bar p) : p := h
section
variable {P : Program} {md : Region.Mode} {ops : Array Oper} {Q : Exit → Act → World → Prop} {S : World → Prop} {st : Nat}
/-- Whatever order comes; behind each operation but number st S is shown. -/
def Any (P : Program) (md : Region.Mode) (ops : Array Oper) (Q : Exit → Act → World → Prop) (S : World → Prop) (st : Nat) : Nat → Array Bool → Act → World → Prop
  | 0, s, a, w => Region.ready md ops s = [] ∧ Q .normal a w
  | f + 1, s, a, w => (Region.ready md ops s = [] → Q .normal a w) ∧ ∀ i ∈ Region.ready md ops s, wpOp P ops Q i (fun a' w' => (i ≠ st → S w') ∧ Any P md ops Q S st f (s.setIfInBounds i true) a' w') a w
theorem Any.plain : ∀ (f : Nat) (s : Array Bool) (a : Act) (w : World), Any P md ops Q S st f s a w → wpAny P md ops Q f s a w
  | 0, _, _, _, h => h
  | f + 1, _, _, _, h => ⟨h.1, fun i hi => wpOp_mono (fun a' w' k => Any.plain f _ a' w' k.2) (h.2 i hi)⟩
theorem Any.first {i : Nat} {oi : Oper} {v : Value} (hi : ops[i]? = some oi) (hsel : ∀ (j : Nat) (o : Oper) cs b, ops[j]? = some o → o.op ≠ .select cs b)
    (hQ : ∀ c a w, Q (.panic c) (a.put oi.dst v) w → Q (.panic c) a w) (hst : ∀ oj, ops[st]? = some oj → ∃ e ∈ oj.after, Region.binds md e = true ∧ e.on = i) (f : Nat) :
    ∀ (s : Array Bool) (a : Act) (w : World), (∀ j oj, ops[j]? = some oj → j ≠ i → s.getD j true = false → (∀ e ∈ oj.after, Region.binds md e = true → e.on ≠ i) → oi.apart ops oj = true) →
      i ∈ Region.ready md ops s → YieldsIf P ops S oi v a → S w → Any P md ops Q S st f (s.setIfInBounds i true) (a.put oi.dst v) w → Any P md ops Q S st (f + 1) s a w := by
  induction f with
  | zero =>
    intro s a w _ hr hy hS H
    refine ⟨fun e => (by rw [e] at hr; cases hr), fun j hj => ?_⟩
    rcases Nat.decEq j i with hji | rfl
    · have h1 := ready_mono hj hji
      rw [H.1] at h1; cases h1
    · exact hy.wpOp hi hS ⟨fun _ => hS, H⟩
  | succ f ih =>
    intro s a w hfree hr hy hS H
    refine ⟨fun e => (by rw [e] at hr; cases hr), fun j hj => ?_⟩
    rcases Nat.decEq j i with hji | rfl
    · obtain ⟨hju, oj, hoj, hall⟩ := mem_ready.1 hj
      have hno : ∀ e ∈ oj.after, Region.binds md e = true → e.on ≠ i := fun e he hb e1 => by
        have h1 := hall e he hb
        rw [e1, getD_both (mem_ready.1 hr).1] at h1
        cases h1
      have hjst : j ≠ st := fun e => by
        subst e
        obtain ⟨e, he, hb, h1⟩ := hst oj hoj
        exact hno e he hb h1
      refine wpOp_mono (fun a' w' k => ⟨k.2.1, ih _ a' w' (fun k' ok hk hki hku => hfree k' ok hk hki ?_) (ready_mono hr (Ne.symm hji)) k.1 (k.2.1 hjst) ?_⟩)
        (wpOp_putIf hoj (hfree j oj hoj hji hju hno) (fun cs b => hsel i oi cs b hi) (fun cs b => hsel j oj cs b hoj) hQ hy (H.2 j (ready_mono hj hji)))
      · rcases Nat.decEq j k' with hjk | rfl
        · rwa [getD_set_ne true hjk] at hku
        · exact hju
      · rw [Array.setIfInBounds_comm _ _ hji]; exact k.2.2
    · exact hy.wpOp hi hS ⟨fun _ => hS, H⟩
/-- Number i comes first. -/
theorem Any.take {s : Array Bool} {a : Act} {w : World} {f : Nat} (i t : Nat) {oi : Oper} (v : Value) (hi : ops[i]? = some oi) (hd : oi.dst = some t) (hs : Region.noSelect ops = true) (hf : Region.free md ops s i = true) (hr : (Region.ready md ops s).contains i = true)
    (hst : (decide (ops.size ≤ st) || Region.waitsFor md ops st i) = true) (hQ : ∀ c a w, Q (.panic c) (a.put oi.dst v) w → Q (.panic c) a w)
    (hw : Region.wanted oi (yielded ops a.tmps) = true) (hy : ∀ w, S w → (execOp a.eval oi).run P w = .ok (.value v) w) (hS : S w) (h : Any P md ops Q S st f (s.setIfInBounds i true) { a with tmps := a.tmps.setIfInBounds t v } w) : Any P md ops Q S st (f + 1) s a w :=
  Any.first hi (Region.noSelect_spec hs) hQ (fun oj hoj => by
    rw [Bool.or_eq_true] at hst
    rcases hst with h1 | h1
    · have := (Array.getElem?_eq_some_iff.1 hoj).1
      have := of_decide_eq_true h1
      omega
    · obtain ⟨o', ho', e, he, hb, h2⟩ := Region.waitsFor_spec h1
      rw [hoj] at ho'; cases ho'
      exact ⟨e, he, hb, h2⟩) f s a w (Region.free_spec hi hf) (by simpa using hr) (.inl ⟨hw, hy⟩) hS (by rw [hd]; exact h)
/-- Number i alone may come, and calls. -/
theorem Any.call {s : Array Bool} {a : Act} {w : World} {f : Nat} (i t : Nat) {o : Oper} (g : FuncId) (args : Array Value) (hr : Region.ready md ops s = [i]) (hi : ops[i]? = some o) (hd : o.dst = some t) (hw : Region.wanted o (yielded ops a.tmps) = true)
    (he : (execOp a.eval o).run P w = .ok (.enter g args) w)
    (h : Calls P g args w fun e w' => ∃ v, e = .returned v ∧ (i ≠ st → S w') ∧ Any P md ops Q S st f (s.setIfInBounds i true) { a with tmps := a.tmps.setIfInBounds t v } w') : Any P md ops Q S st (f + 1) s a w :=
  ⟨fun e => (by rw [hr] at e; cases e), fun j hj => by
    rw [hr] at hj
    obtain rfl : j = i := by simpa using hj
    unfold wpOp
    simp only [hi, hw, if_true]
    refine .inl ?_
    unfold Oper.wp
    rw [he, Oper.upon_enter]
    refine h.mono ?_
    rintro e w' ⟨v, rfl, h1, h2⟩
    exact ⟨h1, by rw [hd]; exact h2⟩⟩
/-- Number i alone may come, and stores. -/
theorem Any.store {s : Array Bool} {a : Act} {w w1 : World} {f : Nat} (i : Nat) {o : Oper} (hr : Region.ready md ops s = [i]) (hi : ops[i]? = some o) (hd : o.dst = none) (hw : Region.wanted o (yielded ops a.tmps) = true)
    (he : (execOp a.eval o).run P w = .ok .skip w1) (hS : i ≠ st → S w1) (h : Any P md ops Q S st f (s.setIfInBounds i true) a w1) : Any P md ops Q S st (f + 1) s a w :=
  ⟨fun e => (by rw [hr] at e; cases e), fun j hj => by
    rw [hr] at hj
    obtain rfl : j = i := by simpa using hj
    unfold wpOp
    simp only [hi, hw, if_true]
    refine .inl ?_
    unfold Oper.wp
    rw [he, Oper.upon_skip, hd]
    exact ⟨hS, h⟩⟩
/-- Number i alone may come. What follows stands behind a variable. -/
theorem Any.step {s : Array Bool} {a : Act} {w : World} {f : Nat} (i : Nat) {o : Oper} (hr : Region.ready md ops s = [i]) (hi : ops[i]? = some o) (hw : Region.wanted o (yielded ops a.tmps) = true)
    (h : ∀ K : Act → World → Prop, Bar (∀ a w, (i ≠ st → S w) → Any P md ops Q S st f (s.setIfInBounds i true) a w → K a w) → o.wp P a w K Q) : Any P md ops Q S st (f + 1) s a w :=
  ⟨fun e => (by rw [hr] at e; cases e), fun j hj => by
    rw [hr] at hj
    obtain rfl : j = i := by simpa using hj
    unfold wpOp
    simp only [hi, hw, if_true]
    exact .inl (h _ (fun _ _ h1 h2 => ⟨h1, h2⟩))⟩
theorem Any.done {s : Array Bool} {a : Act} {w : World} {f : Nat} (hr : Region.ready md ops s = []) (h : Q .normal a w) : Any P md ops Q S st f s a w := by
  cases f with
  | zero => exact ⟨hr, h⟩
  | succ f => exact ⟨fun _ => h, by rw [hr]; simp⟩
end
theorem region {P : Program} {id : Nat} {Q : Exit → Act → World → Prop} {a : Act} {w : World} {ops : Array Oper} (S : World → Prop) (st : Nat) (hm : P.follows .mixedOrders = true)
    (h : Any P .any ops Q S st ops.size (Array.replicate ops.size false) a w.drew) : (Code.region id ops true).wp P Q a w := wp_region_any hm (Any.plain _ _ _ _ h)
theorem region_in {P : Program} {id : Nat} {Q : Exit → Act → World → Prop} {a : Act} {w : World} {ops : List Oper} (l m : Nat) (S : World → Prop) (st : Nat) (hm : P.follows .mixedOrders = true) (hd : ∀ o ∈ ops, ∀ c, o.op ≠ .defer c) (hno : ¬ LetsOut Q)
    (h : Any P .any ops.toArray Q S st ops.toArray.size (Array.replicate ops.toArray.size false) a w.drew) : (Code.region id ops.toArray true).wpIn (Fence.wide.inRound l) m P Q a w :=
  wpIn_region_any hm (QT.any_in l m (by simpa using hd) hno _ _ _ _ (Any.plain _ _ _ _ h))
end RK
end Go.Proofs.Ytbappohnljlchaa
/- Drawn regions in which more than one operation may come, and operations that make memory: for regions that are walked by hand. -/
namespace Go.Proofs.Ytbappohnljlchaa
open Go Go.RowKit Go.Lib
namespace RK
/-- Number i alone may come, and makes a value and a world. -/
theorem Any.exec {P : Program} {md : Region.Mode} {ops : Array Oper} {Q : Exit → Act → World → Prop} {S : World → Prop} {st : Nat} {s : Array Bool} {a : Act} {w w1 : World} {f : Nat} (i t : Nat) {o : Oper} (v : Value) (hr : Region.ready md ops s = [i]) (hi : ops[i]? = some o) (hd : o.dst = some t) (hw : Region.wanted o (yielded ops a.tmps) = true)
    (he : (execOp a.eval o).run P w = .ok (.value v) w1) (hS : S w1) (h : Any P md ops Q S st f (s.setIfInBounds i true) { a with tmps := a.tmps.setIfInBounds t v } w1) : Any P md ops Q S st (f + 1) s a w :=
  ⟨fun e => (by rw [hr] at e; cases e), fun j hj => by
    rw [hr] at hj
    obtain rfl : j = i := by simpa using hj
    unfold wpOp
    simp only [hi, hw, if_true]
    refine .inl ?_
    unfold Oper.wp
    rw [he, Oper.upon_value, hd]
    exact ⟨fun _ => hS, h⟩⟩
theorem exec_append {P : Program} {o : Oper} {a : Act} {w w' : World} {v' : Value} (s x : Operand) (t tn : TypeId) (ho : o.op = .call { callee := .builtin .append, args := #[s, x], argTypes := #[t, tn] }) (vs vx : Value) (hs : a.eval s = vs) (hx : a.eval x = vx)
    (hr : (Builtin.append_ #[t, tn] o.type #[vs, vx]).run P w = .ok v' w') : (execOp a.eval o).run P w = .ok (.value v') w' := by
  unfold execOp
  simp only [ho, resolve, invoke, builtin, Sem.run_bind, Sem.run_pure, Result.andThen_ok, List.map_toArray, List.map_cons, List.map_nil, hs, hx, hr]
section
variable {P : Program} {md : Region.Mode} {ops : Array Oper} {Q : Exit → Act → World → Prop} {S : World → Prop} {st : Nat}
/-- Each of some operations may come. -/
theorem Any.each {s : Array Bool} {a : Act} {w : World} {f : Nat} (l : List Nat) (hr : Region.ready md ops s = l) (h0 : l ≠ []) (h : ∀ i ∈ l, wpOp P ops Q i (fun a' w' => (i ≠ st → S w') ∧ Any P md ops Q S st f (s.setIfInBounds i true) a' w') a w) : Any P md ops Q S st (f + 1) s a w :=
  ⟨fun e => absurd (hr.symm.trans e) h0, fun i hi => h i (hr ▸ hi)⟩
theorem wpOp_exec {i t : Nat} {o : Oper} {v : Value} {a : Act} {w w1 : World} {K : Act → World → Prop} (hi : ops[i]? = some o) (hd : o.dst = some t) (hw : Region.wanted o (yielded ops a.tmps) = true) (he : (execOp a.eval o).run P w = .ok (.value v) w1) (h : K { a with tmps := a.tmps.setIfInBounds t v } w1) : wpOp P ops Q i K a w := by
  unfold wpOp
  simp only [hi, hw, if_true]
  refine .inl ?_
  unfold Oper.wp
  rw [he, Oper.upon_value, hd]
  exact h
theorem wpOp_call {i t : Nat} {o : Oper} {g : FuncId} {args : Array Value} {a : Act} {w : World} {K : Act → World → Prop} (hi : ops[i]? = some o) (hd : o.dst = some t) (hw : Region.wanted o (yielded ops a.tmps) = true) (he : (execOp a.eval o).run P w = .ok (.enter g args) w)
    (h : Calls P g args w fun e w' => ∃ v, e = .returned v ∧ K { a with tmps := a.tmps.setIfInBounds t v } w') : wpOp P ops Q i K a w := by
  unfold wpOp
  simp only [hi, hw, if_true]
  refine .inl ?_
  unfold Oper.wp
  rw [he, Oper.upon_enter]
  refine h.mono ?_
  rintro e w' ⟨v, rfl, h1⟩
  rw [hd]
  exact h1
end
/-- A region, cut off from what follows. -/
theorem cut {P : Program} {c : Code} {Q : Exit → Act → World → Prop} {a : Act} {w : World} (R : Act → Act → World → Prop) (h1 : c.wp P (fun e a' w' => e = .normal ∧ R a a' w') a w) (h2 : ∀ a' w', R a a' w' → Q .normal a' w') : c.wp P Q a w :=
  wp_mono h1 fun e a' w' ⟨he, hr⟩ => by subst he; exact h2 a' w' hr
theorem Any.race {P : Program} {md : Region.Mode} {ops : Array Oper} {Q : Exit → Act → World → Prop} {S : World → Prop} {st : Nat} {s : Array Bool} {a : Act} {w : World} {f : Nat} (i j ti tj : Nat) {oi oj : Oper} (R : Value → Value → World → Prop)
    (hr : Region.ready md ops s = [i, j]) (hr1 : Region.ready md ops (s.setIfInBounds i true) = [j]) (hr2 : Region.ready md ops (s.setIfInBounds j true) = [i]) (hi : ops[i]? = some oi) (hj : ops[j]? = some oj) (hdi : oi.dst = some ti) (hdj : oj.dst = some tj)
    (hwi : Region.wanted oi (yielded ops a.tmps) = true) (hwj : Region.wanted oj (yielded ops a.tmps) = true) (hij : i ≠ j) (hne : ti ≠ tj)
    (h1 : ∃ v1 v2 w1 w2, (execOp a.eval oi).run P w = .ok (.value v1) w1 ∧ (execOp (Act.eval { a with tmps := a.tmps.setIfInBounds ti v1 }) oj).run P w1 = .ok (.value v2) w2 ∧ R v1 v2 w2 ∧ Region.wanted oj (yielded ops (a.tmps.setIfInBounds ti v1)) = true ∧ S w1)
    (h2 : ∃ v1 v2 w1 w2, (execOp a.eval oj).run P w = .ok (.value v2) w1 ∧ (execOp (Act.eval { a with tmps := a.tmps.setIfInBounds tj v2 }) oi).run P w1 = .ok (.value v1) w2 ∧ R v1 v2 w2 ∧ Region.wanted oi (yielded ops (a.tmps.setIfInBounds tj v2)) = true ∧ S w1)
    (hS : ∀ v1 v2 W, R v1 v2 W → S W)
    (h : ∀ v1 v2 W, R v1 v2 W → Any P md ops Q S st f ((s.setIfInBounds i true).setIfInBounds j true) { a with tmps := (a.tmps.setIfInBounds ti v1).setIfInBounds tj v2 } W) : Any P md ops Q S st (f + 1 + 1) s a w := by
  refine Any.each [i, j] hr (by simp) fun x hx => ?_
  simp only [List.mem_cons, List.not_mem_nil, or_false] at hx
  rcases hx with rfl | rfl
  · obtain ⟨v1, v2, w1, w2, e1, e2, hR, hw, hs⟩ := h1
    exact wpOp_exec hi hdi hwi e1 ⟨fun _ => hs, Any.exec j tj v2 hr1 hj hdj hw e2 (hS _ _ _ hR) (h v1 v2 w2 hR)⟩
  · obtain ⟨v1, v2, w1, w2, e1, e2, hR, hw, hs⟩ := h2
    have h3 := h v1 v2 w2 hR
    rw [Array.setIfInBounds_comm _ _ hij, Array.setIfInBounds_comm _ _ hne] at h3
    exact wpOp_exec hj hdj hwj e1 ⟨fun _ => hs, Any.exec i ti v1 hr2 hi hdi hw e2 (hS _ _ _ hR) h3⟩
/-- Three that make a block each may come in whatever row. -/
theorem Any.race3 {P : Program} {md : Region.Mode} {ops : Array Oper} {Q : Exit → Act → World → Prop} {S : World → Prop} {st : Nat} {s : Array Bool} {a : Act} {w : World} {f : Nat} (i j k ti tj tk ni nj nk : Nat) {oi oj ok : Oper} (ci cj ck : Array Value) (t : TypeId)
    (hij : i ≠ j) (hik : i ≠ k) (hjk : j ≠ k) (hr : Region.ready md ops s = [i, j, k]) (hri : Region.ready md ops (s.setIfInBounds i true) = [j, k]) (hrj : Region.ready md ops (s.setIfInBounds j true) = [i, k]) (hrk : Region.ready md ops (s.setIfInBounds k true) = [i, j])
    (hrij : Region.ready md ops ((s.setIfInBounds i true).setIfInBounds j true) = [k]) (hrik : Region.ready md ops ((s.setIfInBounds i true).setIfInBounds k true) = [j]) (hrjk : Region.ready md ops ((s.setIfInBounds j true).setIfInBounds k true) = [i])
    (hi : ops[i]? = some oi) (hj : ops[j]? = some oj) (hk : ops[k]? = some ok) (hdi : oi.dst = some ti) (hdj : oj.dst = some tj) (hdk : ok.dst = some tk) (htij : ti ≠ tj) (htik : ti ≠ tk) (htjk : tj ≠ tk)
    (hgi : oi.guard = none) (hgj : oj.guard = none) (hgk : ok.guard = none)
    (ei : ∀ (b : Act) (u : World), (execOp b.eval oi).run P u = .ok (.value (.slice (some ⟨u.heap.size, 0, none⟩) ni ni)) (u.alloc (.cells ci t)))
    (ej : ∀ (b : Act) (u : World), (execOp b.eval oj).run P u = .ok (.value (.slice (some ⟨u.heap.size, 0, none⟩) nj nj)) (u.alloc (.cells cj t)))
    (ek : ∀ (b : Act) (u : World), (execOp b.eval ok).run P u = .ok (.value (.slice (some ⟨u.heap.size, 0, none⟩) nk nk)) (u.alloc (.cells ck t)))
    (hS : ∀ u, Below w.heap.size w u → S u)
    (h : ∀ x y z W, Below w.heap.size w W → W.heap[x]? = some (.cells ci t (0, 0)) → W.heap[y]? = some (.cells cj t (0, 0)) → W.heap[z]? = some (.cells ck t (0, 0)) →
      Any P md ops Q S st f (((s.setIfInBounds i true).setIfInBounds j true).setIfInBounds k true) { a with tmps := ((a.tmps.setIfInBounds ti (.slice (some ⟨x, 0, none⟩) ni ni)).setIfInBounds tj (.slice (some ⟨y, 0, none⟩) nj nj)).setIfInBounds tk (.slice (some ⟨z, 0, none⟩) nk nk) } W) : Any P md ops Q S st (f + 1 + 1 + 1) s a w := by
  have wi : ∀ tm, Region.wanted oi (yielded ops tm) = true := fun tm => by simp [Region.wanted, hgi]
  have wj : ∀ tm, Region.wanted oj (yielded ops tm) = true := fun tm => by simp [Region.wanted, hgj]
  have wk : ∀ tm, Region.wanted ok (yielded ops tm) = true := fun tm => by simp [Region.wanted, hgk]
  have bb := fun (u : World) (c : Array Value) => M.below_box u (.cells c t)
  have hn := fun (u : World) (c : Array Value) => heap_alloc_new u (.cells c t)
  have st1 : ∀ (u : World) (c : Array Value) (x : Nat) (o : Obj), u.heap[x]? = some o → (u.alloc (.cells c t)).heap[x]? = some o := fun u c x o hx => ((bb u c).block x (M.row_lt hx)).trans hx
  have b2 : ∀ (c d : Array Value), Below w.heap.size w ((w.alloc (.cells c t)).alloc (.cells d t)) := fun c d => (bb _ _).trans ((bb _ _).mono (bb _ _).size)
  have b3 : ∀ (c d e : Array Value), Below w.heap.size w (((w.alloc (.cells c t)).alloc (.cells d t)).alloc (.cells e t)) := fun c d e => (b2 c d).trans ((bb _ _).mono (b2 c d).size)
  have cs := fun {x y : Nat} (hxy : x ≠ y) (q : Array Bool) => Array.setIfInBounds_comm (xs := q) true true hxy
  refine Any.each [i, j, k] hr (by simp) fun x hx => ?_
  simp only [List.mem_cons, List.not_mem_nil, or_false] at hx
  rcases hx with rfl | rfl | rfl
  · refine wpOp_exec hi hdi (wi _) (ei _ _) ⟨fun _ => hS _ (bb _ _), Any.each [j, k] hri (by simp) fun y hy => ?_⟩
    simp only [List.mem_cons, List.not_mem_nil, or_false] at hy
    rcases hy with rfl | rfl
    · refine wpOp_exec hj hdj (wj _) (ej _ _) ⟨fun _ => hS _ (b2 _ _), Any.exec k tk _ hrij hk hdk (wk _) (ek _ _) (hS _ (b3 _ _ _)) ?_⟩
      exact h _ _ _ _ (b3 _ _ _) (st1 _ _ _ _ (st1 _ _ _ _ (hn _ _))) (st1 _ _ _ _ (hn _ _)) (hn _ _)
    · refine wpOp_exec hk hdk (wk _) (ek _ _) ⟨fun _ => hS _ (b2 _ _), Any.exec j tj _ hrik hj hdj (wj _) (ej _ _) (hS _ (b3 _ _ _)) ?_⟩
      have h3 := h _ _ _ _ (b3 ci ck cj) (st1 _ _ _ _ (st1 _ _ _ _ (hn _ _))) (hn _ _) (st1 _ _ _ _ (hn _ _))
      rw [Array.setIfInBounds_comm _ _ hjk, Array.setIfInBounds_comm _ _ htjk] at h3
      exact h3
  · refine wpOp_exec hj hdj (wj _) (ej _ _) ⟨fun _ => hS _ (bb _ _), Any.each [i, k] hrj (by simp) fun y hy => ?_⟩
    simp only [List.mem_cons, List.not_mem_nil, or_false] at hy
    rcases hy with rfl | rfl
    · refine wpOp_exec hi hdi (wi _) (ei _ _) ⟨fun _ => hS _ (b2 _ _), Any.exec k tk _ (by rw [← hrij, Array.setIfInBounds_comm _ _ hij]) hk hdk (wk _) (ek _ _) (hS _ (b3 _ _ _)) ?_⟩
      have h3 := h _ _ _ _ (b3 cj ci ck) (st1 _ _ _ _ (hn _ _)) (st1 _ _ _ _ (st1 _ _ _ _ (hn _ _))) (hn _ _)
      rw [Array.setIfInBounds_comm (xs := s) _ _ hij, Array.setIfInBounds_comm (xs := a.tmps) _ _ htij] at h3
      exact h3
    · refine wpOp_exec hk hdk (wk _) (ek _ _) ⟨fun _ => hS _ (b2 _ _), Any.exec i ti _ hrjk hi hdi (wi _) (ei _ _) (hS _ (b3 _ _ _)) ?_⟩
      have h3 := h _ _ _ _ (b3 cj ck ci) (hn _ _) (st1 _ _ _ _ (st1 _ _ _ _ (hn _ _))) (st1 _ _ _ _ (hn _ _))
      rw [Array.setIfInBounds_comm (xs := s) _ _ hij, Array.setIfInBounds_comm _ _ hik, Array.setIfInBounds_comm (xs := a.tmps) _ _ htij, Array.setIfInBounds_comm _ _ htik] at h3
      exact h3
  · refine wpOp_exec hk hdk (wk _) (ek _ _) ⟨fun _ => hS _ (bb _ _), Any.each [i, j] hrk (by simp) fun y hy => ?_⟩
    simp only [List.mem_cons, List.not_mem_nil, or_false] at hy
    rcases hy with rfl | rfl
    · refine wpOp_exec hi hdi (wi _) (ei _ _) ⟨fun _ => hS _ (b2 _ _), Any.exec j tj _ (by rw [← hrik, Array.setIfInBounds_comm _ _ hik]) hj hdj (wj _) (ej _ _) (hS _ (b3 _ _ _)) ?_⟩
      have h3 := h _ _ _ _ (b3 ck ci cj) (st1 _ _ _ _ (hn _ _)) (hn _ _) (st1 _ _ _ _ (st1 _ _ _ _ (hn _ _)))
      rw [Array.setIfInBounds_comm _ _ hjk, Array.setIfInBounds_comm (xs := s) _ _ hik, Array.setIfInBounds_comm _ _ htjk, Array.setIfInBounds_comm (xs := a.tmps) _ _ htik] at h3
      exact h3
    · refine wpOp_exec hj hdj (wj _) (ej _ _) ⟨fun _ => hS _ (b2 _ _), Any.exec i ti _ (by rw [← hrjk, Array.setIfInBounds_comm _ _ hjk]) hi hdi (wi _) (ei _ _) (hS _ (b3 _ _ _)) ?_⟩
      have h3 := h _ _ _ _ (b3 ck cj ci) (hn _ _) (st1 _ _ _ _ (hn _ _)) (st1 _ _ _ _ (st1 _ _ _ _ (hn _ _)))
      rw [Array.setIfInBounds_comm (xs := s) _ _ hij, Array.setIfInBounds_comm _ _ hik, Array.setIfInBounds_comm (xs := s) _ _ hjk, Array.setIfInBounds_comm (xs := a.tmps) _ _ htij, Array.setIfInBounds_comm _ _ htik, Array.setIfInBounds_comm (xs := a.tmps) _ _ htjk] at h3
      exact h3
end RK
end Go.Proofs.Ytbappohnljlchaa

/- The texts SltInv, WirFrame, Num, Own, Mine, one behind the other. -/
import Derived.Test.YtoacmingocmaaaaGreatDoorWB9
import Derived.Test.YtoacmingocmaaaaGreatDoorWB1
import Derived.Laws.Shifts
import Derived.Laws.ShiftsVar
import Derived.Below
import Derived.Laws.Rows
import Derived.Deep.RegionHeld
import Derived.LoopTactic
import Derived.LoopN
import Derived.Deep.QuietTactic
import Derived.BigQuiet
import Derived.OwnWalk
import Derived.Maps.AppendAt
import Derived.Laws.MakeOwn
/- A disk on which only texts were written: what it has behind whatever stop, and whatever crash. -/
namespace Go.Proofs.YtoacmingocmaaaaGreatDoor
namespace MM
/-- The bytes of a header from i on, ahead of j; 00s elsewhere. -/
def win (h : By) (i j : Nat) : By := (List.range 512).map fun x => if i ≤ x ∧ x < j then h.getD x 0 else 0
theorem win_len (h : By) (i j : Nat) : (win h i j).length = 512 := by simp [win]
theorem win_get (h : By) (i j x : Nat) : (win h i j).getD x 0 = if i ≤ x ∧ x < j ∧ x < 512 then h.getD x 0 else 0 := by
  unfold win
  rw [List.getD_eq_getElem?_getD, List.getElem?_map]
  by_cases hx : x < 512
  · rw [List.getElem?_range hx]
    by_cases h1 : i ≤ x ∧ x < j
    · simp [h1, hx]
    · have : ¬ (i ≤ x ∧ x < j ∧ x < 512) := fun h => h1 ⟨h.1, h.2.1⟩
      simp [h1, this]
  · rw [List.getElem?_eq_none (by simpa using hx)]
    simp [hx]
theorem by_ext {a b : By} (ha : a.length = 512) (hb : b.length = 512) (h : ∀ x, x < 512 → a.getD x 0 = b.getD x 0) : a = b := by
  apply List.ext_getElem (by rw [ha, hb])
  intro x h1 h2
  have := h x (by omega)
  rw [List.getD_eq_getElem?_getD, List.getD_eq_getElem?_getD, List.getElem?_eq_getElem h1, List.getElem?_eq_getElem h2] at this
  simpa using this
theorem zero_get (x : Nat) : zero.getD x 0 = 0 := by
  unfold zero
  rw [List.getD_eq_getElem?_getD, List.getElem?_replicate]
  split <;> rfl
theorem full_get (s : By) (x : Nat) : (full s).getD x 0 = s.getD x 0 := by
  unfold full
  rw [List.getD_eq_getElem?_getD, List.getD_eq_getElem?_getD]
  by_cases h : x < s.length
  · rw [List.getElem?_append_left h]
  · rw [List.getElem?_append_right (by omega), List.getElem?_replicate, List.getElem?_eq_none (by omega)]
    split <;> rfl
theorem tear_get {a b : By} {n : Nat} (ha : a.length = 512) (hn : n ≤ 512) (x : Nat) : (a.take n ++ b.drop n).getD x 0 = if x < n then a.getD x 0 else b.getD x 0 := by
  rw [List.getD_eq_getElem?_getD, List.getD_eq_getElem?_getD, List.getD_eq_getElem?_getD]
  have hl : (a.take n).length = n := by rw [List.length_take]; omega
  by_cases h : x < n
  · rw [List.getElem?_append_left (by omega), List.getElem?_take, if_pos h, if_pos h]
  · rw [List.getElem?_append_right (by omega), hl, List.getElem?_drop, if_neg h]
    congr 2; omega
theorem getD_big {s : By} {x : Nat} (h : s.length ≤ x) : s.getD x 0 = 0 := by rw [List.getD_eq_getElem?_getD, List.getElem?_eq_none h]; rfl
theorem win_all {a n : Nat} : win (hdr a n) 0 512 = full (hdr a n) := by
  have hl := full_len (s := hdr a n) (by rw [hdr_len]; omega)
  exact by_ext (win_len _ _ _) hl fun x hx => by rw [win_get, full_get, if_pos ⟨by omega, hx, hx⟩]
/-- What a header's sector may have. -/
def Sane (t : By) : Prop := ∃ a n i j, t = win (hdr a n) i j
theorem sane_win (a n i j : Nat) : Sane (win (hdr a n) i j) := ⟨a, n, i, j, rfl⟩
theorem upd_at (p : Int → By) (k : Int) (v : By) : upd p (k, v) k = v := upd_same p (k, v)
theorem new_p (k : Int) : Dsk.new.p k = zero := by unfold Dsk.new; dsimp only
theorem sane_zero : Sane zero := ⟨0, 0, 0, 0, by_ext zero_len (win_len _ _ _) fun x _ => by rw [zero_get, win_get, if_neg (by omega)]⟩
theorem sane_hdr (a n : Nat) : Sane (full (hdr a n)) := ⟨a, n, 0, 512, win_all.symm⟩
theorem tear_zero {h : By} {i j m : Nat} (hm : m ≤ 512) : zero.take m ++ (win h i j).drop m = win h (max i m) j := by
  refine by_ext (torn_len m hm zero_len (win_len _ _ _)) (win_len _ _ _) fun x hx => ?_
  rw [tear_get zero_len hm, win_get, win_get, zero_get]
  by_cases h1 : x < m
  · rw [if_pos h1, if_neg (by omega)]
  · rw [if_neg h1]
    by_cases h2 : i ≤ x ∧ x < j ∧ x < 512
    · rw [if_pos h2, if_pos (by omega)]
    · rw [if_neg h2, if_neg (by omega)]
theorem tear_hdr {a n m : Nat} (hm : m ≤ 512) : (full (hdr a n)).take m ++ zero.drop m = win (hdr a n) 0 m := by
  have hl := full_len (s := hdr a n) (by rw [hdr_len]; omega)
  refine by_ext (torn_len m hm hl zero_len) (win_len _ _ _) fun x hx => ?_
  rw [tear_get hl hm, win_get, zero_get, full_get]
  by_cases h1 : x < m
  · rw [if_pos h1, if_pos (by omega)]
  · rw [if_neg h1, if_neg (by omega)]
theorem val_zeros : ∀ (l : By), (∀ x ∈ l, x = 0) → val l = 0 := fun l h => by
  have e : l = List.replicate l.length 0 := List.eq_replicate_of_mem h
  rw [e]
  generalize l.length = n
  induction n with
  | zero => rfl
  | succ n ih => rw [List.replicate_succ', val_snoc, ih]; rfl
theorem val_inj {a b : By} (ha : a.length = 8) (hb : b.length = 8) (h : val a = val b) : a = b := by rw [← dig_val 8 a ha, h, dig_val 8 b hb]
theorem cut_get (t : By) (o x : Nat) (hx : x < 8) : ((t.drop o).take 8).getD x 0 = t.getD (o + x) 0 := by
  rw [List.getD_eq_getElem?_getD, List.getElem?_take, if_pos hx, List.getElem?_drop, List.getD_eq_getElem?_getD]
theorem hdr_get (a n x : Nat) (hx : x < 8) : (hdr a n).getD x 0 = (dig a 8).getD x 0 ∧ (hdr a n).getD (16 + x) 0 = (dig a 8).getD x 0 := by
  unfold hdr
  constructor
  · rw [List.append_assoc, List.getD_eq_getElem?_getD, List.getElem?_append_left (by simp; omega), List.getD_eq_getElem?_getD]
  · rw [List.getD_eq_getElem?_getD, List.getElem?_append_right (by simp), List.getD_eq_getElem?_getD]
    simp
/-- A header of which bytes are 00 is not valid, or it is whole. -/
theorem win_age {a n i j : Nat} : (headOf (win (hdr a n) i j)).1 = 0 ∨ win (hdr a n) i j = full (hdr a n) := by
  obtain ⟨t, ht⟩ : ∃ t, t = win (hdr a n) i j := ⟨_, rfl⟩
  have hl : t.length = 512 := by rw [ht]; exact win_len _ _ _
  by_cases hv : val (t.take 8) = 0
  · left; rw [← ht]; unfold headOf; split
    · exact hv
    · rfl
  by_cases he : val (t.take 8) = val ((t.drop 16).take 8)
  rotate_left
  · left; rw [← ht]; unfold headOf; rw [if_neg (fun h => he h.2.2.2.2)]
  right
  have hg : ∀ x, t.getD x 0 = if i ≤ x ∧ x < j ∧ x < 512 then (hdr a n).getD x 0 else 0 := fun x => by rw [ht, win_get]
  have h8 : ∀ x, x < 8 → t.getD x 0 = t.getD (16 + x) 0 := fun x hx => by
    have h1 := val_inj (a := (t.drop 0).take 8) (b := (t.drop 16).take 8) (by simp [hl]) (by rw [List.length_take, List.length_drop]; omega) (by simpa using he)
    rw [← cut_get t 16 x hx, ← h1, cut_get t 0 x hx, Nat.zero_add]
  obtain ⟨x0, hx0, hn0⟩ : ∃ x0, x0 < 8 ∧ t.getD x0 0 ≠ 0 := by
    refine Classical.byContradiction fun hne => hv (val_zeros _ fun y hy => ?_)
    obtain ⟨x, hx, rfl⟩ := List.mem_iff_getElem.1 hy
    rw [List.length_take] at hx
    refine Classical.byContradiction fun h2 => hne ⟨x, by omega, ?_⟩
    rw [List.getElem_take] at h2
    rw [List.getD_eq_getElem?_getD, List.getElem?_eq_getElem (by omega)]
    exact h2
  have hi0 : i ≤ x0 ∧ x0 < j ∧ x0 < 512 := Classical.byContradiction fun h => hn0 (by rw [hg, if_neg h])
  have hn1 := hn0
  rw [h8 x0 hx0] at hn1
  have hi1 : i ≤ 16 + x0 ∧ 16 + x0 < j ∧ 16 + x0 < 512 := Classical.byContradiction fun h => hn1 (by rw [hg, if_neg h])
  rw [← ht]
  refine by_ext hl (full_len (by rw [hdr_len]; omega)) fun x hx => ?_
  rw [full_get]
  have low : ∀ y, y < 8 → (hdr a n).getD y 0 = t.getD y 0 := fun y hy => by
    by_cases h1 : i ≤ y
    · rw [hg, if_pos ⟨h1, by omega, by omega⟩]
    · rw [(hdr_get a n y hy).1, ← (hdr_get a n y hy).2, h8 y hy, hg, if_pos ⟨by omega, by omega, by omega⟩]
  by_cases h1 : x < 8
  · exact (low x h1).symm
  by_cases h2 : x < 16
  · rw [hg, if_pos ⟨by omega, by omega, hx⟩]
  by_cases h3 : x < 24
  · obtain ⟨y, rfl⟩ : ∃ y, x = 16 + y := ⟨x - 16, by omega⟩
    rw [← h8 y (by omega), ← low y (by omega), (hdr_get a n y (by omega)).1, (hdr_get a n y (by omega)).2]
  · have hb : (hdr a n).getD x 0 = 0 := getD_big (by rw [hdr_len]; omega)
    rw [hb, hg]
    split
    · exact hb
    · rfl
/-- Torn by 00s: not valid, or as it was. -/
theorem win_tear {a n i j m : Nat} (e : win (hdr a n) (max i m) j = full (hdr a n)) : win (hdr a n) i j = win (hdr a n) (max i m) j := by
  refine by_ext (win_len _ _ _) (win_len _ _ _) fun x hx => ?_
  have h1 := congrArg (fun l => l.getD x 0) e
  simp only [full_get] at h1
  rw [h1]
  rw [win_get] at h1
  rw [win_get]
  by_cases h2 : i ≤ x ∧ x < j ∧ x < 512
  · rw [if_pos h2]
  · rw [if_neg h2]
    rw [if_neg (by omega)] at h1
    exact h1
theorem sane_torn {a n i j m : Nat} (hm : m ≤ 512) {u : By} (hu : u = zero.take m ++ (win (hdr a n) i j).drop m) : Sane u ∧ ((headOf u).1 = 0 ∨ headOf u = headOf (win (hdr a n) i j)) := by
  rw [tear_zero hm] at hu
  have h1 : Sane u := hu ▸ sane_win a n (max i m) j
  refine ⟨h1, ?_⟩
  rcases win_age (a := a) (n := n) (i := max i m) (j := j) with e | e
  · left; rw [hu]; exact e
  · right; rw [win_tear e, hu]
theorem sane_tear {t : By} (h : Sane t) {m : Nat} (hm : m ≤ 512) : Sane (zero.take m ++ t.drop m) ∧ ((headOf (zero.take m ++ t.drop m)).1 = 0 ∨ headOf (zero.take m ++ t.drop m) = headOf t) := by
  obtain ⟨a, n, i, j, e⟩ := h
  obtain ⟨u, hu⟩ : ∃ u, u = zero.take m ++ t.drop m := ⟨_, rfl⟩
  rw [← hu]
  rw [e] at hu ⊢
  exact sane_torn hm hu
theorem zeros_head {z : By} (h : ∀ x ∈ z, x = 0) : (headOf z).1 = 0 := by
  unfold headOf
  split
  · exact val_zeros _ fun x hx => h x (List.mem_of_mem_take hx)
  · rfl
theorem mem_zero {x : UInt8} (h : x ∈ zero) : x = 0 := by unfold zero at h; exact List.eq_of_mem_replicate h
theorem head_zero {t : By} (h : t = zero) : (headOf t).1 = 0 := zeros_head fun _ hx => mem_zero (h ▸ hx)
theorem zeros_age {v : Int → By} (h : ∀ k, v k = zero) : ageV v = 0 := by
  unfold ageV
  rw [newV_is]
  exact head_zero (h _)
/-- What a crash leaves of sectors that are not written to. -/
theorem crash_other {keep : List Bool} {n : Nat} {x : Int} : ∀ (c : List (Int × By)) (k : Nat) (p : Int → By) (torn : Bool), (∀ y ∈ c, y.1 ≠ x) → crashGo keep n k c p torn x = p x
  | [], _, _, _, _ => rfl
  | y :: r, k, p, torn, h => by
    have hy : x ≠ y.1 := fun e => h y (by simp) e.symm
    have hr : ∀ z ∈ r, z.1 ≠ x := fun z hz => h z (by simp [hz])
    unfold crashGo
    split
    · rw [crash_other r _ _ _ hr, upd_other _ _ hy]
    split
    · rw [crash_other r _ _ _ hr]
    · rw [crash_other r _ _ _ hr, upd_other _ _ (by exact hy)]
theorem crash_single {keep : List Bool} {n : Nat} {x : Int × By} {p : Int → By} : crashGo keep n 0 [x] p false = upd p x ∨ crashGo keep n 0 [x] p false = upd p (x.1, x.2.take n ++ (p x.1).drop n) := by
  unfold crashGo
  split
  · exact .inl rfl
  · exact .inr rfl
/-- How the cache may be. -/
inductive Form (p : Int → By) (M : Option By → Prop) (A : Nat) : List (Int × By) → Prop
  | body {c : List (Int × By)} : (∀ y ∈ c, (othV p).at_ < y.1 ∧ y.1 < (othV p).at_ + half) → Form p M A c
  | head : Form p M A [((othV p).at_, zero)]
  | last {a n : Nat} : p (othV p).at_ = zero → M (textV (upd p ((othV p).at_, full (hdr a n)))) → ageV (upd p ((othV p).at_, full (hdr a n))) ≤ A → Form p M A [((othV p).at_, full (hdr a n))]
/-- A disk on which only texts were written; what it may have; how old it may be. -/
structure Inv (M : Option By → Prop) (A : Nat) (s : Dsk) : Prop where
  wf : s.Wf
  h0 : Sane (s.p 0)
  h1 : Sane (s.p half)
  txt : M (textV s.p)
  age : ageV s.p ≤ A
  form : Form s.p M A s.c
section
variable {M : Option By → Prop} {A : Nat} {s : Dsk}
theorem Inv.new : Inv (fun o => o = none) 0 Dsk.new := by
  have e : ageV Dsk.new.p = 0 := zeros_age new_p
  refine ⟨Wf.new, sane_zero, sane_zero, ?_, by omega, .body fun y h => (by cases h)⟩
  unfold textV; rw [if_pos e]
theorem Inv.same {r : Dsk} (h : Inv M A s) (hp : r.p = s.p) (hc : r.c = s.c) : Inv M A r := ⟨⟨hp ▸ h.wf.p, hc ▸ h.wf.c⟩, hp ▸ h.h0, hp ▸ h.h1, hp ▸ h.txt, hp ▸ h.age, by rw [hp, hc]; exact h.form⟩
theorem Form.up {p : Int → By} {c : List (Int × By)} {M' : Option By → Prop} {A' : Nat} (h : Form p M A c) (hM : ∀ o, M o → M' o) (hA : A ≤ A') : Form p M' A' c := by
  cases h with
  | body h => exact .body h
  | head => exact .head
  | last h1 h2 h3 => exact .last h1 (hM _ h2) (Nat.le_trans h3 hA)
theorem Inv.up {M' : Option By → Prop} {A' : Nat} (h : Inv M A s) (hM : ∀ o, M o → M' o) (hA : A ≤ A') : Inv M' A' s := ⟨h.wf, h.h0, h.h1, hM _ h.txt, Nat.le_trans h.age hA, h.form.up hM hA⟩
theorem oth_sane (h : Inv M A s) : Sane (s.p (othV s.p).at_) := by
  rcases othV_at s.p with ⟨e, _⟩ | ⟨e, _⟩ <;> rw [e]
  · exact h.h0
  · exact h.h1
/-- A platter without a cache. -/
structure Plain (M : Option By → Prop) (A : Nat) (p : Int → By) : Prop where
  wf : PWf p
  h0 : Sane (p 0)
  h1 : Sane (p half)
  txt : M (textV p)
  age : ageV p ≤ A
theorem Plain.inv {p : Int → By} {r : Dsk} (h : Plain M A p) (hp : r.p = p) (hw : CWf r.c) (hc : ∀ y ∈ r.c, (othV p).at_ < y.1 ∧ y.1 < (othV p).at_ + half) : Inv M A r := by
  subst hp
  exact ⟨⟨h.wf, hw⟩, h.h0, h.h1, h.txt, h.age, .body hc⟩
/-- The older slot turns. -/
theorem Plain.turn {p q : Int → By} (h : Plain M A p) (hw : PWf q) (ho : ∀ x, ¬ ((othV p).at_ ≤ x ∧ x < (othV p).at_ + half) → q x = p x) (hs : Sane (q (othV p).at_)) (hh : (headOf (q (othV p).at_)).1 = 0 ∨ headOf (q (othV p).at_) = headOf (p (othV p).at_)) : Plain M A q ∧ (othV q).at_ = (othV p).at_ ∧ textV q = textV p ∧ ageV q = ageV p := by
  obtain ⟨e1, e2, e3, _⟩ := text_keep rfl (fun x _ hx => ho x hx) hh
  refine ⟨⟨hw, ?_, ?_, by rw [e1]; exact h.txt, by rw [e2]; exact h.age⟩, e3, e1, e2⟩
  · rcases othV_at p with ⟨e, _⟩ | ⟨e, _⟩
    · rw [e] at hs; exact hs
    · rw [e] at ho; rw [ho 0 (by unfold half; omega)]; exact h.h0
  · rcases othV_at p with ⟨e, _⟩ | ⟨e, _⟩
    · rw [e] at ho; rw [ho half (by unfold half; omega)]; exact h.h1
    · rw [e] at hs; exact hs
theorem Inv.plain (h : Inv M A s) : Plain M A s.p := ⟨h.wf.p, h.h0, h.h1, h.txt, h.age⟩
theorem half_pos : (0 : Int) < half := by decide
/-- What the whole cache makes. -/
theorem Inv.view (h : Inv M A s) : Plain M A (putAll s.p s.c) := by
  have hp := h.plain
  have hsn := oth_sane h
  have hw := h.wf.p.putAll h.wf.c
  have hf := h.form
  have g0 := h.h0
  have g1 := h.h1
  clear h
  generalize s.p = p at *
  generalize s.c = c at *
  cases hf with
  | body hc =>
    have e : putAll p c (othV p).at_ = p (othV p).at_ := putAll_other fun y hy e => by have := (hc y hy).1; omega
    exact (hp.turn hw (fun x hx => putAll_other fun y hy e => hx (by have := hc y hy; omega)) (by rw [e]; exact hsn) (.inr (by rw [e]))).1
  | head =>
    rw [putAll_cons, putAll_nil] at hw ⊢
    exact (hp.turn hw (fun x hx => upd_other _ _ fun e => hx (by rw [e]; have := half_pos; show _ ≤ (othV p).at_ ∧ (othV p).at_ < _; omega)) (by rw [upd_same (x := ((othV p).at_, zero))]; exact sane_zero) (.inl (head_zero (upd_same p ((othV p).at_, zero))))).1
  | last h1 h2 h3 =>
    rename_i a n
    rw [putAll_cons, putAll_nil] at hw ⊢
    refine ⟨hw, ?_, ?_, h2, h3⟩
    · rcases othV_at p with ⟨e, _⟩ | ⟨e, _⟩ <;> rw [e]
      · rw [upd_same (x := (0, full (hdr a n)))]; exact sane_hdr _ _
      · rw [upd_other _ _ (by show (0 : Int) ≠ half; decide)]; exact g0
    · rcases othV_at p with ⟨e, _⟩ | ⟨e, _⟩ <;> rw [e]
      · rw [upd_other _ _ (by show half ≠ 0; decide)]; exact g1
      · rw [upd_same (x := (half, full (hdr a n)))]; exact sane_hdr _ _
/-- What a crash makes. -/
theorem Inv.crash (h : Inv M A s) (keep : List Bool) (n : Int) : Plain M A (s.crash keep n).p := by
  have hp := h.plain
  have hsn := oth_sane h
  have hv := h.view
  have hn := clamp_le n
  have hw : PWf (crashGo keep (clamp n) 0 s.c s.p false) := (h.wf.crash keep n).p
  show Plain M A (crashGo keep (clamp n) 0 s.c s.p false)
  generalize clamp n = m at *
  have hf := h.form
  have g0 := h.h0
  have g1 := h.h1
  clear h
  generalize s.p = p at *
  generalize s.c = c at *
  cases hf with
  | body hc =>
    have e : crashGo keep m 0 c p false (othV p).at_ = p (othV p).at_ := crash_other _ _ _ _ fun y hy e => by have := (hc y hy).1; omega
    exact (hp.turn hw (fun x hx => crash_other _ _ _ _ fun y hy e => hx (by have := hc y hy; omega)) (by rw [e]; exact hsn) (.inr (by rw [e]))).1
  | head =>
    rcases crash_single (keep := keep) (n := m) (x := ((othV p).at_, zero)) (p := p) with e | e
    · rw [e]; exact hv
    · rw [e] at hw ⊢
      obtain ⟨k1, k2⟩ := sane_tear hsn hn
      exact (hp.turn hw (fun x hx => upd_other _ _ fun e => hx (by rw [e]; have := half_pos; show _ ≤ (othV p).at_ ∧ (othV p).at_ < _; omega)) (by rw [upd_at]; exact k1) (by rw [upd_at]; exact k2)).1
  | last h1 h2 h3 =>
    rename_i a n
    rcases crash_single (keep := keep) (n := m) (x := ((othV p).at_, full (hdr a n))) (p := p) with e | e
    · rw [e]; exact hv
    · simp only [h1] at e
      rw [tear_hdr hn] at e
      rcases win_age (a := a) (n := n) (i := 0) (j := m) with k | k
      · rw [e] at hw ⊢
        exact (hp.turn hw (fun _ hx => upd_other _ _ fun e => hx (by rw [e]; have := half_pos; show _ ≤ (othV p).at_ ∧ (othV p).at_ < _; omega)) (by rw [upd_at]; exact sane_win _ _ _ _) (.inl (by rw [upd_at]; exact k))).1
      · rw [e, k]; exact hv
theorem Plain.crashed {r : Dsk} (h : Plain M A r.p) (hc : r.c = []) : Inv M A r := h.inv rfl (by rw [hc]; exact fun _ h => (by cases h)) (by rw [hc]; exact fun _ h => (by cases h))
/-- A text is written, or the disk dies while it is. -/
theorem Inv.save (h : Inv M A s) (hd : s.dead = false) (t : By) (ht : t.length ≤ most) (hA : A < top) :
    ((s.save t).1 = 0 ∧ (s.save t).2.dead = false ∧ (s.save t).2.c = [] ∧ Inv (fun o => o = some t) (A + 1) (s.save t).2) ∨
    ((s.save t).1 = 42 ∧ (s.save t).2.dead = true ∧ Inv (fun o => M o ∨ o = some t) (A + 1) (s.save t).2) := by
  have hv := h.view
  have hva := view_age hd
  have hvo := (view_all hd).2.1
  have hag := hv.age
  have hka := othV_at (putAll s.p s.c)
  have hk : (othV (putAll s.p s.c)).at_ = 0 ∨ (othV (putAll s.p s.c)).at_ = half := hka.imp (·.1) (·.1)
  have hsv : s.save t = if (s.ops (preOps (othV s.read).at_ t)).1 = 0 then (s.ops (preOps (othV s.read).at_ t)).2.ops (postOps (othV s.read).at_ (ageV s.read + 1) t (s.ops (preOps (othV s.read).at_ t)).2.p) else s.ops (preOps (othV s.read).at_ t) := by
    unfold Dsk.save
    rw [hd, if_neg (by simp), if_neg (by omega), if_neg (by rw [hva]; omega)]
  have hrun := save_runs hd (othV (putAll s.p s.c)).at_ hk (ageV (putAll s.p s.c) + 1) t ht
  simp only at hrun
  rw [hvo, hva] at hsv
  rw [← hsv] at hrun
  have hwf : (s.save t).2.Wf := by
    rw [hsv]
    split
    · exact h.wf.ops.ops
    · exact h.wf.ops
  generalize s.save t = r at *
  generalize hp1 : putAll s.p s.c = p1 at *
  obtain ⟨k, hkk⟩ : ∃ k, k = (othV p1).at_ := ⟨_, rfl⟩
  have hks : sec k = true := by rw [hkk]; rcases hk with e | e <;> rw [e] <;> decide
  have hhp := half_pos
  -- behind the header's 00s
  have hw2 : PWf (upd p1 (k, zero)) := hv.wf.upd hks zero_len
  have t2 := hv.turn (q := upd p1 (k, zero)) hw2 (fun x hx => upd_other _ _ fun e => hx (by rw [e]; show _ ≤ k ∧ k < _; omega)) (by rw [← hkk, upd_same (x := (k, zero))]; exact sane_zero) (.inl (head_zero (by rw [← hkk, upd_same (x := (k, zero))])))
  rw [← hkk] at t2 hrun
  obtain ⟨t2a, t2b, t2c, t2d⟩ := t2
  have hbf : CWf (fulls (bodyW k t (upd p1 (k, zero)))) := fun y hy => by
    obtain ⟨z, hz, rfl⟩ := mem_fulls.1 hy
    obtain ⟨q1, q2⟩ := bodyW_fine ht (by rw [hkk]; exact hk) z hz
    exact ⟨q1, full_len q2⟩
  have hS := bodyW_put (k := k) (t := t) (q := upd p1 (k, zero)) ht
  have hw3 := hw2.putAll hbf
  have hz3 : putAll (upd p1 (k, zero)) (fulls (bodyW k t (upd p1 (k, zero)))) k = zero := by
    rw [hS.out k (by omega), upd_same (x := (k, zero))]
  have t3 := t2a.turn (q := putAll (upd p1 (k, zero)) (fulls (bodyW k t (upd p1 (k, zero))))) hw3 (fun x hx => hS.out x (by rw [t2b] at hx; omega)) (by rw [t2b, hz3]; exact sane_zero) (.inl (head_zero (by rw [t2b, hz3])))
  rw [t2b, t2c, t2d] at t3
  obtain ⟨t3a, t3b, t3c, t3d⟩ := t3
  have hn := text_new t3b hS.text ht (by rw [t3d]; omega)
  rw [t3d] at hn
  obtain ⟨n1, n2, n3⟩ := hn
  rcases hrun with ⟨r1, r2, r3, r4⟩ | ⟨r1, r2, r3⟩
  · refine .inl ⟨r1, r2, r4, ?_⟩
    refine Plain.crashed (r := r.2) ?_ r4
    have hw4 : PWf (doneP k (ageV p1 + 1) t p1) := r3 ▸ hwf.p
    rw [r3]
    refine ⟨hw4, ?_, ?_, n1, by rw [n2]; omega⟩
    · rw [hkk] at *
      unfold doneP
      rcases hk with e | e
      · rw [e, upd_same (x := (0, _))]; exact sane_hdr _ _
      · rw [e] at t3a ⊢; rw [upd_other _ _ (by show (0 : Int) ≠ half; decide)]; exact t3a.h0
    · rw [hkk] at *
      unfold doneP
      rcases hk with e | e
      · rw [e] at t3a ⊢; rw [upd_other _ _ (by show half ≠ 0; decide)]; exact t3a.h1
      · rw [e, upd_same (x := (half, _))]; exact sane_hdr _ _
  · refine .inr ⟨r1, r2, ?_⟩
    have up : ∀ {x : Dsk}, Inv M A x → Inv (fun o => M o ∨ o = some t) (A + 1) x := fun h => h.up (fun o ho => .inl ho) (Nat.le_succ _)
    have key : ∀ y ∈ fulls (bodyW k t (upd p1 (k, zero))), k < y.1 ∧ y.1 < k + half := fun y hy => by
      obtain ⟨z, hz, rfl⟩ := mem_fulls.1 hy
      obtain ⟨q1, q2, _⟩ := bodyW_keys ht hz
      exact ⟨q1, q2⟩
    cases r3 with
    | first e1 e2 => exact up (h.same e1 e2)
    | head0 e1 e2 => exact up (hv.inv e1 hwf.c (by rw [e2]; exact fun _ h => (by cases h)))
    | head1 e1 e2 => exact up ⟨hwf, by rw [e1]; exact hv.h0, by rw [e1]; exact hv.h1, by rw [e1]; exact hv.txt, by rw [e1]; exact hv.age, by rw [e1, e2, hkk]; exact .head⟩
    | body j e1 e2 =>
      refine up (t2a.inv e1 hwf.c ?_)
      rw [e2, t2b]
      intro y hy
      refine key y ?_
      obtain ⟨z, hz, rfl⟩ := mem_fulls.1 hy
      exact mem_fulls.2 ⟨z, List.mem_of_mem_take hz, rfl⟩
    | last0 e1 e2 => exact up (t3a.inv e1 hwf.c (by rw [e2]; exact fun _ h => (by cases h)))
    | last1 e1 e2 =>
      refine ⟨hwf, by rw [e1]; exact t3a.h0, by rw [e1]; exact t3a.h1, by rw [e1]; exact .inl t3a.txt, by rw [e1]; exact Nat.le_trans t3a.age (Nat.le_succ _), ?_⟩
      rw [e1, e2]
      have hl := Form.last (p := putAll (upd p1 (k, zero)) (fulls (bodyW k t (upd p1 (k, zero))))) (M := fun o => M o ∨ o = some t) (A := A + 1) (a := ageV p1 + 1) (n := t.length) (by rw [t3b]; exact hz3) (by rw [t3b]; exact .inr n1) (by rw [t3b, n2]; omega)
      rw [t3b] at hl
      exact hl
end
end MM
end Go.Proofs.YtoacmingocmaaaaGreatDoor
/- What the texts of layer 9 stand on, in a seat of a later layer. -/
namespace Go.Proofs.YtoacmingocmaaaaGreatDoor
open Go.ChangeShapes Go.WideShapes Go.ChangeAt Go.RowKit
namespace M
theorem u64_bounds {n : Int} (h : (Lit.int .u64 n).wf = true) : 0 ≤ n ∧ n ≤ 18446744073709551615 := by
  simp [Lit.wf, IntKind.min, IntKind.max, IntKind.signed, IntKind.bits] at h
  omega
end M
end Go.Proofs.YtoacmingocmaaaaGreatDoor
/- What calls answer at whatever modulus, rows of numbers that a slice reads, and calls that make new memory at most. -/
namespace Go.Proofs.YtoacmingocmaaaaGreatDoor
open Go Go.RowKit Go.Lib
namespace M
/-- A row of numbers that a slice reads. -/
def Row (W : World) (a : Addr) (n : Nat) (z : Nat → Nat) : Prop := ∀ t, t < n → W.cell? (a.add t) = some (.int .u64 (z t : Int))
theorem Row.below {W W' : World} {a : Addr} {n : Nat} {z : Nat → Nat} (h : Row W a n z) (hb : Below W.heap.size W W') : Row W' a n z := fun t ht => by
  have h1 := h t ht
  have hs : (a.add t).block < W.heap.size := World.block_lt_of_cell? W _ h1
  rw [hb.cell hs]; exact h1
theorem Row.of_block {W : World} {b : Nat} {cs : Array Value} {t : TypeId} {n : Nat} {z : Nat → Nat} (h : W.heap[b]? = some (.cells cs t (0, 0))) (hz : ∀ k, k < n → cs[k]? = some (.int .u64 (z k : Int))) : Row W ⟨b, 0, none⟩ n z := fun k hk => by
  have e : (⟨b, 0, none⟩ : Addr).add k = ⟨b, k, none⟩ := by
    unfold Addr.add
    by_cases h0 : k = 0
    · subst h0; rfl
    · rw [if_neg h0]; simp
  rw [e, cell_of_row W b k _ _ _ h, hz k hk]

theorem row_cell {W : World} {b : Nat} {n : Nat} {z : Nat → Nat} (h : Row W ⟨b, 0, none⟩ n z) {k : Nat} (hk : k < n) : W.cell? ⟨b, k, none⟩ = some (.int .u64 ((z k : Nat) : Int)) := by
  have e : (⟨b, 0, none⟩ : Addr).add k = ⟨b, k, none⟩ := by
    unfold Addr.add
    by_cases h0 : k = 0
    · subst h0; rfl
    · rw [if_neg h0]; simp
  rw [← e]; exact h k hk
end M
end Go.Proofs.YtoacmingocmaaaaGreatDoor
/- A row of numbers that a call itself makes, one append behind the other: what it holds, what is kept over steps, appends and the end. -/
namespace Go.Proofs.YtoacmingocmaaaaGreatDoor
open Go Go.RowKit Go.Lib
namespace M
theorem info_u64 : (Tryz.prog.info? 88).map (fun i => (i.zero, i.size, i.bytes)) = some (some (.int .u64 0), 1, 8) := by kernel_rfl
/-- A row's first numbers, as values. -/
def zlist (n : Nat) (z : Nat → Nat) : List Value := (List.range n).map fun k => .int .u64 ((z k : Nat) : Int)
theorem zlist_len (n : Nat) (z : Nat → Nat) : (zlist n z).length = n * 1 := by simp [zlist]
theorem zlist_get {n : Nat} {z : Nat → Nat} {k : Nat} (h : k < n) : (zlist n z)[k]? = some (.int .u64 ((z k : Nat) : Int)) := by simp [zlist, h]
theorem zlist_succ (n : Nat) (z : Nat → Nat) : zlist n z ++ [.int .u64 ((z n : Nat) : Int)] = zlist (n + 1) z := by simp [zlist, List.range_succ]
theorem zlist_congr {n : Nat} {y z : Nat → Nat} (h : ∀ k, k < n → y k = z k) : zlist n y = zlist n z := by
  unfold zlist
  exact List.map_congr_left fun k hk => by rw [h k (List.mem_range.1 hk)]
theorem zlist_cells {W : World} {a : Addr} {n : Nat} {z : Nat → Nat} (h : Row W a n z) : ∀ j u, (zlist n z)[j]? = some u → W.cell? (a.add j) = some u := fun j u hj => by
  have hl := (List.getElem?_eq_some_iff.1 hj).1
  rw [zlist_len] at hl
  rw [zlist_get (by omega)] at hj
  rw [← hj]; exact h j (by omega)
theorem zlist_one (n : Nat) (z : Nat → Nat) : ∀ u ∈ zlist n z, u.oneCell' = true := fun u hu => by
  simp [zlist] at hu
  obtain ⟨k, _, rfl⟩ := hu
  rfl
/-- The row so far: of the call's own memory, behind block B; nothing old has changed. -/
structure Own (w0 : World) (B : Nat) (v : Value) (k : Nat) (z : Nat → Nat) (w : World) : Prop where
  own : w.ownsRow B 88 1 v k (zlist k z)
  size : B ≤ w.heap.size
  low : w0.heap.size ≤ B
  below : Below w0.heap.size w0 w
section
variable {w0 w w' : World} {B k : Nat} {v : Value} {z : Nat → Nat}
theorem Own.start (w0 : World) (z : Nat → Nat) : Own w0 w0.heap.size (.slice none 0 0) 0 z w0 := ⟨⟨by simp [zlist], .inl ⟨rfl, rfl⟩⟩, Nat.le_refl _, Nat.le_refl _, Below.refl _ _⟩
theorem Own.step (h : Own w0 B v k z w) (hb : Below w.heap.size w w') : Own w0 B v k z w' :=
  ⟨h.own.kept (row := none) ⟨hb.os, hb.tape, hb.output, hb.size, fun k hk _ => hb.block k hk⟩ (by cases v.ownBlock <;> simp), Nat.le_trans h.size hb.size, h.low, h.below.trans (hb.mono h.below.size)⟩
theorem Own.drewN (h : Own w0 B v k z w) (n : Nat) : Own w0 B v k z (w.drewN n) := h.step (below_drewN' w n _)
theorem Own.drew (h : Own w0 B v k z w) : Own w0 B v k z w.drew := h.drewN 1
theorem Own.alloc (h : Own w0 B v k z w) (o : Obj) : Own w0 B v k z (w.alloc o) := h.step (below_box _ _)
theorem Own.grow (h : Own w0 B v k z w) {v' : Value} {k' : Nat} {xs : List Value} (ho : w'.ownsRow B 88 1 v' k' xs) (hx : xs = zlist k' z) (hg : w.grownBy w' v.ownBlock) : Own w0 B v' k' z w' :=
  ⟨hx ▸ ho, Nat.le_trans h.size hg.size, h.low,
   h.below.trans ⟨hg.os, hg.tape, hg.output, hg.size, fun j hj => hg.block j (Nat.lt_of_lt_of_le hj h.below.size) (fun e => by have := (h.own.lt j e.symm).1; have := h.low; omega)⟩⟩
/-- What the row reads as. -/
theorem Own.row (h : Own w0 B v k z w) : (v = .slice none 0 0 ∧ k = 0) ∨ ∃ g c, v = .slice (some ⟨g, 0, none⟩) k c ∧ B ≤ g ∧ k ≤ c ∧ c ≤ maxLen ∧ Row w ⟨g, 0, none⟩ k z := by
  obtain ⟨_, h1 | ⟨g, cap, cur, h1, h2, h3, h4, h5, _, h7⟩⟩ := h.own
  · exact .inl h1
  · refine .inr ⟨g, cap, h1, h2, h4, h5, Row.of_block h3 fun j hj => ?_⟩
    have e1 : (cur.toList.take (k * 1))[j]? = (zlist k z)[j]? := by rw [h7]
    rw [zlist_get hj, List.getElem?_take_of_lt (by omega)] at e1
    simpa using e1
end
/-- A call that hands back a row of its own: n numbers z, in new memory; nothing old has changed. A plain definition: the walk does not look into it. -/
def Gives (W : World) (n : Nat) (z : Nat → Nat) (e : Ending) (w' : World) : Prop := ∃ v, e = .returned v ∧ w'.ownsRow W.heap.size 88 1 v n (zlist n z) ∧ Below W.heap.size W w'
theorem Own.gives {w0 w : World} {B k : Nat} {v : Value} {z : Nat → Nat} (h : Own w0 B v k z w) : Gives w0 k z (.returned v) w := ⟨v, rfl, by
  obtain ⟨h1, h2⟩ := h.own
  refine ⟨h1, h2.imp id fun ⟨g, cap, cur, a, b, c⟩ => ⟨g, cap, cur, a, Nat.le_trans h.low b, c⟩⟩, h.below⟩
/-- Numbers that a slice reads, whatever its address while there is none. -/
def Rd (W : World) (ao : Option Addr) (n : Nat) (z : Nat → Nat) : Prop := 0 < n → ∃ ad, ao = some ad ∧ Row W ad n z
theorem Rd.below {W W' : World} {ao : Option Addr} {n : Nat} {z : Nat → Nat} (h : Rd W ao n z) (hb : Below W.heap.size W W') : Rd W' ao n z := fun hn => let ⟨ad, e, hr⟩ := h hn; ⟨ad, e, hr.below hb⟩
theorem Rd.at_ {W : World} {ao : Option Addr} {n : Nat} {z : Nat → Nat} (h : Rd W ao n z) {k : Nat} (hk : k < n) : ∃ ad, ao = some ad ∧ W.cell? (ad.add k) = some (.int .u64 ((z k : Nat) : Int)) := let ⟨ad, e, hr⟩ := h (by omega); ⟨ad, e, hr k hk⟩
theorem Own.rd {w0 w : World} {B k : Nat} {v : Value} {z : Nat → Nat} (h : Own w0 B v k z w) : ∃ ao c, v = .slice ao k c ∧ k ≤ c ∧ c ≤ maxLen ∧ Rd w ao k z := by
  rcases h.row with ⟨rfl, rfl⟩ | ⟨g, c, rfl, _, h1, h2, hr⟩
  · exact ⟨none, 0, rfl, Nat.le_refl _, Nat.zero_le _, fun hn => absurd hn (by omega)⟩
  · exact ⟨_, c, rfl, h1, h2, fun _ => ⟨_, rfl, hr⟩⟩
end M
end Go.Proofs.YtoacmingocmaaaaGreatDoor
/- A row of numbers that a call itself makes whole (make), and writes cell by cell: what it holds, what is kept, what it is at the end. -/
namespace Go.Proofs.YtoacmingocmaaaaGreatDoor
open Go Go.RowKit Go.Lib
namespace M
/-- Block B holds the n numbers z, one a cell, none frozen; it lies behind all that was there at w0; nothing of that has changed. -/
structure Mine (w0 : World) (B n : Nat) (z : Nat → Nat) (w : World) : Prop where
  block : ∃ cs : Array Value, w.heap[B]? = some (.cells cs 88 (0, 0)) ∧ cs.size = n ∧ ∀ k, k < n → cs[k]? = some (.int .u64 ((z k : Nat) : Int))
  low : w0.heap.size ≤ B
  below : Below w0.heap.size w0 w
section
variable {w0 w w' : World} {B n : Nat} {z y : Nat → Nat}
theorem Mine.lt (h : Mine w0 B n z w) : B < w.heap.size := by obtain ⟨cs, h1, _⟩ := h.block; exact row_lt h1
theorem Mine.step (h : Mine w0 B n z w) (hb : Below w.heap.size w w') : Mine w0 B n z w' :=
  ⟨by obtain ⟨cs, h1, h2⟩ := h.block; exact ⟨cs, (hb.block B h.lt).trans h1, h2⟩, h.low, h.below.trans (hb.mono h.below.size)⟩
theorem Mine.drewN (h : Mine w0 B n z w) (m : Nat) : Mine w0 B n z (w.drewN m) := h.step (below_drewN' w m _)
theorem Mine.alloc (h : Mine w0 B n z w) (o : Obj) : Mine w0 B n z (w.alloc o) := h.step (below_box _ _)
theorem Mine.congr (h : Mine w0 B n z w) (hz : ∀ k, k < n → z k = y k) : Mine w0 B n y w :=
  ⟨by obtain ⟨cs, h1, h2, h3⟩ := h.block; exact ⟨cs, h1, h2, fun k hk => by rw [h3 k hk, hz k hk]⟩, h.low, h.below⟩
theorem Mine.cell (h : Mine w0 B n z w) {k : Nat} (hk : k < n) : w.cell? ⟨B, k, none⟩ = some (.int .u64 ((z k : Nat) : Int)) := by
  obtain ⟨cs, h1, _, h3⟩ := h.block
  rw [cell_of_row w B k _ _ _ h1, h3 k hk]
theorem Mine.free (h : Mine w0 B n z w) (k : Nat) : w.frozen? ⟨B, k, none⟩ = false := by
  obtain ⟨cs, h1, _⟩ := h.block
  simp [World.frozen?, h1]
/-- One cell is written. -/
theorem Mine.set (h : Mine w0 B n z w) (k x : Nat) (hy : ∀ j, j < n → y j = if j = k then x else z j) : Mine w0 B n y (w.setCell ⟨B, k, none⟩ (.int .u64 (x : Int))) := by
  refine ⟨?_, h.low, h.below.setCell (p := ⟨B, k, none⟩) h.low _⟩
  obtain ⟨cs, h1, h2, h3⟩ := h.block
  refine ⟨_, heap_setCell_same w B k cs _ _ h1, by simpa using h2, fun j hj => ?_⟩
  rw [hy j hj, Array.getElem?_setIfInBounds]
  by_cases e : k = j
  · subst e; rw [if_pos rfl, if_pos (by omega), if_pos rfl]
  · rw [if_neg e, if_neg (fun h => e h.symm), h3 j hj]
theorem Mine.row (h : Mine w0 B n z w) : Row w ⟨B, 0, none⟩ n z := by
  obtain ⟨cs, h1, _, h3⟩ := h.block
  exact Row.of_block h1 h3
theorem Mine.rd (h : Mine w0 B n z w) : Rd w (some ⟨B, 0, none⟩) n z := fun _ => ⟨_, rfl, h.row⟩
theorem Mine.own (h : Mine w0 B n z w) (hn : n ≤ maxLen) : w.ownsRow w0.heap.size 88 1 (.slice (some ⟨B, 0, none⟩) n n) n (zlist n z) := by
  obtain ⟨cs, h1, h2, h3⟩ := h.block
  refine ⟨by simp [zlist], .inr ⟨B, n, cs, rfl, h.low, h1, Nat.le_refl _, hn, by omega, ?_⟩⟩
  apply List.ext_getElem?
  intro k
  by_cases hk : k < n
  · rw [zlist_get hk, List.getElem?_take_of_lt (by omega), Array.getElem?_toList, h3 k hk]
  · rw [List.getElem?_eq_none (by simp; omega), List.getElem?_eq_none (by rw [zlist_len]; omega)]
theorem Mine.gives (h : Mine w0 B n z w) (hn : n ≤ maxLen) : Gives w0 n z (.returned (.slice (some ⟨B, 0, none⟩) n n)) w := ⟨_, rfl, h.own hn, h.below⟩
/-- The row as make leaves it. -/
theorem Mine.made (w0 : World) (n : Nat) : Mine w0 w0.heap.size n (fun _ => 0) (w0.alloc (.cells (madeCells (Value.int .u64 0).cells (n * 1)) 88)) := by
  refine ⟨⟨_, heap_alloc_new _ _, by rw [size_madeCells, Nat.mul_one], fun k hk => ?_⟩, Nat.le_refl _, below_box _ _⟩
  simp [madeCells, hk, Value.cells, Nat.mod_one]
end
/-- All old blocks but B are as they were. -/
def Kept (B : Nat) (W w : World) : Prop := ∀ k, k < W.heap.size → k ≠ B → w.heap[k]? = W.heap[k]?
theorem Kept.refl (B : Nat) (W : World) : Kept B W W := fun _ _ _ => rfl
theorem Kept.drewN {B : Nat} {W w : World} (h : Kept B W w) (n : Nat) : Kept B W (w.drewN n) := fun k a b => h k a b
theorem Kept.setCell {B : Nat} {W w : World} (h : Kept B W w) (i : Nat) (v : Value) : Kept B W (w.setCell ⟨B, i, none⟩ v) := fun k a b => (Below.heap_setCell w ⟨B, i, none⟩ v k b).trans (h k a b)
theorem Kept.below {B : Nat} {W w w' : World} (h : Kept B W w) (hb : Below W.heap.size w w') : Kept B W w' := fun k a b => (hb.block k a).trans (h k a b)
end M
end Go.Proofs.YtoacmingocmaaaaGreatDoor

/- The texts SltMath, SltSave, one behind the other. -/
import Derived.Test.YtoacmingocmaaaaGreatDoorWB1
import Derived.Test.YtoacmingocmaaaaGreatDoorWB8
/- The two slots of a disk, what each call makes of them, and what follows, without a program. -/
namespace Go.Proofs.YtoacmingocmaaaaGreatDoor
namespace MM
abbrev most : Nat := 16776704
abbrev top : Nat := 1099511627776
abbrev half : Int := 32768
/-- What a header says: an age (0: the slot is not valid), and a length. -/
def headOf (t : By) : Nat × Nat :=
  if 24 ≤ t.length ∧ val (t.take 8) ≤ top ∧ val ((t.drop 8).take 8) ≤ most ∧ val ((t.drop 16).take 8) ≤ top ∧ val (t.take 8) = val ((t.drop 16).take 8) then (val (t.take 8), val ((t.drop 8).take 8)) else (0, 0)
theorem headOf_len (t : By) : (headOf t).2 ≤ most := by
  unfold headOf; split
  · rename_i h; exact h.2.2.1
  · exact Nat.zero_le _
theorem headOf_age (t : By) : (headOf t).1 ≤ top := by
  unfold headOf; split
  · rename_i h; exact h.2.1
  · exact Nat.zero_le _
theorem headOf_nil : headOf [] = (0, 0) := by unfold headOf; rw [if_neg (by simp)]
/-- A slot, as its header has it. -/
structure Sl where
  at_ : Int
  age : Nat
  len : Nat
def slotV (v : Int → By) (k : Int) : Sl := ⟨k, (headOf (v k)).1, (headOf (v k)).2⟩
/-- Is the first slot the newest one? -/
def firstV (v : Int → By) : Bool := decide (0 < (slotV v 0).age) && decide ((slotV v half).age ≤ (slotV v 0).age)
def newV (v : Int → By) : Sl := if firstV v then slotV v 0 else slotV v half
def othV (v : Int → By) : Sl := if firstV v then slotV v half else slotV v 0
def ageV (v : Int → By) : Nat := (newV v).age
def secs (n : Nat) : Nat := (n + 511) / 512
/-- The first i sectors behind a header. -/
def rows (v : Int → By) (k : Int) (i : Nat) : By := (List.range i).flatMap fun (j : Nat) => v (k + 1 + (j : Int))
def bodyV (v : Int → By) (k : Int) (n : Nat) : By := (rows v k (secs n)).take n
def textV (v : Int → By) : Option By := if ageV v = 0 then none else some (bodyV v (newV v).at_ (newV v).len)
theorem newV_at (v : Int → By) : (newV v).at_ = 0 ∨ (newV v).at_ = half := by unfold newV; split <;> simp [slotV]
theorem othV_at (v : Int → By) : ((othV v).at_ = 0 ∧ (newV v).at_ = half ∧ firstV v = false) ∨ ((othV v).at_ = half ∧ (newV v).at_ = 0 ∧ firstV v = true) := by
  unfold othV newV; cases firstV v <;> simp [slotV]
theorem newV_is (v : Int → By) : newV v = slotV v (newV v).at_ := by unfold newV; split <;> rfl
theorem ageV_le (v : Int → By) : ageV v ≤ top := by unfold ageV; rw [newV_is]; exact headOf_age _
theorem newV_len (v : Int → By) : (newV v).len ≤ most := by rw [newV_is]; exact headOf_len _
theorem rows_succ (v : Int → By) (k : Int) (i : Nat) : rows v k (i + 1) = rows v k i ++ v (k + 1 + (i : Int)) := by simp [rows, List.range_succ]
theorem rows_len {v : Int → By} {k : Int} : ∀ {i : Nat}, (∀ j : Nat, j < i → (v (k + 1 + (j : Int))).length = 512) → (rows v k i).length = 512 * i
  | 0, _ => rfl
  | i + 1, h => by
    rw [rows_succ, List.length_append, rows_len (i := i) (fun j hj => h j (by omega)), h i (by omega)]; omega
theorem rows_congr {v u : Int → By} {k : Int} : ∀ {i : Nat}, (∀ j : Nat, j < i → v (k + 1 + (j : Int)) = u (k + 1 + (j : Int))) → rows v k i = rows u k i
  | 0, _ => rfl
  | i + 1, h => by rw [rows_succ, rows_succ, rows_congr (i := i) (fun j hj => h j (by omega)), h i (by omega)]
theorem secs_le {n : Nat} (h : n ≤ most) : secs n ≤ 32767 := by unfold secs most at *; omega
theorem secs_ge (n : Nat) : n ≤ 512 * secs n := by unfold secs; omega
theorem secs_lt {n i : Nat} (h : i < secs n) : 512 * i < n := by unfold secs at h; omega
theorem slotV_congr {v u : Int → By} {k : Int} (h : v k = u k) : slotV v k = slotV u k := by unfold slotV; rw [h]
theorem bodyV_congr {v u : Int → By} {k : Int} {n : Nat} (hn : n ≤ most) (h : ∀ x, k < x → x < k + half → v x = u x) : bodyV v k n = bodyV u k n := by
  have := secs_le hn
  unfold bodyV
  rw [rows_congr fun j hj => h _ (by omega) (by unfold half; omega)]
theorem firstV_congr {v u : Int → By} (h0 : (slotV v 0).age = (slotV u 0).age) (h1 : (slotV v half).age = (slotV u half).age) : firstV v = firstV u := by unfold firstV; rw [h0, h1]
/-- Slots are alike where all sectors are. -/
theorem all_congr {v u : Int → By} (h : ∀ k, sec k = true → v k = u k) : newV v = newV u ∧ othV v = othV u ∧ textV v = textV u := by
  have h0 : slotV v 0 = slotV u 0 := slotV_congr (h 0 (by decide))
  have h1 : slotV v half = slotV u half := slotV_congr (h half (by decide))
  have hf : firstV v = firstV u := firstV_congr (by rw [h0]) (by rw [h1])
  have hn : newV v = newV u := by unfold newV; rw [hf, h0, h1]
  refine ⟨hn, by unfold othV; rw [hf, h0, h1], ?_⟩
  unfold textV ageV
  rw [hn]
  split
  · rfl
  · rw [bodyV_congr (newV_len u) fun x hx hy => h x (sec_yes.2 (by rcases newV_at u with e | e <;> rw [e] at hx hy <;> unfold half at * <;> omega))]
/-- The older slot may turn: the text stays. -/
theorem text_keep {p q : Int → By} {k : Int} (hk : (othV p).at_ = k) (h : ∀ x, sec x = true → ¬ (k ≤ x ∧ x < k + half) → q x = p x) (hh : (headOf (q k)).1 = 0 ∨ headOf (q k) = headOf (p k)) :
    textV q = textV p ∧ ageV q = ageV p ∧ (othV q).at_ = k ∧ (newV q).at_ = (newV p).at_ ∧ firstV q = firstV p := by
  have body : ∀ b : Int, (b = 0 ∨ b = half) → b ≠ k → ∀ n, n ≤ most → (k = 0 ∨ k = half) → bodyV q b n = bodyV p b n := fun b hb hbk n hn hk2 =>
    bodyV_congr hn fun x hx hy => h x (sec_yes.2 (by rcases hb with rfl | rfl <;> unfold half at * <;> omega)) (by rcases hb with rfl | rfl <;> rcases hk2 with rfl | rfl <;> unfold half at * <;> omega)
  rcases othV_at p with ⟨e1, e2, e3⟩ | ⟨e1, e2, e3⟩
  · rw [e1] at hk; subst hk
    have hH : slotV q half = slotV p half := slotV_congr (h half (by decide) (by unfold half; omega))
    have hf : firstV q = false := by
      unfold firstV at e3 ⊢
      rw [hH]
      show (decide (0 < (headOf (q 0)).1) && decide ((slotV p half).age ≤ (headOf (q 0)).1)) = false
      rcases hh with h0 | h0
      · rw [h0]; rfl
      · rw [h0]; exact e3
    have hn : newV q = newV p := by unfold newV; rw [hf, e3, hH]; simp
    refine ⟨?_, by unfold ageV; rw [hn], by unfold othV; rw [hf]; rfl, by rw [hn], by rw [hf, e3]⟩
    unfold textV ageV
    rw [hn, e2]
    split
    · rfl
    · rw [body half (.inr rfl) (by decide) _ (newV_len p) (.inl rfl)]
  · rw [e1] at hk; subst hk
    have h0 : slotV q 0 = slotV p 0 := slotV_congr (h 0 (by decide) (by unfold half; omega))
    have hf : firstV q = true := by
      unfold firstV at e3 ⊢
      rw [h0]
      simp only [Bool.and_eq_true, decide_eq_true_eq] at e3 ⊢
      refine ⟨e3.1, ?_⟩
      show (headOf (q half)).1 ≤ _
      rcases hh with h1 | h1
      · rw [h1]; exact Nat.zero_le _
      · rw [h1]; exact e3.2
    have hn : newV q = newV p := by unfold newV; rw [hf, e3, h0]; simp
    refine ⟨?_, by unfold ageV; rw [hn], by unfold othV; rw [hf]; rfl, by rw [hn], by rw [hf, e3]⟩
    unfold textV ageV
    rw [hn, e2]
    split
    · rfl
    · rw [body 0 (.inl rfl) (by decide) _ (newV_len p) (.inr rfl)]
/-! Operations, one behind the other. -/
inductive SOp where
  | sync : SOp
  | wr : Int → By → SOp
def SOp.ok : SOp → Prop
  | .sync => True
  | .wr k t => sec k = true ∧ t.length ≤ 512
def Dsk.op (s : Dsk) : SOp → Nat × Dsk
  | .sync => s.sync
  | .wr k t => s.write k t
def Dsk.ops : Dsk → List SOp → Nat × Dsk
  | s, [] => (0, s)
  | s, o :: l => if (s.op o).1 = 0 then (s.op o).2.ops l else s.op o
theorem ops_nil (s : Dsk) : s.ops [] = (0, s) := rfl
theorem ops_cons (s : Dsk) (o : SOp) (l : List SOp) : s.ops (o :: l) = if (s.op o).1 = 0 then (s.op o).2.ops l else s.op o := rfl
theorem ops_append : ∀ (a b : List SOp) (s : Dsk), s.ops (a ++ b) = if (s.ops a).1 = 0 then (s.ops a).2.ops b else s.ops a
  | [], b, s => by simp [ops_nil]
  | o :: a, b, s => by
    rw [List.cons_append, ops_cons, ops_cons]
    by_cases h : (s.op o).1 = 0
    · rw [if_pos h, if_pos h, ops_append a b]
    · rw [if_neg h, if_neg h, if_neg h]
theorem ops_one (s : Dsk) (o : SOp) : s.ops [o] = s.op o := by
  rw [ops_cons]
  by_cases h : (s.op o).1 = 0
  · rw [if_pos h, ops_nil, ← h]
  · rw [if_neg h]
theorem Dsk.Wf.ops : ∀ {l : List SOp} {s : Dsk}, s.Wf → (s.ops l).2.Wf
  | [], s, h => h
  | o :: l, s, h => by
    have h1 : (s.op o).2.Wf := by cases o with
      | sync => exact h.sync
      | wr k t => exact h.write k t
    rw [ops_cons]
    split
    · exact Dsk.Wf.ops h1
    · exact h1
/-- One operation of a disk that is not dead. -/
theorem op_live {s : Dsk} (hd : s.dead = false) (o : SOp) (ho : o.ok) : (s.fuse = some 0 ∧ s.op o = (42, s.died)) ∨ (s.fuse ≠ some 0 ∧ (s.op o).1 = 0 ∧ (s.op o).2.dead = false ∧ (s.op o).2.fuse = s.fuse.map (· - 1)) := by
  cases o with
  | sync =>
    show _ ∧ s.sync = _ ∨ _ ∧ s.sync.1 = 0 ∧ s.sync.2.dead = false ∧ s.sync.2.fuse = _
    unfold Dsk.sync
    rw [hd]
    by_cases h : s.fuse = some 0
    · exact .inl ⟨h, by simp [h]⟩
    · refine .inr ⟨h, ?_⟩
      simp only [if_neg h]
      exact ⟨rfl, hd, rfl⟩
  | wr k t =>
    show _ ∧ s.write k t = _ ∨ _ ∧ (s.write k t).1 = 0 ∧ (s.write k t).2.dead = false ∧ (s.write k t).2.fuse = _
    unfold Dsk.write
    rw [hd, ho.1]
    have h2 : ¬ 512 < t.length := by have := ho.2; omega
    by_cases h : s.fuse = some 0
    · exact .inl ⟨h, by simp [h, h2]⟩
    · refine .inr ⟨h, ?_⟩
      simp only [if_neg h, if_neg h2]
      exact ⟨rfl, hd, rfl⟩
/-- How many are done: as many as the fuse lets be done. -/
theorem ops_count : ∀ {l : List SOp} {s : Dsk}, s.dead = false → (∀ o ∈ l, o.ok) →
    ((s.ops l).1 = 0 ∧ (s.ops l).2.dead = false ∧ (s.ops l).2.fuse = s.fuse.map (· - l.length) ∧ ∀ f, s.fuse = some f → l.length ≤ f) ∨ ((s.ops l).1 = 42 ∧ (s.ops l).2.dead = true ∧ ∃ f, s.fuse = some f ∧ f < l.length)
  | [], s, hd, _ => .inl ⟨rfl, hd, by rw [ops_nil]; cases s.fuse <;> simp, fun f _ => Nat.zero_le _⟩
  | o :: l, s, hd, h => by
    rw [ops_cons]
    rcases op_live hd o (h o (by simp)) with ⟨h1, h2⟩ | ⟨h1, h2, h3, h4⟩
    · rw [h2]
      exact .inr ⟨rfl, rfl, 0, h1, by simp⟩
    · rw [if_pos h2]
      have hf1 : ∀ f, s.fuse = some f → 1 ≤ f := fun f hf => by
        rcases Nat.eq_zero_or_pos f with e | e
        · exact absurd (e ▸ hf) h1
        · exact e
      rcases ops_count (l := l) h3 (fun x hx => h x (by simp [hx])) with ⟨k1, k2, k3, k4⟩ | ⟨k1, k2, f, k3, k4⟩
      · refine .inl ⟨k1, k2, ?_, fun f hf => ?_⟩
        · rw [k3, h4]
          cases s.fuse with
          | none => rfl
          | some f => simp; omega
        · rw [h4, hf] at k4
          have := k4 (f - 1) rfl
          have := hf1 f hf
          simp; omega
      · rw [h4] at k3
        cases hf : s.fuse with
        | none => rw [hf] at k3; cases k3
        | some f0 =>
          rw [hf] at k3
          have : f0 - 1 = f := by simpa using k3
          have := hf1 f0 hf
          exact .inr ⟨k1, k2, f0, rfl, by simp; omega⟩
/-- Writes, one behind the other. -/
def wrs (l : List (Int × By)) : List SOp := l.map fun x => .wr x.1 x.2
def fulls (l : List (Int × By)) : List (Int × By) := l.map fun x => (x.1, full x.2)
theorem wrs_append (a b : List (Int × By)) : wrs (a ++ b) = wrs a ++ wrs b := by simp [wrs]
theorem fulls_append (a b : List (Int × By)) : fulls (a ++ b) = fulls a ++ fulls b := by simp [fulls]
theorem wrs_len (a : List (Int × By)) : (wrs a).length = a.length := by simp [wrs]
theorem fulls_len (a : List (Int × By)) : (fulls a).length = a.length := by simp [fulls]
def Fine (l : List (Int × By)) : Prop := ∀ x ∈ l, sec x.1 = true ∧ x.2.length ≤ 512
theorem Fine.ok {l : List (Int × By)} (h : Fine l) : ∀ o ∈ wrs l, o.ok := fun o ho => by
  obtain ⟨x, hx, rfl⟩ := List.mem_map.1 ho
  exact h x hx
theorem wrs_run : ∀ {l : List (Int × By)} {s : Dsk}, s.dead = false → Fine l →
    ((s.ops (wrs l)).1 = 0 ∧ (s.ops (wrs l)).2.dead = false ∧ (s.ops (wrs l)).2.p = s.p ∧ (s.ops (wrs l)).2.c = s.c ++ fulls l) ∨
    ((s.ops (wrs l)).1 = 42 ∧ (s.ops (wrs l)).2.dead = true ∧ (s.ops (wrs l)).2.p = s.p ∧ ∃ j, (s.ops (wrs l)).2.c = s.c ++ fulls (l.take j))
  | [], s, hd, _ => .inl ⟨rfl, hd, rfl, by show s.c = _; simp [fulls]⟩
  | x :: l, s, hd, h => by
    have hx := h x (by simp)
    have hl : Fine l := fun y hy => h y (by simp [hy])
    show _ ∧ _ ∨ _ ∧ _
    rw [show wrs (x :: l) = .wr x.1 x.2 :: wrs l from rfl, ops_cons]
    rcases op_live hd (.wr x.1 x.2) hx with ⟨h1, h2⟩ | ⟨h1, h2, h3, h4⟩
    · rw [h2]
      exact .inr ⟨rfl, rfl, rfl, 0, by simp [Dsk.died, fulls]⟩
    · rw [if_pos h2]
      have e : (s.op (.wr x.1 x.2)).2 = { s.burnt with c := s.c ++ [(x.1, full x.2)] } := by
        show (s.write x.1 x.2).2 = _
        unfold Dsk.write
        rw [hd, hx.1]
        have : ¬ 512 < x.2.length := by have := hx.2; omega
        simp [h1, this]
      have ep : (s.op (.wr x.1 x.2)).2.p = s.p := by rw [e]; rfl
      have ec : (s.op (.wr x.1 x.2)).2.c = s.c ++ [(x.1, full x.2)] := by rw [e]
      rcases wrs_run h3 hl with ⟨k1, k2, k3, k4⟩ | ⟨k1, k2, k3, j, k4⟩
      · exact .inl ⟨k1, k2, k3.trans ep, by rw [k4, ec]; simp [fulls]⟩
      · exact .inr ⟨k1, k2, k3.trans ep, j + 1, by rw [k4, ec]; simp [fulls]⟩
theorem sync_run {s : Dsk} (hd : s.dead = false) : ((s.op .sync).1 = 0 ∧ (s.op .sync).2.dead = false ∧ (s.op .sync).2.p = putAll s.p s.c ∧ (s.op .sync).2.c = []) ∨ ((s.op .sync).1 = 42 ∧ (s.op .sync).2.dead = true ∧ (s.op .sync).2.p = s.p ∧ (s.op .sync).2.c = s.c) := by
  rcases op_live hd .sync trivial with ⟨h1, h2⟩ | ⟨h1, h2, h3, h4⟩
  · rw [h2]; exact .inr ⟨rfl, rfl, rfl, rfl⟩
  · have e : (s.op .sync).2 = { s.burnt with p := putAll s.p s.c, c := [] } := by
      show s.sync.2 = _
      unfold Dsk.sync; rw [hd]; simp [h1]
    exact .inl ⟨h2, h3, by rw [e], by rw [e]⟩
end MM
end Go.Proofs.YtoacmingocmaaaaGreatDoor
/- What writing a text makes of a disk: where it stops, and what stands then. -/
namespace Go.Proofs.YtoacmingocmaaaaGreatDoor
namespace MM
/-- The bytes of a header. -/
def hdr (a n : Nat) : By := dig a 8 ++ dig n 8 ++ dig a 8
theorem hdr_len (a n : Nat) : (hdr a n).length = 24 := by simp [hdr]
/-- A text, sector by sector. -/
def pce (t : By) (i : Nat) : By := (t.drop (512 * i)).take 512
def texts (k : Int) (t : By) : List (Int × By) := (List.range (secs t.length)).map fun (i : Nat) => (k + (i : Int), pce t i)
theorem texts_len (k : Int) (t : By) : (texts k t).length = secs t.length := by simp [texts]
/-- The sectors of a range that are not all 00. -/
def wipeL (p : Int → By) (a b : Int) : List Int := ((List.range (b - a).toNat).map fun (i : Nat) => a + (i : Int)).filter fun k => decide (p k ≠ zero)
def wipes (l : List Int) : List (Int × By) := l.map fun k => (k, [])
def preOps (k : Int) (t : By) : List SOp := [.sync, .wr k [], .sync] ++ wrs (texts (k + 1) t)
def postOps (k : Int) (a : Nat) (t : By) (p : Int → By) : List SOp := wrs (wipes (wipeL p (k + 1 + (secs t.length : Int)) (k + half))) ++ [.sync, .wr k (hdr a t.length), .sync]
def Dsk.save (s : Dsk) (t : By) : Nat × Dsk :=
  if s.dead then (42, s) else if most < t.length then (10, s) else if ageV s.read = top then (41, s) else
    if (s.ops (preOps (othV s.read).at_ t)).1 = 0 then (s.ops (preOps (othV s.read).at_ t)).2.ops (postOps (othV s.read).at_ (ageV s.read + 1) t (s.ops (preOps (othV s.read).at_ t)).2.p) else s.ops (preOps (othV s.read).at_ t)
def Dsk.twice (s : Dsk) (t : By) : Nat × Dsk := if (s.save t).1 = 0 then (s.save t).2.save t else s.save t
theorem pce_len (t : By) (i : Nat) : (pce t i).length ≤ 512 := by unfold pce; rw [List.length_take]; omega
theorem mem_wipeL {p : Int → By} {a b k : Int} : k ∈ wipeL p a b ↔ a ≤ k ∧ k < b ∧ p k ≠ zero := by
  unfold wipeL
  rw [List.mem_filter, List.mem_map]
  constructor
  · rintro ⟨⟨i, hi, rfl⟩, h⟩
    have := List.mem_range.1 hi
    exact ⟨by omega, by omega, by simpa using h⟩
  · rintro ⟨h1, h2, h3⟩
    exact ⟨⟨(k - a).toNat, List.mem_range.2 (by omega), by omega⟩, by simpa using h3⟩
theorem wipeL_asc (p : Int → By) (a b : Int) : (wipeL p a b).Pairwise (· < ·) := by
  unfold wipeL
  refine List.Pairwise.filter _ ?_
  rw [List.pairwise_map]
  exact List.Pairwise.imp (fun h => by omega) List.pairwise_lt_range
theorem mem_texts {k : Int} {t : By} {x : Int × By} : x ∈ texts k t ↔ ∃ i : Nat, i < secs t.length ∧ x = (k + (i : Int), pce t i) := by
  unfold texts
  rw [List.mem_map]
  constructor
  · rintro ⟨i, hi, rfl⟩; exact ⟨i, List.mem_range.1 hi, rfl⟩
  · rintro ⟨i, hi, rfl⟩; exact ⟨i, List.mem_range.2 hi, rfl⟩
theorem texts_asc (k : Int) (t : By) : (texts k t).Pairwise fun x y => x.1 < y.1 := by
  unfold texts
  rw [List.pairwise_map]
  exact List.Pairwise.imp (fun h => by simp only; omega) List.pairwise_lt_range
theorem mem_wipes {l : List Int} {x : Int × By} : x ∈ wipes l ↔ ∃ k ∈ l, x = (k, []) := by
  unfold wipes; rw [List.mem_map]
  exact ⟨fun ⟨k, h, e⟩ => ⟨k, h, e.symm⟩, fun ⟨k, h, e⟩ => ⟨k, h, e.symm⟩⟩
/-- All the writes behind the header's 00s. -/
def bodyW (k : Int) (t : By) (p : Int → By) : List (Int × By) := texts (k + 1) t ++ wipes (wipeL p (k + 1 + (secs t.length : Int)) (k + half))
section
variable {k : Int} {t : By} {p : Int → By}
theorem bodyW_keys (ht : t.length ≤ most) {x : Int × By} (hx : x ∈ bodyW k t p) : k < x.1 ∧ x.1 < k + half ∧ x.2.length ≤ 512 := by
  have := secs_le ht
  rcases List.mem_append.1 hx with h | h
  · obtain ⟨i, hi, rfl⟩ := mem_texts.1 h
    exact ⟨by show k < k + 1 + (i : Int); omega, by show k + 1 + (i : Int) < _; unfold half; omega, pce_len _ _⟩
  · obtain ⟨j, hj, rfl⟩ := mem_wipes.1 h
    obtain ⟨h1, h2, _⟩ := mem_wipeL.1 hj
    exact ⟨by show k < j; omega, h2, by simp⟩
theorem bodyW_fine (ht : t.length ≤ most) (hk : k = 0 ∨ k = half) : Fine (bodyW k t p) := fun x hx => by
  obtain ⟨h1, h2, h3⟩ := bodyW_keys ht hx
  exact ⟨sec_yes.2 (by rcases hk with rfl | rfl <;> unfold half at * <;> omega), h3⟩
theorem bodyW_asc : (bodyW k t p).Pairwise fun x y => x.1 < y.1 := by
  unfold bodyW
  refine List.pairwise_append.2 ⟨texts_asc _ _, ?_, fun x hx y hy => ?_⟩
  · unfold wipes; rw [List.pairwise_map]; exact wipeL_asc _ _ _
  · obtain ⟨i, hi, rfl⟩ := mem_texts.1 hx
    obtain ⟨j, hj, rfl⟩ := mem_wipes.1 hy
    obtain ⟨h1, _, _⟩ := mem_wipeL.1 hj
    show k + 1 + (i : Int) < j
    omega
end
theorem putAll_other {q : Int → By} {c : List (Int × By)} {k : Int} (h : ∀ x ∈ c, x.1 ≠ k) : putAll q c k = q k := by
  rw [putAll_last, lastOf_miss (fun j y hj => h y (List.mem_of_getElem? hj))]; rfl
theorem putAll_in : ∀ {c : List (Int × By)} {q : Int → By} {x : Int × By}, c.Pairwise (fun x y => x.1 < y.1) → x ∈ c → putAll q c x.1 = x.2
  | [], _, _, _, h => by simp at h
  | y :: c, q, x, hp, h => by
    rw [putAll_cons]
    rcases List.mem_cons.1 h with rfl | h
    · rw [putAll_other (fun z hz => by have := (List.pairwise_cons.1 hp).1 z hz; omega), upd_same]
    · exact putAll_in (List.pairwise_cons.1 hp).2 h
theorem fulls_asc {l : List (Int × By)} (h : l.Pairwise fun x y => x.1 < y.1) : (fulls l).Pairwise fun x y => x.1 < y.1 := by
  unfold fulls; rw [List.pairwise_map]; exact h
theorem mem_fulls {l : List (Int × By)} {x : Int × By} : x ∈ fulls l ↔ ∃ y ∈ l, x = (y.1, full y.2) := by
  unfold fulls; rw [List.mem_map]
  exact ⟨fun ⟨k, h, e⟩ => ⟨k, h, e.symm⟩, fun ⟨k, h, e⟩ => ⟨k, h, e.symm⟩⟩
/-- What a slot has behind the writes. -/
structure Slotted (q : Int → By) (k : Int) (t : By) (v : Int → By) : Prop where
  text : ∀ i : Nat, i < secs t.length → v (k + 1 + (i : Int)) = full (pce t i)
  rest : ∀ x, k + 1 + (secs t.length : Int) ≤ x → x < k + half → v x = zero
  out : ∀ x, ¬ (k < x ∧ x < k + half) → v x = q x
theorem bodyW_put {k : Int} {t : By} {q : Int → By} (ht : t.length ≤ most) : Slotted q k t (putAll q (fulls (bodyW k t q))) := by
  refine ⟨fun i hi => ?_, fun x h1 h2 => ?_, fun x hx => ?_⟩
  · exact putAll_in (x := (k + 1 + (i : Int), full (pce t i))) (fulls_asc bodyW_asc) (mem_fulls.2 ⟨_, List.mem_append.2 (.inl (mem_texts.2 ⟨i, hi, rfl⟩)), rfl⟩)
  · by_cases hz : q x = zero
    · rw [putAll_other, hz]
      intro y hy e
      obtain ⟨z, hz2, rfl⟩ := mem_fulls.1 hy
      rcases List.mem_append.1 hz2 with h | h
      · obtain ⟨i, hi, rfl⟩ := mem_texts.1 h
        have e : k + 1 + (i : Int) = x := e
        omega
      · obtain ⟨j, hj, rfl⟩ := mem_wipes.1 h
        have e : j = x := e
        exact (mem_wipeL.1 hj).2.2 (e ▸ hz)
    · have := putAll_in (q := q) (x := (x, full [])) (fulls_asc (bodyW_asc (k := k) (t := t) (p := q))) (mem_fulls.2 ⟨_, List.mem_append.2 (.inr (mem_wipes.2 ⟨x, mem_wipeL.2 ⟨h1, h2, hz⟩, rfl⟩)), rfl⟩)
      rw [full_nil] at this
      exact this
  · refine putAll_other fun y hy e => ?_
    obtain ⟨z, hz2, rfl⟩ := mem_fulls.1 hy
    obtain ⟨h1, h2, _⟩ := bodyW_keys ht hz2
    exact hx ⟨by rw [← e]; exact h1, by rw [← e]; exact h2⟩
/-- Its text. -/
theorem rows_text {v : Int → By} {k : Int} {t : By} (h : ∀ i : Nat, i < secs t.length → v (k + 1 + (i : Int)) = full (pce t i)) : ∀ i, i ≤ secs t.length → ∃ z, rows v k i = t.take (512 * i) ++ z ∧ (512 * i ≤ t.length → z = [])
  | 0, _ => ⟨[], by simp [rows], fun _ => rfl⟩
  | i + 1, hi => by
    obtain ⟨z, h1, h2⟩ := rows_text h i (by omega)
    have hlt := secs_lt (n := t.length) (i := i) (by omega)
    have hz := h2 (by omega)
    subst hz
    have e : t.take (512 * (i + 1)) = t.take (512 * i) ++ pce t i := by
      unfold pce
      rw [show 512 * (i + 1) = 512 * i + 512 by omega, List.take_add]
    refine ⟨List.replicate (512 - (pce t i).length) 0, ?_, fun hle => ?_⟩
    · rw [rows_succ, h1, h i (by omega), e, List.append_nil, List.append_assoc]; rfl
    · have : (pce t i).length = 512 := by unfold pce; rw [List.length_take, List.length_drop]; omega
      rw [this]; rfl
theorem body_text {v : Int → By} {k : Int} {t : By} (h : ∀ i : Nat, i < secs t.length → v (k + 1 + (i : Int)) = full (pce t i)) : bodyV v k t.length = t := by
  obtain ⟨z, h1, _⟩ := rows_text h _ (Nat.le_refl _)
  unfold bodyV
  have := secs_ge t.length
  rw [h1, List.take_of_length_le (l := t) (by omega), List.take_append_of_le_length (Nat.le_refl _), List.take_length]
theorem full_take {s : By} {n : Nat} (h : n ≤ s.length) : (full s).take n = s.take n := by unfold full; rw [List.take_append_of_le_length h]
theorem full_cut {s : By} {n m : Nat} (h : n + m ≤ s.length) : ((full s).drop n).take m = (s.drop n).take m := by
  unfold full
  rw [List.drop_append_of_le_length (by omega), List.take_append_of_le_length (by rw [List.length_drop]; omega)]
theorem headOf_hdr {a n : Nat} (ha : a ≤ top) (hn : n ≤ most) : headOf (full (hdr a n)) = (a, n) := by
  have e1 : (full (hdr a n)).take 8 = dig a 8 := by
    rw [full_take (by rw [hdr_len]; omega)]; unfold hdr; rw [List.append_assoc, List.take_append_of_le_length (by simp), List.take_of_length_le (by simp)]
  have d1 : (hdr a n).drop 8 = dig n 8 ++ dig a 8 := by unfold hdr; rw [List.append_assoc, List.drop_append_of_le_length (by simp), List.drop_of_length_le (by simp), List.nil_append]
  have d2 : (hdr a n).drop 16 = dig a 8 := by
    rw [show 16 = 8 + 8 from rfl, ← List.drop_drop, d1, List.drop_append_of_le_length (by simp), List.drop_of_length_le (by simp), List.nil_append]
  have e2 : ((full (hdr a n)).drop 8).take 8 = dig n 8 := by rw [full_cut (by rw [hdr_len]; omega), d1, List.take_append_of_le_length (by simp), List.take_of_length_le (by simp)]
  have e3 : ((full (hdr a n)).drop 16).take 8 = dig a 8 := by rw [full_cut (by rw [hdr_len]; omega), d2, List.take_of_length_le (by simp)]
  have v1 : val (dig a 8) = a := by rw [val_dig, Nat.mod_eq_of_lt (Nat.lt_of_le_of_lt ha (by decide))]
  have v2 : val (dig n 8) = n := by rw [val_dig, Nat.mod_eq_of_lt (Nat.lt_of_le_of_lt hn (by decide))]
  have hl := full_len (s := hdr a n) (by rw [hdr_len]; omega)
  unfold headOf
  rw [e1, e2, e3, v1, v2, if_pos ⟨by omega, ha, hn, ha, rfl⟩]
/-- What stands when a header has been put there. -/
theorem text_new {q : Int → By} {k : Int} {t : By} (hk : (othV q).at_ = k) (hz : ∀ i : Nat, i < secs t.length → q (k + 1 + (i : Int)) = full (pce t i)) (ht : t.length ≤ most) (ha : ageV q < top) :
    textV (upd q (k, full (hdr (ageV q + 1) t.length))) = some t ∧ ageV (upd q (k, full (hdr (ageV q + 1) t.length))) = ageV q + 1 ∧ (newV (upd q (k, full (hdr (ageV q + 1) t.length)))).at_ = k := by
  have hh := headOf_hdr (a := ageV q + 1) (n := t.length) (by omega) ht
  have hs : slotV (upd q (k, full (hdr (ageV q + 1) t.length))) k = ⟨k, ageV q + 1, t.length⟩ := by unfold slotV; rw [upd_same (x := (k, _)), hh]
  have hb : bodyV (upd q (k, full (hdr (ageV q + 1) t.length))) k t.length = t := body_text fun i hi => by rw [upd_other _ _ (by show k + 1 + (i : Int) ≠ k; omega)]; exact hz i hi
  have hn : newV (upd q (k, full (hdr (ageV q + 1) t.length))) = ⟨k, ageV q + 1, t.length⟩ := by
    rcases othV_at q with ⟨e1, e2, e3⟩ | ⟨e1, e2, e3⟩
    · rw [e1] at hk; subst hk
      have ha : ageV q = (slotV q half).age := by unfold ageV newV; rw [e3]; rfl
      have h1 : slotV (upd q (0, full (hdr (ageV q + 1) t.length))) half = slotV q half := slotV_congr (upd_other _ _ (by show half ≠ 0; decide))
      unfold newV firstV
      rw [h1, hs, ← ha]
      simp
    · rw [e1] at hk; subst hk
      have ha : ageV q = (slotV q 0).age := by unfold ageV newV; rw [e3]; rfl
      have h1 : slotV (upd q (half, full (hdr (ageV q + 1) t.length))) 0 = slotV q 0 := slotV_congr (upd_other _ _ (by show (0 : Int) ≠ half; decide))
      unfold newV firstV
      rw [h1, hs, ← ha]
      simp
      intro _ h; omega
  refine ⟨?_, by rw [show ageV (upd q (k, full (hdr (ageV q + 1) t.length))) = (newV (upd q (k, full (hdr (ageV q + 1) t.length)))).age from rfl, hn], by rw [hn]⟩
  show (if (newV (upd q (k, full (hdr (ageV q + 1) t.length)))).age = 0 then none else _) = _
  rw [hn]
  simp only [Nat.add_eq_zero_iff, Nat.one_ne_zero, and_false, if_false]
  rw [hb]
/-- The view of a disk that is not dead. -/
theorem read_view {s : Dsk} (hd : s.dead = false) {k : Int} (hk : sec k = true) : s.read k = putAll s.p s.c k := by
  unfold Dsk.read; rw [hd, hk, putAll_last]; rfl
theorem view_all {s : Dsk} (hd : s.dead = false) : newV s.read = newV (putAll s.p s.c) ∧ othV s.read = othV (putAll s.p s.c) ∧ textV s.read = textV (putAll s.p s.c) := all_congr fun _ hk => read_view hd hk
theorem view_age {s : Dsk} (hd : s.dead = false) : ageV s.read = ageV (putAll s.p s.c) := by unfold ageV; rw [(view_all hd).1]
/-- Where writing a text stops. -/
inductive Stop (s : Dsk) (k : Int) (a : Nat) (t : By) (p1 : Int → By) : Dsk → Prop
  | first {r : Dsk} : r.p = s.p → r.c = s.c → Stop s k a t p1 r
  | head0 {r : Dsk} : r.p = p1 → r.c = [] → Stop s k a t p1 r
  | head1 {r : Dsk} : r.p = p1 → r.c = [(k, zero)] → Stop s k a t p1 r
  | body {r : Dsk} (j : Nat) : r.p = upd p1 (k, zero) → r.c = fulls ((bodyW k t (upd p1 (k, zero))).take j) → Stop s k a t p1 r
  | last0 {r : Dsk} : r.p = putAll (upd p1 (k, zero)) (fulls (bodyW k t (upd p1 (k, zero)))) → r.c = [] → Stop s k a t p1 r
  | last1 {r : Dsk} : r.p = putAll (upd p1 (k, zero)) (fulls (bodyW k t (upd p1 (k, zero)))) → r.c = [(k, full (hdr a t.length))] → Stop s k a t p1 r
/-- What it makes where it is done. -/
abbrev doneP (k : Int) (a : Nat) (t : By) (p1 : Int → By) : Int → By := upd (putAll (upd p1 (k, zero)) (fulls (bodyW k t (upd p1 (k, zero))))) (k, full (hdr a t.length))
theorem wr_run {s : Dsk} (hd : s.dead = false) (k : Int) (t : By) (hk : sec k = true) (ht : t.length ≤ 512) : ((s.op (.wr k t)).1 = 0 ∧ (s.op (.wr k t)).2.dead = false ∧ (s.op (.wr k t)).2.p = s.p ∧ (s.op (.wr k t)).2.c = s.c ++ [(k, full t)]) ∨ ((s.op (.wr k t)).1 = 42 ∧ (s.op (.wr k t)).2.dead = true ∧ (s.op (.wr k t)).2.p = s.p ∧ (s.op (.wr k t)).2.c = s.c) := by
  rcases wrs_run (l := [(k, t)]) hd (fun x hx => by obtain rfl : x = (k, t) := by simpa using hx
                                                    exact ⟨hk, ht⟩) with h | ⟨h1, h2, h3, j, h4⟩
  · rw [show wrs [(k, t)] = [SOp.wr k t] from rfl, ops_one] at h; exact .inl h
  · rw [show wrs [(k, t)] = [SOp.wr k t] from rfl, ops_one] at h1 h2 h3 h4
    rcases op_live hd (.wr k t) ⟨hk, ht⟩ with ⟨a1, a2⟩ | ⟨_, a2, _⟩
    · exact .inr ⟨h1, h2, h3, by rw [a2]; rfl⟩
    · rw [a2] at h1; cases h1
theorem save_runs {s : Dsk} (hd : s.dead = false) (k : Int) (hk : k = 0 ∨ k = half) (a : Nat) (t : By) (ht : t.length ≤ most) :
    let r1 := s.ops (preOps k t)
    let r := if r1.1 = 0 then r1.2.ops (postOps k a t r1.2.p) else r1
    (r.1 = 0 ∧ r.2.dead = false ∧ r.2.p = doneP k a t (putAll s.p s.c) ∧ r.2.c = []) ∨ (r.1 = 42 ∧ r.2.dead = true ∧ Stop s k a t (putAll s.p s.c) r.2) := by
  intro r1 r
  have hks : sec k = true := by rcases hk with rfl | rfl <;> decide
  have hfine := bodyW_fine (k := k) (t := t) (p := upd (putAll s.p s.c) (k, zero)) ht hk
  have fT : Fine (texts (k + 1) t) := fun x hx => hfine x (List.mem_append.2 (.inl hx))
  have fW : Fine (wipes (wipeL (upd (putAll s.p s.c) (k, zero)) (k + 1 + (secs t.length : Int)) (k + half))) := fun x hx => hfine x (List.mem_append.2 (.inr hx))
  have e0 : r1 = s.ops (.sync :: .wr k [] :: .sync :: wrs (texts (k + 1) t)) := rfl
  rcases sync_run hd with ⟨a1, a2, a3, a4⟩ | ⟨a1, a2, a3, a4⟩
  rotate_left
  · have e1 : r1 = s.op .sync := by rw [e0, ops_cons, a1]; simp
    have e2 : r = s.op .sync := by show (if r1.1 = 0 then _ else r1) = _; rw [e1, a1]; simp
    rw [e2]; exact .inr ⟨a1, a2, .first a3 a4⟩
  have e1 : r1 = (s.op .sync).2.ops (.wr k [] :: .sync :: wrs (texts (k + 1) t)) := by rw [e0, ops_cons, if_pos a1]
  generalize (s.op .sync).2 = s1 at *
  rcases wr_run a2 k [] hks (by simp) with ⟨b1, b2, b3, b4⟩ | ⟨b1, b2, b3, b4⟩
  rotate_left
  · have e1 : r1 = s1.op (.wr k []) := by rw [e1, ops_cons, b1]; simp
    have e2 : r = s1.op (.wr k []) := by show (if r1.1 = 0 then _ else r1) = _; rw [e1, b1]; simp
    rw [e2]; exact .inr ⟨b1, b2, .head0 (b3.trans a3) (b4.trans a4)⟩
  have e1 : r1 = (s1.op (.wr k [])).2.ops (.sync :: wrs (texts (k + 1) t)) := by rw [e1, ops_cons, if_pos b1]
  generalize (s1.op (.wr k [])).2 = s2 at *
  rw [a3] at b3
  rw [a4, List.nil_append, full_nil] at b4
  rcases sync_run b2 with ⟨c1, c2, c3, c4⟩ | ⟨c1, c2, c3, c4⟩
  rotate_left
  · have e1 : r1 = s2.op .sync := by rw [e1, ops_cons, c1]; simp
    have e2 : r = s2.op .sync := by show (if r1.1 = 0 then _ else r1) = _; rw [e1, c1]; simp
    rw [e2]; exact .inr ⟨c1, c2, .head1 (c3.trans b3) (c4.trans b4)⟩
  have e1 : r1 = (s2.op .sync).2.ops (wrs (texts (k + 1) t)) := by rw [e1, ops_cons, if_pos c1]
  generalize (s2.op .sync).2 = s3 at *
  rw [b3, b4, putAll_cons, putAll_nil] at c3
  rcases wrs_run c2 fT with ⟨d1, d2, d3, d4⟩ | ⟨d1, d2, d3, j, d4⟩
  rotate_left
  · rw [← e1] at d1 d2 d3 d4
    have e2 : r = r1 := by show (if r1.1 = 0 then _ else r1) = _; rw [d1]; simp
    rw [e2]
    refine .inr ⟨d1, d2, .body (min j (texts (k + 1) t).length) (d3.trans c3) ?_⟩
    rw [d4, c4, List.nil_append]
    unfold bodyW
    rw [List.take_append_of_le_length (Nat.min_le_right _ _)]
    congr 1
    rw [← List.take_eq_take_min]
  rw [← e1] at d1 d2 d3 d4
  have e2 : r = r1.2.ops (postOps k a t r1.2.p) := by show (if r1.1 = 0 then _ else r1) = _; rw [if_pos d1]
  generalize r1.2 = s4 at *
  have d3 : s4.p = upd (putAll s.p s.c) (k, zero) := d3.trans c3
  rw [c4, List.nil_append] at d4
  rw [d3] at e2
  generalize putAll s.p s.c = p1 at *
  unfold postOps at e2
  rw [ops_append] at e2
  rcases wrs_run d2 fW with ⟨f1, f2, f3, f4⟩ | ⟨f1, f2, f3, j, f4⟩
  rotate_left
  · rw [f1] at e2
    have e2 := e2.trans (if_neg (by simp))
    rw [e2]
    refine .inr ⟨f1, f2, .body ((texts (k + 1) t).length + j) (f3.trans d3) ?_⟩
    rw [f4, d4]
    unfold bodyW
    rw [List.take_length_add_append, fulls_append]
  rw [if_pos f1] at e2
  generalize (s4.ops (wrs (wipes (wipeL (upd p1 (k, zero)) (k + 1 + (secs t.length : Int)) (k + half))))).2 = s5 at *
  have f3 : s5.p = upd p1 (k, zero) := f3.trans d3
  have f4 : s5.c = fulls (bodyW k t (upd p1 (k, zero))) := by rw [f4, d4, ← fulls_append]; rfl
  rcases sync_run f2 with ⟨g1, g2, g3, g4⟩ | ⟨g1, g2, g3, g4⟩
  rotate_left
  · have e2 : r = s5.op .sync := by rw [e2, ops_cons, g1]; simp
    rw [e2]
    refine .inr ⟨g1, g2, .body (bodyW k t (upd p1 (k, zero))).length (g3.trans f3) ?_⟩
    rw [List.take_length, g4, f4]
  have e2 : r = (s5.op .sync).2.ops [.wr k (hdr a t.length), .sync] := by rw [e2, ops_cons, if_pos g1]
  generalize (s5.op .sync).2 = s6 at *
  rw [f3, f4] at g3
  rcases wr_run g2 k (hdr a t.length) hks (by rw [hdr_len]; omega) with ⟨h1, h2, h3, h4⟩ | ⟨h1, h2, h3, h4⟩
  rotate_left
  · have e2 : r = s6.op (.wr k (hdr a t.length)) := by rw [e2, ops_cons, h1]; simp
    rw [e2]; exact .inr ⟨h1, h2, .last0 (h3.trans g3) (h4.trans g4)⟩
  have e2 : r = (s6.op (.wr k (hdr a t.length))).2.op .sync := by rw [e2, ops_cons, if_pos h1, ops_one]
  generalize (s6.op (.wr k (hdr a t.length))).2 = s7 at *
  rw [g3] at h3
  rw [g4, List.nil_append] at h4
  rcases sync_run h2 with ⟨i1, i2, i3, i4⟩ | ⟨i1, i2, i3, i4⟩
  · rw [e2]; exact .inl ⟨i1, i2, by rw [i3, h3, h4, putAll_cons, putAll_nil], i4⟩
  · rw [e2]; exact .inr ⟨i1, i2, .last1 (i3.trans h3) (i4.trans h4)⟩
end MM
end Go.Proofs.YtoacmingocmaaaaGreatDoor

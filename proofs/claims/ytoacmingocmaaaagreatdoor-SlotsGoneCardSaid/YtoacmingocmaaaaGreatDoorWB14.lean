/- The texts SltDone, SltW3, one behind the other. -/
import Derived.Test.YtoacmingocmaaaaGreatDoorWB10
import Derived.Test.YtoacmingocmaaaaGreatDoorWB12
import Derived.Test.YtoacmingocmaaaaGreatDoorWB13
import Derived.Test.YtoacmingocmaaaaGreatDoorWB5
import Derived.Test.YtoacmingocmaaaaGreatDoorWB3
/- What stands when a text has been written; which fuses let it be written. -/
namespace Go.Proofs.YtoacmingocmaaaaGreatDoor
namespace MM
section
variable {s : Dsk} {t : By}
theorem pre_ok {k : Int} (hk : k = 0 ∨ k = half) (ht : t.length ≤ most) : ∀ o ∈ preOps k t, o.ok := fun o ho => by
  have hks : sec k = true := by rcases hk with rfl | rfl <;> decide
  unfold preOps at ho
  rcases List.mem_append.1 ho with h | h
  · simp only [List.mem_cons, List.not_mem_nil, or_false] at h
    rcases h with rfl | rfl | rfl
    · trivial
    · exact ⟨hks, by simp⟩
    · trivial
  · exact Fine.ok (fun x hx => bodyW_fine (k := k) (t := t) (p := fun _ => zero) ht hk x (List.mem_append.2 (.inl hx))) o h
theorem post_ok {k : Int} {a : Nat} {p : Int → By} (hk : k = 0 ∨ k = half) (ht : t.length ≤ most) : ∀ o ∈ postOps k a t p, o.ok := fun o ho => by
  have hks : sec k = true := by rcases hk with rfl | rfl <;> decide
  unfold postOps at ho
  rcases List.mem_append.1 ho with h | h
  · exact Fine.ok (fun x hx => bodyW_fine (k := k) (t := t) (p := p) ht hk x (List.mem_append.2 (.inr hx))) o h
  · simp only [List.mem_cons, List.not_mem_nil, or_false] at h
    rcases h with rfl | rfl | rfl
    · trivial
    · exact ⟨hks, by rw [hdr_len]; omega⟩
    · trivial
theorem pre_len (k : Int) (t : By) : (preOps k t).length = 3 + secs t.length := by unfold preOps; rw [List.length_append, wrs_len, texts_len]; rfl
theorem post_len (k : Int) (a : Nat) (t : By) (p : Int → By) : (postOps k a t p).length = (wipeL p (k + 1 + (secs t.length : Int)) (k + half)).length + 3 := by unfold postOps; rw [List.length_append, wrs_len]; simp [wipes]
theorem oth_two (v : Int → By) : (othV v).at_ = 0 ∨ (othV v).at_ = half := (othV_at v).imp (·.1) (·.1)
theorem save_eq (hd : s.dead = false) (ht : t.length ≤ most) (ha : ageV s.read ≠ top) : s.save t = if (s.ops (preOps (othV s.read).at_ t)).1 = 0 then (s.ops (preOps (othV s.read).at_ t)).2.ops (postOps (othV s.read).at_ (ageV s.read + 1) t (s.ops (preOps (othV s.read).at_ t)).2.p) else s.ops (preOps (othV s.read).at_ t) := by
  unfold Dsk.save
  rw [hd, if_neg (by simp), if_neg (by omega), if_neg ha]
/-- Without a fuse it is written. -/
theorem save_free (hd : s.dead = false) (hf : s.fuse = none) (ht : t.length ≤ most) (ha : ageV s.read ≠ top) : (s.save t).1 = 0 ∧ (s.save t).2.fuse = none := by
  have hk := oth_two s.read
  rw [save_eq hd ht ha]
  rcases ops_count (l := preOps (othV s.read).at_ t) hd (pre_ok hk ht) with ⟨h1, h2, h3, _⟩ | ⟨_, _, f, h3, _⟩
  · rw [if_pos h1]
    rw [hf] at h3
    rcases ops_count (l := postOps (othV s.read).at_ (ageV s.read + 1) t (s.ops (preOps (othV s.read).at_ t)).2.p) h2 (post_ok hk ht) with ⟨k1, _, k3, _⟩ | ⟨_, _, f, k3, _⟩
    · rw [h3] at k3; exact ⟨k1, k3⟩
    · rw [h3] at k3; cases k3
  · rw [hf] at h3; cases h3
/-- What stands then. -/
structure Done (s : Dsk) (t : By) (r : Dsk) : Prop where
  live : r.dead = false
  c : r.c = []
  head : r.p (othV s.read).at_ = full (hdr (ageV s.read + 1) t.length)
  text : ∀ i : Nat, i < secs t.length → r.p ((othV s.read).at_ + 1 + (i : Int)) = full (pce t i)
  rest : ∀ x, (othV s.read).at_ + 1 + (secs t.length : Int) ≤ x → x < (othV s.read).at_ + half → r.p x = zero
  out : ∀ x, ¬ ((othV s.read).at_ ≤ x ∧ x < (othV s.read).at_ + half) → r.p x = putAll s.p s.c x
  told : textV r.p = some t
  age : ageV r.p = ageV s.read + 1
  new : (newV r.p).at_ = (othV s.read).at_
theorem save_done (hd : s.dead = false) (ht : t.length ≤ most) (ha : ageV s.read ≠ top) (h0 : (s.save t).1 = 0) : Done s t (s.save t).2 := by
  have hk := oth_two s.read
  have hle := ageV_le s.read
  have hrun := save_runs hd (othV s.read).at_ hk (ageV s.read + 1) t ht
  simp only at hrun
  rw [← save_eq hd ht ha] at hrun
  rcases hrun with ⟨_, h2, h3, h4⟩ | ⟨h1, _⟩
  · have hva := view_age hd
    have hvo := (view_all hd).2.1
    obtain ⟨k, hkk⟩ : ∃ k, k = (othV s.read).at_ := ⟨_, rfl⟩
    obtain ⟨p1, hp1⟩ : ∃ p1, p1 = putAll s.p s.c := ⟨_, rfl⟩
    rw [← hkk, ← hp1] at h3
    rw [← hp1] at hva hvo
    have hhp := half_pos
    have hs2 := bodyW_put (k := k) (t := t) (q := upd p1 (k, zero)) ht
    have hz3 : putAll (upd p1 (k, zero)) (fulls (bodyW k t (upd p1 (k, zero)))) k = zero := by rw [hs2.out k (by omega), upd_at]
    obtain ⟨_, e2, e3, e4, _⟩ := text_keep (p := p1) (q := putAll (upd p1 (k, zero)) (fulls (bodyW k t (upd p1 (k, zero))))) (k := k) (by rw [← hvo, hkk]) (fun x _ hx => by
      rw [hs2.out x (by omega), upd_other _ _ (by show x ≠ k; omega)]) (.inl (head_zero hz3))
    have hn := text_new e3 hs2.text ht (by rw [e2, ← hva]; omega)
    rw [e2, ← hva] at hn
    obtain ⟨n1, n2, n3⟩ := hn
    unfold doneP at h3
    refine ⟨h2, h4, ?_, ?_, ?_, ?_, ?_, ?_, ?_⟩
    · rw [h3, ← hkk]; exact upd_at _ _ _
    · intro i hi; rw [h3, ← hkk, upd_other _ _ (by show k + 1 + (i : Int) ≠ k; omega)]; exact hs2.text i hi
    · intro x q1 q2; rw [← hkk] at q1 q2; rw [h3, upd_other _ _ (by show x ≠ k; omega)]; exact hs2.rest x q1 q2
    · intro x hx; rw [← hkk] at hx; rw [h3, upd_other _ _ (by show x ≠ k; omega), hs2.out x (by omega), upd_other _ _ (by show x ≠ k; omega), hp1]
    · rw [h3]; exact n1
    · rw [h3]; exact n2
    · rw [h3, n3, hkk]
  · rw [h0] at h1; cases h1
theorem read_of_plain {r : Dsk} (hl : r.dead = false) (hc : r.c = []) : textV r.read = textV r.p ∧ ageV r.read = ageV r.p ∧ (othV r.read).at_ = (othV r.p).at_ := by
  have h := view_all hl
  rw [hc, putAll_nil] at h
  exact ⟨h.2.2, by unfold ageV; rw [h.1], by rw [h.2.1]⟩
theorem Done.read {r : Dsk} (h : Done s t r) : textV r.read = some t ∧ ageV r.read = ageV s.read + 1 := by
  obtain ⟨h1, h2, _⟩ := read_of_plain h.live h.c
  exact ⟨h1.trans h.told, h2.trans h.age⟩
theorem save_full (hd : s.dead = false) (ht : t.length ≤ most) (ha : ageV s.read = top) : s.save t = (41, s) := by
  unfold Dsk.save
  rw [hd, if_neg (by simp), if_neg (by omega), if_pos ha]
theorem save_dead (hd : s.dead = true) : s.save t = (42, s) := by unfold Dsk.save; rw [hd, if_pos rfl]
theorem save_long (hd : s.dead = false) (ht : most < t.length) : s.save t = (10, s) := by unfold Dsk.save; rw [hd, if_neg (by simp), if_pos ht]
end
/-! A new disk. -/
theorem new_fuse (f : Int) : (Dsk.new.setFuse f).p = (fun _ => zero) ∧ (Dsk.new.setFuse f).c = [] ∧ (Dsk.new.setFuse f).dead = false := ⟨rfl, rfl, rfl⟩
theorem zeros_oth {v : Int → By} (h : ∀ k, v k = zero) : (othV v).at_ = 0 := by
  have h0 : (slotV v 0).age = 0 := head_zero (h 0)
  have : firstV v = false := by unfold firstV; rw [h0]; rfl
  unfold othV; rw [this]; rfl
theorem wipe_none {p : Int → By} {a b : Int} (h : ∀ k, p k = zero) : wipeL p a b = [] := by
  cases e : wipeL p a b with
  | nil => rfl
  | cons x l =>
    have : x ∈ wipeL p a b := by rw [e]; exact List.mem_cons_self
    exact absurd (h x) (mem_wipeL.1 this).2.2
theorem torn_nothing {p : Int → By} (x : Int × By) : upd p (x.1, x.2.take 0 ++ (p x.1).drop 0) = p := by
  funext k
  unfold upd
  split
  · rename_i h; rw [h]; simp
  · rfl
theorem crash_go_none : ∀ (c : List (Int × By)) (k : Nat) (p : Int → By) (torn : Bool), crashGo [] 0 k c p torn = p
  | [], _, _, _ => rfl
  | x :: r, k, p, torn => by
    unfold crashGo
    rw [if_neg (by simp)]
    split
    · exact crash_go_none r _ _ _
    · rw [torn_nothing]; exact crash_go_none r _ _ _
theorem crash_none (s : Dsk) (k : Int) : (s.crash [] 0).start.p k = s.p k := by
  show crashGo [] (clamp 0) 0 s.c s.p false k = s.p k
  rw [show clamp 0 = 0 from rfl, crash_go_none]
/-- The platter ahead of the header. -/
theorem pre_p {s : Dsk} {t : By} {k : Int} (hd : s.dead = false) (hk : k = 0 ∨ k = half) (ht : t.length ≤ most) (h0 : (s.ops (preOps k t)).1 = 0) : (s.ops (preOps k t)).2.p = upd (putAll s.p s.c) (k, zero) := by
  have hks : sec k = true := by rcases hk with rfl | rfl <;> decide
  have fT : Fine (texts (k + 1) t) := fun x hx => bodyW_fine (k := k) (t := t) (p := fun _ => zero) ht hk x (List.mem_append.2 (.inl hx))
  have e0 : s.ops (preOps k t) = s.ops (.sync :: .wr k [] :: .sync :: wrs (texts (k + 1) t)) := rfl
  rw [e0, ops_cons] at h0 ⊢
  rcases sync_run hd with ⟨a1, a2, a3, a4⟩ | ⟨a1, a2, a3, a4⟩
  rotate_left
  · rw [if_neg (by rw [a1]; simp), a1] at h0; cases h0
  rw [if_pos a1, ops_cons] at h0 ⊢
  generalize (s.op .sync).2 = s1 at *
  rcases wr_run a2 k [] hks (by simp) with ⟨b1, b2, b3, b4⟩ | ⟨b1, b2, b3, b4⟩
  rotate_left
  · rw [if_neg (by rw [b1]; simp), b1] at h0; cases h0
  rw [if_pos b1, ops_cons] at h0 ⊢
  generalize (s1.op (.wr k [])).2 = s2 at *
  rw [a3] at b3
  rw [a4, List.nil_append, full_nil] at b4
  rcases sync_run b2 with ⟨c1, c2, c3, c4⟩ | ⟨c1, c2, c3, c4⟩
  rotate_left
  · rw [if_neg (by rw [c1]; simp), c1] at h0; cases h0
  rw [if_pos c1] at h0 ⊢
  generalize (s2.op .sync).2 = s3 at *
  rw [b3, b4, putAll_cons, putAll_nil] at c3
  rcases wrs_run c2 fT with ⟨d1, d2, d3, d4⟩ | ⟨d1, d2, d3, j, d4⟩
  · exact d3.trans c3
  · exact d3.trans c3
/-- Just 6 operations besides the text's. -/
theorem save_new {t : By} (ht : t.length ≤ most) (f : Nat) (s : Dsk) (hp : s.p = fun _ => zero) (hc : s.c = []) (hd : s.dead = false) (hf : s.fuse = some f) :
    (6 + secs t.length ≤ f → (s.save t).1 = 0 ∧ (s.save t).2.fuse = some (f - (6 + secs t.length))) ∧ (f < 6 + secs t.length → (s.save t).1 = 42 ∧ ∀ keep, textV ((s.save t).2.crash keep 0).start.read = none ∨ keep ≠ []) := by
  have hv : ∀ k, putAll s.p s.c k = zero := fun k => by rw [hp, hc, putAll_nil]
  have hva := view_age hd
  have hvo := (view_all hd).2.1
  have ha0 : ageV s.read = 0 := by rw [hva]; exact zeros_age hv
  have hk0 : (othV s.read).at_ = 0 := by rw [hvo]; exact zeros_oth hv
  have ha : ageV s.read ≠ top := by rw [ha0]; decide
  have hrun := save_runs hd (othV s.read).at_ (.inl hk0) (ageV s.read + 1) t ht
  simp only at hrun
  rw [← save_eq hd ht ha] at hrun
  have heq := save_eq hd ht ha
  rw [hk0] at heq hrun
  have hpre := ops_count (l := preOps 0 t) hd (pre_ok (.inl rfl) ht)
  rw [pre_len] at hpre
  have hz2 : ∀ k, upd (putAll s.p s.c) (0, zero) k = zero := fun k => by unfold upd; split <;> first | rfl | exact hv k
  have cnt : ((s.save t).1 = 0 ∧ (s.save t).2.fuse = some (f - (6 + secs t.length)) ∧ 6 + secs t.length ≤ f) ∨ ((s.save t).1 = 42 ∧ f < 6 + secs t.length) := by
    rcases hpre with ⟨h1, h2, h3, h4⟩ | ⟨h1, h2, f', h3, h4⟩
    · rw [if_pos h1] at heq
      have hpz : ∀ k, (s.ops (preOps 0 t)).2.p k = zero := by
        have e : (s.ops (preOps 0 t)).2.p = upd (putAll s.p s.c) (0, zero) := pre_p hd (.inl rfl) ht h1
        rw [e]; exact hz2
      have hpost := ops_count (l := postOps 0 (ageV s.read + 1) t (s.ops (preOps 0 t)).2.p) h2 (post_ok (.inl rfl) ht)
      rw [post_len, wipe_none hpz, ← heq, h3, hf] at hpost
      have := h4 f hf
      rcases hpost with ⟨k1, _, k3, k4⟩ | ⟨k1, _, f', k3, k4⟩
      · refine .inl ⟨k1, ?_, ?_⟩
        · rw [k3]; simp; omega
        · have := k4 _ rfl; simp at this; omega
      · refine .inr ⟨k1, ?_⟩
        have : f - (3 + secs t.length) = f' := by simpa using k3
        simp at k4; omega
    · rw [if_neg (by rw [h1]; simp)] at heq
      rw [hf] at h3
      have : f = f' := by simpa using h3
      exact .inr ⟨by rw [heq]; exact h1, by omega⟩
  refine ⟨fun h => ?_, fun h => ?_⟩
  · rcases cnt with c | c
    · exact ⟨c.1, c.2.1⟩
    · omega
  · rcases cnt with c | c
    · omega
    refine ⟨c.1, fun keep => ?_⟩
    by_cases hkp : keep = []
    · subst hkp
      left
      rcases hrun with ⟨h1, _⟩ | ⟨_, _, hst⟩
      · rw [c.1] at h1; cases h1
      have hhp := half_pos
      have hs2 := bodyW_put (k := 0) (t := t) (q := upd (putAll s.p s.c) (0, zero)) ht
      have heads : (s.save t).2.p 0 = zero ∧ (s.save t).2.p half = zero := by
        have hb : ∀ x, (x = 0 ∨ x = half) → putAll (upd (putAll s.p s.c) (0, zero)) (fulls (bodyW 0 t (upd (putAll s.p s.c) (0, zero)))) x = zero := fun x hx => by
          rw [hs2.out x (by rcases hx with rfl | rfl <;> omega)]; exact hz2 x
        cases hst with
        | first e1 e2 => rw [e1, hp]; exact ⟨rfl, rfl⟩
        | head0 e1 e2 => rw [e1]; exact ⟨hv _, hv _⟩
        | head1 e1 e2 => rw [e1]; exact ⟨hv _, hv _⟩
        | body j e1 e2 => rw [e1]; exact ⟨hz2 _, hz2 _⟩
        | last0 e1 e2 => rw [e1]; exact ⟨hb _ (.inl rfl), hb _ (.inr rfl)⟩
        | last1 e1 e2 => rw [e1]; exact ⟨hb _ (.inl rfl), hb _ (.inr rfl)⟩
      have hcr : ∀ k, ((s.save t).2.crash [] 0).start.p k = (s.save t).2.p k := fun k => crash_none _ _
      have hage : ageV ((s.save t).2.crash [] 0).start.p = 0 := by
        unfold ageV; rw [newV_is]
        rcases newV_at ((s.save t).2.crash [] 0).start.p with e | e <;> rw [e]
        · exact head_zero ((hcr 0).trans heads.1)
        · exact head_zero ((hcr half).trans heads.2)
      have hr := read_of_plain (r := ((s.save t).2.crash [] 0).start) rfl rfl
      rw [hr.1]
      unfold textV; rw [if_pos hage]
    · exact .inr hkp
end MM
end Go.Proofs.YtoacmingocmaaaaGreatDoor
/- The walks of the operations that writing a text is: the four closures, the row of them, the loop over it. -/
namespace Go.Proofs.YtoacmingocmaaaaGreatDoor
namespace MM
section
variable (k : Int) (a : Nat) (t : By)
/-- Operation number j. -/
def stg (j : Nat) (x : Dsk) : Nat × Dsk :=
  match j with
  | 0 => x.sync
  | 1 => x.write k []
  | 2 => x.sync
  | 3 => x.ops (wrs (texts (k + 1) t))
  | 4 => x.ops (wrs (wipes (wipeL x.p (k + 1 + (secs t.length : Int)) (k + half))))
  | 5 => x.sync
  | 6 => x.write k (hdr a t.length)
  | _ => x.sync
/-- The last n of them. -/
def goS : Nat → Dsk → Nat × Dsk
  | 0, x => (0, x)
  | n + 1, x => if (stg k a t (7 - n) x).1 = 0 then goS n (stg k a t (7 - n) x).2 else stg k a t (7 - n) x
theorem goS_succ (n : Nat) (x : Dsk) : goS k a t (n + 1) x = if (stg k a t (7 - n) x).1 = 0 then goS k a t n (stg k a t (7 - n) x).2 else stg k a t (7 - n) x := rfl
theorem goS_cons (n : Nat) (x : Dsk) (o : SOp) (l : List SOp) (f : Nat × Dsk → Nat × Dsk) (h : stg k a t (7 - n) x = x.op o) (hf : ∀ r : Nat × Dsk, r.1 ≠ 0 → f r = r) (hg : goS k a t n (x.op o).2 = f ((x.op o).2.ops l)) : goS k a t (n + 1) x = f (x.ops (o :: l)) := by
  rw [goS_succ, h, ops_cons]
  by_cases h0 : (x.op o).1 = 0
  · rw [if_pos h0, if_pos h0, hg]
  · rw [if_neg h0, if_neg h0, hf _ h0]
theorem goS_all (s : Dsk) : goS k a t 8 s = if (s.ops (preOps k t)).1 = 0 then (s.ops (preOps k t)).2.ops (postOps k a t (s.ops (preOps k t)).2.p) else s.ops (preOps k t) := by
  obtain ⟨f, hf⟩ : ∃ f : Nat × Dsk → Nat × Dsk, f = fun r => if r.1 = 0 then r.2.ops (postOps k a t r.2.p) else r := ⟨_, rfl⟩
  have hn : ∀ r : Nat × Dsk, r.1 ≠ 0 → f r = r := fun r h => by rw [hf]; simp only [if_neg h]
  have hi : ∀ r : Nat × Dsk, r.1 ≠ 0 → id r = r := fun r _ => rfl
  have e0 : s.ops (preOps k t) = s.ops (.sync :: .wr k [] :: .sync :: wrs (texts (k + 1) t)) := rfl
  rw [e0]
  have goal : goS k a t 8 s = f (s.ops (.sync :: .wr k [] :: .sync :: wrs (texts (k + 1) t))) := by
    refine goS_cons k a t 7 s .sync _ f rfl hn ?_
    generalize (s.op .sync).2 = s1
    refine goS_cons k a t 6 s1 (.wr k []) _ f rfl hn ?_
    generalize (s1.op (.wr k [])).2 = s2
    refine goS_cons k a t 5 s2 .sync _ f rfl hn ?_
    generalize (s2.op .sync).2 = s3
    rw [goS_succ, show stg k a t (7 - 4) s3 = s3.ops (wrs (texts (k + 1) t)) from rfl]
    by_cases h3 : (s3.ops (wrs (texts (k + 1) t))).1 = 0
    rotate_left
    · rw [if_neg h3, hn _ h3]
    rw [if_pos h3, hf]
    simp only [if_pos h3]
    generalize (s3.ops (wrs (texts (k + 1) t))).2 = s4
    unfold postOps
    rw [goS_succ, ops_append, show stg k a t (7 - 3) s4 = s4.ops (wrs (wipes (wipeL s4.p (k + 1 + (secs t.length : Int)) (k + half)))) from rfl]
    by_cases h4 : (s4.ops (wrs (wipes (wipeL s4.p (k + 1 + (secs t.length : Int)) (k + half))))).1 = 0
    rotate_left
    · rw [if_neg h4, if_neg h4]
    rw [if_pos h4, if_pos h4]
    generalize (s4.ops (wrs (wipes (wipeL s4.p (k + 1 + (secs t.length : Int)) (k + half))))).2 = s5
    refine goS_cons k a t 2 s5 .sync _ id rfl hi ?_
    generalize (s5.op .sync).2 = s6
    refine goS_cons k a t 1 s6 (.wr k (hdr a t.length)) _ id rfl hi ?_
    generalize (s6.op (.wr k (hdr a t.length))).2 = s7
    refine goS_cons k a t 0 s7 .sync [] id rfl hi ?_
    rfl
  rw [goal, hf]
end
/-- What is known ahead of operation number j. -/
def Pre (k : Int) (t : By) (j : Nat) (x : Dsk) : Prop := (j = 3 → x.c = []) ∧ (j = 4 → ∀ y ∈ x.c, y.1 < k + 1 + (secs t.length : Int))
theorem Pre.next {k : Int} {a : Nat} {t : By} {j : Nat} {x : Dsk} (h : Pre k t j x) (hd : (stg k a t j x).1 = 0) (ht : t.length ≤ most) (hk : k = 0 ∨ k = half) : Pre k t (j + 1) (stg k a t j x).2 := by
  refine ⟨fun e => ?_, fun e => ?_⟩
  · obtain rfl : j = 2 := by omega
    have h2 : x.sync.1 = 0 := hd
    show x.sync.2.c = []
    unfold Dsk.sync at h2 ⊢
    split
    · rename_i hdd; simp [hdd] at h2
    split
    · rename_i h1 h3; simp [h1, h3] at h2
    · rfl
  · obtain rfl : j = 3 := by omega
    have hc := h.1 rfl
    have h2 : (x.ops (wrs (texts (k + 1) t))).1 = 0 := hd
    show ∀ y ∈ (x.ops (wrs (texts (k + 1) t))).2.c, _
    have hdx : x.dead = false ∨ texts (k + 1) t = [] := by
      cases hd2 : x.dead with
      | false => exact .inl rfl
      | true =>
        right
        cases e : texts (k + 1) t with
        | nil => rfl
        | cons z l =>
          rw [e] at h2
          rw [show wrs (z :: l) = .wr z.1 z.2 :: wrs l from rfl, ops_cons] at h2
          have : (x.op (.wr z.1 z.2)).1 = 42 := by show (x.write z.1 z.2).1 = 42; unfold Dsk.write; rw [hd2, if_pos rfl]
          rw [if_neg (by rw [this]; simp), this] at h2
          cases h2
    have fT : Fine (texts (k + 1) t) := fun y hy => bodyW_fine (k := k) (t := t) (p := fun _ => zero) ht hk y (List.mem_append.2 (.inl hy))
    rcases hdx with hdx | hnil
    · rcases wrs_run hdx fT with ⟨_, _, _, d4⟩ | ⟨d1, _⟩
      · rw [d4, hc, List.nil_append]
        intro y hy
        obtain ⟨z, hz, rfl⟩ := mem_fulls.1 hy
        obtain ⟨i, hi, rfl⟩ := mem_texts.1 hz
        show k + 1 + (i : Int) < _
        omega
      · rw [h2] at d1; cases d1
    · rw [hnil]; show ∀ y ∈ x.c, _; rw [hc]; exact fun _ h => (by cases h)
theorem Pre.start (k : Int) (t : By) (x : Dsk) : Pre k t 0 x := ⟨fun e => by omega, fun e => by omega⟩
theorem stg_c {k : Int} {a : Nat} {t : By} {j : Nat} {x : Dsk} (hj : j = 0 ∨ j = 2 ∨ j = 5 ∨ j = 7) (h : (stg k a t j x).1 = 0) : (stg k a t j x).2.c = [] := by
  have e : stg k a t j x = x.sync := by rcases hj with rfl | rfl | rfl | rfl <;> rfl
  rw [e] at h ⊢
  unfold Dsk.sync at h ⊢
  split
  · rename_i hdd; simp [hdd] at h
  split
  · rename_i h1 h3; simp [h1, h3] at h
  · rfl
/-- How many writes at most ahead of operation number j. -/
def nb (N : Nat) : Nat → Nat
  | 0 => N
  | 1 => 65536
  | 2 => 65537
  | 3 => 65536
  | 4 => 98304
  | 5 => 131072
  | 6 => 65536
  | 7 => 65537
  | _ => 65536
end MM
open Go Go.RowKit Go.Lib
namespace M
open MM
/-- The boxes of what is written. -/
structure Bxs (w : World) (b B : Nat) (k : Int) (a : Nat) (t : By) : Prop where
  b0 : w.heap[b]? = some (.cells #[ptr B] 25 (0, 0))
  b1 : w.heap[b + 1]? = some (.cells #[.int .i64 k] 3 (0, 0))
  b2 : w.heap[b + 2]? = some (.cells #[.int .i64 (a : Int)] 3 (0, 0))
  b3 : w.heap[b + 3]? = some (.cells #[.string ⟨t.toArray⟩] 9 (0, 0))
section
variable {w w' : World} {F : Nat → Prop} {b B N a : Nat} {k : Int} {t : By} {s : Dsk}
theorem Bxs.of (h : Bxs w b B k a t) (e : ∀ j, j = b ∨ j = b + 1 ∨ j = b + 2 ∨ j = b + 3 → w'.heap[j]? = w.heap[j]?) : Bxs w' b B k a t :=
  ⟨(e _ (.inl rfl)).trans h.b0, (e _ (.inr (.inl rfl))).trans h.b1, (e _ (.inr (.inr (.inl rfl)))).trans h.b2, (e _ (.inr (.inr (.inr rfl)))).trans h.b3⟩
theorem Bxs.step (h : Bxs w b B k a t) (hb : Below w.heap.size w w') : Bxs w' b B k a t := h.of fun j hj => hb.block j (by
  have h0 := row_lt h.b0; have h1 := row_lt h.b1; have h2 := row_lt h.b2; have h3 := row_lt h.b3
  rcases hj with rfl | rfl | rfl | rfl <;> assumption)
theorem Bxs.chg {F : Nat → Prop} (h : Bxs w b B k a t) (hc : Chg F w w') (hF : ∀ j, b ≤ j → j ≤ b + 3 → ¬ F j) : Bxs w' b B k a t := h.of fun j hj => hc.block j (by
  have h0 := row_lt h.b0; have h1 := row_lt h.b1; have h2 := row_lt h.b2; have h3 := row_lt h.b3
  rcases hj with rfl | rfl | rfl | rfl <;> assumption) (hF j (by omega) (by omega))
theorem Bxs.cells (h : Bxs w b B k a t) : w.cell? ⟨b, 0, none⟩ = some (ptr B) ∧ w.cell? ⟨b + 1, 0, none⟩ = some (.int .i64 k) ∧ w.cell? ⟨b + 2, 0, none⟩ = some (.int .i64 (a : Int)) ∧ w.cell? ⟨b + 3, 0, none⟩ = some (.string ⟨t.toArray⟩) :=
  ⟨(cell_of_row w b 0 _ _ _ h.b0).trans rfl, (cell_of_row w (b + 1) 0 _ _ _ h.b1).trans rfl, (cell_of_row w (b + 2) 0 _ _ _ h.b2).trans rfl, (cell_of_row w (b + 3) 0 _ _ _ h.b3).trans rfl⟩
theorem op1_any (h : Dk w F B N s) (hx : Bxs w b B k a t) (hN : N + 1 ≤ 1000000) : Calls Tryz.prog 60 #[.pointer (some ⟨b, 0, none⟩), .pointer (some ⟨b + 1, 0, none⟩)] w fun e w' => e = .returned (.int .i64 ((s.write k []).1 : Int)) ∧ Did w F B (N + 1) (s.write k []).2 w' := by
  obtain ⟨c0, c1, c2, c3⟩ := hx.cells
  have HW : Hid (Calls Tryz.prog 22 #[ptr B, .int .i64 k, .string ⟨#[]⟩] w fun e w' => e = .returned (.int .i64 ((s.write k []).1 : Int)) ∧ Did w F B (N + 1) (s.write k []).2 w') := Lib.hid (write_any h hN k [])
  clear h hx
  go_enter Tryz.func60, Tryz.ntmps60
  go_wp2_with (go_at_call 22; (with_reducible refine HW.out.mono ?_); rintro e w' ⟨rfl, hd⟩)
  go_ret
  exact ⟨rfl, hd⟩
theorem op2_any (h : Dk w F B N s) (hx : Bxs w b B k a t) (hk : k = 0 ∨ k = half) (ht : t.length ≤ most) (hN : N + secs t.length ≤ 1000000) : Calls Tryz.prog 61 #[.pointer (some ⟨b, 0, none⟩), .pointer (some ⟨b + 1, 0, none⟩), .pointer (some ⟨b + 3, 0, none⟩)] w fun e w' => e = .returned (.int .i64 ((s.ops (wrs (texts (k + 1) t))).1 : Int)) ∧ Did w F B (N + secs t.length) (s.ops (wrs (texts (k + 1) t))).2 w' := by
  obtain ⟨c0, c1, c2, c3⟩ := hx.cells
  have hk2 : -10 ≤ k ∧ k ≤ 40000 := by rcases hk with rfl | rfl <;> decide
  have HW := Lib.hid (fill_any h (k + 1) (by omega) t ht hN)
  clear h hx
  go_enter Tryz.func61, Tryz.ntmps61
  go_wp2_with (go_at_call 62; (with_reducible refine HW.out.mono ?_); rintro e w' ⟨rfl, hd⟩)
  go_ret
  exact ⟨rfl, hd⟩
set_option maxRecDepth 100000 in
set_option maxHeartbeats 8000000 in
theorem op3_any (h : Dk w F B N s) (hx : Bxs w b B k a t) (hF : ∀ j, b ≤ j → j ≤ b + 3 → ¬ F j) (hk : k = 0 ∨ k = half) (ht : t.length ≤ most) (hc : ∀ y ∈ s.c, y.1 < k + 1 + (secs t.length : Int)) (hN : N + 32767 ≤ 1000000) : Calls Tryz.prog 63 #[.pointer (some ⟨b, 0, none⟩), .pointer (some ⟨b + 1, 0, none⟩), .pointer (some ⟨b + 3, 0, none⟩)] w fun e w' => e = .returned (.int .i64 ((s.ops (wrs (wipes (wipeL s.p (k + 1 + (secs t.length : Int)) (k + half))))).1 : Int)) ∧ Did w F B (N + 32767) (s.ops (wrs (wipes (wipeL s.p (k + 1 + (secs t.length : Int)) (k + half))))).2 w' := by
  have hsec := secs_le ht
  have hk2 : 0 ≤ k ∧ k ≤ 32768 := by rcases hk with rfl | rfl <;> decide
  have hwl : (wipeL s.p (k + 1 + (secs t.length : Int)) (k + half)).length ≤ 32767 := by
    unfold wipeL
    refine Nat.le_trans (List.length_filter_le _ _) ?_
    rw [List.length_map, List.length_range]
    unfold half; omega
  have HS := Lib.hid (slotSectors_any t ht)
  have HWP : Hid (∀ u, Dk u F B N s → Calls Tryz.prog 64 #[ptr B, .int .i64 (k + 1 + (secs t.length : Int)), .int .i64 (k + 32768)] u fun e w' => e = .returned (.int .i64 ((s.ops (wrs (wipes (wipeL s.p (k + 1 + (secs t.length : Int)) (k + half))))).1 : Int)) ∧ Did u F B (N + 32767) (s.ops (wrs (wipes (wipeL s.p (k + 1 + (secs t.length : Int)) (k + half))))).2 w' ∧ ∀ b' B' k' a' t', Bxs u b' B' k' a' t' → (∀ j, b' ≤ j → j ≤ b' + 3 → ¬ F j) → Bxs w' b' B' k' a' t') := Lib.hid fun u hu => (wipe_any hu (k + 1 + (secs t.length : Int)) (k + half) (fun x hx1 hx2 => by have := hc x hx1; omega) (by omega)).mono fun e w' ⟨he, hd⟩ => ⟨he, hd.upN (by omega) hN, fun b' B' k' a' t' hb1 hb2 => by
    obtain ⟨_, _, _, q⟩ := hd
    exact hb1.chg q hb2⟩
  have HD : Hid (∀ n, Dk (w.drewN n) F B N s) := Lib.hid fun n => h.drewN n
  have HB0 : Hid (∀ n, Below w.heap.size w (w.drewN n)) := Lib.hid fun n => below_drewN w n
  have HS0 : Bxs w.drew b B k a t := hx.step (below_drewN w 1)
  have HFB := Lib.hid hF
  generalize (s.ops (wrs (wipes (wipeL s.p (k + 1 + (secs t.length : Int)) (k + half))))) = RR at *
  generalize secs t.length = sc at *
  clear hx hc hwl hF h
  go_enter Tryz.func63, Tryz.ntmps63
  go_upto_region 1 with fail
  refine RK.region (fun u => Bxs u b B k a t) 10 (by kernel_rfl) ?_
  have hd0 : Dk w.drew F B N s := HD.out 1
  have hb0 : Below w.heap.size w w.drew := HB0.out 1
  generalize w.drew = w1 at *
  refine RK.Any.take 0 4 (ptr B) rfl rfl (by kernel_rfl) (by kernel_rfl) (by kernel_rfl) (by kernel_rfl) (fun _ _ _ h => h) (by rfl) (fun W' hb => ?_) HS0 ?_
  · obtain ⟨c0, c1, c2, c3⟩ := hb.cells; go_simp
  try simp only [List.setIfInBounds_toArray, List.set_cons_zero, List.set_cons_succ]
  refine RK.Any.take 1 5 (.int .i64 k) rfl rfl (by kernel_rfl) (by kernel_rfl) (by kernel_rfl) (by kernel_rfl) (fun _ _ _ h => h) (by rfl) (fun W' hb => ?_) HS0 ?_
  · obtain ⟨c0, c1, c2, c3⟩ := hb.cells; go_simp
  try simp only [List.setIfInBounds_toArray, List.set_cons_zero, List.set_cons_succ]
  refine RK.Any.take 2 6 (.int .i64 (k + 1)) rfl rfl (by kernel_rfl) (by kernel_rfl) (by kernel_rfl) (by kernel_rfl) (fun _ _ _ h => h) (by rfl) (fun W' hb => ?_) HS0 ?_
  · go_simp; simp [IntKind.wrap, IntKind.bits, IntKind.signed]; omega
  try simp only [List.setIfInBounds_toArray, List.set_cons_zero, List.set_cons_succ]
  refine RK.Any.take 3 7 (.string ⟨t.toArray⟩) rfl rfl (by kernel_rfl) (by kernel_rfl) (by kernel_rfl) (by kernel_rfl) (fun _ _ _ h => h) (by rfl) (fun W' hb => ?_) HS0 ?_
  · obtain ⟨c0, c1, c2, c3⟩ := hb.cells; go_simp
  try simp only [List.setIfInBounds_toArray, List.set_cons_zero, List.set_cons_succ]
  refine RK.Any.take 6 10 (.int .i64 k) rfl rfl (by kernel_rfl) (by kernel_rfl) (by kernel_rfl) (by kernel_rfl) (fun _ _ _ h => h) (by rfl) (fun W' hb => ?_) HS0 ?_
  · obtain ⟨c0, c1, c2, c3⟩ := hb.cells; go_simp
  try simp only [List.setIfInBounds_toArray, List.set_cons_zero, List.set_cons_succ]
  refine RK.Any.take 7 11 (.int .i64 (k + 32768)) rfl rfl (by kernel_rfl) (by kernel_rfl) (by kernel_rfl) (by kernel_rfl) (fun _ _ _ h => h) (by rfl) (fun W' hb => ?_) HS0 ?_
  · go_simp; simp [IntKind.wrap, IntKind.bits, IntKind.signed]; omega
  try simp only [List.setIfInBounds_toArray, List.set_cons_zero, List.set_cons_succ]
  refine RK.Any.call 4 8 65 #[.string ⟨t.toArray⟩] (by kernel_rfl) rfl rfl (by rfl) (by go_simp) (Calls.mono (HS.out.at _) ?_)
  rintro e w2 ⟨rfl, n2, hw2⟩
  have hb2 : Below w1.heap.size w1 w2 := by rw [hw2]; exact below_drewN w1 n2
  have HS1 := HS0.step hb2
  refine ⟨_, rfl, fun _ => HS1, ?_⟩
  try simp only [List.setIfInBounds_toArray, List.set_cons_zero, List.set_cons_succ]
  refine RK.Any.take 5 9 (.int .i64 (k + 1 + (sc : Int))) rfl rfl (by kernel_rfl) (by kernel_rfl) (by kernel_rfl) (by kernel_rfl) (fun _ _ _ h => h) (by rfl) (fun W' hb => ?_) HS1 ?_
  · go_simp; simp [IntKind.wrap, IntKind.bits, IntKind.signed]; omega
  try simp only [List.setIfInBounds_toArray, List.set_cons_zero, List.set_cons_succ]
  refine RK.Any.call 8 12 64 #[ptr B, .int .i64 (k + 1 + (sc : Int)), .int .i64 (k + 32768)] (by kernel_rfl) rfl rfl (by rfl) (by go_simp) (Calls.mono (HWP.out _ (hd0.step hb2)) ?_)
  rintro e w3 ⟨rfl, hd3, hbx⟩
  have HS2 := hbx b B k a t HS1 HFB.out
  have HD3 := Lib.hid (hd3.base (bnext hb0 hb2))
  refine ⟨_, rfl, fun _ => HS2, ?_⟩
  try simp only [List.setIfInBounds_toArray, List.set_cons_zero, List.set_cons_succ]
  refine RK.Any.exec 9 3 (.int .i64 (RR.1 : Int)) (w1 := w3) (by kernel_rfl) rfl rfl (by rfl) (by go_simp) HS2 ?_
  try simp only [List.setIfInBounds_toArray, List.set_cons_zero, List.set_cons_succ]
  refine RK.Any.done (by kernel_rfl) ?_
  go_wp2_with fail
  go_ret
  exact ⟨rfl, HD3.out⟩
set_option maxRecDepth 100000 in
set_option maxHeartbeats 8000000 in
theorem op4_any (h : Dk w F B N s) (hx : Bxs w b B k a t) (hF : ∀ j, b ≤ j → j ≤ b + 3 → ¬ F j) (ha : a ≤ top) (ht : t.length ≤ most) (hN : N + 1 ≤ 1000000) : Calls Tryz.prog 66 #[.pointer (some ⟨b, 0, none⟩), .pointer (some ⟨b + 1, 0, none⟩), .pointer (some ⟨b + 2, 0, none⟩), .pointer (some ⟨b + 3, 0, none⟩)] w fun e w' => e = .returned (.int .i64 ((s.write k (hdr a t.length)).1 : Int)) ∧ Did w F B (N + 1) (s.write k (hdr a t.length)).2 w' := by
  have HS := Lib.hid (header_any a t.length ha ht)
  have HWP : Hid (∀ u, Dk u F B N s → Calls Tryz.prog 22 #[ptr B, .int .i64 k, .string ⟨(hdr a t.length).toArray⟩] u fun e w' => e = .returned (.int .i64 ((s.write k (hdr a t.length)).1 : Int)) ∧ Did u F B (N + 1) (s.write k (hdr a t.length)).2 w' ∧ ∀ b' B' k' a' t', Bxs u b' B' k' a' t' → (∀ j, b' ≤ j → j ≤ b' + 3 → ¬ F j) → Bxs w' b' B' k' a' t') := Lib.hid fun u hu => (write_any hu hN k (hdr a t.length)).mono fun e w' ⟨he, hd⟩ => ⟨he, hd, fun b' B' k' a' t' hb1 hb2 => by
    obtain ⟨_, _, _, q⟩ := hd
    exact hb1.chg q hb2⟩
  have HD : Hid (∀ n, Dk (w.drewN n) F B N s) := Lib.hid fun n => h.drewN n
  have HB0 : Hid (∀ n, Below w.heap.size w (w.drewN n)) := Lib.hid fun n => below_drewN w n
  have HS0 : Bxs w.drew b B k a t := hx.step (below_drewN w 1)
  have HFB := Lib.hid hF
  have hl : t.length ≤ 16776704 := ht
  generalize (s.write k (hdr a t.length)) = RR at *
  generalize hdr a t.length = hh at *
  clear hx hF h
  go_enter Tryz.func66, Tryz.ntmps66
  go_upto_region 1 with fail
  refine RK.region (fun u => Bxs u b B k a t) 8 (by kernel_rfl) ?_
  have hd0 : Dk w.drew F B N s := HD.out 1
  have hb0 : Below w.heap.size w w.drew := HB0.out 1
  generalize w.drew = w1 at *
  refine RK.Any.take 0 5 (ptr B) rfl rfl (by kernel_rfl) (by kernel_rfl) (by kernel_rfl) (by kernel_rfl) (fun _ _ _ h => h) (by rfl) (fun W' hb => ?_) HS0 ?_
  · obtain ⟨c0, c1, c2, c3⟩ := hb.cells; go_simp
  try simp only [List.setIfInBounds_toArray, List.set_cons_zero, List.set_cons_succ]
  refine RK.Any.take 1 6 (.int .i64 k) rfl rfl (by kernel_rfl) (by kernel_rfl) (by kernel_rfl) (by kernel_rfl) (fun _ _ _ h => h) (by rfl) (fun W' hb => ?_) HS0 ?_
  · obtain ⟨c0, c1, c2, c3⟩ := hb.cells; go_simp
  try simp only [List.setIfInBounds_toArray, List.set_cons_zero, List.set_cons_succ]
  refine RK.Any.take 2 7 (.int .i64 (a : Int)) rfl rfl (by kernel_rfl) (by kernel_rfl) (by kernel_rfl) (by kernel_rfl) (fun _ _ _ h => h) (by rfl) (fun W' hb => ?_) HS0 ?_
  · obtain ⟨c0, c1, c2, c3⟩ := hb.cells; go_simp
  try simp only [List.setIfInBounds_toArray, List.set_cons_zero, List.set_cons_succ]
  refine RK.Any.take 3 8 (.string ⟨t.toArray⟩) rfl rfl (by kernel_rfl) (by kernel_rfl) (by kernel_rfl) (by kernel_rfl) (fun _ _ _ h => h) (by rfl) (fun W' hb => ?_) HS0 ?_
  · obtain ⟨c0, c1, c2, c3⟩ := hb.cells; go_simp
  try simp only [List.setIfInBounds_toArray, List.set_cons_zero, List.set_cons_succ]
  refine RK.Any.take 4 9 (.int .i64 (t.length : Int)) rfl rfl (by kernel_rfl) (by kernel_rfl) (by kernel_rfl) (by kernel_rfl) (fun _ _ _ h => h) (by rfl) (fun W' hb => ?_) HS0 ?_
  · go_simp
  try simp only [List.setIfInBounds_toArray, List.set_cons_zero, List.set_cons_succ]
  refine RK.Any.call 5 10 67 #[.int .i64 (a : Int), .int .i64 (t.length : Int)] (by kernel_rfl) rfl rfl (by rfl) (by go_simp) (Calls.mono (HS.out.at _) ?_)
  rintro e w2 ⟨rfl, hb2⟩
  have HS1 := HS0.step hb2
  refine ⟨_, rfl, fun _ => HS1, ?_⟩
  try simp only [List.setIfInBounds_toArray, List.set_cons_zero, List.set_cons_succ]
  refine RK.Any.call 6 11 22 #[ptr B, .int .i64 k, .string ⟨hh.toArray⟩] (by kernel_rfl) rfl rfl (by rfl) (by go_simp) (Calls.mono (HWP.out _ (hd0.step hb2)) ?_)
  rintro e w3 ⟨rfl, hd3, hbx⟩
  have HS2 := hbx b B k a t HS1 HFB.out
  have HD3 := Lib.hid (hd3.base (bnext hb0 hb2))
  refine ⟨_, rfl, fun _ => HS2, ?_⟩
  try simp only [List.setIfInBounds_toArray, List.set_cons_zero, List.set_cons_succ]
  refine RK.Any.exec 7 4 (.int .i64 (RR.1 : Int)) (w1 := w3) (by kernel_rfl) rfl rfl (by rfl) (by go_simp) HS2 ?_
  try simp only [List.setIfInBounds_toArray, List.set_cons_zero, List.set_cons_succ]
  refine RK.Any.done (by kernel_rfl) ?_
  go_wp2_with fail
  go_ret
  exact ⟨rfl, HD3.out⟩
end
end M
end Go.Proofs.YtoacmingocmaaaaGreatDoor

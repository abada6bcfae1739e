/- The texts SltGone, one behind the other. -/
import Derived.Test.YtoacmingocmaaaaGreatDoorWB6
import Derived.Test.YtoacmingocmaaaaGreatDoorWB19
/- What stands behind a Write that was done, and behind a Twice: both places. -/
namespace Go.Proofs.YtoacmingocmaaaaGreatDoor
namespace MM
theorem full_hdr_ne {a b n : Nat} (ha : a ≤ top) (hb : b ≤ top) (hn : n ≤ most) (hab : a ≠ b) : full (hdr a n) ≠ full (hdr b n) := fun e => by
  have h1 := headOf_hdr ha hn
  rw [e, headOf_hdr hb hn] at h1
  injection h1 with h2 _
  exact hab h2.symm
theorem plat0 (s : Dsk) : s.platter 0 = s.p 0 := by unfold Dsk.platter; rw [if_pos (by decide)]
theorem Done.tidy {s r : Dsk} {t : By} (h : Done s t r) : Tidy r (othV s.read).at_ (ageV s.read + 1) t := ⟨h.head, h.text, h.rest⟩
/-- What one Write leaves. -/
theorem gone_one {s : Dsk} (hl : Live s) {t : By} (ht : t.length ≤ most) (ha : ageV s.read ≠ top) :
    ∃ z, s.save t = (0, z) ∧ Has z t (ageV s.read + 1) ∧ z.c = [] ∧ (Tidy z 0 (ageV s.read + 1) t ∨ (z.platter 0 ≠ full (hdr (ageV s.read + 1) t.length) ∧ Tidy z half (ageV s.read + 1) t)) := by
  obtain ⟨h0, h1, h2⟩ := save_ok hl ht ha
  have hle := ageV_le s.read
  refine ⟨_, pair_eq h0, h1, h2.c, ?_⟩
  have htd := h2.tidy
  rcases othV_at s.read with ⟨e, _, _⟩ | ⟨e, en, _⟩
  · rw [e] at htd; exact .inl htd
  · refine .inr ⟨fun e2 => ?_, by rw [e] at htd; exact htd⟩
    rw [plat0, h2.out 0 (by rw [e]; have := half_pos; omega), ← read_view hl.dead (by decide)] at e2
    have h3 : ageV s.read = (headOf (s.read 0)).1 := by unfold ageV; rw [newV_is, en]; rfl
    rw [e2, headOf_hdr (by omega) ht] at h3
    simp at h3
theorem gone_full {s : Dsk} (hl : Live s) {t : By} (ht : t.length ≤ most) (ha : ageV s.read = top) : s.save t = (41, s) ∧ s.twice t = (41, s) := by
  have h := save_full hl.dead ht ha
  refine ⟨h, ?_⟩
  unfold Dsk.twice
  rw [h, if_neg (by simp)]
theorem gone_last {s : Dsk} (hl : Live s) {t : By} (ht : t.length ≤ most) (ha : ageV s.read + 1 = top) : (s.twice t).1 = 41 := by
  obtain ⟨z, e, hz, _⟩ := gone_one hl ht (by omega)
  unfold Dsk.twice
  rw [e, if_pos rfl, save_full hz.live.dead ht (hz.age.trans ha)]
/-- What a Twice leaves. -/
theorem gone_two {s : Dsk} (hl : Live s) {t : By} (ht : t.length ≤ most) (ha : ageV s.read + 1 < top) :
    ∃ z, s.twice t = (0, z) ∧ Has z t (ageV s.read + 2) ∧ ((Tidy z 0 (ageV s.read + 1) t ∧ Tidy z half (ageV s.read + 2) t) ∨ (z.platter 0 ≠ full (hdr (ageV s.read + 1) t.length) ∧ Tidy z 0 (ageV s.read + 2) t ∧ Tidy z half (ageV s.read + 1) t)) := by
  obtain ⟨h0, h1, h2⟩ := save_ok hl ht (by omega : ageV s.read ≠ top)
  have hle := ageV_le s.read
  have hhp := half_pos
  have e0 : s.twice t = (s.save t).2.save t := by unfold Dsk.twice; rw [if_pos h0]
  rw [e0]
  obtain ⟨r, hr⟩ : ∃ r, (s.save t).2 = r := ⟨_, rfl⟩
  rw [hr] at h1 h2 ⊢
  obtain ⟨k0, k1, k2⟩ := save_ok h1.live ht (by rw [h1.age]; omega)
  rw [h1.age] at k1
  obtain ⟨z, hz⟩ : ∃ z, (r.save t).2 = z := ⟨_, rfl⟩
  have hp := pair_eq k0
  rw [hz] at hp k1 k2
  refine ⟨z, hp, k1, ?_⟩
  have t1 := h2.tidy
  have t2 := k2.tidy
  rw [h1.age] at t2
  have hro := (read_of_plain h2.live h2.c).2.2
  have hn := h2.new
  have hout := k2.out
  rw [h2.c] at hout
  have keep : ∀ k, (k = 0 ∧ (othV r.read).at_ = half) ∨ (k = half ∧ (othV r.read).at_ = 0) → Tidy r k (ageV s.read + 1) t → Tidy z k (ageV s.read + 1) t := fun k hk h => by
    have hs := secs_le ht
    have hh : half = 32768 := rfl
    have o : ∀ x, k ≤ x → x < k + half → z.p x = r.p x := fun x q1 q2 => by
      rw [hout x (by rcases hk with ⟨rfl, e⟩ | ⟨rfl, e⟩ <;> rw [e] <;> omega)]; rfl
    exact ⟨(o k (by omega) (by omega)).trans h.head, fun i hi => (o _ (by omega) (by omega)).trans (h.text i hi), fun x q1 q2 => (o x (by omega) q2).trans (h.rest x q1 q2)⟩
  rcases othV_at r.p with ⟨e, en, _⟩ | ⟨e, en, _⟩
  · have ho : (othV r.read).at_ = 0 := hro.trans e
    have hk : (othV s.read).at_ = half := hn.symm.trans en
    rw [hk] at t1
    rw [ho] at t2
    refine .inr ⟨fun e2 => ?_, t2, keep half (.inr ⟨rfl, ho⟩) t1⟩
    rw [plat0, t2.head] at e2
    exact full_hdr_ne (by omega) (by omega) ht (by omega) e2
  · have ho : (othV r.read).at_ = half := hro.trans e
    have hk : (othV s.read).at_ = 0 := hn.symm.trans en
    rw [hk] at t1
    rw [ho] at t2
    exact .inl ⟨keep 0 (.inl ⟨rfl, ho⟩) t1, t2⟩
/-- A step of a statement of layer 11. -/
def Dsk.does11 (s : Dsk) (x : Sx) : Dsk := if x.k = 0 then (s.save x.s).2 else if x.k = 1 then (s.twice x.s).2 else if x.k = 2 then s.setFuse x.n else if x.k = 3 then s.crash x.keep x.at_ else if x.k = 4 then s.start else if x.k = 5 then (s.write x.at_ x.s).2 else s.sync.2
def run11 (f : Nat → Sx) : Nat → Dsk
  | 0 => Dsk.new
  | i + 1 => (run11 f i).does11 (f i)
theorem Live.boot (s : Dsk) : Live s.start := ⟨rfl, rfl⟩
theorem long_few {f : Nat → Sx} {n : Nat} (h : sm5 f n < 30000) : n ≤ 60 := by have := sm5_ge f n; omega
end MM
end Go.Proofs.YtoacmingocmaaaaGreatDoor

/- The texts SltSet, SltLaw1, DskLaw1, DskLaw2, DskLaw3, DskLaw4, one behind the other. -/
import Derived.Test.YtoacmingocmaaaaGreatDoorWB8
import Derived.Test.YtoacmingocmaaaaGreatDoorWB15
import Derived.Deep.MidRow
/- Texts on one of some disks; whether one has a text and an age. -/
namespace Go.Proofs.YtoacmingocmaaaaGreatDoor
open Go Go.RowKit Go.Lib
namespace M
open MM
section
variable {W w w' : World} {L : Dl} {R : World → Prop} {i B N : Nat} {s : Dsk}
theorem Ds.age (h : Ds W L R w) (hi : L[i]? = some (B, N, s)) : Calls Tryz.prog 12 #[ptr B] w fun e w' => e = .returned (.int .i64 (ageV s.read : Int)) ∧ Ds W L R w' := by
  obtain ⟨F, hd, _, _⟩ := h.dk hi
  exact (age_any hd).mono fun e w' ⟨he, hb⟩ => ⟨he, h.step hb⟩
theorem Ds.text (h : Ds W L R w) (hi : L[i]? = some (B, N, s)) : Calls Tryz.prog 10 #[ptr B] w fun e w' => e = .returned (textR s.read) ∧ Ds W L R w' := by
  obtain ⟨F, hd, _, _⟩ := h.dk hi
  exact (text_any hd).mono fun e w' ⟨he, hb⟩ => ⟨he, h.step hb⟩
theorem Ds.save (h : Ds W L R w) (hi : L[i]? = some (B, N, s)) (hN : N ≤ 400000) (t : By) : Calls Tryz.prog 17 #[ptr B, .string ⟨t.toArray⟩] w fun e w' => e = .returned (.int .i64 ((s.save t).1 : Int)) ∧ Ds W (L.set i (B, max N 131072, (s.save t).2)) R w' := by
  obtain ⟨F, hd, _, hgo⟩ := h.dk hi
  exact (save_any hd hN t).mono fun e w' ⟨h1, h2⟩ => ⟨h1, hgo _ _ _ h2⟩
theorem Ds.twice (h : Ds W L R w) (hi : L[i]? = some (B, N, s)) (hN : N ≤ 400000) (t : By) : Calls Tryz.prog 18 #[ptr B, .string ⟨t.toArray⟩] w fun e w' => e = .returned (.int .i64 ((s.twice t).1 : Int)) ∧ Ds W (L.set i (B, max N 131072, (s.twice t).2)) R w' := by
  obtain ⟨F, hd, _, hgo⟩ := h.dk hi
  exact (twice_any hd hN t).mono fun e w' ⟨h1, h2⟩ => ⟨h1, hgo _ _ _ h2⟩
theorem Ds.up (h : Ds W L R w) (hi : L[i]? = some (B, N, s)) {N' : Nat} (hN : N ≤ N') (hN' : N' ≤ 1000000) : Ds W (L.set i (B, N', s)) R w := by
  obtain ⟨F, hd, _, hgo⟩ := h.dk hi
  exact hgo _ _ _ (.refl (hd.up hN hN'))
set_option maxRecDepth 100000 in
set_option maxHeartbeats 4000000 in
theorem Ds.has (h : Ds W L R w) (hi : L[i]? = some (B, N, s)) {t : By} {a : Nat} (ht : textV s.read = some t) (ha : ageV s.read = a) : Calls Tryz.prog 24 #[ptr B, .string ⟨t.toArray⟩, .int .i64 (a : Int)] w fun e w' => e = .returned (.bool true) ∧ Ds W L R w' := by
  have HT := Lib.hid (Ds.text h hi)
  have HA : Hid (∀ w, Ds W L R w → Calls Tryz.prog 12 #[ptr B] w fun e w' => e = .returned (.int .i64 (a : Int)) ∧ Ds W L R w') := Lib.hid fun w hw => by
    have := Ds.age hw hi
    rwa [ha] at this
  unfold textR at HT
  rw [ht] at HT
  clear h ht ha
  go_enter Tryz.func24, Tryz.ntmps24
  go_wp2_with (first
    | (go_at_call 10; (with_reducible refine HT.out.mono ?_); rintro e w1 ⟨rfl, hd⟩; have HD := Lib.hid hd; clear hd)
    | (go_at_call 12; (with_reducible refine (HA.out _ HD.out).mono ?_); rintro e w2 ⟨rfl, hd⟩; have HD2 := Lib.hid hd; clear hd))
  go_ret
  exact ⟨rfl, HD2.out⟩
end
end M
end Go.Proofs.YtoacmingocmaaaaGreatDoor
/- The chapter's examples. -/
namespace Go.Proofs.YtoacmingocmaaaaGreatDoor
namespace MM
/-- Neither dead, nor with a fuse. -/
structure Live (s : Dsk) : Prop where
  dead : s.dead = false
  fuse : s.fuse = none
structure Has (s : Dsk) (t : By) (a : Nat) : Prop where
  live : Live s
  text : textV s.read = some t
  age : ageV s.read = a
theorem save_ok {s : Dsk} (h : Live s) {t : By} (ht : t.length ≤ most) (ha : ageV s.read ≠ top) : (s.save t).1 = 0 ∧ Has (s.save t).2 t (ageV s.read + 1) ∧ Done s t (s.save t).2 := by
  obtain ⟨h0, h1⟩ := save_free h.dead h.fuse ht ha
  have hd := save_done h.dead ht ha h0
  exact ⟨h0, ⟨⟨hd.live, h1⟩, hd.read.1, hd.read.2⟩, hd⟩
theorem Live.new : Live Dsk.new := ⟨rfl, rfl⟩
theorem new_zeros (k : Int) : putAll Dsk.new.p Dsk.new.c k = zero := new_p k
theorem new_age : ageV Dsk.new.read = 0 := by rw [view_age rfl]; exact zeros_age new_zeros
theorem new_text : textV Dsk.new.read = none := by unfold textV; rw [if_pos new_age]
/-- What is read where it stops ahead of the header. -/
theorem pre_view {s : Dsk} {t : By} {k : Int} (hd : s.dead = false) (hk : k = 0 ∨ k = half) (ht : t.length ≤ most) (h0 : (s.ops (preOps k t)).1 ≠ 0) :
    (∀ x, ¬ (k ≤ x ∧ x < k + half) → putAll (s.ops (preOps k t)).2.p (s.ops (preOps k t)).2.c x = putAll s.p s.c x) ∧ (putAll (s.ops (preOps k t)).2.p (s.ops (preOps k t)).2.c k = zero ∨ putAll (s.ops (preOps k t)).2.p (s.ops (preOps k t)).2.c k = putAll s.p s.c k) := by
  have hks : sec k = true := by rcases hk with rfl | rfl <;> decide
  have hhp := half_pos
  have key : ∀ {j : Nat} {y : Int × By}, y ∈ fulls ((texts (k + 1) t).take j) → k < y.1 ∧ y.1 < k + half := fun {j y} hy => by
    obtain ⟨z, hz, rfl⟩ := mem_fulls.1 hy
    obtain ⟨q1, q2, _⟩ := bodyW_keys (p := fun _ => zero) ht (List.mem_append.2 (.inl (List.mem_of_mem_take hz)))
    exact ⟨q1, q2⟩
  have fT : Fine (texts (k + 1) t) := fun x hx => bodyW_fine (k := k) (t := t) (p := fun _ => zero) ht hk x (List.mem_append.2 (.inl hx))
  have e0 : s.ops (preOps k t) = s.ops (.sync :: .wr k [] :: .sync :: wrs (texts (k + 1) t)) := rfl
  rw [e0, ops_cons] at h0 ⊢
  rcases sync_run hd with ⟨a1, a2, a3, a4⟩ | ⟨a1, a2, a3, a4⟩
  rotate_left
  · rw [if_neg (by rw [a1]; simp), a3, a4]; exact ⟨fun _ _ => rfl, .inr rfl⟩
  rw [if_pos a1, ops_cons] at h0 ⊢
  generalize (s.op .sync).2 = s1 at *
  generalize putAll s.p s.c = p1 at *
  rcases wr_run a2 k [] hks (by simp) with ⟨b1, b2, b3, b4⟩ | ⟨b1, b2, b3, b4⟩
  rotate_left
  · rw [if_neg (by rw [b1]; simp), b3, b4, a3, a4]; exact ⟨fun _ _ => rfl, .inr rfl⟩
  rw [if_pos b1, ops_cons] at h0 ⊢
  generalize (s1.op (.wr k [])).2 = s2 at *
  rw [a3] at b3
  rw [a4, List.nil_append, full_nil] at b4
  rcases sync_run b2 with ⟨c1, c2, c3, c4⟩ | ⟨c1, c2, c3, c4⟩
  rotate_left
  · rw [if_neg (by rw [c1]; simp), c3, c4, b3, b4]
    exact ⟨fun x hx => upd_other _ _ fun e => hx (by rw [e]; show k ≤ k ∧ k < _; omega), .inl (upd_at _ _ _)⟩
  rw [if_pos c1] at h0 ⊢
  generalize (s2.op .sync).2 = s3 at *
  rw [b3, b4, putAll_cons, putAll_nil] at c3
  rcases wrs_run c2 fT with ⟨d1, _⟩ | ⟨d1, d2, d3, j, d4⟩
  · exact absurd d1 h0
  · rw [d3, d4, c3, c4, List.nil_append]
    refine ⟨fun x hx => ?_, .inl ?_⟩
    · rw [putAll_other fun y hy e => hx (by have := key hy; omega), upd_other _ _ fun e => hx (by rw [e]; show k ≤ k ∧ k < _; omega)]
    · rw [putAll_other fun y hy e => by have := key hy; omega, upd_at]
/-- A text's sectors do not fit under the fuse: nothing of what is read has changed. -/
theorem pre_keep {s : Dsk} {t : By} (hd : s.dead = false) (ht : t.length ≤ most) (ha : ageV s.read ≠ top) {f : Nat} (hf : s.fuse = some f) (hlt : f < 3 + secs t.length) : (s.save t).1 = 42 ∧ textV (s.save t).2.start.read = textV s.read ∧ ageV (s.save t).2.start.read = ageV s.read := by
  have hk := oth_two s.read
  have hv := view_all hd
  have hva := view_age hd
  obtain ⟨k, hkk⟩ : ∃ k, (othV s.read).at_ = k := ⟨_, rfl⟩
  have hcnt := ops_count (l := preOps (othV s.read).at_ t) hd (pre_ok hk ht)
  rw [pre_len] at hcnt
  have hsv := save_eq hd ht ha
  rw [hkk] at hcnt hsv hk
  have h42 : (s.ops (preOps k t)).1 = 42 := by
    rcases hcnt with ⟨_, _, _, h4⟩ | ⟨h1, _⟩
    · have := h4 f hf; omega
    · exact h1
  rw [if_neg (by rw [h42]; simp)] at hsv
  rw [hsv]
  refine ⟨h42, ?_⟩
  obtain ⟨q1, q2⟩ := pre_view hd hk ht (by rw [h42]; simp)
  obtain ⟨e1, e2, _⟩ := text_keep (p := putAll s.p s.c) (q := putAll (s.ops (preOps k t)).2.p (s.ops (preOps k t)).2.c) (k := k) (by rw [← hv.2.1]; exact hkk) (fun x _ hx => q1 x hx) (q2.imp head_zero fun e => by rw [e])
  have hv3 := view_all (s := (s.ops (preOps k t)).2.start) rfl
  have hv4 := view_age (s := (s.ops (preOps k t)).2.start) rfl
  exact ⟨hv3.2.2.trans (e1.trans hv.2.2.symm), hv4.trans (e2.trans hva.symm)⟩
abbrev tAB : By := [97, 98]
abbrev tC : By := [99]
abbrev tD : By := [100]
theorem few_top {a : Nat} (h : a < 1000000) : a ≠ top := by unfold top; omega
theorem fuse_read (s : Dsk) (n : Int) : (s.setFuse n).read = s.read := by funext k; unfold Dsk.read Dsk.setFuse; dsimp only
theorem fuse_dead (s : Dsk) (n : Int) : (s.setFuse n).dead = s.dead := by unfold Dsk.setFuse; dsimp only
theorem fuse_three (s : Dsk) : (s.setFuse 3).fuse = some 3 := by unfold Dsk.setFuse; simp
theorem pair_eq {r : Nat × Dsk} {n : Nat} (h : r.1 = n) : r = (n, r.2) := by rw [← h]
theorem len1 : tAB.length ≤ most := by show 2 ≤ 16776704; omega
theorem len2 : tC.length ≤ most := by show 1 ≤ 16776704; omega
theorem len3 : tD.length ≤ most := by show 1 ≤ 16776704; omega
theorem aw : ∃ z1 z2 z3 : Dsk, Dsk.new.save tAB = (0, z1) ∧ Has z1 tAB 1 ∧ z1.save tC = (0, z2) ∧ Has z2 tC 2 ∧ (z2.setFuse 3).save tD = (42, z3) ∧ textV z3.start.read = some tC ∧ ageV z3.start.read = 2 := by
  obtain ⟨a1, a2, _⟩ := save_ok Live.new (t := tAB) len1 (by rw [new_age]; exact few_top (by omega))
  rw [new_age] at a2
  obtain ⟨z1, hz1⟩ : ∃ z, (Dsk.new.save tAB).2 = z := ⟨_, rfl⟩
  have e1 := pair_eq a1
  rw [hz1] at e1 a2
  obtain ⟨b1, b2, _⟩ := save_ok a2.live (t := tC) len2 (by rw [a2.age]; exact few_top (by omega))
  rw [a2.age] at b2
  obtain ⟨z2, hz2⟩ : ∃ z, (z1.save tC).2 = z := ⟨_, rfl⟩
  have e2 := pair_eq b1
  rw [hz2] at e2 b2
  obtain ⟨c1, c2, c3⟩ := pre_keep (s := z2.setFuse 3) (t := tD) ((fuse_dead _ _).trans b2.live.dead) len3 (by rw [fuse_read, b2.age]; exact few_top (by omega)) (fuse_three z2) (by show 3 < 3 + secs 1; unfold secs; omega)
  rw [fuse_read, b2.text] at c2
  rw [fuse_read, b2.age] at c3
  obtain ⟨z3, hz3⟩ : ∃ z, ((z2.setFuse 3).save tD).2 = z := ⟨_, rfl⟩
  have e3 := pair_eq c1
  rw [hz3] at e3 c2 c3
  exact ⟨z1, z2, z3, e1, a2, e2, b2, e3, c2, c3⟩
end MM
open Go Go.RowKit Go.Lib
namespace M
open MM
section
variable {W w : World}
set_option maxRecDepth 100000 in
set_option maxHeartbeats 8000000 in
theorem awake_go (w : World) : Calls Tryz.prog 6 #[] w fun e w' => e = .returned (.bool true) ∧ Below w.heap.size w w' := by
  obtain ⟨z1, z2, z3, a1, a2, b1, b2, c1, c2, c3⟩ := aw
  have q1 := a2.text
  have q2 := a2.age
  have q3 := b2.text
  have q4 := b2.age
  have q0 := new_text
  clear a2 b2
  have HD0 := Lib.hid (Ds.new (Ds.start w (Below.refl _ _)))
  have S1 : Hid (∀ B u, Ds w [(B, 0, Dsk.new)] (fun _ => True) u → Calls Tryz.prog 17 #[ptr B, .string ⟨tAB.toArray⟩] u fun e w' => e = .returned (.int .i64 0) ∧ Ds w [(B, 131072, z1)] (fun _ => True) w') := Lib.hid fun B u h => by
    have := Ds.save h (i := 0) rfl (by omega) tAB
    rw [a1] at this; exact this
  have S2 : Hid (∀ B u, Ds w [(B, 131072, z1)] (fun _ => True) u → Calls Tryz.prog 17 #[ptr B, .string ⟨tC.toArray⟩] u fun e w' => e = .returned (.int .i64 0) ∧ Ds w [(B, 131072, z2)] (fun _ => True) w') := Lib.hid fun B u h => by
    have := Ds.save h (i := 0) rfl (by omega) tC
    rw [b1] at this; exact this
  have S3 : Hid (∀ B u, Ds w [(B, 131072, z2.setFuse 3)] (fun _ => True) u → Calls Tryz.prog 17 #[ptr B, .string ⟨tD.toArray⟩] u fun e w' => e = .returned (.int .i64 42) ∧ Ds w [(B, 131072, z3)] (fun _ => True) w') := Lib.hid fun B u h => by
    have := Ds.save h (i := 0) rfl (by omega) tD
    rw [c1] at this; exact this
  have R0 : Hid (∀ B u, Ds w [(B, 0, Dsk.new)] (fun _ => True) u → Calls Tryz.prog 10 #[ptr B] u fun e w' => e = .returned (.tuple #[.string ⟨#[]⟩, .bool false]) ∧ Ds w [(B, 0, Dsk.new)] (fun _ => True) w') := Lib.hid fun B u h => by
    have := Ds.text h (i := 0) rfl
    unfold textR at this
    rw [q0] at this; exact this
  have H1 : Hid (∀ B u, Ds w [(B, 131072, z1)] (fun _ => True) u → Calls Tryz.prog 24 #[ptr B, .string ⟨tAB.toArray⟩, .int .i64 1] u fun e w' => e = .returned (.bool true) ∧ Ds w [(B, 131072, z1)] (fun _ => True) w') := Lib.hid fun B u h => Ds.has h (i := 0) rfl q1 q2
  have H2 : Hid (∀ B u, Ds w [(B, 131072, z2)] (fun _ => True) u → Calls Tryz.prog 24 #[ptr B, .string ⟨tC.toArray⟩, .int .i64 2] u fun e w' => e = .returned (.bool true) ∧ Ds w [(B, 131072, z2)] (fun _ => True) w') := Lib.hid fun B u h => Ds.has h (i := 0) rfl q3 q4
  have H3 : Hid (∀ B u, Ds w [(B, 131072, z3.start)] (fun _ => True) u → Calls Tryz.prog 24 #[ptr B, .string ⟨tC.toArray⟩, .int .i64 2] u fun e w' => e = .returned (.bool true) ∧ Ds w [(B, 131072, z3.start)] (fun _ => True) w') := Lib.hid fun B u h => Ds.has h (i := 0) rfl c2 c3
  clear q0 q1 q2 q3 q4 a1 b1 c1 c2 c3
  go_enter Tryz.func6, Tryz.ntmps6
  go_upto_region 3 with (first
    | (go_at_call 7; (with_reducible refine HD0.out.mono ?_); rintro e w1 ⟨B, rfl, h⟩; have HD : Hid (Ds w [(B, 0, Dsk.new)] (fun _ => True) w1) := Lib.hid h; clear h)
    | (go_at_call 10; (with_reducible refine (R0.out _ _ HD.out).mono ?_); rintro e w2 ⟨rfl, h⟩; replace HD := Lib.hid h; clear h))
  go_upto_region 4 with (first
    | (go_at_call 17; (with_reducible refine (S1.out _ _ HD.out).mono ?_); rintro e w3 ⟨rfl, h⟩; replace HD := Lib.hid h; clear h)
    | (go_at_call 24; (with_reducible refine (H1.out _ _ HD.out).mono ?_); rintro e w3 ⟨rfl, h⟩; replace HD := Lib.hid h; clear h))
  go_upto_region 5 with (first
    | (go_at_call 17; (with_reducible refine (S2.out _ _ HD.out).mono ?_); rintro e w3 ⟨rfl, h⟩; replace HD := Lib.hid h; clear h)
    | (go_at_call 24; (with_reducible refine (H2.out _ _ HD.out).mono ?_); rintro e w3 ⟨rfl, h⟩; replace HD := Lib.hid h; clear h))
  go_wp2_with (first
    | (go_at_call 19; (with_reducible refine (Ds.fuse HD.out (i := 0) rfl 3 (by omega)).mono ?_); rintro e w3 ⟨rfl, h⟩; replace HD : Hid (Ds w [(B, 131072, z2.setFuse 3)] (fun _ => True) w3) := Lib.hid h; clear h)
    | (go_at_call 17; (with_reducible refine (S3.out _ _ HD.out).mono ?_); rintro e w3 ⟨rfl, h⟩; replace HD := Lib.hid h; clear h)
    | (go_at_call 21; (with_reducible refine (Ds.boot HD.out (i := 0) rfl).mono ?_); rintro e w3 ⟨rfl, h⟩; replace HD : Hid (Ds w [(B, 131072, z3.start)] (fun _ => True) w3) := Lib.hid h; clear h)
    | (go_at_call 24; (with_reducible refine (H3.out _ _ HD.out).mono ?_); rintro e w3 ⟨rfl, h⟩; replace HD := Lib.hid h; clear h))
  go_ret
  exact ⟨rfl, HD.out.below⟩
end
end M
end Go.Proofs.YtoacmingocmaaaaGreatDoor
/- A disk behind steps; two rows of the same numbers. -/
namespace Go.Proofs.YtoacmingocmaaaaGreatDoor
namespace MM
theorem asc_len : ∀ (l : List Int) (lo : Int), Asc l → (∀ k ∈ l, lo ≤ k ∧ k < 65536) → l.length ≤ (65536 - lo).toNat
  | [], _, _, _ => Nat.zero_le _
  | x :: r, lo, h, hk => by
    have h1 := hk x (by simp)
    have h2 := asc_len r (x + 1) (List.Pairwise.of_cons h) fun k hkr => by
      have h3 := (List.pairwise_cons.1 h).1 k hkr
      have h4 := hk k (by simp [hkr])
      omega
    rw [List.length_cons]
    omega
theorem UsedIs.sec {s : Dsk} {l : List Int} (h : UsedIs s l) (hs : s.Wf) {k : Int} (hk : k ∈ l) : MM.sec k = true := by
  rcases (h.mem k).1 hk with h1 | ⟨x, h1, rfl⟩
  · cases e : MM.sec k with
    | true => rfl
    | false => exact absurd (hs.p.out k e) h1
  · exact (hs.c x h1).1
theorem UsedIs.len {s : Dsk} {l : List Int} (h : UsedIs s l) (hs : s.Wf) : l.length ≤ 65536 :=
  asc_len l 0 h.asc fun _ hk => sec_yes.1 (h.sec hs hk)
end MM
open Go Go.RowKit Go.Lib Go.Deep
namespace M
open MM
theorem vals_at {w : World} {v : Value} {l : List Int} (h : ValsAt w v (ints l)) : ∃ ao c, v = .slice ao l.length c ∧ ∀ (i : Nat) (z : Int), l[i]? = some z → ∃ ad, ao = some ad ∧ w.cell? (ad.add i) = some (.int .i64 z) := by
  obtain ⟨ao, c, h1, h2⟩ := h
  rw [ints_len] at h1
  exact ⟨ao, c, h1, fun i z hz => h2 i _ (ints_get hz)⟩
end M
end Go.Proofs.YtoacmingocmaaaaGreatDoor
/- The examples, call by call: they are as they are told. -/
namespace Go.Proofs.YtoacmingocmaaaaGreatDoor
namespace MM
/-- So many 00s, as a row that is not opened. -/
def zr (n : Nat) : By := List.replicate n 0
theorem zr_len (n : Nat) : (zr n).length = n := List.length_replicate
def k1 : Dsk := ⟨fun _ => zero, [(3, full [97, 98])], none, false⟩
def k2 : Dsk := ⟨upd (fun _ => zero) (3, (full [97, 98]).take 1 ++ zero.drop 1), [], none, true⟩
def k3 : Dsk := { k2 with dead := false, fuse := some 1 }
def k4 : Dsk := { k3 with c := [(0, full [120])], fuse := some 0 }
def k5 : Dsk := { k4 with dead := true }
def k6 : Dsk := { k5 with dead := false, fuse := none }
theorem k6_long : k6.write 0 (zr 513) = (10, k6) := by
  unfold Dsk.write
  rw [if_neg (by decide), if_neg (by decide), if_pos (by rw [zr_len]; decide)]
theorem k1_used : UsedIs k1 [3] := ⟨by simp [Asc], fun k => by simp [k1, eq_comm]⟩
end MM
open Go Go.RowKit Go.Lib Go.Deep
namespace M
open MM
section
variable {W w : World} {R : World → Prop} {B : Nat}
theorem wk1 (h : Ds W [(B, 0, Dsk.new)] R w) : Calls Tryz.prog 22 #[ptr B, .int .i64 3, .string ⟨#[97, 98]⟩] w fun e w' => e = .returned (.int .i64 0) ∧ Ds W [(B, 1, k1)] R w' := Ds.write h (i := 0) rfl (by decide) 3 [97, 98]
theorem wk2 (h : Ds W [(B, 1, k1)] R w) : Calls Tryz.prog 36 #[ptr B, .int .i64 3] w fun e w' => e = .returned (.string ⟨(97 :: 98 :: zr 510).toArray⟩) ∧ Ds W [(B, 1, k1)] R w' := (Ds.read h (i := 0) rfl 3).mono fun _ _ ⟨h1, h2⟩ => ⟨h1.trans rfl, h.step h2⟩
theorem wk3 (h : Ds W [(B, 1, k1)] R w) : Calls Tryz.prog 14 #[ptr B, .int .i64 3] w fun e w' => e = .returned (.string ⟨(zr 512).toArray⟩) ∧ Ds W [(B, 1, k1)] R w' := (Ds.platter h (i := 0) rfl 3).mono fun _ _ ⟨h1, h2⟩ => ⟨h1.trans rfl, h.step h2⟩
theorem wk4 (h : Ds W [(B, 1, k1)] R w) : Calls Tryz.prog 51 #[ptr B] w fun e w' => ∃ v, e = .returned v ∧ (∃ ao l c, v = .slice ao l c) ∧ ValsAt w' v (ints [3]) ∧ Ds W [(B, 1, k1)] R w' := (Ds.used h (i := 0) rfl).mono fun _ _ ⟨v, l, h1, h2, h3, h4⟩ => ⟨v, h1, by obtain ⟨ao, c, hv, _⟩ := h3; exact ⟨_, _, _, hv⟩, by rw [h2.one k1_used] at h3; exact h3, h.step h4⟩
theorem wk5 (h : Ds W [(B, 1, k1)] R w) : Calls Tryz.prog 20 #[ptr B, .slice none 0 0, .int .i64 1] w fun e w' => e = .returned (.tuple #[]) ∧ Ds W [(B, 1, k2)] R w' := Ds.crash h (i := 0) rfl (by decide) [] none 0 1 fun _ _ _ => fun _ _ hi => by simp at hi
theorem wk6 (h : Ds W [(B, 1, k2)] R w) : Calls Tryz.prog 14 #[ptr B, .int .i64 3] w fun e w' => e = .returned (.string ⟨(97 :: zr 511).toArray⟩) ∧ Ds W [(B, 1, k2)] R w' := (Ds.platter h (i := 0) rfl 3).mono fun _ _ ⟨h1, h2⟩ => ⟨h1.trans rfl, h.step h2⟩
theorem wk7 (h : Ds W [(B, 1, k2)] R w) : Calls Tryz.prog 45 #[ptr B] w fun e w' => e = .returned (.bool true) ∧ Ds W [(B, 1, k2)] R w' := (Ds.dead h (i := 0) rfl).mono fun _ _ ⟨h1, h2⟩ => ⟨h1, h2 ▸ h⟩
theorem wk8 (h : Ds W [(B, 1, k2)] R w) : Calls Tryz.prog 21 #[ptr B] w fun e w' => e = .returned (.tuple #[]) ∧ Ds W [(B, 1, k2.start)] R w' := Ds.boot h (i := 0) rfl
theorem wk9 (h : Ds W [(B, 1, k2.start)] R w) : Calls Tryz.prog 19 #[ptr B, .int .i64 1] w fun e w' => e = .returned (.tuple #[]) ∧ Ds W [(B, 1, k3)] R w' := Ds.fuse h (i := 0) rfl 1 (by decide)
theorem wk10 (h : Ds W [(B, 1, k3)] R w) : Calls Tryz.prog 45 #[ptr B] w fun e w' => e = .returned (.bool false) ∧ Ds W [(B, 1, k3)] R w' := (Ds.dead h (i := 0) rfl).mono fun _ _ ⟨h1, h2⟩ => ⟨h1, h2 ▸ h⟩
theorem wk11 (h : Ds W [(B, 1, k3)] R w) : Calls Tryz.prog 22 #[ptr B, .int .i64 0, .string ⟨#[120]⟩] w fun e w' => e = .returned (.int .i64 0) ∧ Ds W [(B, 2, k4)] R w' := Ds.write h (i := 0) rfl (by decide) 0 [120]
theorem wk12 (h : Ds W [(B, 2, k4)] R w) : Calls Tryz.prog 23 #[ptr B] w fun e w' => e = .returned (.int .i64 42) ∧ Ds W [(B, 2, k5)] R w' := Ds.sync h (i := 0) rfl (by decide)
theorem wk13 (h : Ds W [(B, 2, k5)] R w) : Calls Tryz.prog 36 #[ptr B, .int .i64 0] w fun e w' => e = .returned (.string ⟨#[]⟩) ∧ Ds W [(B, 2, k5)] R w' := (Ds.read h (i := 0) rfl 0).mono fun _ _ ⟨h1, h2⟩ => ⟨h1.trans rfl, h.step h2⟩
theorem wk14 (h : Ds W [(B, 2, k5)] R w) : Calls Tryz.prog 21 #[ptr B] w fun e w' => e = .returned (.tuple #[]) ∧ Ds W [(B, 2, k6)] R w' := Ds.boot h (i := 0) rfl
theorem wk15 (h : Ds W [(B, 2, k6)] R w) : Calls Tryz.prog 22 #[ptr B, .int .i64 0, .string ⟨(zr 513).toArray⟩] w fun e w' => e = .returned (.int .i64 10) ∧ Ds W [(B, 3, k6)] R w' := by
  have := Ds.write h (i := 0) rfl (by decide) 0 (zr 513)
  rw [k6_long] at this
  exact this
theorem wk16 (h : Ds W [(B, 3, k6)] R w) : Calls Tryz.prog 22 #[ptr B, .int .i64 65536, .string ⟨#[]⟩] w fun e w' => e = .returned (.int .i64 1) ∧ Ds W [(B, 4, k6)] R w' := Ds.write h (i := 0) rfl (by decide) 65536 []
end
end M
end Go.Proofs.YtoacmingocmaaaaGreatDoor
/- What a write makes of a disk; rows of steps, as statements get them. -/
namespace Go.Proofs.YtoacmingocmaaaaGreatDoor
namespace MM
theorem write_p (s : Dsk) (k : Int) (t : By) : (s.write k t).2.p = s.p := by
  unfold Dsk.write
  split
  · rfl
  split
  · rfl
  split
  · rfl
  split <;> rfl
theorem write_platter (s : Dsk) (k : Int) (t : By) (j : Int) : (s.write k t).2.platter j = s.platter j := by
  unfold Dsk.platter
  rw [write_p]
theorem write_ok {s : Dsk} {k : Int} {t : By} (h : (s.write k t).1 = 0) : s.dead = false ∧ sec k = true ∧ t.length ≤ 512 ∧ (s.write k t).2 = { s.burnt with c := s.c ++ [(k, full t)] } := by
  unfold Dsk.write at h ⊢
  split
  · rename_i h1; rw [if_pos h1] at h; cases h
  rename_i h1
  rw [if_neg h1] at h
  split
  · rename_i h2; rw [if_pos h2] at h; cases h
  rename_i h2
  rw [if_neg h2] at h
  split
  · rename_i h3; rw [if_pos h3] at h; cases h
  rename_i h3
  rw [if_neg h3] at h
  split
  · rename_i h4; rw [if_pos h4] at h; cases h
  exact ⟨by simpa using h1, by simpa using h2, by omega, rfl⟩
theorem write_read {s : Dsk} {k : Int} {t : By} (h : (s.write k t).1 = 0) : (s.write k t).2.read k = full t ∧ ∀ j, j ≠ k → (s.write k t).2.read j = s.read j := by
  obtain ⟨h1, h2, h3, h4⟩ := write_ok h
  rw [h4]
  refine ⟨?_, fun j hj => ?_⟩
  · unfold Dsk.read
    simp only [Dsk.burnt, h1, h2, lastOf_snoc, if_true]
    simp
  · unfold Dsk.read
    simp only [Dsk.burnt, h1, lastOf_snoc]
    rw [if_neg (fun e : k = j => hj e.symm)]
end MM
open Go Go.RowKit Go.Lib Go.Deep
namespace M
open MM
/-- A row of steps that came in, no text and no row of them beyond the reach. -/
def Stp (W : World) (v : Value) : Prop := ∃ (ao : Option Addr) (n c : Nat) (f : Nat → Sp), v = .slice ao n c ∧ n ≤ 9223372036854775807 ∧ StepsAt W ao n f ∧ StepsSm n f
theorem few {f : Nat → Sp} {n : Nat} (h : MM.sm f n < 20000) : n ≤ 199 := by have := MM.sm_ge f n; omega
end M
end Go.Proofs.YtoacmingocmaaaaGreatDoor
/- The sectors that steps name; is one of them far away? */ -/
namespace Go.Proofs.YtoacmingocmaaaaGreatDoor
open Go Go.RowKit Go.Lib Go.Deep
namespace M
open MM
section
variable {W w : World} {L : Dl} {R : World → Prop} {i B N : Nat} {s : Dsk}
theorem Ds.dead2 (h : Ds W L R w) (hi : L[i]? = some (B, N, s)) : Calls Tryz.prog 45 #[ptr B] w fun e w' => e = .returned (.bool s.dead) ∧ Ds W L R w' := (Ds.dead h hi).mono fun _ _ ⟨a, b⟩ => ⟨a, b ▸ h⟩
theorem Ds.waits2 (h : Ds W L R w) (hi : L[i]? = some (B, N, s)) : Calls Tryz.prog 16 #[ptr B] w fun e w' => e = .returned (.int .i64 (s.c.length : Int)) ∧ Ds W L R w' := (Ds.waits h hi).mono fun _ _ ⟨a, b⟩ => ⟨a, b ▸ h⟩
end
/-- The sectors. -/
def secsTo (f : Nat → Sp) (i : Nat) : List Int := [0, 1, 65535] ++ (List.range i).map fun j => (f j).at_
theorem secsTo_len (f : Nat → Sp) (i : Nat) : (secsTo f i).length = i + 3 := by simp [secsTo]
theorem secsTo_succ (f : Nat → Sp) (i : Nat) : secsTo f (i + 1) = secsTo f i ++ [(f i).at_] := by simp [secsTo, List.range_succ]
theorem OwnE.lit3 (w : World) (a b c : Int) : OwnE w 3 (.slice (some ⟨w.heap.size, 0, none⟩) 3 3) (ints [a, b, c]) (w.alloc (.cells #[.int .i64 a, .int .i64 b, .int .i64 c] 3)) :=
  ⟨⟨rfl, .inr ⟨w.heap.size, 3, #[.int .i64 a, .int .i64 b, .int .i64 c], rfl, Nat.le_refl _, heap_alloc_new w _, Nat.le_refl _, by decide, rfl, rfl⟩⟩, below_box w _⟩
/-- A step's sector, as it lies. -/
theorem at_cell {W w : World} {ao : Option Addr} {n i : Nat} {f : Nat → Sp} (hf : StepsAt W ao n f) (hi : i < n) (hb : Below W.heap.size W w) : ∃ a B O, ao = some a ∧ a.add (i * 5) = ⟨B, O, none⟩ ∧ B < W.heap.size ∧ w.cell? ⟨B, O + 1, none⟩ = some (.int .i64 (f i).at_) ∧ w.cell? ⟨B, O, none⟩ = some (.int .u8 ((f i).k : Int)) := by
  obtain ⟨_, _, a, ha, hcl⟩ := hf i hi
  obtain ⟨B, O, hadr, hr1⟩ := step_range hcl
  have hr0 := range_below hr1 hb
  exact ⟨a, B, O, ha, hadr, World.block_lt_of_cell? W _ (hr1 0 _ rfl), hr0 1 _ rfl, hr0 0 _ rfl⟩
end M
end Go.Proofs.YtoacmingocmaaaaGreatDoor

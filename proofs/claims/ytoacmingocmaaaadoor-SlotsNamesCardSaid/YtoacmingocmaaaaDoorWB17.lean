/- The texts SltStrs, DskLaw5, SlotsOlderW, one behind the other. -/
import Derived.Test.YtoacmingocmaaaaDoorWB16
import Derived.Test.YtoacmingocmaaaaDoorWB5
/- A row of texts that came in; a disk with two headers. -/
namespace Go.Proofs.YtoacmingocmaaaaDoor
open Go.ChangeShapes Go.WideShapes Go.ChangeAt Go.RowKit Go.Deep
namespace M
/-- Texts, as a slice reads them. -/
def StrsAt (w : World) (ao : Option Addr) (l : List (List UInt8)) : Prop := ∀ (i : Nat) (t : List UInt8), l[i]? = some t → t.length ≤ 9223372036854775807 ∧ ∃ ad, ao = some ad ∧ w.cell? (ad.add i) = some (.string ⟨t.toArray⟩)
theorem StrsAt.step {w w' : World} {ao : Option Addr} {l : List (List UInt8)} (h : StrsAt w ao l) (hb : Below w.heap.size w w') : StrsAt w' ao l := fun i t hi => by
  obtain ⟨hl, ad, e, hc⟩ := h i t hi
  exact ⟨hl, ad, e, by rw [hb.cell (World.block_lt_of_cell? w _ hc)]; exact hc⟩
def StrsIn (w : World) (v : Value) : Prop := ∃ (ao : Option Addr) (c : Nat) (l : List (List UInt8)), v = .slice ao l.length c ∧ l.length ≤ 9223372036854775807 ∧ StrsAt w ao l
section
variable {H : Type} {enc : TypeId × Value → H} {w : World} {base : Nat} {held : Bool}
set_option maxRecDepth 100000 in
theorem trod_strs {spare : Nat → Bool} {fuel : Nat} {cs : List Value} {x : DataW H × List MemPlace} (h : DataW.trod enc Tryd.prog w base spare held fuel 29 cs = some x) : ∃ v, cs = [v] ∧ StrsIn w v := by
  rcases open_slice1 Tryd.underlying29 (by kernel_rfl) h with ⟨hcs, _⟩ | ⟨a, len, cap, m, n, V, D, Pl, hcs, _, hl, hm, hmm, _, hx⟩
  · exact ⟨_, hcs, none, 0, [], rfl, by simp, fun i b hi => by simp at hi⟩
  · unfold maxLen at hm
    have hle : len ≤ m := by rw [hmm]; split <;> omega
    obtain ⟨bf, hbf⟩ := choose_lt (α := List UInt8) (p := fun i b => V i = .string ⟨b.toArray⟩ ∧ b.length ≤ 9223372036854775807) (fun i (hi : i < m) => by
      obtain ⟨s, h1, _, hs⟩ := DataW.trod_string Tryd.underlying9 (hx i hi).2
      refine ⟨s.data.toList, ?_, ?_⟩
      · rw [Lib.mk_data]; simpa using h1
      · unfold maxLen at hs; rw [← Lib.size_eq]; omega)
    have hlen : ((List.range len).map bf).length = len := by simp
    refine ⟨_, hcs, some a, cap, (List.range len).map bf, by rw [hlen], by rw [hlen]; omega, fun i b hi => ?_⟩
    have hil : i < len := by have := (List.getElem?_eq_some_iff.1 hi).1; omega
    have hb : bf i = b := by simpa [hil] using hi
    have h2 := hbf i (by omega)
    rw [hb] at h2
    refine ⟨h2.2, a, rfl, ?_⟩
    rw [(hx i (by omega)).1, h2.1]
set_option maxRecDepth 100000 in
theorem open_strsIn {spare : Nat → Bool} {r : Reach} {b0 : Nat} {v : Value} {d : DataW H} {pl : List MemPlace} (hv : Value.okWide Tryd.prog w r b0 29 v) (h : DataW.Trod enc Tryd.prog w base spare held 29 v d pl) : StrsIn w v := by
  obtain ⟨ad, len0, cap0, rfl⟩ := okWide_slice Tryd.underlying29 hv
  obtain ⟨fuel, hf⟩ := h
  obtain ⟨v, hv2, hn⟩ := trod_strs hf
  obtain rfl : Value.slice ad len0 cap0 = v := by simpa [Value.cells] using hv2
  exact hn
end
end M
namespace MM
/-- A disk with two headers. -/
def rawD (a b : By) : Dsk := (((Dsk.new.write 0 a).2.write half b).2.sync).2
theorem write_live {x : Dsk} (h : Live x) {k : Int} {t : By} (hk : sec k = true) (ht : t.length ≤ 512) : Live (x.write k t).2 ∧ (x.write k t).2.p = x.p ∧ (x.write k t).2.c = x.c ++ [(k, full t)] := by
  rcases wr_run h.dead k t hk ht with ⟨_, h2, h3, h4⟩ | ⟨h1, _⟩
  · refine ⟨⟨h2, ?_⟩, h3, h4⟩
    rcases op_live h.dead (.wr k t) ⟨hk, ht⟩ with ⟨a1, _⟩ | ⟨_, _, _, a4⟩
    · rw [h.fuse] at a1; cases a1
    · rw [h.fuse] at a4; exact a4
  · rcases op_live h.dead (.wr k t) ⟨hk, ht⟩ with ⟨a1, _⟩ | ⟨_, a2, _⟩
    · rw [h.fuse] at a1; cases a1
    · rw [h1] at a2; cases a2
theorem sync_live {x : Dsk} (h : Live x) : Live x.sync.2 ∧ x.sync.2.p = putAll x.p x.c ∧ x.sync.2.c = [] := by
  rcases sync_run h.dead with ⟨_, h2, h3, h4⟩ | ⟨h1, _⟩
  · refine ⟨⟨h2, ?_⟩, h3, h4⟩
    rcases op_live h.dead .sync trivial with ⟨a1, _⟩ | ⟨_, _, _, a4⟩
    · rw [h.fuse] at a1; cases a1
    · rw [h.fuse] at a4; exact a4
  · rcases op_live h.dead .sync trivial with ⟨a1, _⟩ | ⟨_, a2, _⟩
    · rw [h.fuse] at a1; cases a1
    · rw [h1] at a2; cases a2
theorem raw_live {a b : By} (ha : a.length ≤ 512) (hb : b.length ≤ 512) : Live (rawD a b) ∧ (rawD a b).p = putAll (fun _ => zero) [(0, full a), (half, full b)] ∧ (rawD a b).c = [] := by
  obtain ⟨l1, p1, c1⟩ := write_live Live.new (k := 0) (t := a) (by decide) ha
  unfold rawD
  generalize (Dsk.new.write 0 a).2 = x at *
  obtain ⟨l2, p2, c2⟩ := write_live l1 (k := half) (t := b) (by decide) hb
  generalize (x.write half b).2 = y at *
  obtain ⟨l3, p3, c3⟩ := sync_live l2
  refine ⟨l3, ?_, c3⟩
  rw [p3, p2, c2, p1, c1]
  rfl
end MM
open Go Go.RowKit Go.Lib
namespace M
open MM
set_option maxRecDepth 100000 in
set_option maxHeartbeats 4000000 in
theorem raw_any {W w : World} {L : Dl} {R : World → Prop} (h : Ds W L R w) (a b : By) : Calls Tryd.prog 14 #[.string ⟨a.toArray⟩, .string ⟨b.toArray⟩] w fun e w' => ∃ B, e = .returned (ptr B) ∧ Ds W (L ++ [(B, 2, rawD a b)]) R w' := by
  have H := Lib.hid (Ds.new h)
  have hl : ∀ x : Nat × Nat × Dsk, (L ++ [x])[L.length]? = some x := fun x => by rw [List.getElem?_append_right (Nat.le_refl _), Nat.sub_self]; rfl
  have hs : ∀ x y : Nat × Nat × Dsk, (L ++ [x]).set L.length y = L ++ [y] := fun x y => by rw [List.set_append_right _ _ (Nat.le_refl _), Nat.sub_self]; rfl
  have S1 : Hid (∀ B u, Ds W (L ++ [(B, 0, Dsk.new)]) R u → Calls Tryd.prog 43 #[ptr B, .int .i64 0, .string ⟨a.toArray⟩] u fun e w' => (∃ v, e = .returned v) ∧ Ds W (L ++ [(B, 1, (Dsk.new.write 0 a).2)]) R w') := Lib.hid fun B u hu => (Ds.write hu (hl _) (by omega) 0 a).mono fun e w' ⟨he, hd⟩ => ⟨⟨_, he⟩, by rwa [hs] at hd⟩
  have S2 : Hid (∀ B u, Ds W (L ++ [(B, 1, (Dsk.new.write 0 a).2)]) R u → Calls Tryd.prog 43 #[ptr B, .int .i64 32768, .string ⟨b.toArray⟩] u fun e w' => (∃ v, e = .returned v) ∧ Ds W (L ++ [(B, 2, ((Dsk.new.write 0 a).2.write half b).2)]) R w') := Lib.hid fun B u hu => (Ds.write hu (hl _) (by omega) 32768 b).mono fun e w' ⟨he, hd⟩ => ⟨⟨_, he⟩, by rwa [hs] at hd⟩
  have S3 : Hid (∀ B u, Ds W (L ++ [(B, 2, ((Dsk.new.write 0 a).2.write half b).2)]) R u → Calls Tryd.prog 24 #[ptr B] u fun e w' => (∃ v, e = .returned v) ∧ Ds W (L ++ [(B, 2, rawD a b)]) R w') := Lib.hid fun B u hu => (Ds.sync hu (hl _) (by omega)).mono fun e w' ⟨he, hd⟩ => ⟨⟨_, he⟩, by rwa [hs] at hd⟩
  clear h hl hs
  generalize rawD a b = z3 at *
  generalize ((Dsk.new.write 0 a).2.write half b).2 = z2 at *
  generalize (Dsk.new.write 0 a).2 = z1 at *
  go_enter Tryd.func14, Tryd.ntmps14
  go_wp2_with (first
    | (go_at_call 16; (with_reducible refine H.out.mono ?_); rintro e w1 ⟨B, rfl, h⟩; have HD := Lib.hid h; clear h)
    | (go_at_call 43; (with_reducible refine (S1.out _ _ HD.out).mono ?_); rintro e w2 ⟨⟨v, rfl⟩, h⟩; replace HD := Lib.hid h; clear h)
    | (go_at_call 43; (with_reducible refine (S2.out _ _ HD.out).mono ?_); rintro e w2 ⟨⟨v, rfl⟩, h⟩; replace HD := Lib.hid h; clear h)
    | (go_at_call 24; (with_reducible refine (S3.out _ _ HD.out).mono ?_); rintro e w2 ⟨⟨v, rfl⟩, h⟩; replace HD := Lib.hid h; clear h))
  go_ret
  exact ⟨_, rfl, HD.out⟩
end M
end Go.Proofs.YtoacmingocmaaaaDoor
/- Rows of texts; what steps, a sync and a crash behind it leave. -/
namespace Go.Proofs.YtoacmingocmaaaaDoor
namespace MM
theorem step_p {T : Dsk} {x : St} (h1 : x.k ≠ 1) (h3 : x.k ≠ 3) : (T.step x).2.p = T.p := by
  unfold Dsk.step
  by_cases h0 : x.k = 0
  · rw [if_pos h0]; exact write_p _ _ _
  rw [if_neg h0, if_neg h1]
  by_cases h2 : x.k = 2
  · rw [if_pos h2]; rfl
  · rw [if_neg h2, if_neg h3]; rfl
theorem step_platter {T : Dsk} {x : St} (h1 : x.k ≠ 1) (h3 : x.k ≠ 3) (k : Int) : (T.step x).2.platter k = T.platter k := by unfold Dsk.platter; rw [step_p h1 h3]
/-- Started, synced. -/
theorem start_sync (S : Dsk) : S.start.sync.1 = 0 ∧ S.start.sync.2.c = [] ∧ S.start.sync.2.dead = false ∧ S.start.sync.2.fuse = none ∧ S.start.sync.2.p = putAll S.p S.c := by
  unfold Dsk.sync
  rw [if_neg (by simp [Dsk.start]), if_neg (by simp [Dsk.start])]
  exact ⟨rfl, rfl, rfl, rfl, rfl⟩
theorem crash_empty {T : Dsk} (h : T.c = []) (keep : List Bool) (n : Int) : T.crash keep n = { T with dead := true } := by
  obtain ⟨p, c, f, d⟩ := T
  simp only at h
  subst h
  rfl
theorem plat_of {T : Dsk} {k : Int} : T.platter k = if sec k then T.p k else [] := rfl
theorem read_of {T : Dsk} (h : T.dead = false) {k : Int} : T.read k = if sec k then (lastOf T.c k).getD (T.p k) else [] := by
  unfold Dsk.read
  rw [h]
  rfl
theorem start_read (S : Dsk) (k : Int) : S.start.read k = if sec k then (lastOf S.c k).getD (S.p k) else [] := read_of rfl
theorem synced_platter (S : Dsk) (keep : List Bool) (n : Int) (k : Int) : (S.start.sync.2.crash keep n).platter k = S.start.read k := by
  obtain ⟨_, h1, h2, h3, h4⟩ := start_sync S
  rw [crash_empty h1, plat_of, start_read]
  show (if sec k then S.start.sync.2.p k else []) = _
  rw [h4, putAll_last]
theorem synced_read (S : Dsk) (keep : List Bool) (n : Int) (k : Int) : (S.start.sync.2.crash keep n).start.read k = S.start.read k := by
  rw [← synced_platter S keep n k]
  obtain ⟨_, h1, h2, h3, h4⟩ := start_sync S
  rw [crash_empty h1, plat_of, start_read]
  show (if sec k then (lastOf S.start.sync.2.c k).getD (S.start.sync.2.p k) else []) = if sec k then S.start.sync.2.p k else []
  rw [h1, lastOf_nil]
  rfl
end MM
open Go Go.RowKit Go.Lib Go.Deep
namespace M
open MM
def strs (l : List By) : List Value := l.map fun t => .string ⟨t.toArray⟩
theorem strs_len (l : List By) : (strs l).length = l.length := by simp [strs]
theorem strs_snoc (l : List By) (x : By) : strs l ++ [.string ⟨x.toArray⟩] = strs (l ++ [x]) := by simp [strs]
theorem strs_get {l : List By} {i : Nat} {z : By} (h : l[i]? = some z) : (strs l)[i]? = some (.string ⟨z.toArray⟩) := by simp [strs, h]
/-- The first answers, one behind the other. -/
def told (g : Int → By) (l : List Int) (i : Nat) : List By := (l.take i).map g
theorem told_len {g : Int → By} {l : List Int} {i : Nat} (h : i ≤ l.length) : (told g l i).length = i := by simp [told]; omega
theorem told_succ {g : Int → By} {l : List Int} {i : Nat} {z : Int} (h : l[i]? = some z) : told g l (i + 1) = told g l i ++ [g z] := by simp [told, List.take_add_one, h]
theorem told_get {g : Int → By} {l : List Int} {n i : Nat} {z : Int} (h : l[i]? = some z) (hi : i < n) : (told g l n)[i]? = some (g z) := by simp [told, hi, h]
/-- A cell of a row that stands. -/
theorem ValsAt.cell {w : World} {ad : Addr} {n c : Nat} {l : List Value} (h : ValsAt w (.slice (some ad) n c) l) {i : Nat} {u : Value} (hi : l[i]? = some u) : w.cell? (ad.add i) = some u := by
  obtain ⟨ao, c2, hv, h1⟩ := h
  injection hv with h2 _ _
  subst h2
  obtain ⟨ad2, e, hc⟩ := h1 i u hi
  injection e with e
  subst e
  exact hc
theorem ValsAt.len {w : World} {ao : Option Addr} {n c : Nat} {l : List Value} (h : ValsAt w (.slice ao n c) l) : n = l.length := by
  obtain ⟨ao2, c2, hv, _⟩ := h
  injection hv
theorem ValsAt.some {w : World} {ao : Option Addr} {n c : Nat} {l : List Value} (h : ValsAt w (.slice ao n c) l) (hl : 0 < l.length) : ∃ ad, ao = .some ad := by
  obtain ⟨ao2, c2, hv, h1⟩ := h
  injection hv with h2 _ _
  subst h2
  obtain ⟨ad, e, _⟩ := h1 0 _ (List.getElem?_eq_getElem hl)
  exact ⟨ad, e⟩
end M
end Go.Proofs.YtoacmingocmaaaaDoor
/- The walk of SlotsOlder. -/
namespace Go.Proofs.YtoacmingocmaaaaDoor
open Go Go.RowKit Go.Lib
namespace M
open MM
set_option maxRecDepth 100000 in
set_option maxHeartbeats 8000000 in
theorem walkSlotsOlder (a b : List UInt8) (v : Value) (_ha : a.length ≤ 9223372036854775807) (_hb : b.length ≤ 9223372036854775807) (W : World) (hv : StrsIn W v) :
    Calls Tryd.prog 5 #[.string ⟨a.toArray⟩, .string ⟨b.toArray⟩, v] W fun e w' => e = .returned (.bool true) ∧ Below W.heap.size W w' := by
  obtain ⟨ao, c, l, rfl, hl9, hst⟩ := hv
  have AW := Lib.hid (awake_go W)
  by_cases h0 : 512 < a.length ∨ 512 < b.length ∨ 20 < l.length
  · have hcase : (512 : Int) < (a.length : Int) ∨ (¬ (512 : Int) < (a.length : Int) ∧ (512 : Int) < (b.length : Int)) ∨ (¬ (512 : Int) < (a.length : Int) ∧ ¬ (512 : Int) < (b.length : Int) ∧ (20 : Int) < (l.length : Int)) := by omega
    clear h0
    rcases hcase with h1 | ⟨h1, h2⟩ | ⟨h1, h2, h3⟩
    · go_enter Tryd.func5, Tryd.ntmps5
      go_wp2_with (go_at_call 9; (with_reducible refine AW.out.mono ?_); rintro e w1 ⟨rfl, hb1⟩)
      go_ret
      exact ⟨rfl, hb1⟩
    · go_enter Tryd.func5, Tryd.ntmps5
      go_wp2_with (go_at_call 9; (with_reducible refine AW.out.mono ?_); rintro e w1 ⟨rfl, hb1⟩)
      go_ret
      exact ⟨rfl, hb1⟩
    · go_enter Tryd.func5, Tryd.ntmps5
      go_wp2_with (go_at_call 9; (with_reducible refine AW.out.mono ?_); rintro e w1 ⟨rfl, hb1⟩)
      go_ret
      exact ⟨rfl, hb1⟩
  · have h1 : ¬ (512 : Int) < (a.length : Int) := by omega
    have h2 : ¬ (512 : Int) < (b.length : Int) := by omega
    have h3 : ¬ (20 : Int) < (l.length : Int) := by omega
    have HLV := Lib.hid (raw_live (a := a) (b := b) (by omega) (by omega)).1
    have HST := Lib.hid hst
    have hl20 : l.length ≤ 20 := by omega
    obtain ⟨n, hn⟩ : ∃ n, l.length = n := ⟨_, rfl⟩
    have HN := Lib.hid hn
    rw [hn] at h3 hl20 ⊢
    clear h0 hst hl9 hn
    go_enter Tryd.func5, Tryd.ntmps5
    go_upto_region 4 with (first
      | (go_at_call 9; (with_reducible refine AW.out.mono ?_); rintro e w1 ⟨rfl, hb1⟩; have HB := Lib.hid hb1; clear hb1)
      | (go_at_call 14; (with_reducible refine (raw_any (Ds.start W HB.out) a b).mono ?_); rintro e w2 ⟨B, rfl, h⟩; have HD : Hid (Ds W [(B, 131072, rawD a b)] (fun _ => True) w2) := Lib.hid (Ds.up h (i := 0) rfl (N' := 131072) (by omega) (by omega)); clear h))
    clear AW
    generalize rawD a b = z0 at *
    go_wp2_with fail
    go_loopw [8, 9, 10] (fun s8 s9 s10 wx => ∃ (i : Nat) (z : Dsk), i ≤ n ∧ s8 = .int .i64 (i : Int) ∧ Hid (Live z) ∧ Hid (Ds W [(B, 131072, z)] (fun _ => True) wx)) (fun s8 _ _ _ => n - (RowKit.intOf s8).toNat)
    case atStart => exact ⟨0, z0, Nat.zero_le _, rfl, HLV, HD⟩
    case round =>
      clear HD HLV
      obtain ⟨i, z, hi, rfl, HL, HD⟩ := hrel
      by_cases hlt : i < n
      · obtain ⟨t, ht⟩ : ∃ t, l[i]? = some t := ⟨_, List.getElem?_eq_getElem (by rw [HN.out]; exact hlt)⟩
        obtain ⟨_, ad, rfl, hc0⟩ := HST.out i t ht
        have HC : Hid (∀ u, Below W.heap.size W u → u.cell? (ad.add i) = some (.string ⟨t.toArray⟩)) := Lib.hid fun u hu => (hu.cell (World.block_lt_of_cell? W _ hc0)).trans hc0
        have hc := HC.out wr HD.out.below
        clear ht hc0
        by_cases htl : 3000 < t.length
        · have hti : (3000 : Int) < (t.length : Int) := by omega
          have HB2 := Lib.hid HD.out.below
          clear HC HD
          go_wp2_with fail
          go_ret
          exact ⟨rfl, HB2.out⟩
        · have hti : ¬ (3000 : Int) < (t.length : Int) := by omega
          have htm : t.length ≤ most := by unfold most; omega
          obtain ⟨A, hA⟩ : ∃ A, ageV z.read = A := ⟨_, rfl⟩
          have hA9 : A ≤ 1099511627776 := hA ▸ ageV_le z.read
          have AG : Hid (∀ u, Ds W [(B, 131072, z)] (fun _ => True) u → Calls Tryd.prog 10 #[ptr B] u fun e w' => e = .returned (.int .i64 (A : Int)) ∧ Ds W [(B, 131072, z)] (fun _ => True) w') := Lib.hid fun u h => by
            have := Ds.age h (i := 0) rfl
            rwa [hA] at this
          by_cases htop : A = top
          · have SV : Hid (∀ u, Ds W [(B, 131072, z)] (fun _ => True) u → Calls Tryd.prog 11 #[ptr B, .string ⟨t.toArray⟩] u fun e w' => e = .returned (.int .i64 41) ∧ Ds W [(B, 131072, z)] (fun _ => True) w') := Lib.hid fun u h => by
              have := Ds.save h (i := 0) rfl (by omega) t
              rw [save_full HL.out.dead htm (hA.trans htop)] at this; exact this
            have hai : ((A : Int) == 1099511627776) = true := by rw [htop]; rfl
            clear hA htop
            go_wp2_with (first
              | (go_at_call 10; (with_reducible refine (AG.out _ HD.out).mono ?_); rintro e w3 ⟨rfl, h⟩; replace HD := Lib.hid h; have hc := HC.out _ h.below; clear h)
              | (go_at_call 11; (with_reducible refine (SV.out _ HD.out).mono ?_); rintro e w3 ⟨rfl, h⟩; replace HD := Lib.hid h; have hc := HC.out _ h.below; clear h))
            go_ret
            exact ⟨rfl, HD.out.below⟩
          · obtain ⟨h41, hhas, _⟩ := save_ok HL.out htm (by rw [hA]; exact htop)
            rw [hA] at hhas
            obtain ⟨y, hy⟩ : ∃ y, (z.save t).2 = y := ⟨_, rfl⟩
            have he := pair_eq h41
            rw [hy] at he hhas
            have SV : Hid (∀ u, Ds W [(B, 131072, z)] (fun _ => True) u → Calls Tryd.prog 11 #[ptr B, .string ⟨t.toArray⟩] u fun e w' => e = .returned (.int .i64 0) ∧ Ds W [(B, 131072, y)] (fun _ => True) w') := Lib.hid fun u h => by
              have := Ds.save h (i := 0) rfl (by omega) t
              rw [he] at this; exact this
            have HS : Hid (∀ u, Ds W [(B, 131072, y)] (fun _ => True) u → Calls Tryd.prog 15 #[ptr B, .string ⟨t.toArray⟩, .int .i64 ((A : Int) + 1)] u fun e w' => e = .returned (.bool true) ∧ Ds W [(B, 131072, y)] (fun _ => True) w') := Lib.hid fun u h => by
              have := Ds.has h (i := 0) rfl hhas.text hhas.age
              rwa [show ((A + 1 : Nat) : Int) = (A : Int) + 1 by omega] at this
            have HL2 := Lib.hid hhas.live
            have hai : ((A : Int) == 1099511627776) = false := by simpa using (by unfold top at htop; omega : ¬ (A : Int) = 1099511627776)
            have hA8 : (A : Int) ≤ 1099511627776 := by omega
            clear hA htop h41 hhas hy he
            go_wp2_with (first
              | (go_at_call 10; (with_reducible refine (AG.out _ HD.out).mono ?_); rintro e w3 ⟨rfl, h⟩; replace HD := Lib.hid h; have hc := HC.out _ h.below; clear h)
              | (go_at_call 11; (with_reducible refine (SV.out _ HD.out).mono ?_); rintro e w3 ⟨rfl, h⟩; replace HD := Lib.hid h; have hc := HC.out _ h.below; clear h)
              | (go_at_call 15; (with_reducible refine (HS.out _ HD.out).mono ?_); rintro e w3 ⟨rfl, h⟩; replace HD := Lib.hid h; clear h))
            go_roundw
            case rel => first | exact ⟨i + 1, y, by omega, by go_num, HL2, HD⟩ | ((repeat apply Exists.intro); exact ⟨⟨i + 1, y, by omega, by go_num, HL2, HD⟩, rfl⟩)
            case measure => simp [RowKit.intOf]; omega
      · obtain rfl : i = n := by omega
        have HB2 := Lib.hid HD.out.below
        clear HD
        go_wp2_with fail
        go_ret
        exact ⟨rfl, HB2.out⟩
end M
end Go.Proofs.YtoacmingocmaaaaDoor

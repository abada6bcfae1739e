/- The texts DskLaw1, DskLaw2, DskLaw3, DskReadW, one behind the other. -/
import Derived.Test.YtdgaokmmjnedhaaDoorWB8
import Derived.Deep.MidRow
/- A disk behind steps; two rows of the same numbers. -/
namespace Go.Proofs.YtdgaokmmjnedhaaDoor
namespace MM
theorem asc_len : ∀ (l : List Int) (lo : Int), Asc l → (∀ k ∈ l, lo ≤ k ∧ k < 65536) → l.length ≤ (65536 - lo).toNat
  | [], _, _, _ => Nat.zero_le _
  | x :: r, lo, h, hk => by
    have h1 := hk x (by simp)
    have h2 := asc_len r (x + 1) (List.Pairwise.of_cons h) fun k hkr => by
      have h3 := (List.pairwise_cons.1 h).1 k hkr
      have h4 := hk k (by simp [hkr])
      omega
    rw [List.length_cons]
    omega
theorem UsedIs.sec {s : Dsk} {l : List Int} (h : UsedIs s l) (hs : s.Wf) {k : Int} (hk : k ∈ l) : MM.sec k = true := by
  rcases (h.mem k).1 hk with h1 | ⟨x, h1, rfl⟩
  · cases e : MM.sec k with
    | true => rfl
    | false => exact absurd (hs.p.out k e) h1
  · exact (hs.c x h1).1
theorem UsedIs.len {s : Dsk} {l : List Int} (h : UsedIs s l) (hs : s.Wf) : l.length ≤ 65536 :=
  asc_len l 0 h.asc fun _ hk => sec_yes.1 (h.sec hs hk)
end MM
open Go Go.RowKit Go.Lib Go.Deep
namespace M
open MM
set_option maxRecDepth 100000 in
set_option maxHeartbeats 4000000 in
theorem after_any {W w : World} {L : Dl} {R : World → Prop} (h : Ds W L R w) (ao : Option Addr) (n c : Nat) (f : Nat → Sp) (hn : n ≤ 400000) (hf : StepsAt W ao n f) :
    Calls Tryd.prog 33 #[.slice ao n c] w fun e w' => ∃ B, e = .returned (ptr B) ∧ Ds W (L ++ [(B, n, runS Dsk.new (fun i => (f i).st) n)]) R w' := by
  have H := Lib.hid (Ds.new h)
  have HF := Lib.hid hf
  clear h hf
  go_enter Tryd.func33, Tryd.ntmps33
  go_wp2_with (go_at_call 22; (with_reducible refine H.out.mono ?_); rintro e w1 ⟨B', rfl, hD⟩; have HD1 := Lib.hid hD; clear hD)
  go_loopw [4] (fun s4 wx => ∃ i : Nat, i ≤ n ∧ s4 = .int .i64 (i : Int) ∧ Hid (Ds W (L ++ [(B', i, runS Dsk.new (fun i => (f i).st) i)]) R wx)) (fun s4 _ => n - (RowKit.intOf s4).toNat)
  case atStart => exact ⟨0, Nat.zero_le _, rfl, HD1⟩
  case round =>
    obtain ⟨i, hi, rfl, HD⟩ := hrel
    by_cases hlt : i < n
    · obtain ⟨hok, hk, a, ha, hcl⟩ := HF.out i hlt
      subst ha
      obtain ⟨B, O, hadr, hr1⟩ := step_range hcl
      have HRG := Lib.hid (range_below hr1 HD.out.below)
      have hget : (L ++ [(B', i, runS Dsk.new (fun i => (f i).st) i)])[L.length]? = some (B', i, runS Dsk.new (fun i => (f i).st) i) := by simp
      have HDO := Lib.hid (Ds.does HD.out hget (by omega) (f i) hok (fun u hu _ => hk.step hu))
      have HSZ := Lib.hid (info_sp (f i))
      have HNX : Hid ((L ++ [(B', i, runS Dsk.new (fun i => (f i).st) i)]).set L.length (B', i + 1, ((runS Dsk.new (fun i => (f i).st) i).step (f i).st).2) = L ++ [(B', i + 1, runS Dsk.new (fun i => (f i).st) (i + 1))]) := Lib.hid (by simp [runS])
      clear hcl hr1 hok hk hget
      generalize wr = w0 at *
      go_wp2_with (first
        | (refine wpList_load_mid rfl 41 _ rfl B O rfl (f i).cells.toList _ HRG.out Tryd.underlying41 rfl HSZ.out ?_)
        | (go_at_call 27; (with_reducible refine HDO.out.mono ?_); rintro e w2 ⟨rfl, hD⟩; rw [HNX.out] at hD; have HD2 := Lib.hid hD; clear hD))
      go_roundw
      case rel => exact ⟨i + 1, by omega, by go_num, HD2⟩
      case measure => simp [RowKit.intOf]; omega
    · obtain rfl : i = n := by omega
      go_wp2_with fail
      go_ret
      exact ⟨_, rfl, HD.out⟩
theorem vals_at {w : World} {v : Value} {l : List Int} (h : ValsAt w v (ints l)) : ∃ ao c, v = .slice ao l.length c ∧ ∀ (i : Nat) (z : Int), l[i]? = some z → ∃ ad, ao = some ad ∧ w.cell? (ad.add i) = some (.int .i64 z) := by
  obtain ⟨ao, c, h1, h2⟩ := h
  rw [ints_len] at h1
  exact ⟨ao, c, h1, fun i z hz => h2 i _ (ints_get hz)⟩
set_option maxRecDepth 100000 in
set_option maxHeartbeats 4000000 in
theorem ints_yes {w : World} {a b : Value} {l : List Int} (hl : l.length ≤ 1000000) (ha : ValsAt w a (ints l)) (hb : ValsAt w b (ints l)) :
    Calls Tryd.prog 31 #[a, b] w fun e w' => e = .returned (.bool true) ∧ Below w.heap.size w w' := by
  obtain ⟨ao, ca, rfl, ha2⟩ := vals_at ha
  obtain ⟨bo, cb, rfl, hb2⟩ := vals_at hb
  obtain ⟨n, hn⟩ : ∃ n, l.length = n := ⟨_, rfl⟩
  have HA := Lib.hid ha2
  have HB := Lib.hid hb2
  have HN := Lib.hid hn
  rw [hn] at hl ⊢
  clear ha hb ha2 hb2 hn
  go_enter Tryd.func31, Tryd.ntmps31
  go_wp2_with fail
  go_loopw [5] (fun s5 wx => ∃ k m : Nat, k ≤ n ∧ s5 = .int .i64 (k : Int) ∧ wx = w.drewN m) (fun s5 _ => n - (RowKit.intOf s5).toNat)
  case atStart => exact ⟨0, 0, Nat.zero_le _, rfl, rfl⟩
  case round =>
    obtain ⟨k, m, hk, rfl, rfl⟩ := hrel
    by_cases hlt : k < n
    · obtain ⟨x, hx⟩ : ∃ x, l[k]? = some x := ⟨_, List.getElem?_eq_getElem (by rw [HN.out]; exact hlt)⟩
      obtain ⟨ad, rfl, hc⟩ := HA.out k x hx
      obtain ⟨bd, rfl, hd⟩ := HB.out k x hx
      clear hx
      go_upto_region 6 with fail
      generalize hwr : w.drewN m = wr
      have hcell : wr.cell? (ad.add k) = some (.int .i64 x) := by rw [← hwr]; exact hc
      have hdell : wr.cell? (bd.add k) = some (.int .i64 x) := by rw [← hwr]; exact hd
      have HWR := Lib.hid hwr
      clear hwr hc hd
      have hk0 : (0 : Int) ≤ (k : Int) := Int.natCast_nonneg _
      have hk1 : (k : Int) < (n : Int) := by omega
      go_quiet (fail)
      go_wp2_with fail
      go_roundw
      case rel => exact ⟨k + 1, _, by omega, by go_num, by rw [← HWR.out]; exact World.drewN_drewN _ _ _⟩
      case measure => simp [RowKit.intOf]; omega
    · obtain rfl : k = n := by omega
      go_wp2_with fail
      go_ret
      exact ⟨rfl, below_drewN' _ _ _⟩
end M
end Go.Proofs.YtdgaokmmjnedhaaDoor
/- The examples, call by call: they are as they are told. -/
namespace Go.Proofs.YtdgaokmmjnedhaaDoor
namespace MM
/-- So many 00s, as a row that is not opened. -/
def zr (n : Nat) : By := List.replicate n 0
theorem zr_len (n : Nat) : (zr n).length = n := List.length_replicate
def k1 : Dsk := ⟨fun _ => zero, [(3, full [97, 98])], none, false⟩
def k2 : Dsk := ⟨upd (fun _ => zero) (3, (full [97, 98]).take 1 ++ zero.drop 1), [], none, true⟩
def k3 : Dsk := { k2 with dead := false, fuse := some 1 }
def k4 : Dsk := { k3 with c := [(0, full [120])], fuse := some 0 }
def k5 : Dsk := { k4 with dead := true }
def k6 : Dsk := { k5 with dead := false, fuse := none }
theorem k6_long : k6.write 0 (zr 513) = (10, k6) := by
  unfold Dsk.write
  rw [if_neg (by decide), if_neg (by decide), if_pos (by rw [zr_len]; decide)]
theorem k1_used : UsedIs k1 [3] := ⟨by simp [Asc], fun k => by simp [k1, eq_comm]⟩
end MM
open Go Go.RowKit Go.Lib Go.Deep
namespace M
open MM
theorem zr_any (n : Nat) (hn : n ≤ 1000000) : RetB 23 #[.int .i64 (n : Int)] (.string ⟨(zr n).toArray⟩) := zeros_any n hn
section
variable {W w : World} {R : World → Prop} {B : Nat}
theorem wk1 (h : Ds W [(B, 0, Dsk.new)] R w) : Calls Tryd.prog 14 #[ptr B, .int .i64 3, .string ⟨#[97, 98]⟩] w fun e w' => e = .returned (.int .i64 0) ∧ Ds W [(B, 1, k1)] R w' := Ds.write h (i := 0) rfl (by decide) 3 [97, 98]
theorem wk2 (h : Ds W [(B, 1, k1)] R w) : Calls Tryd.prog 16 #[ptr B, .int .i64 3] w fun e w' => e = .returned (.string ⟨(97 :: 98 :: zr 510).toArray⟩) ∧ Ds W [(B, 1, k1)] R w' := (Ds.read h (i := 0) rfl 3).mono fun _ _ ⟨h1, h2⟩ => ⟨h1.trans rfl, h.step h2⟩
theorem wk3 (h : Ds W [(B, 1, k1)] R w) : Calls Tryd.prog 17 #[ptr B, .int .i64 3] w fun e w' => e = .returned (.string ⟨(zr 512).toArray⟩) ∧ Ds W [(B, 1, k1)] R w' := (Ds.platter h (i := 0) rfl 3).mono fun _ _ ⟨h1, h2⟩ => ⟨h1.trans rfl, h.step h2⟩
theorem wk4 (h : Ds W [(B, 1, k1)] R w) : Calls Tryd.prog 19 #[ptr B] w fun e w' => ∃ v, e = .returned v ∧ (∃ ao l c, v = .slice ao l c) ∧ ValsAt w' v (ints [3]) ∧ Ds W [(B, 1, k1)] R w' := (Ds.used h (i := 0) rfl).mono fun _ _ ⟨v, l, h1, h2, h3, h4⟩ => ⟨v, h1, by obtain ⟨ao, c, hv, _⟩ := h3; exact ⟨_, _, _, hv⟩, by rw [h2.one k1_used] at h3; exact h3, h.step h4⟩
theorem wk5 (h : Ds W [(B, 1, k1)] R w) : Calls Tryd.prog 11 #[ptr B, .slice none 0 0, .int .i64 1] w fun e w' => e = .returned (.tuple #[]) ∧ Ds W [(B, 1, k2)] R w' := Ds.crash h (i := 0) rfl (by decide) [] none 0 1 fun _ _ _ => fun _ _ hi => by simp at hi
theorem wk6 (h : Ds W [(B, 1, k2)] R w) : Calls Tryd.prog 17 #[ptr B, .int .i64 3] w fun e w' => e = .returned (.string ⟨(97 :: zr 511).toArray⟩) ∧ Ds W [(B, 1, k2)] R w' := (Ds.platter h (i := 0) rfl 3).mono fun _ _ ⟨h1, h2⟩ => ⟨h1.trans rfl, h.step h2⟩
theorem wk7 (h : Ds W [(B, 1, k2)] R w) : Calls Tryd.prog 20 #[ptr B] w fun e w' => e = .returned (.bool true) ∧ Ds W [(B, 1, k2)] R w' := (Ds.dead h (i := 0) rfl).mono fun _ _ ⟨h1, h2⟩ => ⟨h1, h2 ▸ h⟩
theorem wk8 (h : Ds W [(B, 1, k2)] R w) : Calls Tryd.prog 12 #[ptr B] w fun e w' => e = .returned (.tuple #[]) ∧ Ds W [(B, 1, k2.start)] R w' := Ds.boot h (i := 0) rfl
theorem wk9 (h : Ds W [(B, 1, k2.start)] R w) : Calls Tryd.prog 10 #[ptr B, .int .i64 1] w fun e w' => e = .returned (.tuple #[]) ∧ Ds W [(B, 1, k3)] R w' := Ds.fuse h (i := 0) rfl 1 (by decide)
theorem wk10 (h : Ds W [(B, 1, k3)] R w) : Calls Tryd.prog 20 #[ptr B] w fun e w' => e = .returned (.bool false) ∧ Ds W [(B, 1, k3)] R w' := (Ds.dead h (i := 0) rfl).mono fun _ _ ⟨h1, h2⟩ => ⟨h1, h2 ▸ h⟩
theorem wk11 (h : Ds W [(B, 1, k3)] R w) : Calls Tryd.prog 14 #[ptr B, .int .i64 0, .string ⟨#[120]⟩] w fun e w' => e = .returned (.int .i64 0) ∧ Ds W [(B, 2, k4)] R w' := Ds.write h (i := 0) rfl (by decide) 0 [120]
theorem wk12 (h : Ds W [(B, 2, k4)] R w) : Calls Tryd.prog 15 #[ptr B] w fun e w' => e = .returned (.int .i64 42) ∧ Ds W [(B, 2, k5)] R w' := Ds.sync h (i := 0) rfl (by decide)
theorem wk13 (h : Ds W [(B, 2, k5)] R w) : Calls Tryd.prog 16 #[ptr B, .int .i64 0] w fun e w' => e = .returned (.string ⟨#[]⟩) ∧ Ds W [(B, 2, k5)] R w' := (Ds.read h (i := 0) rfl 0).mono fun _ _ ⟨h1, h2⟩ => ⟨h1.trans rfl, h.step h2⟩
theorem wk14 (h : Ds W [(B, 2, k5)] R w) : Calls Tryd.prog 12 #[ptr B] w fun e w' => e = .returned (.tuple #[]) ∧ Ds W [(B, 2, k6)] R w' := Ds.boot h (i := 0) rfl
theorem wk15 (h : Ds W [(B, 2, k6)] R w) : Calls Tryd.prog 14 #[ptr B, .int .i64 0, .string ⟨(zr 513).toArray⟩] w fun e w' => e = .returned (.int .i64 10) ∧ Ds W [(B, 3, k6)] R w' := by
  have := Ds.write h (i := 0) rfl (by decide) 0 (zr 513)
  rw [k6_long] at this
  exact this
theorem wk16 (h : Ds W [(B, 3, k6)] R w) : Calls Tryd.prog 14 #[ptr B, .int .i64 65536, .string ⟨#[]⟩] w fun e w' => e = .returned (.int .i64 1) ∧ Ds W [(B, 4, k6)] R w' := Ds.write h (i := 0) rfl (by decide) 65536 []
end
theorem ints_lit {w : World} {v : Value} (x : Int) (hv : ValsAt w v (ints [x])) : Calls Tryd.prog 31 #[v, .slice (some ⟨w.heap.size, 0, none⟩) 1 1] (w.alloc (.cells #[.int .i64 x] 3)) fun e w' => e = .returned (.bool true) ∧ Below w.heap.size w w' := by
  have hb := below_box w (.cells #[.int .i64 x] 3)
  refine (ints_yes (l := [x]) (by simp) (hv.step hb) ⟨some ⟨w.heap.size, 0, none⟩, 1, rfl, fun i u hi => ⟨_, rfl, ?_⟩⟩).mono fun e w' ⟨h1, h2⟩ => ⟨h1, bnext hb h2⟩
  have hi0 : i = 0 := by
    have := (List.getElem?_eq_some_iff.1 hi).1
    rw [ints_len] at this
    exact Nat.lt_one_iff.1 this
  subst hi0
  obtain rfl : Value.int .i64 x = u := by simpa [ints] using hi
  exact (Box.new w 3 (.int .i64 x)).cell
set_option maxRecDepth 100000 in
set_option maxHeartbeats 4000000 in
theorem works_any (W : World) : Calls Tryd.prog 13 #[] W fun e w' => e = .returned (.bool true) ∧ Below W.heap.size W w' := by
  have H0 := Lib.hid (Ds.start W (Below.refl _ _))
  have z510 : RetB 23 #[.int .i64 510] (.string ⟨(zr 510).toArray⟩) := zr_any 510 (by decide)
  have z511 : RetB 23 #[.int .i64 511] (.string ⟨(zr 511).toArray⟩) := zr_any 511 (by decide)
  have z512 : RetB 23 #[.int .i64 512] (.string ⟨(zr 512).toArray⟩) := zr_any 512 (by decide)
  have z513 : RetB 23 #[.int .i64 513] (.string ⟨(zr 513).toArray⟩) := zr_any 513 (by decide)
  have l510 : (zr 510).length = 510 := zr_len _
  have l511 : (zr 511).length = 511 := zr_len _
  have a510 : (⟨#[97, 98]⟩ : ByteArray) ++ ⟨(zr 510).toArray⟩ = ⟨(97 :: 98 :: zr 510).toArray⟩ := by rw [ByteArray.mk_append_mk]; simp
  have a511 : (⟨#[97]⟩ : ByteArray) ++ ⟨(zr 511).toArray⟩ = ⟨(97 :: zr 511).toArray⟩ := by rw [ByteArray.mk_append_mk]; simp
  go_enter Tryd.func13, Tryd.ntmps13
  go_wp2_with (first
    | (go_at_call 22; (with_reducible refine (Ds.new H0.out).mono ?_); rintro e w1 ⟨B, rfl, h1⟩; have hD : Hid (Ds W [(B, 0, Dsk.new)] (fun _ => True) w1) := Lib.hid h1; clear h1)
    | (go_at_call 14; (with_reducible refine (wk1 hD.out).mono ?_); rintro e w2 ⟨rfl, h⟩; replace hD := Lib.hid h; clear h)
    | (go_at_call 16; (with_reducible refine (wk2 hD.out).mono ?_); rintro e w2 ⟨rfl, h⟩; replace hD := Lib.hid h; clear h)
    | (go_at_call 17; (with_reducible refine (wk3 hD.out).mono ?_); rintro e w2 ⟨rfl, h⟩; replace hD := Lib.hid h; clear h)
    | (go_at_call 11; (with_reducible refine (wk5 hD.out).mono ?_); rintro e w2 ⟨rfl, h⟩; replace hD := Lib.hid h; clear h)
    | (go_at_call 17; (with_reducible refine (wk6 hD.out).mono ?_); rintro e w2 ⟨rfl, h⟩; replace hD := Lib.hid h; clear h)
    | (go_at_call 20; (with_reducible refine (wk7 hD.out).mono ?_); rintro e w2 ⟨rfl, h⟩; replace hD := Lib.hid h; clear h)
    | (go_at_call 12; (with_reducible refine (wk8 hD.out).mono ?_); rintro e w2 ⟨rfl, h⟩; replace hD := Lib.hid h; clear h)
    | (go_at_call 10; (with_reducible refine (wk9 hD.out).mono ?_); rintro e w2 ⟨rfl, h⟩; replace hD := Lib.hid h; clear h)
    | (go_at_call 20; (with_reducible refine (wk10 hD.out).mono ?_); rintro e w2 ⟨rfl, h⟩; replace hD := Lib.hid h; clear h)
    | (go_at_call 14; (with_reducible refine (wk11 hD.out).mono ?_); rintro e w2 ⟨rfl, h⟩; replace hD := Lib.hid h; clear h)
    | (go_at_call 15; (with_reducible refine (wk12 hD.out).mono ?_); rintro e w2 ⟨rfl, h⟩; replace hD := Lib.hid h; clear h)
    | (go_at_call 16; (with_reducible refine (wk13 hD.out).mono ?_); rintro e w2 ⟨rfl, h⟩; replace hD := Lib.hid h; clear h)
    | (go_at_call 12; (with_reducible refine (wk14 hD.out).mono ?_); rintro e w2 ⟨rfl, h⟩; replace hD := Lib.hid h; clear h)
    | (go_at_call 14; (with_reducible refine (wk15 hD.out).mono ?_); rintro e w2 ⟨rfl, h⟩; replace hD := Lib.hid h; clear h)
    | (go_at_call 14; (with_reducible refine (wk16 hD.out).mono ?_); rintro e w2 ⟨rfl, h⟩; replace hD := Lib.hid h; clear h)
    | (go_at_call 19; (with_reducible refine (wk4 hD.out).mono ?_); rintro e w2 ⟨_, rfl, ⟨ao, l, c, rfl⟩, hv, h⟩; replace hD := Lib.hid h; have HV := Lib.hid hv; clear h hv)
    | (go_at_call 31; (with_reducible refine (ints_lit 3 HV.out).mono ?_); rintro e w2 ⟨rfl, h⟩; replace hD := Lib.hid (hD.out.step h); clear h HV)
    | (go_at_call 23; (with_reducible refine (z510.at _).mono ?_); rintro e w2 ⟨rfl, h⟩; replace hD := Lib.hid (hD.out.step h); clear h)
    | (go_at_call 23; (with_reducible refine (z511.at _).mono ?_); rintro e w2 ⟨rfl, h⟩; replace hD := Lib.hid (hD.out.step h); clear h)
    | (go_at_call 23; (with_reducible refine (z512.at _).mono ?_); rintro e w2 ⟨rfl, h⟩; replace hD := Lib.hid (hD.out.step h); clear h)
    | (go_at_call 23; (with_reducible refine (z513.at _).mono ?_); rintro e w2 ⟨rfl, h⟩; replace hD := Lib.hid (hD.out.step h); clear h))
  go_ret
  exact ⟨rfl, hD.out.below⟩
end M
end Go.Proofs.YtdgaokmmjnedhaaDoor
/- What a write makes of a disk; rows of steps, as statements get them. -/
namespace Go.Proofs.YtdgaokmmjnedhaaDoor
namespace MM
theorem write_p (s : Dsk) (k : Int) (t : By) : (s.write k t).2.p = s.p := by
  unfold Dsk.write
  split
  · rfl
  split
  · rfl
  split
  · rfl
  split <;> rfl
theorem write_platter (s : Dsk) (k : Int) (t : By) (j : Int) : (s.write k t).2.platter j = s.platter j := by
  unfold Dsk.platter
  rw [write_p]
theorem write_ok {s : Dsk} {k : Int} {t : By} (h : (s.write k t).1 = 0) : s.dead = false ∧ sec k = true ∧ t.length ≤ 512 ∧ (s.write k t).2 = { s.burnt with c := s.c ++ [(k, full t)] } := by
  unfold Dsk.write at h ⊢
  split
  · rename_i h1; rw [if_pos h1] at h; cases h
  rename_i h1
  rw [if_neg h1] at h
  split
  · rename_i h2; rw [if_pos h2] at h; cases h
  rename_i h2
  rw [if_neg h2] at h
  split
  · rename_i h3; rw [if_pos h3] at h; cases h
  rename_i h3
  rw [if_neg h3] at h
  split
  · rename_i h4; rw [if_pos h4] at h; cases h
  exact ⟨by simpa using h1, by simpa using h2, by omega, rfl⟩
theorem write_read {s : Dsk} {k : Int} {t : By} (h : (s.write k t).1 = 0) : (s.write k t).2.read k = full t ∧ ∀ j, j ≠ k → (s.write k t).2.read j = s.read j := by
  obtain ⟨h1, h2, h3, h4⟩ := write_ok h
  rw [h4]
  refine ⟨?_, fun j hj => ?_⟩
  · unfold Dsk.read
    simp only [Dsk.burnt, h1, h2, lastOf_snoc, if_true]
    simp
  · unfold Dsk.read
    simp only [Dsk.burnt, h1, lastOf_snoc]
    rw [if_neg (fun e : k = j => hj e.symm)]
end MM
open Go Go.RowKit Go.Lib Go.Deep
namespace M
open MM
/-- A row of steps that came in, no text and no row of them beyond the reach. -/
def Stp (W : World) (v : Value) : Prop := ∃ (ao : Option Addr) (n c : Nat) (f : Nat → Sp), v = .slice ao n c ∧ n ≤ 9223372036854775807 ∧ StepsAt W ao n f ∧ StepsSm n f
theorem few {f : Nat → Sp} {n : Nat} (h : MM.sm f n < 20000) : n ≤ 199 := by have := MM.sm_ge f n; omega
end M
end Go.Proofs.YtdgaokmmjnedhaaDoor
/- The walk of DiskRead. -/
namespace Go.Proofs.YtdgaokmmjnedhaaDoor
open Go Go.RowKit Go.Lib Go.Deep
namespace M
open MM
set_option maxHeartbeats 8000000 in
set_option maxRecDepth 100000 in
theorem read_long (ao : Option Addr) (n c : Nat) (f : Nat → Sp) (hn : n ≤ 9223372036854775807) (k : Int) (t : List UInt8) (o : Int) (ht : t.length ≤ 9223372036854775807) (h600 : ¬ t.length ≤ 600) (W : World) (hf : StepsAt W ao n f) (hs : StepsSm n f) :
    Calls Tryd.prog 5 #[.slice ao n c, .int .i64 k, .string ⟨t.toArray⟩, .int .i64 o] W fun e w' => e = .returned (.bool true) ∧ Below W.heap.size W w' := by
  have HLG := Lib.hid (fun w (h : Below W.heap.size W w) => long_any ao n c f hn w (hf.step h) hs)
  have HB := Lib.hid (Below.refl W.heap.size W)
  have hnl : (600 : Int) < (t.length : Int) := by omega
  clear hf hs
  go_enter Tryd.func5, Tryd.ntmps5
  go_wp2_with (first
      | (go_at_call 13; (with_reducible refine (works_any _).mono ?_); rintro e w1 ⟨rfl, h⟩; replace HB := Lib.hid (bnext HB.out h); clear h)
      | (go_at_call 24; (with_reducible refine (HLG.out _ HB.out).mono ?_); rintro e w2 ⟨r, rfl, hsm, h⟩; replace HB := Lib.hid (bnext HB.out h); have HSM := Lib.hid hsm; clear h hsm; cases r))
  all_goals
    go_ret
    exact ⟨rfl, HB.out⟩
set_option maxHeartbeats 8000000 in
set_option maxRecDepth 100000 in
theorem read_bad (ao : Option Addr) (n c : Nat) (f : Nat → Sp) (hn : n ≤ 9223372036854775807) (k : Int) (t : List UInt8) (o : Int) (h600 : t.length ≤ 600) (hE : (((runS Dsk.new (fun i => (f i).st) n).write k t).1 : Int) ≠ 0) (W : World) (hf : StepsAt W ao n f) (hs : StepsSm n f) :
    Calls Tryd.prog 5 #[.slice ao n c, .int .i64 k, .string ⟨t.toArray⟩, .int .i64 o] W fun e w' => e = .returned (.bool true) ∧ Below W.heap.size W w' := by
  have HLG := Lib.hid (fun w (h : Below W.heap.size W w) => long_any ao n c f hn w (hf.step h) hs)
  have HF := Lib.hid hf
  have HB := Lib.hid (Below.refl W.heap.size W)
  clear hf hs
  have hnl : ¬ (600 : Int) < (t.length : Int) := by omega
  generalize hS : runS Dsk.new (fun i => (f i).st) n = S at *
  have HS := Lib.hid hS
  clear hS
  have HPL := Lib.hid (write_platter S k t k)
  have HW : Hid (∀ (B : Nat) (w : World), n ≤ 199 → Ds W [(B, n, S)] (fun _ => True) w → Calls Tryd.prog 14 #[ptr B, .int .i64 k, .string ⟨t.toArray⟩] w fun e w' => e = .returned (.int .i64 ((S.write k t).1 : Int)) ∧ Ds W [(B, n + 1, (S.write k t).2)] (fun _ => True) w') :=
    Lib.hid fun B w h199 h => Ds.write h (i := 0) rfl (by omega) k t
  generalize (((S.write k t).1 : Nat) : Int) = E at *
  generalize (S.write k t).2 = S2 at *
  generalize hro : S.read o = ro at *
  generalize hpk : S.platter k = pk at *
  have HRO0 := Lib.hid hro
  have HPK0 := Lib.hid hpk
  have HRO := Lib.hid hro
  have HRD := Lib.hid hro
  clear hro hpk
  go_enter Tryd.func5, Tryd.ntmps5
  go_wp2_with (first
      | (go_at_call 13; (with_reducible refine (works_any _).mono ?_); rintro e w1 ⟨rfl, h⟩; replace HB := Lib.hid (bnext HB.out h); clear h)
      | (go_at_call 24; (with_reducible refine (HLG.out _ HB.out).mono ?_); rintro e w2 ⟨r, rfl, hsm, h⟩; replace HB := Lib.hid (bnext HB.out h); have HSM := Lib.hid hsm; clear h hsm; cases r)
      | (go_at_call 33; (with_reducible refine (after_any (Ds.start W HB.out) ao n c f (by have := few (HSM.out trivial); omega) HF.out).mono ?_); rintro e w1 ⟨B, rfl, h⟩; rw [HS.out] at h; have HD : Hid (Ds W [(B, n, S)] (fun _ => True) w1) := Lib.hid h; clear h)
      | (go_at_call 14; (with_reducible refine (HW.out _ _ (few (HSM.out trivial)) HD.out).mono ?_); rintro e w1 ⟨rfl, h⟩; replace HD := Lib.hid h; clear h)
      | (go_at_call 16; (with_reducible refine (Ds.read HD.out (i := 0) rfl _).mono ?_); rintro e w1 ⟨he, h⟩; (first | rw [HRD.out] at he | rw [HRO0.out] at he | rw [HRO.out] at he | skip); subst he; replace HD := Lib.hid (HD.out.step h); clear h)
      | (go_at_call 17; (with_reducible refine (Ds.platter HD.out (i := 0) rfl _).mono ?_); rintro e w1 ⟨he, h⟩; (first | rw [HPL.out] at he | rw [HPK0.out] at he | skip); subst he; replace HD := Lib.hid (HD.out.step h); clear h)
      | (go_at_call 23; (with_reducible refine (hz.at _).mono ?_); rintro e w1 ⟨rfl, h⟩; replace HD := Lib.hid (HD.out.step h); clear h))
  · go_ret
    exact ⟨rfl, HD.out.below⟩
  · go_ret
    exact ⟨rfl, HB.out⟩

set_option maxHeartbeats 8000000 in
set_option maxRecDepth 100000 in
theorem read_good (ao : Option Addr) (n c : Nat) (f : Nat → Sp) (hn : n ≤ 9223372036854775807) (k : Int) (t : List UInt8) (o : Int) (h600 : t.length ≤ 600) (hE : ((runS Dsk.new (fun i => (f i).st) n).write k t).1 = 0) (W : World) (hf : StepsAt W ao n f) (hs : StepsSm n f) :
    Calls Tryd.prog 5 #[.slice ao n c, .int .i64 k, .string ⟨t.toArray⟩, .int .i64 o] W fun e w' => e = .returned (.bool true) ∧ Below W.heap.size W w' := by
  have HLG := Lib.hid (fun w (h : Below W.heap.size W w) => long_any ao n c f hn w (hf.step h) hs)
  have HF := Lib.hid hf
  have HB := Lib.hid (Below.refl W.heap.size W)
  clear hf hs
  have hnl : ¬ (600 : Int) < (t.length : Int) := by omega
  generalize hS : runS Dsk.new (fun i => (f i).st) n = S at *
  have HS := Lib.hid hS
  clear hS
  obtain ⟨hdead, hsec, hlen, _⟩ := write_ok hE
  obtain ⟨hrd, hro⟩ := write_read hE
  have hE0 : (((S.write k t).1 : Nat) : Int) = 0 := by rw [hE]; rfl
  obtain ⟨m, hm⟩ : ∃ m, 512 - t.length = m := ⟨_, rfl⟩
  have hsub : (512 : Int) - (t.length : Int) = (m : Int) := by omega
  have hz := zr_any m (by omega)
  have lz := zr_len m
  have hcat : (⟨t.toArray⟩ : ByteArray) ++ ⟨(zr m).toArray⟩ = ⟨(full t).toArray⟩ := by rw [ByteArray.mk_append_mk]; unfold full zr; rw [hm]; first | done | simp
  have hadd : ¬ 9223372036854775807 < t.length + m := by omega
  have HRD := Lib.hid hrd
  have HPL := Lib.hid (write_platter S k t k)
  generalize full t = ft at *
  have HW : Hid (∀ (B : Nat) (w : World), n ≤ 199 → Ds W [(B, n, S)] (fun _ => True) w → Calls Tryd.prog 14 #[ptr B, .int .i64 k, .string ⟨t.toArray⟩] w fun e w' => e = .returned (.int .i64 0) ∧ Ds W [(B, n + 1, (S.write k t).2)] (fun _ => True) w') :=
    Lib.hid fun B w h199 h => (Ds.write h (i := 0) rfl (by omega) k t).mono fun e w' ⟨h1, h2⟩ => ⟨by rw [h1, hE0], h2⟩
  have hro := fun h => hro o h
  clear hE hrd hm hdead hsec hE0
  generalize (S.write k t).2 = S2 at *
  generalize hro2 : S.read o = ro at *
  generalize hpk : S.platter k = pk at *
  have HRO0 := Lib.hid hro2
  have HPK0 := Lib.hid hpk
  clear hro2 hpk
  by_cases hok : o = k
  · subst hok
    have HRO := Lib.hid HRD.out
    clear hro
    go_enter Tryd.func5, Tryd.ntmps5
    go_wp2_with (first
      | (go_at_call 13; (with_reducible refine (works_any _).mono ?_); rintro e w1 ⟨rfl, h⟩; replace HB := Lib.hid (bnext HB.out h); clear h)
      | (go_at_call 24; (with_reducible refine (HLG.out _ HB.out).mono ?_); rintro e w2 ⟨r, rfl, hsm, h⟩; replace HB := Lib.hid (bnext HB.out h); have HSM := Lib.hid hsm; clear h hsm; cases r)
      | (go_at_call 33; (with_reducible refine (after_any (Ds.start W HB.out) ao n c f (by have := few (HSM.out trivial); omega) HF.out).mono ?_); rintro e w1 ⟨B, rfl, h⟩; rw [HS.out] at h; have HD : Hid (Ds W [(B, n, S)] (fun _ => True) w1) := Lib.hid h; clear h)
      | (go_at_call 14; (with_reducible refine (HW.out _ _ (few (HSM.out trivial)) HD.out).mono ?_); rintro e w1 ⟨rfl, h⟩; replace HD := Lib.hid h; clear h)
      | (go_at_call 16; (with_reducible refine (Ds.read HD.out (i := 0) rfl _).mono ?_); rintro e w1 ⟨he, h⟩; (first | rw [HRD.out] at he | rw [HRO0.out] at he | rw [HRO.out] at he | skip); subst he; replace HD := Lib.hid (HD.out.step h); clear h)
      | (go_at_call 17; (with_reducible refine (Ds.platter HD.out (i := 0) rfl _).mono ?_); rintro e w1 ⟨he, h⟩; (first | rw [HPL.out] at he | rw [HPK0.out] at he | skip); subst he; replace HD := Lib.hid (HD.out.step h); clear h)
      | (go_at_call 23; (with_reducible refine (hz.at _).mono ?_); rintro e w1 ⟨rfl, h⟩; replace HD := Lib.hid (HD.out.step h); clear h))
    · go_ret
      exact ⟨rfl, HD.out.below⟩
    · go_ret
      exact ⟨rfl, HB.out⟩

  · have HRO := Lib.hid (hro hok)
    clear hro
    go_enter Tryd.func5, Tryd.ntmps5
    go_wp2_with (first
      | (go_at_call 13; (with_reducible refine (works_any _).mono ?_); rintro e w1 ⟨rfl, h⟩; replace HB := Lib.hid (bnext HB.out h); clear h)
      | (go_at_call 24; (with_reducible refine (HLG.out _ HB.out).mono ?_); rintro e w2 ⟨r, rfl, hsm, h⟩; replace HB := Lib.hid (bnext HB.out h); have HSM := Lib.hid hsm; clear h hsm; cases r)
      | (go_at_call 33; (with_reducible refine (after_any (Ds.start W HB.out) ao n c f (by have := few (HSM.out trivial); omega) HF.out).mono ?_); rintro e w1 ⟨B, rfl, h⟩; rw [HS.out] at h; have HD : Hid (Ds W [(B, n, S)] (fun _ => True) w1) := Lib.hid h; clear h)
      | (go_at_call 14; (with_reducible refine (HW.out _ _ (few (HSM.out trivial)) HD.out).mono ?_); rintro e w1 ⟨rfl, h⟩; replace HD := Lib.hid h; clear h)
      | (go_at_call 16; (with_reducible refine (Ds.read HD.out (i := 0) rfl _).mono ?_); rintro e w1 ⟨he, h⟩; (first | rw [HRD.out] at he | rw [HRO0.out] at he | rw [HRO.out] at he | skip); subst he; replace HD := Lib.hid (HD.out.step h); clear h)
      | (go_at_call 17; (with_reducible refine (Ds.platter HD.out (i := 0) rfl _).mono ?_); rintro e w1 ⟨he, h⟩; (first | rw [HPL.out] at he | rw [HPK0.out] at he | skip); subst he; replace HD := Lib.hid (HD.out.step h); clear h)
      | (go_at_call 23; (with_reducible refine (hz.at _).mono ?_); rintro e w1 ⟨rfl, h⟩; replace HD := Lib.hid (HD.out.step h); clear h))
    · go_ret
      exact ⟨rfl, HD.out.below⟩
    · go_ret
      exact ⟨rfl, HB.out⟩


theorem walkDiskRead (v : Value) (k : Int) (t : List UInt8) (o : Int) (ht : t.length ≤ 9223372036854775807) (W : World) (hv : Stp W v) :
    Calls Tryd.prog 5 #[v, .int .i64 k, .string ⟨t.toArray⟩, .int .i64 o] W fun e w' => e = .returned (.bool true) ∧ Below W.heap.size W w' := by
  obtain ⟨ao, n, c, f, rfl, hn, hf, hs⟩ := hv
  by_cases h600 : t.length ≤ 600
  · by_cases hE : ((runS Dsk.new (fun i => (f i).st) n).write k t).1 = 0
    · exact read_good ao n c f hn k t o h600 hE W hf hs
    · exact read_bad ao n c f hn k t o h600 (fun e => hE (by omega)) W hf hs
  · exact read_long ao n c f hn k t o ht h600 W hf hs
end M
end Go.Proofs.YtdgaokmmjnedhaaDoor

/- The texts DskLaw5, DskSyncW, one behind the other. -/
import Derived.Test.YtdgaokmmjnedhaaDoorWB10
import Derived.Test.YtdgaokmmjnedhaaDoorWB3
/- Rows of texts; what steps, a sync and a crash behind it leave. -/
namespace Go.Proofs.YtdgaokmmjnedhaaDoor
namespace MM
theorem step_p {T : Dsk} {x : St} (h1 : x.k ≠ 1) (h3 : x.k ≠ 3) : (T.step x).2.p = T.p := by
  unfold Dsk.step
  by_cases h0 : x.k = 0
  · rw [if_pos h0]; exact write_p _ _ _
  rw [if_neg h0, if_neg h1]
  by_cases h2 : x.k = 2
  · rw [if_pos h2]; rfl
  · rw [if_neg h2, if_neg h3]; rfl
theorem step_platter {T : Dsk} {x : St} (h1 : x.k ≠ 1) (h3 : x.k ≠ 3) (k : Int) : (T.step x).2.platter k = T.platter k := by unfold Dsk.platter; rw [step_p h1 h3]
/-- Started, synced. -/
theorem start_sync (S : Dsk) : S.start.sync.1 = 0 ∧ S.start.sync.2.c = [] ∧ S.start.sync.2.dead = false ∧ S.start.sync.2.fuse = none ∧ S.start.sync.2.p = putAll S.p S.c := by
  unfold Dsk.sync
  rw [if_neg (by simp [Dsk.start]), if_neg (by simp [Dsk.start])]
  exact ⟨rfl, rfl, rfl, rfl, rfl⟩
theorem crash_empty {T : Dsk} (h : T.c = []) (keep : List Bool) (n : Int) : T.crash keep n = { T with dead := true } := by
  obtain ⟨p, c, f, d⟩ := T
  simp only at h
  subst h
  rfl
theorem plat_of {T : Dsk} {k : Int} : T.platter k = if sec k then T.p k else [] := rfl
theorem read_of {T : Dsk} (h : T.dead = false) {k : Int} : T.read k = if sec k then (lastOf T.c k).getD (T.p k) else [] := by
  unfold Dsk.read
  rw [h]
  rfl
theorem start_read (S : Dsk) (k : Int) : S.start.read k = if sec k then (lastOf S.c k).getD (S.p k) else [] := read_of rfl
theorem synced_platter (S : Dsk) (keep : List Bool) (n : Int) (k : Int) : (S.start.sync.2.crash keep n).platter k = S.start.read k := by
  obtain ⟨_, h1, h2, h3, h4⟩ := start_sync S
  rw [crash_empty h1, plat_of, start_read]
  show (if sec k then S.start.sync.2.p k else []) = _
  rw [h4, putAll_last]
theorem synced_read (S : Dsk) (keep : List Bool) (n : Int) (k : Int) : (S.start.sync.2.crash keep n).start.read k = S.start.read k := by
  rw [← synced_platter S keep n k]
  obtain ⟨_, h1, h2, h3, h4⟩ := start_sync S
  rw [crash_empty h1, plat_of, start_read]
  show (if sec k then (lastOf S.start.sync.2.c k).getD (S.start.sync.2.p k) else []) = if sec k then S.start.sync.2.p k else []
  rw [h1, lastOf_nil]
  rfl
end MM
open Go Go.RowKit Go.Lib Go.Deep
namespace M
open MM
def strs (l : List By) : List Value := l.map fun t => .string ⟨t.toArray⟩
theorem strs_len (l : List By) : (strs l).length = l.length := by simp [strs]
theorem strs_snoc (l : List By) (x : By) : strs l ++ [.string ⟨x.toArray⟩] = strs (l ++ [x]) := by simp [strs]
theorem strs_get {l : List By} {i : Nat} {z : By} (h : l[i]? = some z) : (strs l)[i]? = some (.string ⟨z.toArray⟩) := by simp [strs, h]
/-- The first answers, one behind the other. -/
def told (g : Int → By) (l : List Int) (i : Nat) : List By := (l.take i).map g
theorem told_len {g : Int → By} {l : List Int} {i : Nat} (h : i ≤ l.length) : (told g l i).length = i := by simp [told]; omega
theorem told_succ {g : Int → By} {l : List Int} {i : Nat} {z : Int} (h : l[i]? = some z) : told g l (i + 1) = told g l i ++ [g z] := by simp [told, List.take_add_one, h]
theorem told_get {g : Int → By} {l : List Int} {n i : Nat} {z : Int} (h : l[i]? = some z) (hi : i < n) : (told g l n)[i]? = some (g z) := by simp [told, hi, h]
/-- A cell of a row that stands. -/
theorem ValsAt.cell {w : World} {ad : Addr} {n c : Nat} {l : List Value} (h : ValsAt w (.slice (some ad) n c) l) {i : Nat} {u : Value} (hi : l[i]? = some u) : w.cell? (ad.add i) = some u := by
  obtain ⟨ao, c2, hv, h1⟩ := h
  injection hv with h2 _ _
  subst h2
  obtain ⟨ad2, e, hc⟩ := h1 i u hi
  injection e with e
  subst e
  exact hc
theorem ValsAt.len {w : World} {ao : Option Addr} {n c : Nat} {l : List Value} (h : ValsAt w (.slice ao n c) l) : n = l.length := by
  obtain ⟨ao2, c2, hv, _⟩ := h
  injection hv
theorem ValsAt.some {w : World} {ao : Option Addr} {n c : Nat} {l : List Value} (h : ValsAt w (.slice ao n c) l) (hl : 0 < l.length) : ∃ ad, ao = .some ad := by
  obtain ⟨ao2, c2, hv, h1⟩ := h
  injection hv with h2 _ _
  subst h2
  obtain ⟨ad, e, _⟩ := h1 0 _ (List.getElem?_eq_getElem hl)
  exact ⟨ad, e⟩
end M
end Go.Proofs.YtdgaokmmjnedhaaDoor
/- The walk of DiskSynced. -/
namespace Go.Proofs.YtdgaokmmjnedhaaDoor
open Go Go.RowKit Go.Lib Go.Deep
namespace M
open MM
/-- The row of sectors stands. -/
def SecR (sad : Addr) (n sc : Nat) (f : Nat → Sp) (u : World) : Prop := ValsAt u (.slice (some sad) (n + 3) sc) (ints (secsTo f n))
set_option maxHeartbeats 4000000 in
set_option maxRecDepth 100000 in
theorem synced_far (ao : Option Addr) (n c : Nat) (f : Nat → Sp) (hn : n ≤ 9223372036854775807) (ko : Option Addr) (kl kc : Nat) (hk : ¬ kl ≤ 1000) (x : Int) (W : World) (hf : StepsAt W ao n f) (hs : StepsSm n f) :
    Calls Tryd.prog 6 #[.slice ao n c, .slice ko kl kc, .int .i64 x] W fun e w' => e = .returned (.bool true) ∧ Below W.heap.size W w' := by
  have HLG := Lib.hid (fun w (h : Below W.heap.size W w) => long_any ao n c f hn w (hf.step h) hs)
  have HB := Lib.hid (Below.refl W.heap.size W)
  have hnl : (1000 : Int) < (kl : Int) := by omega
  clear hf hs
  go_enter Tryd.func6, Tryd.ntmps6
  go_wp2_with (first
      | (go_at_call 13; (with_reducible refine (works_any _).mono ?_); rintro e w1 ⟨rfl, h⟩; replace HB := Lib.hid (bnext HB.out h); clear h)
      | (go_at_call 24; (with_reducible refine (HLG.out _ HB.out).mono ?_); rintro e w2 ⟨r, rfl, hsm, h⟩; replace HB := Lib.hid (bnext HB.out h); have HSM := Lib.hid hsm; clear h hsm; cases r))
  all_goals
    go_ret
    exact ⟨rfl, HB.out⟩
set_option maxHeartbeats 8000000 in
set_option maxRecDepth 100000 in
theorem synced_near (ao : Option Addr) (n c : Nat) (f : Nat → Sp) (hn : n ≤ 9223372036854775807) (ko : Option Addr) (keep : List Bool) (kc : Nat) (hk : keep.length ≤ 1000) (x : Int) (W : World) (hf : StepsAt W ao n f) (hs : StepsSm n f) (hko : BoolsAt W ko keep) :
    Calls Tryd.prog 6 #[.slice ao n c, .slice ko keep.length kc, .int .i64 x] W fun e w' => e = .returned (.bool true) ∧ Below W.heap.size W w' := by
  have HLG := Lib.hid (fun w (h : Below W.heap.size W w) => long_any ao n c f hn w (hf.step h) hs)
  have HF := Lib.hid hf
  have HKO := Lib.hid hko
  have HB := Lib.hid (Below.refl W.heap.size W)
  have hnl : ¬ (1000 : Int) < (keep.length : Int) := by omega
  clear hf hs hko
  go_enter Tryd.func6, Tryd.ntmps6
  go_wp2_with (first
      | (go_at_call 13; (with_reducible refine (works_any _).mono ?_); rintro e w1 ⟨rfl, h⟩; replace HB := Lib.hid (bnext HB.out h); clear h)
      | (go_at_call 24; (with_reducible refine (HLG.out _ HB.out).mono ?_); rintro e w2 ⟨r, rfl, hsm, h⟩; replace HB := Lib.hid (bnext HB.out h); have HSM := Lib.hid hsm; clear h hsm; cases r)
      | (go_at_call 22; (with_reducible refine (Ds.new (Ds.start W HB.out)).mono ?_); rintro e w1 ⟨B, rfl, h⟩; have HD : Hid (Ds W [(B, 0, Dsk.new)] (fun _ => True) w1) := Lib.hid h; clear h)
      | (go_at_call 34; (with_reducible refine (sectors_any HD.out.below ao n c f (by have := few (HSM.out trivial); omega) HF.out).mono ?_); rintro e w1 ⟨_, rfl, ⟨sa, sl, sc, rfl⟩, ho⟩; have HR0 := Lib.hid (HD.out.row ho); have HV := Lib.hid ho.vals; clear ho))
  · have hn2 := few (HSM.out trivial)
    obtain rfl : sl = n + 3 := by rw [HV.out.len, ints_len, secsTo_len]
    obtain ⟨sad, rfl⟩ := HV.out.some (by rw [ints_len, secsTo_len]; omega)
    have HD : Hid (Ds W [(B, 0, Dsk.new)] (SecR sad n sc f) w1) := Lib.hid (HR0.out.weaken fun u h => h.2)
    clear HSM HLG HB HR0 HV
    generalize w1 = wA at *
    go_loopw [9] (fun s9 wx => ∃ i : Nat, i ≤ n ∧ s9 = .int .i64 (i : Int) ∧ Hid (Ds W [(B, i, runS Dsk.new (fun i => (f i).st) i)] (SecR sad n sc f) wx)) (fun s9 _ => n - (RowKit.intOf s9).toNat)
    case atStart => exact ⟨0, Nat.zero_le _, rfl, HD⟩
    case round =>
      obtain ⟨i, hi, rfl, HD⟩ := hrel
      by_cases hlt : i < n
      · obtain ⟨hok, hkb, a, ha, hcl⟩ := HF.out i hlt
        subst ha
        obtain ⟨Bs, O, hadr, hr1⟩ := step_range hcl
        have HRG := Lib.hid (fun w (h : Below W.heap.size W w) => range_below hr1 h)
        have HSZ := Lib.hid (info_sp (f i))
        have HKB := Lib.hid hkb
        have HOK := Lib.hid hok
        clear hcl hr1 hkb hok
        obtain ⟨z, hz⟩ : ∃ z, (secsTo f n)[i]? = some z := ⟨_, List.getElem?_eq_getElem (by rw [secsTo_len]; omega)⟩
        have hcell : wr.cell? (sad.add i) = some (.int .i64 z) := ValsAt.cell HD.out.rest (ints_get hz)
        have hrem : (i : Int).tmod ((n : Int) + 3) = (i : Int) := by rw [Int.tmod_eq_emod_of_nonneg (by omega)]; exact Int.emod_eq_of_lt (by omega) (by omega)
        have HDO : Hid (∀ (w : World) (T : Dsk), Ds W [(B, i, T)] (SecR sad n sc f) w → Calls Tryd.prog 27 #[.agg (f i).cells, ptr B] w fun e w' => e = .returned (.int .i64 ((T.step (f i).st).1 : Int)) ∧ Ds W [(B, i + 1, (T.step (f i).st).2)] (SecR sad n sc f) w') :=
          Lib.hid fun w T h => Ds.does h (i := 0) rfl (by omega) (f i) HOK.out fun u hu _ => HKB.out.step hu
        have HC0 : Hid (∀ w, Below W.heap.size W w → w.cell? ⟨Bs, O, none⟩ = some (.int .u8 ((f i).k : Int))) := Lib.hid fun w h => HRG.out w h 0 _ rfl
        have HNX : Hid (runS Dsk.new (fun i => (f i).st) (i + 1) = ((runS Dsk.new (fun i => (f i).st) i).step (f i).st).2) := Lib.hid rfl
        have HPL : Hid ((f i).k ≠ 1 → (f i).k ≠ 3 → ((runS Dsk.new (fun i => (f i).st) i).step (f i).st).2.platter z = (runS Dsk.new (fun i => (f i).st) i).platter z) := Lib.hid fun h1 h3 => step_platter (x := (f i).st) h1 h3 z
        generalize runS Dsk.new (fun i => (f i).st) i = T at *
        clear hz HOK HKB
        by_cases h1 : (f i).k = 1
        · have K1 : Hid (((f i).k : Int) = 1) := Lib.hid (by rw [h1]; rfl)
          clear HPL h1
          go_upto_region 9 with fail
          go_upto_region 10 with (go_at_call 17; (with_reducible refine (Ds.platter HD.out (i := 0) rfl _).mono ?_); rintro e w1 ⟨rfl, h⟩; replace HD := Lib.hid (HD.out.step h); clear h)
          have HL := HRG.out _ HD.out.below
          go_upto_region 11 with (first
            | (refine wpList_load_mid rfl 41 _ rfl Bs O rfl (f i).cells.toList _ HL Tryd.underlying41 rfl HSZ.out ?_)
            | (go_at_call 27; (with_reducible refine (HDO.out _ _ HD.out).mono ?_); rintro e w5 ⟨rfl, h⟩; replace HD := Lib.hid h; have hc0 := HC0.out _ h.below; clear h))
          clear HL
          have k5 := K1.out
          go_wp2_with fail
          go_roundw
          case rel => exact ⟨i + 1, by omega, by go_num, Lib.hid (by have h := HD.out; rw [← HNX.out] at h; exact h)⟩
          case measure => simp [RowKit.intOf]; omega
        · have k1 : ¬ ((f i).k : Int) = 1 := by omega
          by_cases h3 : (f i).k = 3
          · have K1 : Hid (((f i).k : Int) = 3) := Lib.hid (by rw [h3]; rfl)
            clear HPL h1 h3
            go_upto_region 9 with fail
            go_upto_region 10 with (go_at_call 17; (with_reducible refine (Ds.platter HD.out (i := 0) rfl _).mono ?_); rintro e w1 ⟨rfl, h⟩; replace HD := Lib.hid (HD.out.step h); clear h)
            have HL := HRG.out _ HD.out.below
            go_upto_region 11 with (first
              | (refine wpList_load_mid rfl 41 _ rfl Bs O rfl (f i).cells.toList _ HL Tryd.underlying41 rfl HSZ.out ?_)
              | (go_at_call 27; (with_reducible refine (HDO.out _ _ HD.out).mono ?_); rintro e w5 ⟨rfl, h⟩; replace HD := Lib.hid h; have hc0 := HC0.out _ h.below; clear h))
            clear HL
            have k5 := K1.out
            go_wp2_with fail
            go_roundw
            case rel => exact ⟨i + 1, by omega, by go_num, Lib.hid (by have h := HD.out; rw [← HNX.out] at h; exact h)⟩
            case measure => simp [RowKit.intOf]; omega
          · have k3 : ¬ ((f i).k : Int) = 3 := by omega
            have K1 : Hid True := Lib.hid trivial
            have HP2 := Lib.hid (HPL.out h1 h3)
            clear HPL h1 h3
            go_upto_region 9 with fail
            go_upto_region 10 with (go_at_call 17; (with_reducible refine (Ds.platter HD.out (i := 0) rfl _).mono ?_); rintro e w1 ⟨rfl, h⟩; replace HD := Lib.hid (HD.out.step h); clear h)
            have HL := HRG.out _ HD.out.below
            go_upto_region 11 with (first
              | (refine wpList_load_mid rfl 41 _ rfl Bs O rfl (f i).cells.toList _ HL Tryd.underlying41 rfl HSZ.out ?_)
              | (go_at_call 27; (with_reducible refine (HDO.out _ _ HD.out).mono ?_); rintro e w5 ⟨rfl, h⟩; replace HD := Lib.hid h; have hc0 := HC0.out _ h.below; clear h))
            clear HL
            have k5 := K1.out
            go_wp2_with (go_at_call 17; (with_reducible refine (Ds.platter HD.out (i := 0) rfl _).mono ?_); rintro e w1 ⟨he, h⟩; rw [HP2.out] at he; subst he; replace HD := Lib.hid (HD.out.step h); clear h)
            go_roundw
            case rel => exact ⟨i + 1, by omega, by go_num, Lib.hid (by have h := HD.out; rw [← HNX.out] at h; exact h)⟩
            case measure => simp [RowKit.intOf]; omega
      · obtain rfl : n = i := by omega
        have hn9 : n ≤ n := Nat.le_refl n
        generalize runS Dsk.new (fun i => (f i).st) n = S at *
        go_wp2_with (go_at_call 12; (with_reducible refine (Ds.boot HD.out (i := 0) rfl).mono ?_); rintro e wB ⟨rfl, h⟩; have HD1 : Hid (Ds W [(B, n, S.start)] (SecR sad n sc f) wB) := Lib.hid h; clear h)
        go_loopw [12, 13] (fun s12 s13 wx => ∃ (i : Nat) (ro : Option Addr) (rc : Nat), i ≤ n + 3 ∧ s13 = .int .i64 (i : Int) ∧ s12 = .slice ro i rc ∧ Hid (OwnE wB 9 (.slice ro i rc) (strs (told S.start.read (secsTo f n) i)) wx)) (fun _ s13 _ => n + 3 - (RowKit.intOf s13).toNat)
        case atStart => exact ⟨0, none, 0, Nat.zero_le _, rfl, rfl, Lib.hid (by simpa [told, strs] using OwnE.nil 9 (Below.refl _ _))⟩
        case round =>
          obtain ⟨i, ro, rc, hi, rfl, rfl, HI⟩ := hrel
          by_cases hlt : i < n + 3
          · obtain ⟨z, hz⟩ : ∃ z, (secsTo f n)[i]? = some z := ⟨_, List.getElem?_eq_getElem (by rw [secsTo_len]; omega)⟩
            have HDW := Lib.hid (HD1.out.step HI.out.below)
            have hcell : wr.cell? (sad.add i) = some (.int .i64 z) := ValsAt.cell HDW.out.rest (ints_get hz)
            have HPU : Hid (∀ w, Below wr.heap.size wr w → ∃ ao' c' w', (Builtin.append_ #[34, 34] 34 #[.slice ro i rc, .slice (some ⟨w.heap.size, 0, none⟩) 1 1]).run Tryd.prog (w.alloc (.cells #[.string ⟨(S.start.read z).toArray⟩] 9)) = .ok (.slice ao' (i + 1) c') w' ∧ OwnE wB 9 (.slice ao' (i + 1) c') (strs (told S.start.read (secsTo f n) (i + 1))) w') := Lib.hid fun w hw => by
              have hl : (strs (told S.start.read (secsTo f n) i)).length = i := by rw [strs_len, told_len (by rw [secsTo_len]; omega)]
              obtain ⟨ao', c', w', h1, h2, _⟩ := (HI.out.step hw).pushStr ⟨(S.start.read z).toArray⟩ (by rw [hl]; omega) 34
              rw [hl] at h1 h2
              rw [strs_snoc, ← told_succ hz] at h2
              exact ⟨ao', c', w', h1, h2⟩
            have hlt1 : (i : Int) < (n : Int) + 3 := by omega
            clear hz
            go_wp2_with (first
              | (go_at_call 16; (with_reducible refine (Ds.read HDW.out (i := 0) rfl _).mono ?_); rintro e w5 ⟨rfl, h⟩; obtain ⟨ao', cq, w6, hr, ho⟩ := HPU.out w5 h; have HO6 := Lib.hid ho; clear h ho)
              | (at_builtin; refine Lib.wpList_append_run _ rfl _ _ _ _ rfl _ _ rfl rfl _ _ hr ?_))
            go_roundw
            case rel => exact ⟨i + 1, ao', cq, by omega, by go_num, rfl, HO6⟩
            case measure => simp [RowKit.intOf]; omega
          · obtain rfl : i = n + 3 := by omega
            obtain ⟨rad, rfl⟩ := ValsAt.some HI.out.vals (by rw [strs_len, told_len (by rw [secsTo_len]; exact Nat.le_refl _)]; omega)
            have HD : Hid (Ds W [(B, n, S.start)] (fun u => SecR sad n sc f u ∧ ValsAt u (.slice (some rad) (n + 3) rc) (strs (told S.start.read (secsTo f n) (n + 3)))) wr) := Lib.hid (HD1.out.row HI.out)
            clear HI HD1
            obtain ⟨hs1, hs2, _, _, _⟩ := start_sync S
            have HS1 : Hid (((S.start.sync.1 : Nat) : Int) = 0) := Lib.hid (by rw [hs1]; rfl)
            have HS2 : Hid (((S.start.sync.2.c.length : Nat) : Int) = 0) := Lib.hid (by rw [hs2]; rfl)
            clear hs1 hs2
            go_wp2_with (first
              | (go_at_call 15; (with_reducible refine (Ds.sync HD.out (i := 0) rfl (by omega)).mono ?_); rintro e w5 ⟨he, h⟩; rw [HS1.out] at he; subst he; replace HD : Hid (Ds W [(B, n, S.start.sync.2)] (fun u => SecR sad n sc f u ∧ ValsAt u (.slice (some rad) (n + 3) rc) (strs (told S.start.read (secsTo f n) (n + 3)))) w5) := Lib.hid h; clear h)
              | (go_at_call 18; (with_reducible refine (Ds.waits2 HD.out (i := 0) rfl).mono ?_); rintro e w5 ⟨he, h⟩; rw [HS2.out] at he; subst he; replace HD := Lib.hid h; clear h)
              | (go_at_call 11; (with_reducible refine (Ds.crash HD.out (i := 0) rfl (by omega) keep _ _ _ (fun u hu _ => HKO.out.step hu)).mono ?_); rintro e w5 ⟨rfl, h⟩; replace HD : Hid (Ds W [(B, n, S.start.sync.2.crash keep x)] (fun u => SecR sad n sc f u ∧ ValsAt u (.slice (some rad) (n + 3) rc) (strs (told S.start.read (secsTo f n) (n + 3)))) w5) := Lib.hid h; clear h))
            go_loopw [14] (fun s14 wx => ∃ i : Nat, i ≤ n + 3 ∧ s14 = .int .i64 (i : Int) ∧ Hid (Ds W [(B, n, S.start.sync.2.crash keep x)] (fun u => SecR sad n sc f u ∧ ValsAt u (.slice (some rad) (n + 3) rc) (strs (told S.start.read (secsTo f n) (n + 3)))) wx)) (fun s14 _ => n + 3 - (RowKit.intOf s14).toNat)
            case atStart => exact ⟨0, Nat.zero_le _, rfl, HD⟩
            case round =>
              obtain ⟨i, hi, rfl, HD⟩ := hrel
              by_cases hlt : i < n + 3
              · obtain ⟨z, hz⟩ : ∃ z, (secsTo f n)[i]? = some z := ⟨_, List.getElem?_eq_getElem (by rw [secsTo_len]; omega)⟩
                have HZ := Lib.hid (ValsAt.cell HD.out.rest.1 (ints_get hz))
                have HT := Lib.hid (ValsAt.cell HD.out.rest.2 (strs_get (told_get (g := S.start.read) (n := n + 3) hz (by omega))))
                clear hz
                have hk0 : (0 : Int) ≤ (i : Int) := Int.natCast_nonneg _
                have hk1 : (i : Int) < (n : Int) + 3 := by omega
                have hk2 : (i : Int) < ((n + 3 : Nat) : Int) := by omega
                go_upto_region 25 with fail
                refine RK.region (fun u => u.cell? (sad.add i) = some (.int .i64 z) ∧ u.cell? (rad.add i) = some (.string ⟨(S.start.read z).toArray⟩)) 11 (by kernel_rfl) ?_
                have HS0 : wr.drew.cell? (sad.add i) = some (.int .i64 z) ∧ wr.drew.cell? (rad.add i) = some (.string ⟨(S.start.read z).toArray⟩) := ⟨HZ.out, HT.out⟩
                have HD9 := Lib.hid (show Ds W _ _ wr.drew from HD.out.step (below_drewN wr 1))
                refine RK.Any.take 0 109 (ptr B) rfl rfl (by kernel_rfl) (by kernel_rfl) (by kernel_rfl) (by kernel_rfl) (fun _ _ _ h => h) (by rfl) (fun W' hb => ?_) HS0 ?_
                · go_simp
                simp only [List.setIfInBounds_toArray, List.set_cons_zero, List.set_cons_succ]
                refine RK.Any.take 1 110 (.slice (some sad) (n + 3) sc) rfl rfl (by kernel_rfl) (by kernel_rfl) (by kernel_rfl) (by kernel_rfl) (fun _ _ _ h => h) (by rfl) (fun W' hb => ?_) HS0 ?_
                · go_simp
                simp only [List.setIfInBounds_toArray, List.set_cons_zero, List.set_cons_succ]
                refine RK.Any.take 2 111 (.int .i64 (i : Int)) rfl rfl (by kernel_rfl) (by kernel_rfl) (by kernel_rfl) (by kernel_rfl) (fun _ _ _ h => h) (by rfl) (fun W' hb => ?_) HS0 ?_
                · go_simp
                simp only [List.setIfInBounds_toArray, List.set_cons_zero, List.set_cons_succ]
                refine RK.Any.take 3 112 (.pointer (some (sad.add i))) rfl rfl (by kernel_rfl) (by kernel_rfl) (by kernel_rfl) (by kernel_rfl) (fun _ _ _ h => h) (by rfl) (fun W' hb => ?_) HS0 ?_
                · go_simp
                simp only [List.setIfInBounds_toArray, List.set_cons_zero, List.set_cons_succ]
                refine RK.Any.take 4 113 (.int .i64 z) rfl rfl (by kernel_rfl) (by kernel_rfl) (by kernel_rfl) (by kernel_rfl) (fun _ _ _ h => h) (by rfl) (fun W' hb => ?_) HS0 ?_
                · have c := hb.1; go_simp
                simp only [List.setIfInBounds_toArray, List.set_cons_zero, List.set_cons_succ]
                refine RK.Any.take 6 115 (.slice (some rad) (n + 3) rc) rfl rfl (by kernel_rfl) (by kernel_rfl) (by kernel_rfl) (by kernel_rfl) (fun _ _ _ h => h) (by rfl) (fun W' hb => ?_) HS0 ?_
                · go_simp
                simp only [List.setIfInBounds_toArray, List.set_cons_zero, List.set_cons_succ]
                refine RK.Any.take 7 116 (.int .i64 (i : Int)) rfl rfl (by kernel_rfl) (by kernel_rfl) (by kernel_rfl) (by kernel_rfl) (fun _ _ _ h => h) (by rfl) (fun W' hb => ?_) HS0 ?_
                · go_simp
                simp only [List.setIfInBounds_toArray, List.set_cons_zero, List.set_cons_succ]
                refine RK.Any.take 8 117 (.pointer (some (rad.add i))) rfl rfl (by kernel_rfl) (by kernel_rfl) (by kernel_rfl) (by kernel_rfl) (fun _ _ _ h => h) (by rfl) (fun W' hb => ?_) HS0 ?_
                · go_simp
                simp only [List.setIfInBounds_toArray, List.set_cons_zero, List.set_cons_succ]
                refine RK.Any.take 9 118 (.string ⟨(S.start.read z).toArray⟩) rfl rfl (by kernel_rfl) (by kernel_rfl) (by kernel_rfl) (by kernel_rfl) (fun _ _ _ h => h) (by rfl) (fun W' hb => ?_) HS0 ?_
                · have c := hb.2; go_simp
                simp only [List.setIfInBounds_toArray, List.set_cons_zero, List.set_cons_succ]
                generalize wr.drew = w2 at *
                refine RK.Any.call 5 114 17 #[ptr B, .int .i64 z] (by kernel_rfl) rfl rfl (by rfl) (by go_simp) (Calls.mono (Ds.platter HD9.out (i := 0) rfl z) ?_)
                rintro e w3 ⟨he, hb3⟩
                rw [synced_platter] at he
                subst he
                have HS1 : w3.cell? (sad.add i) = some (.int .i64 z) ∧ w3.cell? (rad.add i) = some (.string ⟨(S.start.read z).toArray⟩) := ⟨by rw [hb3.cell (World.block_lt_of_cell? w2 _ HS0.1)]; exact HS0.1, by rw [hb3.cell (World.block_lt_of_cell? w2 _ HS0.2)]; exact HS0.2⟩
                refine ⟨_, rfl, fun _ => HS1, ?_⟩
                simp only [List.setIfInBounds_toArray, List.set_cons_zero, List.set_cons_succ]
                have HD8 := Lib.hid (HD9.out.step hb3)
                clear HS0 hb3 HD9
                refine RK.Any.exec 10 119 (.bool false) (w1 := w3) (by kernel_rfl) rfl rfl (by rfl) (by go_simp) HS1 ?_
                simp only [List.setIfInBounds_toArray, List.set_cons_zero, List.set_cons_succ]
                refine RK.Any.done (by kernel_rfl) ?_
                clear HS1
                go_wp2_with fail
                go_roundw
                case rel => exact ⟨i + 1, by omega, by go_num, HD8⟩
                case measure => simp [RowKit.intOf]; omega
              · obtain rfl : i = n + 3 := by omega
                go_wp2_with (go_at_call 12; (with_reducible refine (Ds.boot HD.out (i := 0) rfl).mono ?_); rintro e w5 ⟨rfl, h⟩; replace HD : Hid (Ds W [(B, n, (S.start.sync.2.crash keep x).start)] (fun u => SecR sad n sc f u ∧ ValsAt u (.slice (some rad) (n + 3) rc) (strs (told S.start.read (secsTo f n) (n + 3)))) w5) := Lib.hid h; clear h)
                go_loopw [15] (fun s15 wx => ∃ i : Nat, i ≤ n + 3 ∧ s15 = .int .i64 (i : Int) ∧ Hid (Ds W [(B, n, (S.start.sync.2.crash keep x).start)] (fun u => SecR sad n sc f u ∧ ValsAt u (.slice (some rad) (n + 3) rc) (strs (told S.start.read (secsTo f n) (n + 3)))) wx)) (fun s15 _ => n + 3 - (RowKit.intOf s15).toNat)
                case atStart => exact ⟨0, Nat.zero_le _, rfl, HD⟩
                case round =>
                  obtain ⟨i, hi, rfl, HD⟩ := hrel
                  by_cases hlt : i < n + 3
                  · obtain ⟨z, hz⟩ : ∃ z, (secsTo f n)[i]? = some z := ⟨_, List.getElem?_eq_getElem (by rw [secsTo_len]; omega)⟩
                    have HZ := Lib.hid (ValsAt.cell HD.out.rest.1 (ints_get hz))
                    have HT := Lib.hid (ValsAt.cell HD.out.rest.2 (strs_get (told_get (g := S.start.read) (n := n + 3) hz (by omega))))
                    clear hz
                    have hk0 : (0 : Int) ≤ (i : Int) := Int.natCast_nonneg _
                    have hk1 : (i : Int) < (n : Int) + 3 := by omega
                    have hk2 : (i : Int) < ((n + 3 : Nat) : Int) := by omega
                    go_upto_region 31 with fail
                    refine RK.region (fun u => u.cell? (sad.add i) = some (.int .i64 z) ∧ u.cell? (rad.add i) = some (.string ⟨(S.start.read z).toArray⟩)) 11 (by kernel_rfl) ?_
                    have HS0 : wr.drew.cell? (sad.add i) = some (.int .i64 z) ∧ wr.drew.cell? (rad.add i) = some (.string ⟨(S.start.read z).toArray⟩) := ⟨HZ.out, HT.out⟩
                    have HD9 := Lib.hid (show Ds W _ _ wr.drew from HD.out.step (below_drewN wr 1))
                    refine RK.Any.take 0 128 (ptr B) rfl rfl (by kernel_rfl) (by kernel_rfl) (by kernel_rfl) (by kernel_rfl) (fun _ _ _ h => h) (by rfl) (fun W' hb => ?_) HS0 ?_
                    · go_simp
                    simp only [List.setIfInBounds_toArray, List.set_cons_zero, List.set_cons_succ]
                    refine RK.Any.take 1 129 (.slice (some sad) (n + 3) sc) rfl rfl (by kernel_rfl) (by kernel_rfl) (by kernel_rfl) (by kernel_rfl) (fun _ _ _ h => h) (by rfl) (fun W' hb => ?_) HS0 ?_
                    · go_simp
                    simp only [List.setIfInBounds_toArray, List.set_cons_zero, List.set_cons_succ]
                    refine RK.Any.take 2 130 (.int .i64 (i : Int)) rfl rfl (by kernel_rfl) (by kernel_rfl) (by kernel_rfl) (by kernel_rfl) (fun _ _ _ h => h) (by rfl) (fun W' hb => ?_) HS0 ?_
                    · go_simp
                    simp only [List.setIfInBounds_toArray, List.set_cons_zero, List.set_cons_succ]
                    refine RK.Any.take 3 131 (.pointer (some (sad.add i))) rfl rfl (by kernel_rfl) (by kernel_rfl) (by kernel_rfl) (by kernel_rfl) (fun _ _ _ h => h) (by rfl) (fun W' hb => ?_) HS0 ?_
                    · go_simp
                    simp only [List.setIfInBounds_toArray, List.set_cons_zero, List.set_cons_succ]
                    refine RK.Any.take 4 132 (.int .i64 z) rfl rfl (by kernel_rfl) (by kernel_rfl) (by kernel_rfl) (by kernel_rfl) (fun _ _ _ h => h) (by rfl) (fun W' hb => ?_) HS0 ?_
                    · have c := hb.1; go_simp
                    simp only [List.setIfInBounds_toArray, List.set_cons_zero, List.set_cons_succ]
                    refine RK.Any.take 6 134 (.slice (some rad) (n + 3) rc) rfl rfl (by kernel_rfl) (by kernel_rfl) (by kernel_rfl) (by kernel_rfl) (fun _ _ _ h => h) (by rfl) (fun W' hb => ?_) HS0 ?_
                    · go_simp
                    simp only [List.setIfInBounds_toArray, List.set_cons_zero, List.set_cons_succ]
                    refine RK.Any.take 7 135 (.int .i64 (i : Int)) rfl rfl (by kernel_rfl) (by kernel_rfl) (by kernel_rfl) (by kernel_rfl) (fun _ _ _ h => h) (by rfl) (fun W' hb => ?_) HS0 ?_
                    · go_simp
                    simp only [List.setIfInBounds_toArray, List.set_cons_zero, List.set_cons_succ]
                    refine RK.Any.take 8 136 (.pointer (some (rad.add i))) rfl rfl (by kernel_rfl) (by kernel_rfl) (by kernel_rfl) (by kernel_rfl) (fun _ _ _ h => h) (by rfl) (fun W' hb => ?_) HS0 ?_
                    · go_simp
                    simp only [List.setIfInBounds_toArray, List.set_cons_zero, List.set_cons_succ]
                    refine RK.Any.take 9 137 (.string ⟨(S.start.read z).toArray⟩) rfl rfl (by kernel_rfl) (by kernel_rfl) (by kernel_rfl) (by kernel_rfl) (fun _ _ _ h => h) (by rfl) (fun W' hb => ?_) HS0 ?_
                    · have c := hb.2; go_simp
                    simp only [List.setIfInBounds_toArray, List.set_cons_zero, List.set_cons_succ]
                    generalize wr.drew = w2 at *
                    refine RK.Any.call 5 133 16 #[ptr B, .int .i64 z] (by kernel_rfl) rfl rfl (by rfl) (by go_simp) (Calls.mono (Ds.read HD9.out (i := 0) rfl z) ?_)
                    rintro e w3 ⟨he, hb3⟩
                    rw [synced_read] at he
                    subst he
                    have HS1 : w3.cell? (sad.add i) = some (.int .i64 z) ∧ w3.cell? (rad.add i) = some (.string ⟨(S.start.read z).toArray⟩) := ⟨by rw [hb3.cell (World.block_lt_of_cell? w2 _ HS0.1)]; exact HS0.1, by rw [hb3.cell (World.block_lt_of_cell? w2 _ HS0.2)]; exact HS0.2⟩
                    refine ⟨_, rfl, fun _ => HS1, ?_⟩
                    simp only [List.setIfInBounds_toArray, List.set_cons_zero, List.set_cons_succ]
                    have HD8 := Lib.hid (HD9.out.step hb3)
                    clear HS0 hb3 HD9
                    refine RK.Any.exec 10 138 (.bool false) (w1 := w3) (by kernel_rfl) rfl rfl (by rfl) (by go_simp) HS1 ?_
                    simp only [List.setIfInBounds_toArray, List.set_cons_zero, List.set_cons_succ]
                    refine RK.Any.done (by kernel_rfl) ?_
                    clear HS1
                    go_wp2_with fail
                    go_roundw
                    case rel => exact ⟨i + 1, by omega, by go_num, HD8⟩
                    case measure => simp [RowKit.intOf]; omega
                  · obtain rfl : i = n + 3 := by omega
                    go_wp2_with fail
                    go_ret
                    exact ⟨rfl, HD.out.below⟩
  · go_ret
    exact ⟨rfl, HB.out⟩
theorem walkDiskSynced (v v2 : Value) (x : Int) (W : World) (hv : Stp W v) (hb : BoolsIn W v2) :
    Calls Tryd.prog 6 #[v, v2, .int .i64 x] W fun e w' => e = .returned (.bool true) ∧ Below W.heap.size W w' := by
  obtain ⟨ao, n, c, f, rfl, hn, hf, hs⟩ := hv
  obtain ⟨ko, kc, keep, rfl, hk, hko⟩ := hb
  by_cases h : keep.length ≤ 1000
  · exact synced_near ao n c f hn ko keep kc h x W hf hs hko
  · exact synced_far ao n c f hn ko keep.length kc h x W hf hs
end M
end Go.Proofs.YtdgaokmmjnedhaaDoor

/- The texts DskCopyW, one behind the other. -/
import Derived.Test.YtdgaokmmjnedhaaDoorWB13
import Derived.Test.YtdgaokmmjnedhaaDoorWB3
import Derived.Test.YtdgaokmmjnedhaaDoorWB11
/- The walk of DiskCopies. -/
namespace Go.Proofs.YtdgaokmmjnedhaaDoor
namespace MM
/-- What is read, and what is on the platter behind it. -/
def both (S : Dsk) (k : Int) : By := S.read k ++ S.platter k
theorem read_short {S : Dsk} (h : S.Wf) (k : Int) : (S.read k).length ≤ 512 := by
  by_cases hd : S.dead = false
  · by_cases hk : sec k = true
    · exact Nat.le_of_eq (read_len h hd hk)
    · have hk : sec k = false := by simpa using hk
      unfold Dsk.read
      rw [hd, hk]
      simp
  · have hd : S.dead = true := by simpa using hd
    unfold Dsk.read
    rw [hd]
    simp
theorem plat_short {S : Dsk} (h : S.Wf) (k : Int) : (S.platter k).length ≤ 512 := by
  unfold Dsk.platter
  split
  · exact Nat.le_of_eq (h.p.len k)
  · simp
end MM
open Go Go.RowKit Go.Lib Go.Deep
namespace M
open MM
/-- What a drawn region's loads ask. -/
structure InS (a : Addr) (x : Value) (w0 w : World) : Prop where
  c : w.cell? a = some x
  b : Below w0.heap.size w0 w
theorem InS.up {a : Addr} {x : Value} {w0 w w' : World} (h : InS a x w0 w) (hb : Below w.heap.size w w') : InS a x w0 w' := ⟨by rw [hb.cell (World.block_lt_of_cell? w _ h.c)]; exact h.c, h.b.trans (hb.mono h.b.size)⟩
structure InS2 (a : Addr) (x : Value) (b : Addr) (y : Value) (w : World) : Prop where
  c : w.cell? a = some x
  d : w.cell? b = some y
theorem InS2.up {a b : Addr} {x y : Value} {w w' : World} (h : InS2 a x b y w) (hb : Below w.heap.size w w') : InS2 a x b y w' := ⟨by rw [hb.cell (World.block_lt_of_cell? w _ h.c)]; exact h.c, by rw [hb.cell (World.block_lt_of_cell? w _ h.d)]; exact h.d⟩
theorem used_val {W w : World} {L : Dl} {R : World → Prop} {i B N : Nat} {s : Dsk} (h : Ds W L R w) (hi : L[i]? = some (B, N, s)) : Calls Tryd.prog 19 #[ptr B] w fun e w' => ∃ ao l c, e = .returned (.slice ao l.length c) ∧ UsedIs s l ∧ ValsAt w' (.slice ao l.length c) (ints l) ∧ Below w.heap.size w w' := (Ds.used h hi).mono fun _ _ ⟨v, l, h1, h2, h3, h4⟩ => by
  obtain ⟨ao, c, rfl, _⟩ := id h3
  rw [ints_len] at h1 h3
  exact ⟨ao, l, c, h1, h2, h3, h4⟩
set_option maxHeartbeats 16000000 in
set_option maxRecDepth 100000 in
theorem walkDiskCopies (v v2 : Value) (W : World) (hv : Stp W v) (hv2 : Stp W v2) (na : ∀ n c, v = .slice none n c → n = 0 ∧ c = 0) (nb : ∀ n c, v2 = .slice none n c → n = 0 ∧ c = 0) :
    Calls Tryd.prog 9 #[v, v2] W fun e w' => e = .returned (.bool true) ∧ Below W.heap.size W w' := by
  obtain ⟨ao, n, c, f, rfl, hn, hf, hs⟩ := hv
  obtain ⟨bo, m, d, g, rfl, hm, hg, hsg⟩ := hv2
  have HNA : Hid (ao = none → n = 0 ∧ c = 0) := Lib.hid fun e => na n c (by rw [e])
  have HNB : Hid (bo = none → m = 0 ∧ d = 0) := Lib.hid fun e => nb m d (by rw [e])
  clear na nb
  have HLG := Lib.hid (fun w (h : Below W.heap.size W w) => long_any ao n c f hn w (hf.step h) hs)
  have HLG2 := Lib.hid (fun w (h : Below W.heap.size W w) => long_any bo m d g hm w (hg.step h) hsg)
  have HF := Lib.hid hf
  have HG := Lib.hid hg
  have HB := Lib.hid (Below.refl W.heap.size W)
  clear hf hs hg hsg
  generalize hS : runS Dsk.new (fun i => (f i).st) n = S at *
  have HS := Lib.hid hS
  have HWF : Hid S.Wf := Lib.hid (hS ▸ Wf.run Wf.new _ n)
  clear hS
  go_enter Tryd.func9, Tryd.ntmps9
  go_upto_region 5 with (first
    | (go_at_call 13; (with_reducible refine (works_any _).mono ?_); rintro e w1 ⟨rfl, h⟩; replace HB := Lib.hid (bnext HB.out h); clear h)
    | (go_at_call 24; (with_reducible refine (HLG.out _ HB.out).mono ?_); rintro e w2 ⟨r, rfl, hsm, h⟩; replace HB := Lib.hid (bnext HB.out h); have HSM := Lib.hid hsm; clear h hsm; cases r)
    | (go_at_call 24; (with_reducible refine (HLG2.out _ HB.out).mono ?_); rintro e w2 ⟨r, rfl, hsm, h⟩; replace HB := Lib.hid (bnext HB.out h); have HSM2 := Lib.hid hsm; clear h hsm; cases r)
    | (go_at_call 33; (with_reducible refine (after_any (Ds.start W HB.out) ao n c f (by have := few (HSM.out trivial); omega) HF.out).mono ?_); rintro e w1 ⟨B, rfl, h⟩; rw [HS.out] at h; have HD : Hid (Ds W [(B, n, S)] (fun _ => True) w1) := Lib.hid h; clear h)
    | (go_at_call 21; (with_reducible refine (Ds.copy HD.out (i := 0) rfl).mono ?_); rintro e w1 ⟨B1, rfl, h⟩; replace HD : Hid (Ds W [(B, n, S), (B1, n, S)] (fun _ => True) w1) := Lib.hid h; clear h))
  · have hn2 := few (HSM.out trivial)
    have hm2 := few (HSM2.out trivial)
    obtain ⟨co, cc, wj1, eo, ec, wj2, hr1, hr2, hj, hbj⟩ := steps_join HD.out.below HF.out HG.out HNA.out HNB.out (by omega) (by omega)
    generalize joinF f n g = h at *
    obtain ⟨q, hq⟩ : ∃ q, n + m = q := ⟨_, rfl⟩
    rw [hq] at hr2 hj
    have hq4 : q ≤ 400 := by omega
    have HDJ := Lib.hid (HD.out.step hbj)
    have HSEC := Lib.hid (sectors_any (Below.refl _ _) eo q ec h (by omega) hj)
    clear hbj hj HSM HSM2 HLG HLG2 HB HNA HNB HD
    go_upto_region 6 with (first
      | (at_builtin; refine Lib.wpList_append_run _ rfl _ _ _ _ rfl _ _ rfl rfl _ _ hr1 ?_)
      | (at_builtin; refine Lib.wpList_append_run _ rfl _ _ _ _ rfl _ _ rfl rfl _ _ hr2 ?_)
      | (go_at_call 34; (with_reducible refine HSEC.out.mono ?_); rintro e w2 ⟨_, rfl, ⟨sa, sl, sc, rfl⟩, ho⟩; have HR0 := Lib.hid (HDJ.out.row ho); have HV := Lib.hid ho.vals; clear ho))
    obtain rfl : sl = q + 3 := by rw [HV.out.len, ints_len, secsTo_len]
    obtain ⟨sad, rfl⟩ := HV.out.some (by rw [ints_len, secsTo_len]; omega)
    have HD1 : Hid (Ds W [(B, n, S), (B1, n, S)] (SecR sad q sc h) w2) := Lib.hid (HR0.out.weaken fun u h => h.2)
    clear HSEC HDJ HR0 HV hr1 hr2
    generalize w2 = wB at *
    have HK1 := Lib.hid hq
    clear hq
    go_wp2_with fail
    go_loopw [8, 9] (fun s8 s9 wx => ∃ (i : Nat) (ro : Option Addr) (rc : Nat), i ≤ q + 3 ∧ s9 = .int .i64 (i : Int) ∧ s8 = .slice ro i rc ∧ Hid (OwnE wB 9 (.slice ro i rc) (strs (told (both S) (secsTo h q) i)) wx)) (fun _ s9 _ => q + 3 - (RowKit.intOf s9).toNat)
    case atStart => exact ⟨0, none, 0, Nat.zero_le _, rfl, rfl, Lib.hid (by simpa [told, strs] using OwnE.nil 9 (Below.refl _ _))⟩
    case round =>
      obtain ⟨i, ro, rc, hi, rfl, rfl, HI⟩ := hrel
      by_cases hlt : i < q + 3
      · obtain ⟨z, hz⟩ : ∃ z, (secsTo h q)[i]? = some z := ⟨_, List.getElem?_eq_getElem (by rw [secsTo_len]; omega)⟩
        have HDW := Lib.hid (HD1.out.step HI.out.below)
        have HZ := Lib.hid (ValsAt.cell HDW.out.rest (ints_get hz))
        have HZB := Lib.hid (ValsAt.cell HD1.out.rest (ints_get hz))
        have HPU : Hid (∀ w, Below wr.heap.size wr w → ∃ ao' c' w', (Builtin.append_ #[34, 34] 34 #[.slice ro i rc, .slice (some ⟨w.heap.size, 0, none⟩) 1 1]).run Tryd.prog (w.alloc (.cells #[.string ⟨(S.read z ++ S.platter z).toArray⟩] 9)) = .ok (.slice ao' (i + 1) c') w' ∧ OwnE wB 9 (.slice ao' (i + 1) c') (strs (told (both S) (secsTo h q) (i + 1))) w') := Lib.hid fun w hw => by
          have hl : (strs (told (both S) (secsTo h q) i)).length = i := by rw [strs_len, told_len (by rw [secsTo_len]; omega)]
          obtain ⟨ao', c', w', h1, h2, _⟩ := (HI.out.step hw).pushStr ⟨(both S z).toArray⟩ (by rw [hl]; omega) 34
          rw [hl] at h1 h2
          rw [strs_snoc, ← told_succ hz] at h2
          exact ⟨ao', c', w', h1, h2⟩
        clear hz
        have hk0 : (0 : Int) ≤ (i : Int) := Int.natCast_nonneg _
        have hk1 : (i : Int) < (q : Int) + 3 := by omega
        have hk2 : (i : Int) < ((q + 3 : Nat) : Int) := by omega
        have hadd : ¬ 9223372036854775807 < (S.read z).length + (S.platter z).length := by have := read_short HWF.out z; have := plat_short HWF.out z; omega
        have hcat : (⟨(S.read z).toArray⟩ : ByteArray) ++ ⟨(S.platter z).toArray⟩ = ⟨(S.read z ++ S.platter z).toArray⟩ := by rw [ByteArray.mk_append_mk]
        go_upto_region 10 with fail
        refine RK.region (InS (sad.add i) (.int .i64 z) wB) 17 (by kernel_rfl) ?_
        have HS0 : InS (sad.add i) (.int .i64 z) wB wr.drew := ⟨HZ.out, Below.drawn HI.out.below 1⟩
        have hbr := below_drewN wr 1
        have HD9 := Lib.hid (show Ds W _ _ wr.drew from HDW.out.step (below_drewN wr 1))
        refine RK.Any.take 0 42 (.slice ro i rc) rfl rfl (by kernel_rfl) (by kernel_rfl) (by kernel_rfl) (by kernel_rfl) (fun _ _ _ h => h) (by rfl) (fun W' hb => ?_) HS0 ?_
        · go_simp
        simp only [List.setIfInBounds_toArray, List.set_cons_zero, List.set_cons_succ]
        refine RK.Any.take 1 43 (ptr B) rfl rfl (by kernel_rfl) (by kernel_rfl) (by kernel_rfl) (by kernel_rfl) (fun _ _ _ h => h) (by rfl) (fun W' hb => ?_) HS0 ?_
        · go_simp
        simp only [List.setIfInBounds_toArray, List.set_cons_zero, List.set_cons_succ]
        refine RK.Any.take 2 44 (.slice (some sad) (q + 3) sc) rfl rfl (by kernel_rfl) (by kernel_rfl) (by kernel_rfl) (by kernel_rfl) (fun _ _ _ h => h) (by rfl) (fun W' hb => ?_) HS0 ?_
        · go_simp
        simp only [List.setIfInBounds_toArray, List.set_cons_zero, List.set_cons_succ]
        refine RK.Any.take 3 45 (.int .i64 (i : Int)) rfl rfl (by kernel_rfl) (by kernel_rfl) (by kernel_rfl) (by kernel_rfl) (fun _ _ _ h => h) (by rfl) (fun W' hb => ?_) HS0 ?_
        · go_simp
        simp only [List.setIfInBounds_toArray, List.set_cons_zero, List.set_cons_succ]
        refine RK.Any.take 4 46 (.pointer (some (sad.add i))) rfl rfl (by kernel_rfl) (by kernel_rfl) (by kernel_rfl) (by kernel_rfl) (fun _ _ _ h => h) (by rfl) (fun W' hb => ?_) HS0 ?_
        · go_simp
        simp only [List.setIfInBounds_toArray, List.set_cons_zero, List.set_cons_succ]
        refine RK.Any.take 5 47 (.int .i64 z) rfl rfl (by kernel_rfl) (by kernel_rfl) (by kernel_rfl) (by kernel_rfl) (fun _ _ _ h => h) (by rfl) (fun W' hb => ?_) HS0 ?_
        · have c := hb.c; go_simp
        simp only [List.setIfInBounds_toArray, List.set_cons_zero, List.set_cons_succ]
        refine RK.Any.take 7 49 (ptr B) rfl rfl (by kernel_rfl) (by kernel_rfl) (by kernel_rfl) (by kernel_rfl) (fun _ _ _ h => h) (by rfl) (fun W' hb => ?_) HS0 ?_
        · go_simp
        simp only [List.setIfInBounds_toArray, List.set_cons_zero, List.set_cons_succ]
        refine RK.Any.take 8 50 (.slice (some sad) (q + 3) sc) rfl rfl (by kernel_rfl) (by kernel_rfl) (by kernel_rfl) (by kernel_rfl) (fun _ _ _ h => h) (by rfl) (fun W' hb => ?_) HS0 ?_
        · go_simp
        simp only [List.setIfInBounds_toArray, List.set_cons_zero, List.set_cons_succ]
        refine RK.Any.take 9 51 (.int .i64 (i : Int)) rfl rfl (by kernel_rfl) (by kernel_rfl) (by kernel_rfl) (by kernel_rfl) (fun _ _ _ h => h) (by rfl) (fun W' hb => ?_) HS0 ?_
        · go_simp
        simp only [List.setIfInBounds_toArray, List.set_cons_zero, List.set_cons_succ]
        refine RK.Any.take 10 52 (.pointer (some (sad.add i))) rfl rfl (by kernel_rfl) (by kernel_rfl) (by kernel_rfl) (by kernel_rfl) (fun _ _ _ h => h) (by rfl) (fun W' hb => ?_) HS0 ?_
        · go_simp
        simp only [List.setIfInBounds_toArray, List.set_cons_zero, List.set_cons_succ]
        refine RK.Any.take 11 53 (.int .i64 z) rfl rfl (by kernel_rfl) (by kernel_rfl) (by kernel_rfl) (by kernel_rfl) (fun _ _ _ h => h) (by rfl) (fun W' hb => ?_) HS0 ?_
        · have c := hb.c; go_simp
        simp only [List.setIfInBounds_toArray, List.set_cons_zero, List.set_cons_succ]
        replace hbr : Below wr.heap.size wr wr.drew := hbr
        generalize wr.drew = w2 at *
        refine RK.Any.call 6 48 16 #[ptr B, .int .i64 z] (by kernel_rfl) rfl rfl (by rfl) (by go_simp) (Calls.mono (Ds.read HD9.out (i := 0) rfl z) ?_)
        rintro e w3 ⟨he, hb3⟩
        skip
        subst he
        have HS1 := HS0.up hb3
        refine ⟨_, rfl, fun _ => HS1, ?_⟩
        simp only [List.setIfInBounds_toArray, List.set_cons_zero, List.set_cons_succ]
        have HD8 := Lib.hid (HD9.out.step hb3)
        have hbr := bnext hbr hb3
        clear hb3
        refine RK.Any.call 12 54 17 #[ptr B, .int .i64 z] (by kernel_rfl) rfl rfl (by rfl) (by go_simp) (Calls.mono (Ds.platter HD8.out (i := 0) rfl z) ?_)
        rintro e w4 ⟨he, hb3⟩
        skip
        subst he
        have HS2 := HS1.up hb3
        refine ⟨_, rfl, fun _ => HS2, ?_⟩
        simp only [List.setIfInBounds_toArray, List.set_cons_zero, List.set_cons_succ]
        have HD7 := Lib.hid (HD8.out.step hb3)
        have hbr := bnext hbr hb3
        clear hb3
        refine RK.Any.exec 13 55 (.string ⟨(S.read z ++ S.platter z).toArray⟩) (w1 := w4) (by kernel_rfl) rfl rfl (by rfl) (by go_simp) HS2 ?_
        simp only [List.setIfInBounds_toArray, List.set_cons_zero, List.set_cons_succ]
        obtain ⟨ao', cq, w6, hr, ho⟩ := HPU.out w4 hbr
        have hb4 := below_box w4 (.cells #[.string ⟨(S.read z ++ S.platter z).toArray⟩] 9)
        refine RK.Any.exec 14 56 (.slice (some ⟨w4.heap.size, 0, none⟩) 1 1) (w1 := w4.alloc (.cells #[.string ⟨(S.read z ++ S.platter z).toArray⟩] 9)) (by kernel_rfl) rfl rfl (by rfl) (by go_simp) (HS2.up hb4) ?_
        simp only [List.setIfInBounds_toArray, List.set_cons_zero, List.set_cons_succ]
        have hS6 : InS (sad.add i) (.int .i64 z) wB w6 := ⟨by rw [ho.below.cell (World.block_lt_of_cell? wB _ HZB.out)]; exact HZB.out, ho.below⟩
        refine RK.Any.exec 15 57 (.slice ao' (i + 1) cq) (w1 := w6) (by kernel_rfl) rfl rfl (by rfl) (RK.exec_append _ _ _ _ rfl _ _ rfl rfl hr) hS6 ?_
        simp only [List.setIfInBounds_toArray, List.set_cons_zero, List.set_cons_succ]
        refine RK.Any.exec 16 8 (.slice ao' (i + 1) cq) (w1 := w6) (by kernel_rfl) rfl rfl (by rfl) (by go_simp) hS6 ?_
        simp only [List.setIfInBounds_toArray, List.set_cons_zero, List.set_cons_succ]
        refine RK.Any.done (by kernel_rfl) ?_
        have HO6 := Lib.hid ho
        clear HS0 HS1 HS2 hS6 ho hr hb4 hbr
        go_wp2_with fail
        go_roundw
        case rel => exact ⟨i + 1, ao', cq, by omega, by go_num, rfl, HO6⟩
        case measure => simp [RowKit.intOf]; omega
      · obtain rfl : i = q + 3 := by omega
        obtain ⟨rad, rfl⟩ := ValsAt.some HI.out.vals (by rw [strs_len, told_len (by rw [secsTo_len]; exact Nat.le_refl _)]; omega)
        have HD : Hid (Ds W [(B, n, S), (B1, n, S)] (fun u => SecR sad q sc h u ∧ ValsAt u (.slice (some rad) (q + 3) rc) (strs (told (both S) (secsTo h q) (q + 3)))) wr) := Lib.hid (HD1.out.row HI.out)
        clear HI HD1
        go_wp2_with (go_at_call 18; (with_reducible refine (Ds.waits2 HD.out (i := 0) rfl).mono ?_); rintro e w5 ⟨rfl, h⟩; replace HD := Lib.hid h; clear h)
        go_loopw [11] (fun s wx => ∃ i : Nat, i ≤ m ∧ s = .int .i64 (i : Int) ∧ Hid (Ds W [(B, n, S), (B1, n + i, runS S (fun i => (g i).st) i)] (fun u => SecR sad q sc h u ∧ ValsAt u (.slice (some rad) (q + 3) rc) (strs (told (both S) (secsTo h q) (q + 3)))) wx)) (fun s _ => m - (RowKit.intOf s).toNat)
        case atStart => exact ⟨0, Nat.zero_le _, rfl, HD⟩
        case round =>
          obtain ⟨i, hi, rfl, HD⟩ := hrel
          by_cases hlt : i < m
          · obtain ⟨hok, hk, a, ha, hcl⟩ := HG.out i hlt
            subst ha
            obtain ⟨Bs, O, hadr, hr1⟩ := step_range hcl
            have HRG := Lib.hid (range_below hr1 HD.out.below)
            have HDO := Lib.hid (Ds.does HD.out (i := 1) rfl (by omega) (g i) hok (fun u hu _ => hk.step hu))
            have HSZ := Lib.hid (info_sp (g i))
            have HNX : Hid (([(B, n, S), (B1, n + i, runS S (fun i => (g i).st) i)] : Dl).set 1 (B1, n + i + 1, ((runS S (fun i => (g i).st) i).step (g i).st).2) = [(B, n, S), (B1, n + (i + 1), runS S (fun i => (g i).st) (i + 1))]) := Lib.hid rfl
            clear hcl hr1 hok hk
            generalize wr = w0 at *
            go_wp2_with (first
              | (refine wpList_load_mid rfl 41 _ rfl Bs O rfl (g i).cells.toList _ HRG.out Tryd.underlying41 rfl HSZ.out ?_)
              | (go_at_call 27; (with_reducible refine HDO.out.mono ?_); rintro e w2 ⟨rfl, hh⟩; rw [HNX.out] at hh; have HD2 := Lib.hid hh; clear hh))
            go_roundw
            case rel => exact ⟨i + 1, by omega, by go_num, HD2⟩
            case measure => simp [RowKit.intOf]; omega
          · obtain rfl : m = i := by omega
            generalize hC : runS S (fun i => (g i).st) m = C at *
            have HC := Lib.hid hC
            clear hC
            go_wp2_with fail
            go_loopw [12] (fun s wx => ∃ i : Nat, i ≤ q + 3 ∧ s = .int .i64 (i : Int) ∧ Hid (Ds W [(B, n, S), (B1, n + m, C)] (fun u => SecR sad q sc h u ∧ ValsAt u (.slice (some rad) (q + 3) rc) (strs (told (both S) (secsTo h q) (q + 3)))) wx)) (fun s _ => q + 3 - (RowKit.intOf s).toNat)
            case atStart => exact ⟨0, Nat.zero_le _, rfl, HD⟩
            case round =>
              obtain ⟨i, hi, rfl, HD⟩ := hrel
              by_cases hlt : i < q + 3
              · obtain ⟨z, hz⟩ : ∃ z, (secsTo h q)[i]? = some z := ⟨_, List.getElem?_eq_getElem (by rw [secsTo_len]; omega)⟩
                have HZ := Lib.hid (ValsAt.cell HD.out.rest.1 (ints_get hz))
                have HT := Lib.hid (ValsAt.cell HD.out.rest.2 (strs_get (told_get (g := both S) (n := q + 3) hz (by omega))))
                clear hz
                have hk0 : (0 : Int) ≤ (i : Int) := Int.natCast_nonneg _
                have hk1 : (i : Int) < (q : Int) + 3 := by omega
                have hk2 : (i : Int) < ((q + 3 : Nat) : Int) := by omega
                have hadd : ¬ 9223372036854775807 < (S.read z).length + (S.platter z).length := by have := read_short HWF.out z; have := plat_short HWF.out z; omega
                have hcat : (⟨(S.read z).toArray⟩ : ByteArray) ++ ⟨(S.platter z).toArray⟩ = ⟨(S.read z ++ S.platter z).toArray⟩ := by rw [ByteArray.mk_append_mk]
                go_upto_region 19 with fail
                refine RK.region (InS2 (sad.add i) (.int .i64 z) (rad.add i) (.string ⟨(S.read z ++ S.platter z).toArray⟩)) 18 (by kernel_rfl) ?_
                have HS0 : InS2 (sad.add i) (.int .i64 z) (rad.add i) (.string ⟨(S.read z ++ S.platter z).toArray⟩) wr.drew := ⟨HZ.out, HT.out⟩
                have HD9 := Lib.hid (show Ds W _ _ wr.drew from HD.out.step (below_drewN wr 1))
                refine RK.Any.take 0 78 (ptr B) rfl rfl (by kernel_rfl) (by kernel_rfl) (by kernel_rfl) (by kernel_rfl) (fun _ _ _ h => h) (by rfl) (fun W' hb => ?_) HS0 ?_
                · go_simp
                simp only [List.setIfInBounds_toArray, List.set_cons_zero, List.set_cons_succ]
                refine RK.Any.take 1 79 (.slice (some sad) (q + 3) sc) rfl rfl (by kernel_rfl) (by kernel_rfl) (by kernel_rfl) (by kernel_rfl) (fun _ _ _ h => h) (by rfl) (fun W' hb => ?_) HS0 ?_
                · go_simp
                simp only [List.setIfInBounds_toArray, List.set_cons_zero, List.set_cons_succ]
                refine RK.Any.take 2 80 (.int .i64 (i : Int)) rfl rfl (by kernel_rfl) (by kernel_rfl) (by kernel_rfl) (by kernel_rfl) (fun _ _ _ h => h) (by rfl) (fun W' hb => ?_) HS0 ?_
                · go_simp
                simp only [List.setIfInBounds_toArray, List.set_cons_zero, List.set_cons_succ]
                refine RK.Any.take 3 81 (.pointer (some (sad.add i))) rfl rfl (by kernel_rfl) (by kernel_rfl) (by kernel_rfl) (by kernel_rfl) (fun _ _ _ h => h) (by rfl) (fun W' hb => ?_) HS0 ?_
                · go_simp
                simp only [List.setIfInBounds_toArray, List.set_cons_zero, List.set_cons_succ]
                refine RK.Any.take 4 82 (.int .i64 z) rfl rfl (by kernel_rfl) (by kernel_rfl) (by kernel_rfl) (by kernel_rfl) (fun _ _ _ h => h) (by rfl) (fun W' hb => ?_) HS0 ?_
                · have c := hb.c; go_simp
                simp only [List.setIfInBounds_toArray, List.set_cons_zero, List.set_cons_succ]
                refine RK.Any.take 6 84 (ptr B) rfl rfl (by kernel_rfl) (by kernel_rfl) (by kernel_rfl) (by kernel_rfl) (fun _ _ _ h => h) (by rfl) (fun W' hb => ?_) HS0 ?_
                · go_simp
                simp only [List.setIfInBounds_toArray, List.set_cons_zero, List.set_cons_succ]
                refine RK.Any.take 7 85 (.slice (some sad) (q + 3) sc) rfl rfl (by kernel_rfl) (by kernel_rfl) (by kernel_rfl) (by kernel_rfl) (fun _ _ _ h => h) (by rfl) (fun W' hb => ?_) HS0 ?_
                · go_simp
                simp only [List.setIfInBounds_toArray, List.set_cons_zero, List.set_cons_succ]
                refine RK.Any.take 8 86 (.int .i64 (i : Int)) rfl rfl (by kernel_rfl) (by kernel_rfl) (by kernel_rfl) (by kernel_rfl) (fun _ _ _ h => h) (by rfl) (fun W' hb => ?_) HS0 ?_
                · go_simp
                simp only [List.setIfInBounds_toArray, List.set_cons_zero, List.set_cons_succ]
                refine RK.Any.take 9 87 (.pointer (some (sad.add i))) rfl rfl (by kernel_rfl) (by kernel_rfl) (by kernel_rfl) (by kernel_rfl) (fun _ _ _ h => h) (by rfl) (fun W' hb => ?_) HS0 ?_
                · go_simp
                simp only [List.setIfInBounds_toArray, List.set_cons_zero, List.set_cons_succ]
                refine RK.Any.take 10 88 (.int .i64 z) rfl rfl (by kernel_rfl) (by kernel_rfl) (by kernel_rfl) (by kernel_rfl) (fun _ _ _ h => h) (by rfl) (fun W' hb => ?_) HS0 ?_
                · have c := hb.c; go_simp
                simp only [List.setIfInBounds_toArray, List.set_cons_zero, List.set_cons_succ]
                refine RK.Any.take 13 91 (.slice (some rad) (q + 3) rc) rfl rfl (by kernel_rfl) (by kernel_rfl) (by kernel_rfl) (by kernel_rfl) (fun _ _ _ h => h) (by rfl) (fun W' hb => ?_) HS0 ?_
                · go_simp
                simp only [List.setIfInBounds_toArray, List.set_cons_zero, List.set_cons_succ]
                refine RK.Any.take 14 92 (.int .i64 (i : Int)) rfl rfl (by kernel_rfl) (by kernel_rfl) (by kernel_rfl) (by kernel_rfl) (fun _ _ _ h => h) (by rfl) (fun W' hb => ?_) HS0 ?_
                · go_simp
                simp only [List.setIfInBounds_toArray, List.set_cons_zero, List.set_cons_succ]
                refine RK.Any.take 15 93 (.pointer (some (rad.add i))) rfl rfl (by kernel_rfl) (by kernel_rfl) (by kernel_rfl) (by kernel_rfl) (fun _ _ _ h => h) (by rfl) (fun W' hb => ?_) HS0 ?_
                · go_simp
                simp only [List.setIfInBounds_toArray, List.set_cons_zero, List.set_cons_succ]
                refine RK.Any.take 16 94 (.string ⟨(S.read z ++ S.platter z).toArray⟩) rfl rfl (by kernel_rfl) (by kernel_rfl) (by kernel_rfl) (by kernel_rfl) (fun _ _ _ h => h) (by rfl) (fun W' hb => ?_) HS0 ?_
                · have c := hb.d; go_simp
                simp only [List.setIfInBounds_toArray, List.set_cons_zero, List.set_cons_succ]
                generalize wr.drew = w2 at *
                refine RK.Any.call 5 83 16 #[ptr B, .int .i64 z] (by kernel_rfl) rfl rfl (by rfl) (by go_simp) (Calls.mono (Ds.read HD9.out (i := 0) rfl z) ?_)
                rintro e w3 ⟨he, hb3⟩
                skip
                subst he
                have HS1 := HS0.up hb3
                refine ⟨_, rfl, fun _ => HS1, ?_⟩
                simp only [List.setIfInBounds_toArray, List.set_cons_zero, List.set_cons_succ]
                have HD8 := Lib.hid (HD9.out.step hb3)
                skip
                clear hb3
                refine RK.Any.call 11 89 17 #[ptr B, .int .i64 z] (by kernel_rfl) rfl rfl (by rfl) (by go_simp) (Calls.mono (Ds.platter HD8.out (i := 0) rfl z) ?_)
                rintro e w4 ⟨he, hb3⟩
                skip
                subst he
                have HS2 := HS1.up hb3
                refine ⟨_, rfl, fun _ => HS2, ?_⟩
                simp only [List.setIfInBounds_toArray, List.set_cons_zero, List.set_cons_succ]
                have HD7 := Lib.hid (HD8.out.step hb3)
                skip
                clear hb3
                refine RK.Any.exec 12 90 (.string ⟨(S.read z ++ S.platter z).toArray⟩) (w1 := w4) (by kernel_rfl) rfl rfl (by rfl) (by go_simp) HS2 ?_
                simp only [List.setIfInBounds_toArray, List.set_cons_zero, List.set_cons_succ]
                refine RK.Any.exec 17 95 (.bool false) (w1 := w4) (by kernel_rfl) rfl rfl (by rfl) (by go_simp) HS2 ?_
                simp only [List.setIfInBounds_toArray, List.set_cons_zero, List.set_cons_succ]
                refine RK.Any.done (by kernel_rfl) ?_
                clear HS0 HS1 HS2 HD8 HD9
                go_wp2_with fail
                go_roundw
                case rel => exact ⟨i + 1, by omega, by go_num, HD7⟩
                case measure => simp [RowKit.intOf]; omega
              · obtain rfl : i = q + 3 := by omega
                go_wp2_with (go_at_call 18; (with_reducible refine (Ds.waits2 HD.out (i := 0) rfl).mono ?_); rintro e w5 ⟨rfl, hh⟩; replace HD := Lib.hid hh; clear hh)
                go_loopw [13] (fun s wx => ∃ i : Nat, i ≤ m ∧ s = .int .i64 (i : Int) ∧ Hid (Ds W [(B, n + i, runS S (fun i => (g i).st) i), (B1, n + m, C)] (fun u => SecR sad q sc h u ∧ ValsAt u (.slice (some rad) (q + 3) rc) (strs (told (both S) (secsTo h q) (q + 3)))) wx)) (fun s _ => m - (RowKit.intOf s).toNat)
                case atStart => exact ⟨0, Nat.zero_le _, rfl, HD⟩
                case round =>
                  obtain ⟨i, hi, rfl, HD⟩ := hrel
                  by_cases hlt : i < m
                  · obtain ⟨hok, hk, a, ha, hcl⟩ := HG.out i hlt
                    subst ha
                    obtain ⟨Bs, O, hadr, hr1⟩ := step_range hcl
                    have HRG := Lib.hid (range_below hr1 HD.out.below)
                    have HDO := Lib.hid (Ds.does HD.out (i := 0) rfl (by omega) (g i) hok (fun u hu _ => hk.step hu))
                    have HSZ := Lib.hid (info_sp (g i))
                    have HNX : Hid (([(B, n + i, runS S (fun i => (g i).st) i), (B1, n + m, C)] : Dl).set 0 (B, n + i + 1, ((runS S (fun i => (g i).st) i).step (g i).st).2) = [(B, n + (i + 1), runS S (fun i => (g i).st) (i + 1)), (B1, n + m, C)]) := Lib.hid rfl
                    clear hcl hr1 hok hk
                    generalize wr = w0 at *
                    go_wp2_with (first
                      | (refine wpList_load_mid rfl 41 _ rfl Bs O rfl (g i).cells.toList _ HRG.out Tryd.underlying41 rfl HSZ.out ?_)
                      | (go_at_call 27; (with_reducible refine HDO.out.mono ?_); rintro e w2 ⟨rfl, hh⟩; rw [HNX.out] at hh; have HD2 := Lib.hid hh; clear hh))
                    go_roundw
                    case rel => exact ⟨i + 1, by omega, by go_num, HD2⟩
                    case measure => simp [RowKit.intOf]; omega
                  · obtain rfl : m = i := by omega
                    rw [HC.out] at HD
                    go_wp2_with fail
                    go_loopw [14] (fun s wx => ∃ i : Nat, i ≤ q + 3 ∧ s = .int .i64 (i : Int) ∧ Hid (Ds W [(B, n + m, C), (B1, n + m, C)] (fun u => SecR sad q sc h u ∧ ValsAt u (.slice (some rad) (q + 3) rc) (strs (told (both S) (secsTo h q) (q + 3)))) wx)) (fun s _ => q + 3 - (RowKit.intOf s).toNat)
                    case atStart => exact ⟨0, Nat.zero_le _, rfl, HD⟩
                    case round =>
                      obtain ⟨i, hi, rfl, HD⟩ := hrel
                      by_cases hlt : i < q + 3
                      · obtain ⟨z, hz⟩ : ∃ z, (secsTo h q)[i]? = some z := ⟨_, List.getElem?_eq_getElem (by rw [secsTo_len]; omega)⟩
                        have HZ := Lib.hid (ValsAt.cell HD.out.rest.1 (ints_get hz))
                        clear hz
                        have hk0 : (0 : Int) ≤ (i : Int) := Int.natCast_nonneg _
                        have hk1 : (i : Int) < (q : Int) + 3 := by omega
                        have hk2 : (i : Int) < ((q + 3 : Nat) : Int) := by omega
                        go_upto_region 30 with fail
                        refine RK.region (InS (sad.add i) (.int .i64 z) wr) 28 (by kernel_rfl) ?_
                        have HS0 : InS (sad.add i) (.int .i64 z) wr wr.drew := ⟨HZ.out, below_drewN wr 1⟩
                        have HD9 := Lib.hid (show Ds W _ _ wr.drew from HD.out.step (below_drewN wr 1))
                        refine RK.Any.take 0 118 (ptr B) rfl rfl (by kernel_rfl) (by kernel_rfl) (by kernel_rfl) (by kernel_rfl) (fun _ _ _ h => h) (by rfl) (fun W' hb => ?_) HS0 ?_
                        · go_simp
                        simp only [List.setIfInBounds_toArray, List.set_cons_zero, List.set_cons_succ]
                        refine RK.Any.take 1 119 (.slice (some sad) (q + 3) sc) rfl rfl (by kernel_rfl) (by kernel_rfl) (by kernel_rfl) (by kernel_rfl) (fun _ _ _ h => h) (by rfl) (fun W' hb => ?_) HS0 ?_
                        · go_simp
                        simp only [List.setIfInBounds_toArray, List.set_cons_zero, List.set_cons_succ]
                        refine RK.Any.take 2 120 (.int .i64 (i : Int)) rfl rfl (by kernel_rfl) (by kernel_rfl) (by kernel_rfl) (by kernel_rfl) (fun _ _ _ h => h) (by rfl) (fun W' hb => ?_) HS0 ?_
                        · go_simp
                        simp only [List.setIfInBounds_toArray, List.set_cons_zero, List.set_cons_succ]
                        refine RK.Any.take 3 121 (.pointer (some (sad.add i))) rfl rfl (by kernel_rfl) (by kernel_rfl) (by kernel_rfl) (by kernel_rfl) (fun _ _ _ h => h) (by rfl) (fun W' hb => ?_) HS0 ?_
                        · go_simp
                        simp only [List.setIfInBounds_toArray, List.set_cons_zero, List.set_cons_succ]
                        refine RK.Any.take 4 122 (.int .i64 z) rfl rfl (by kernel_rfl) (by kernel_rfl) (by kernel_rfl) (by kernel_rfl) (fun _ _ _ h => h) (by rfl) (fun W' hb => ?_) HS0 ?_
                        · have c := hb.c; go_simp
                        simp only [List.setIfInBounds_toArray, List.set_cons_zero, List.set_cons_succ]
                        refine RK.Any.take 6 124 (ptr B1) rfl rfl (by kernel_rfl) (by kernel_rfl) (by kernel_rfl) (by kernel_rfl) (fun _ _ _ h => h) (by rfl) (fun W' hb => ?_) HS0 ?_
                        · go_simp
                        simp only [List.setIfInBounds_toArray, List.set_cons_zero, List.set_cons_succ]
                        refine RK.Any.take 7 125 (.slice (some sad) (q + 3) sc) rfl rfl (by kernel_rfl) (by kernel_rfl) (by kernel_rfl) (by kernel_rfl) (fun _ _ _ h => h) (by rfl) (fun W' hb => ?_) HS0 ?_
                        · go_simp
                        simp only [List.setIfInBounds_toArray, List.set_cons_zero, List.set_cons_succ]
                        refine RK.Any.take 8 126 (.int .i64 (i : Int)) rfl rfl (by kernel_rfl) (by kernel_rfl) (by kernel_rfl) (by kernel_rfl) (fun _ _ _ h => h) (by rfl) (fun W' hb => ?_) HS0 ?_
                        · go_simp
                        simp only [List.setIfInBounds_toArray, List.set_cons_zero, List.set_cons_succ]
                        refine RK.Any.take 9 127 (.pointer (some (sad.add i))) rfl rfl (by kernel_rfl) (by kernel_rfl) (by kernel_rfl) (by kernel_rfl) (fun _ _ _ h => h) (by rfl) (fun W' hb => ?_) HS0 ?_
                        · go_simp
                        simp only [List.setIfInBounds_toArray, List.set_cons_zero, List.set_cons_succ]
                        refine RK.Any.take 10 128 (.int .i64 z) rfl rfl (by kernel_rfl) (by kernel_rfl) (by kernel_rfl) (by kernel_rfl) (fun _ _ _ h => h) (by rfl) (fun W' hb => ?_) HS0 ?_
                        · have c := hb.c; go_simp
                        simp only [List.setIfInBounds_toArray, List.set_cons_zero, List.set_cons_succ]
                        generalize wr.drew = w2 at *
                        refine RK.Any.call 5 123 16 #[ptr B, .int .i64 z] (by kernel_rfl) rfl rfl (by rfl) (by go_simp) (Calls.mono (Ds.read HD9.out (i := 0) rfl z) ?_)
                        rintro e w3 ⟨he, hb3⟩
                        skip
                        subst he
                        have HS1 := HS0.up hb3
                        refine ⟨_, rfl, fun _ => HS1, ?_⟩
                        simp only [List.setIfInBounds_toArray, List.set_cons_zero, List.set_cons_succ]
                        have HD8 := Lib.hid (HD9.out.step hb3)
                        skip
                        clear hb3
                        refine RK.Any.call 11 129 16 #[ptr B1, .int .i64 z] (by kernel_rfl) rfl rfl (by rfl) (by go_simp) (Calls.mono (Ds.read HD8.out (i := 1) rfl z) ?_)
                        rintro e w4 ⟨he, hb3⟩
                        skip
                        subst he
                        have HS2 := HS1.up hb3
                        refine ⟨_, rfl, fun _ => HS2, ?_⟩
                        simp only [List.setIfInBounds_toArray, List.set_cons_zero, List.set_cons_succ]
                        have HD7 := Lib.hid (HD8.out.step hb3)
                        skip
                        clear hb3
                        refine RK.Any.exec 12 130 (.bool false) (w1 := w4) (by kernel_rfl) rfl rfl (by rfl) (by go_simp) HS2 ?_
                        simp only [List.setIfInBounds_toArray, List.set_cons_zero, List.set_cons_succ]
                        refine RK.Any.exec 13 131 (.bool false) (w1 := w4) (by kernel_rfl) rfl rfl (by rfl) (by go_simp) HS2 ?_
                        simp only [List.setIfInBounds_toArray, List.set_cons_zero, List.set_cons_succ]
                        refine RK.Any.take 14 132 (ptr B) rfl rfl (by kernel_rfl) (by kernel_rfl) (by kernel_rfl) (by kernel_rfl) (fun _ _ _ h => h) (by rfl) (fun W' hb => ?_) HS2 ?_
                        · go_simp
                        simp only [List.setIfInBounds_toArray, List.set_cons_zero, List.set_cons_succ]
                        refine RK.Any.take 15 133 (.slice (some sad) (q + 3) sc) rfl rfl (by kernel_rfl) (by kernel_rfl) (by kernel_rfl) (by kernel_rfl) (fun _ _ _ h => h) (by rfl) (fun W' hb => ?_) HS2 ?_
                        · go_simp
                        simp only [List.setIfInBounds_toArray, List.set_cons_zero, List.set_cons_succ]
                        refine RK.Any.take 16 134 (.int .i64 (i : Int)) rfl rfl (by kernel_rfl) (by kernel_rfl) (by kernel_rfl) (by kernel_rfl) (fun _ _ _ h => h) (by rfl) (fun W' hb => ?_) HS2 ?_
                        · go_simp
                        simp only [List.setIfInBounds_toArray, List.set_cons_zero, List.set_cons_succ]
                        refine RK.Any.take 17 135 (.pointer (some (sad.add i))) rfl rfl (by kernel_rfl) (by kernel_rfl) (by kernel_rfl) (by kernel_rfl) (fun _ _ _ h => h) (by rfl) (fun W' hb => ?_) HS2 ?_
                        · go_simp
                        simp only [List.setIfInBounds_toArray, List.set_cons_zero, List.set_cons_succ]
                        refine RK.Any.take 18 136 (.int .i64 z) rfl rfl (by kernel_rfl) (by kernel_rfl) (by kernel_rfl) (by kernel_rfl) (fun _ _ _ h => h) (by rfl) (fun W' hb => ?_) HS2 ?_
                        · have c := hb.c; go_simp
                        simp only [List.setIfInBounds_toArray, List.set_cons_zero, List.set_cons_succ]
                        refine RK.Any.take 20 138 (ptr B1) rfl rfl (by kernel_rfl) (by kernel_rfl) (by kernel_rfl) (by kernel_rfl) (fun _ _ _ h => h) (by rfl) (fun W' hb => ?_) HS2 ?_
                        · go_simp
                        simp only [List.setIfInBounds_toArray, List.set_cons_zero, List.set_cons_succ]
                        refine RK.Any.take 21 139 (.slice (some sad) (q + 3) sc) rfl rfl (by kernel_rfl) (by kernel_rfl) (by kernel_rfl) (by kernel_rfl) (fun _ _ _ h => h) (by rfl) (fun W' hb => ?_) HS2 ?_
                        · go_simp
                        simp only [List.setIfInBounds_toArray, List.set_cons_zero, List.set_cons_succ]
                        refine RK.Any.take 22 140 (.int .i64 (i : Int)) rfl rfl (by kernel_rfl) (by kernel_rfl) (by kernel_rfl) (by kernel_rfl) (fun _ _ _ h => h) (by rfl) (fun W' hb => ?_) HS2 ?_
                        · go_simp
                        simp only [List.setIfInBounds_toArray, List.set_cons_zero, List.set_cons_succ]
                        refine RK.Any.take 23 141 (.pointer (some (sad.add i))) rfl rfl (by kernel_rfl) (by kernel_rfl) (by kernel_rfl) (by kernel_rfl) (fun _ _ _ h => h) (by rfl) (fun W' hb => ?_) HS2 ?_
                        · go_simp
                        simp only [List.setIfInBounds_toArray, List.set_cons_zero, List.set_cons_succ]
                        refine RK.Any.take 24 142 (.int .i64 z) rfl rfl (by kernel_rfl) (by kernel_rfl) (by kernel_rfl) (by kernel_rfl) (fun _ _ _ h => h) (by rfl) (fun W' hb => ?_) HS2 ?_
                        · have c := hb.c; go_simp
                        simp only [List.setIfInBounds_toArray, List.set_cons_zero, List.set_cons_succ]
                        refine RK.Any.call 19 137 17 #[ptr B, .int .i64 z] (by kernel_rfl) rfl rfl (by rfl) (by go_simp) (Calls.mono (Ds.platter HD7.out (i := 0) rfl z) ?_)
                        rintro e w5 ⟨he, hb3⟩
                        skip
                        subst he
                        have HS3 := HS2.up hb3
                        refine ⟨_, rfl, fun _ => HS3, ?_⟩
                        simp only [List.setIfInBounds_toArray, List.set_cons_zero, List.set_cons_succ]
                        have HD6 := Lib.hid (HD7.out.step hb3)
                        skip
                        clear hb3
                        refine RK.Any.call 25 143 17 #[ptr B1, .int .i64 z] (by kernel_rfl) rfl rfl (by rfl) (by go_simp) (Calls.mono (Ds.platter HD6.out (i := 1) rfl z) ?_)
                        rintro e w6 ⟨he, hb3⟩
                        skip
                        subst he
                        have HS4 := HS3.up hb3
                        refine ⟨_, rfl, fun _ => HS4, ?_⟩
                        simp only [List.setIfInBounds_toArray, List.set_cons_zero, List.set_cons_succ]
                        have HD5 := Lib.hid (HD6.out.step hb3)
                        skip
                        clear hb3
                        refine RK.Any.exec 26 144 (.bool false) (w1 := w6) (by kernel_rfl) rfl rfl (by rfl) (by go_simp) HS4 ?_
                        simp only [List.setIfInBounds_toArray, List.set_cons_zero, List.set_cons_succ]
                        refine RK.Any.exec 27 145 (.bool false) (w1 := w6) (by kernel_rfl) rfl rfl (by rfl) (by go_simp) HS4 ?_
                        simp only [List.setIfInBounds_toArray, List.set_cons_zero, List.set_cons_succ]
                        refine RK.Any.done (by kernel_rfl) ?_
                        clear HS0 HS1 HS2 HS3 HS4 HD6 HD7 HD8 HD9
                        go_wp2_with fail
                        go_roundw
                        case rel => exact ⟨i + 1, by omega, by go_num, HD5⟩
                        case measure => simp [RowKit.intOf]; omega
                      · obtain rfl : i = q + 3 := by omega
                        go_wp2_with fail
                        have HWC := Lib.hid (Ds.wf HD.out (i := 0) rfl)
                        go_wp2_with (first
                          | (go_at_call 20; (first | with_reducible refine (Ds.dead2 HD.out (i := 0) rfl).mono ?_ | with_reducible refine (Ds.dead2 HD.out (i := 1) rfl).mono ?_); rintro e w5 ⟨rfl, hh⟩; replace HD := Lib.hid hh; clear hh)
                          | (go_at_call 18; (first | with_reducible refine (Ds.waits2 HD.out (i := 0) rfl).mono ?_ | with_reducible refine (Ds.waits2 HD.out (i := 1) rfl).mono ?_); rintro e w5 ⟨rfl, hh⟩; replace HD := Lib.hid hh; clear hh)
                          | (go_at_call 19; (with_reducible refine (used_val HD.out (i := 0) rfl).mono ?_); rintro e w5 ⟨vo, l, vc, rfl, hu, ha, hh⟩; have HV1 := Lib.hid ha; have HU1 := Lib.hid hu; replace HD := Lib.hid (HD.out.step hh); clear ha hu hh)
                          | (go_at_call 19; (with_reducible refine (used_val HD.out (i := 1) rfl).mono ?_); rintro e w5 ⟨vo2, l2, vc2, rfl, hu, ha, hh⟩; rw [hu.one HU1.out] at ha; rw [hu.one HU1.out]; have HV2 := Lib.hid ha; replace HV1 := Lib.hid (HV1.out.step hh); replace HD := Lib.hid (HD.out.step hh); clear ha hu hh)
                          | (go_at_call 31; (with_reducible refine (ints_yes (by have := HU1.out.len HWC.out; omega) HV1.out HV2.out).mono ?_); rintro e w5 ⟨rfl, hh⟩; replace HD := Lib.hid (HD.out.step hh); clear hh))
                        go_ret
                        exact ⟨rfl, HD.out.below⟩
  · go_ret
    exact ⟨rfl, HB.out⟩
  · go_ret
    exact ⟨rfl, HB.out⟩
end M
end Go.Proofs.YtdgaokmmjnedhaaDoor

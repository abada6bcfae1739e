/- The texts SlotsWholeW, one behind the other. -/
import Derived.Test.YtoacmingocmaaaaDoorWB19
import Derived.Test.YtoacmingocmaaaaDoorWB3
/- The walk of SlotsWhole. -/
namespace Go.Proofs.YtoacmingocmaaaaDoor
namespace MM
theorem many_few {f : Nat → Tn} {n : Nat} (h : sm6 f n < 30000) : n ≤ 60 ∧ ∀ i, i < n → (f i).s.length ≤ 30000 := by
  refine ⟨by have := sm6_ge f n; omega, fun i hi => by have := sm6_each f n i hi; omega⟩
/-- Which of the texts are told to be known so far. -/
def Seen (m : List By) (nn : Bool) (S : By) (k : Nat) (b : Bool) : Prop := ∀ j, j < k → m[j]? = some S → (0 < j ∨ nn = false) → b = true
end MM
open Go Go.RowKit Go.Lib Go.Deep
namespace M
open MM
set_option maxHeartbeats 16000000 in
set_option maxRecDepth 100000 in
theorem walkSlotsWhole (v : Value) (W : World) (hv : ∃ (ao : Option Addr) (n c : Nat) (f : Nat → Tn), v = .slice ao n c ∧ n ≤ 9223372036854775807 ∧ TurnsAt W ao n f ∧ TurnsSm n f) :
    Calls Tryd.prog 4 #[v] W fun e w' => e = .returned (.bool true) ∧ Below W.heap.size W w' := by
  obtain ⟨ao, n, c, f, rfl, hn, hf, hs⟩ := hv
  have HMY := Lib.hid (many_any ao n c f hn W hf hs)
  have AW := Lib.hid (fun w => awake_go w)
  have HF := Lib.hid hf
  clear hf hs
  go_enter Tryd.func4, Tryd.ntmps4
  go_upto_region 3 with (first
    | (go_at_call 21; (with_reducible refine HMY.out.mono ?_); rintro e w1 ⟨r, rfl, hsm, hb⟩; have HB := Lib.hid hb; have HSM := Lib.hid hsm; clear hb hsm; cases r)
    | (go_at_call 9; (with_reducible refine (AW.out _).mono ?_); rintro e w2 ⟨rfl, hb⟩; replace HB := Lib.hid (bnext HB.out hb); clear hb))
  · have hfew := many_few (HSM.out trivial)
    have hn60 := hfew.1
    have HSH := Lib.hid hfew.2
    clear hfew HSM HMY
    go_upto_region 4 with (go_at_call 16; (with_reducible refine (Ds.new (Ds.start W HB.out)).mono ?_); rintro e w3 ⟨B, rfl, h⟩; have HD : Hid (Ds W [(B, 0, Dsk.new)] (fun _ => True) w3) := Lib.hid h; clear h)
    have HW0 := Lib.hid (WS.start HD.out (by omega) [])
    go_wp2_with fail
    generalize hb0 : w3.heap.size = b0 at *
    have HB0 := Lib.hid hb0
    clear hb0 HD HB
    generalize hw4 : w3.alloc (.cells #[.string ⟨([] : List UInt8).toArray⟩] 9) = w4 at *
    go_loopw [4, 5, 6, 7, 8, 9, 10, 11] (fun s4 s5 s6 _ _ _ _ _ wx => ∃ (i : Nat) (z : Dsk) (m : List By) (nn : Bool) (ad : Addr) (ml c : Nat), i ≤ n ∧ s6 = .int .i64 (i : Int) ∧ s5 = .bool nn ∧ s4 = .slice (some ad) ml c ∧ Hid (ml = m.length ∧ 0 < ml ∧ ml ≤ i + 1) ∧ Hid (Live z) ∧ Hid (Inv (Mof m nn) (2 * i) z) ∧ Hid (WS W B z (.slice (some ad) ml c) m wx)) (fun _ _ s6 _ _ _ _ _ _ => n - (RowKit.intOf s6).toNat)
    case atStart => exact ⟨0, Dsk.new, [[]], true, ⟨b0, 0, none⟩, 1, 1, Nat.zero_le _, rfl, rfl, rfl, Lib.hid ⟨rfl, by omega, by omega⟩, Lib.hid Live.new, Lib.hid (Inv.new.up (fun o ho => .inl ⟨ho, rfl⟩) (Nat.le_refl _)), HW0⟩
    case round =>
      clear HW0
      obtain ⟨i, z, m, nn, ad, ml, cm, hi, rfl, rfl, rfl, HML, HL, HI, HW⟩ := hrel
      by_cases hlt : i < n
      · obtain ⟨hok, hbl, ta, rfl, hcl⟩ := HF.out i hlt
        obtain ⟨TB, TO, hadr, hr1⟩ := turn_range hcl
        obtain ⟨x, hx⟩ : ∃ x, f i = x := ⟨_, rfl⟩
        rw [hx] at hok hbl hr1
        have hxs : x.s.length ≤ 30000 := hx ▸ HSH.out i hlt
        have HRG : Hid (∀ u, Below W.heap.size W u → u.rangeAt TB TO x.cells.toList) := Lib.hid fun u hu => range_below hr1 hu
        have HBL : Hid (∀ u, Below W.heap.size W u → BoolsAt u x.ko x.keep) := Lib.hid fun u hu => hbl.step hu
        have HIV := tdo_inv HI.out HL.out.dead x (by unfold most; omega) (by unfold top; omega)
        have HDO : Hid (Calls Tryd.prog 22 #[.agg x.cells, ptr B] wr fun e w' => e = .returned (.int .i64 ((tdo z x).1 : Int)) ∧ WS W B (tdo z x).2 (.slice (some ad) ml cm) m w') := Lib.hid (HW.out.goes fun F hd _ => tdo_any hd (by omega) x hok.fuse)
        have hrg := HRG.out wr HW.out.below
        have HCR : Hid (∀ u, Below W.heap.size W u → u.cell? ⟨TB, TO + 3, none⟩ = some (.bool x.cr)) := Lib.hid fun u hu => HRG.out u hu 3 _ rfl
        have HCS : Hid (∀ u, Below W.heap.size W u → u.cell? ⟨TB, TO, none⟩ = some (.string ⟨x.s.toArray⟩)) := Lib.hid fun u hu => HRG.out u hu 0 _ rfl
        have HCK : Hid (∀ u, Below W.heap.size W u → u.cell? ⟨TB, TO + 4, none⟩ = some (.slice x.ko x.keep.length x.kc) ∧ u.cell? ⟨TB, TO + 5, none⟩ = some (.int .i64 x.at_)) := Lib.hid fun u hu => ⟨HRG.out u hu 4 _ rfl, HRG.out u hu 5 _ rfl⟩
        have hi0 : (0 : Int) ≤ (i : Int) := Int.natCast_nonneg _
        obtain ⟨E, hE⟩ : ∃ E, (tdo z x).1 = E := ⟨_, rfl⟩
        obtain ⟨y, hy⟩ : ∃ y, (tdo z x).2 = y := ⟨_, rfl⟩
        rw [hE, hy] at HDO HIV
        clear hok hbl hr1 hcl hx hE hy HI HL HW
        rcases HIV with ⟨rfl, hyd, hiv⟩ | ⟨rfl, hiv⟩
        · have HIY := Lib.hid hiv
          have HYD := Lib.hid hyd
          clear hiv hyd
          go_upto_region 10 with (first
            | (refine wpList_load_mid rfl 42 _ rfl TB TO rfl x.cells.toList _ hrg Tryd.underlying42 rfl (info_tn x) ?_)
            | (go_at_call 22; (with_reducible refine HDO.out.mono ?_); rintro e wa ⟨rfl, h⟩; have HWA := Lib.hid h; clear h))
          clear hrg
          have hcs := HCS.out wa HWA.out.below
          have HWB := Lib.hid (HWA.out.one x.s)
          go_upto_region 12 with fail
          generalize hwb : wa.alloc (.cells #[.string ⟨x.s.toArray⟩] 9) = wb at *
          generalize hgb : wa.heap.size = gb at *
          have HWC : Hid (Calls Tryd.prog 17 #[ptr B, .int .i64 (-1)] wb fun e w' => e = .returned (.tuple #[]) ∧ WS W B (y.setFuse (-1)) (.slice (some ⟨gb, 0, none⟩) 1 1) [x.s] w') := Lib.hid (HWB.out.goes fun F hd _ => (fuse_any hd (-1) (by omega)).mono fun e w' ⟨h1, h2, h3⟩ => ⟨h1, .of h2 h3⟩)
          have HL2 : Hid (Live (y.setFuse (-1))) := Lib.hid ⟨(fuse_dead _ _).trans HYD.out, by unfold Dsk.setFuse; simp⟩
          have HI2 : Hid (Inv (Mof [x.s] false) (2 * (i + 1)) (y.setFuse (-1))) := Lib.hid ((HIY.out.fuse (-1)).up (Mof_one x.s) (by omega))
          clear HIY HYD hcs hwb hgb
          generalize y.setFuse (-1) = z2 at *
          go_upto_region 19 with (go_at_call 17; (with_reducible refine HWC.out.mono ?_); rintro e wc ⟨rfl, h⟩; have HW2 := Lib.hid h; clear h)
          have HMN : Hid ([x.s].length = 1) := Lib.hid rfl
          have HML2 : Hid (1 = [x.s].length ∧ 0 < 1 ∧ 1 ≤ i + 1 + 1) := Lib.hid ⟨rfl, by omega, by omega⟩
          have hml9 : 1 ≤ 61 := by have := HML2.out.2.2; omega
          obtain ⟨o, ho⟩ : ∃ o, textV z2.read = o := ⟨_, rfl⟩
          have hM := HI2.out.read HL2.out.dead
          rw [ho] at hM
          have RD : Hid (Calls Tryd.prog 8 #[ptr B] wc fun e w' => e = .returned (.tuple #[.string ⟨(o.getD []).toArray⟩, .bool o.isSome]) ∧ WS W B z2 (.slice (some ⟨gb, 0, none⟩) 1 1) [x.s] w') := Lib.hid (by
            obtain ⟨F, hd, _, _⟩ := HW2.out.ds.dk (i := 0) rfl
            refine (text_any hd).mono fun e w' ⟨he, hb⟩ => ⟨?_, HW2.out.step hb⟩
            unfold textR at he
            rw [ho] at he
            exact he)
          have HO := Lib.hid ho
          clear ho
          rcases hM with ⟨rfl, hnn⟩ | ⟨kk, S, hkk, rfl, hc3⟩
          · exact absurd hnn (by simp)
          · have HWIT := Lib.hid (show ∃ j, j < 1 ∧ [x.s][j]? = some S ∧ (0 < j ∨ false = false) from ⟨kk, HMN.out ▸ (List.getElem?_eq_some_iff.1 hkk).1, hkk, hc3⟩)
            clear hkk hc3
            go_upto_region 21 with (go_at_call 8; (with_reducible refine RD.out.mono ?_); rintro e wd ⟨rfl, h⟩; have HW3 := Lib.hid h; clear h)
            go_wp2_with fail
            go_loopw [10, 11] (fun s10 s11 wx => ∃ (k : Nat) (b : Bool), k ≤ 1 ∧ s11 = .int .i64 (k : Int) ∧ s10 = .bool b ∧ Hid (Seen [x.s] false S k b) ∧ wx = wd) (fun _ s11 _ => 1 - (RowKit.intOf s11).toNat)
            case atStart => exact ⟨0, false, Nat.zero_le _, rfl, rfl, Lib.hid (fun j hj => absurd hj (by omega)), rfl⟩
            case round =>
              obtain ⟨k, b, hk, rfl, rfl, HSE, hwq⟩ := hrel
              replace hwq := hwq.symm
              subst hwq
              by_cases hkl : k < 1
              · have hkp : (k : Int) < (1 : Int) := by omega
                have hk00 : (0 : Int) ≤ (k : Int) := Int.natCast_nonneg _
                obtain ⟨t, ht⟩ : ∃ t, [x.s][k]? = some t := ⟨_, List.getElem?_eq_getElem (by rw [HMN.out]; exact hkl)⟩
                have hct := HW3.out.row.cell ht
                rw [Addr.add_lit, Nat.zero_add] at hct
                cases b with
                | true =>
                  have HS2 : Hid (Seen [x.s] false S (k + 1) true) := Lib.hid fun _ _ _ _ => rfl
                  clear ht
                  go_wp2_with fail
                  go_roundw
                  case rel => exact ⟨k + 1, true, by omega, by go_num, rfl, HS2, (by first | rfl | trivial)⟩
                  case measure => simp [RowKit.intOf]; omega
                | false =>
                  by_cases hts : t = S
                  · have hst : (t == S) = true := by simpa using hts
                    by_cases hk0 : 0 < k
                    · have hki : (0 : Int) < (k : Int) := by omega
                      have HS2 : Hid (Seen [x.s] false S (k + 1) true) := Lib.hid (fun _ _ _ _ => rfl)
                      clear ht hts
                      go_wp2_with fail
                      go_roundw
                      case rel => exact ⟨k + 1, true, by omega, by go_num, rfl, HS2, (by first | rfl | trivial)⟩
                      case measure => simp [RowKit.intOf]; omega
                    · have hki : ¬ (0 : Int) < (k : Int) := by omega
                      have HS2 : Hid (Seen [x.s] false S (k + 1) true) := Lib.hid (fun _ _ _ _ => rfl)
                      clear ht hts
                      go_wp2_with fail
                      go_roundw
                      case rel => exact ⟨k + 1, true, by omega, by go_num, rfl, HS2, (by first | rfl | trivial)⟩
                      case measure => simp [RowKit.intOf]; omega
                  · have hst : (t == S) = false := by simpa using hts
                    have HS2 : Hid (Seen [x.s] false S (k + 1) false) := Lib.hid (fun j hj h1 h2 => by
                      by_cases e : j = k
                      · subst e; rw [ht] at h1; injection h1 with h1; exact absurd h1 hts
                      · exact HSE.out j (by omega) h1 h2)
                    clear ht hts
                    go_wp2_with fail
                    go_roundw
                    case rel => exact ⟨k + 1, false, by omega, by go_num, rfl, HS2, (by first | rfl | trivial)⟩
                    case measure => simp [RowKit.intOf]; omega
              · have hkn : ¬ (k : Int) < (1 : Int) := by omega
                have hb : b = true := by
                  obtain ⟨j, h1, h2, h3⟩ := HWIT.out
                  exact HSE.out j (by omega) h2 (by first | exact h3 | exact h3.imp id (fun _ => rfl) | (rcases h3 with h | h <;> first | exact .inl h | cases h))
                subst hb
                go_wp2_with fail
                go_roundw
                case rel => exact ⟨i + 1, z2, [x.s], false, ⟨gb, 0, none⟩, 1, 1, by omega, by go_num, rfl, rfl, HML2, HL2, HI2, HW3⟩
                case measure => simp [RowKit.intOf]; omega
        · have HIY := Lib.hid hiv
          clear hiv
          go_upto_region 10 with (first
            | (refine wpList_load_mid rfl 42 _ rfl TB TO rfl x.cells.toList _ hrg Tryd.underlying42 rfl (info_tn x) ?_)
            | (go_at_call 22; (with_reducible refine HDO.out.mono ?_); rintro e wa ⟨rfl, h⟩; have HWA := Lib.hid h; clear h))
          clear hrg
          have hcs := HCS.out wa HWA.out.below
          obtain ⟨ad2, c2, wb, hap, hwb⟩ := HWA.out.push x.s (by have := HML.out; omega) 29
          rw [← HML.out.1] at hap hwb
          obtain ⟨ml2, hml2⟩ : ∃ q, ml + 1 = q := ⟨_, rfl⟩
          rw [hml2] at hap hwb
          have HWB := Lib.hid hwb
          have HI1 : Hid (Inv (Mof (m ++ [x.s]) nn) (2 * (i + 1)) y) := Lib.hid (HIY.out.up (Mof_more (by rw [← HML.out.1]; exact HML.out.2.1) x.s) (by omega))
          have HML2 : Hid (ml2 = (m ++ [x.s]).length ∧ 0 < ml2 ∧ ml2 ≤ i + 1 + 1) := Lib.hid (by have := HML.out; rw [List.length_append, List.length_singleton]; omega)
          have HMN : Hid ((m ++ [x.s]).length = ml2) := Lib.hid HML2.out.1.symm
          clear HIY hwb hml2
          go_upto_region 16 with (at_builtin; refine Lib.wpList_append_run _ rfl _ _ _ _ rfl _ _ rfl rfl _ _ hap ?_)
          have hcr := HCR.out wb HWB.out.below
          clear hap hcs
          generalize m ++ [x.s] = m2 at *
          obtain ⟨cr, hcrr⟩ : ∃ cr, x.cr = cr := ⟨_, rfl⟩
          rw [hcrr] at hcr HCR
          clear hcrr HML HWA
          cases cr with
          | true =>
            obtain ⟨hck, hca⟩ := HCK.out wb HWB.out.below
            go_upto_region 17 with fail
            refine RK.region (fun u => u.cell? ⟨TB, TO + 4, none⟩ = some (.slice x.ko x.keep.length x.kc) ∧ u.cell? ⟨TB, TO + 5, none⟩ = some (.int .i64 x.at_)) 12 (by kernel_rfl) ?_
            have HS0 : wb.drew.cell? ⟨TB, TO + 4, none⟩ = some (.slice x.ko x.keep.length x.kc) ∧ wb.drew.cell? ⟨TB, TO + 5, none⟩ = some (.int .i64 x.at_) := ⟨hck, hca⟩
            have HWD := Lib.hid (show WS W B y (.slice (some ad2) ml2 c2) m2 wb.drew from HWB.out.step (below_drewN wb 1))
            generalize wb.drew = we at *
            have HCA : Hid (Calls Tryd.prog 23 #[ptr B, .slice x.ko x.keep.length x.kc, .int .i64 x.at_] we fun e w' => e = .returned (.tuple #[]) ∧ WS W B (y.crash x.keep x.at_) (.slice (some ad2) ml2 c2) m2 w') := Lib.hid (HWD.out.goes fun F hd hbw => crash_any hd (by omega) x.keep x.ko x.kc x.at_ fun u hu => HBL.out u (hbw u hu))
            refine RK.Any.take 0 58 (ptr B) rfl rfl (by kernel_rfl) (by kernel_rfl) (by kernel_rfl) (by kernel_rfl) (fun _ _ _ h => h) (by rfl) (fun W' hb => ?_) HS0 ?_
            · go_simp
            try simp only [List.setIfInBounds_toArray, List.set_cons_zero, List.set_cons_succ]
            refine RK.Any.take 1 59 (.slice (some ta) n c) rfl rfl (by kernel_rfl) (by kernel_rfl) (by kernel_rfl) (by kernel_rfl) (fun _ _ _ h => h) (by rfl) (fun W' hb => ?_) HS0 ?_
            · go_simp
            try simp only [List.setIfInBounds_toArray, List.set_cons_zero, List.set_cons_succ]
            refine RK.Any.take 2 60 (.int .i64 (i : Int)) rfl rfl (by kernel_rfl) (by kernel_rfl) (by kernel_rfl) (by kernel_rfl) (fun _ _ _ h => h) (by rfl) (fun W' hb => ?_) HS0 ?_
            · go_simp
            try simp only [List.setIfInBounds_toArray, List.set_cons_zero, List.set_cons_succ]
            refine RK.Any.take 3 61 (.pointer (some ⟨TB, TO, none⟩)) rfl rfl (by kernel_rfl) (by kernel_rfl) (by kernel_rfl) (by kernel_rfl) (fun _ _ _ h => h) (by rfl) (fun W' hb => ?_) HS0 ?_
            · go_simp
            try simp only [List.setIfInBounds_toArray, List.set_cons_zero, List.set_cons_succ]
            refine RK.Any.take 4 62 (.pointer (some ⟨TB, TO + 4, none⟩)) rfl rfl (by kernel_rfl) (by kernel_rfl) (by kernel_rfl) (by kernel_rfl) (fun _ _ _ h => h) (by rfl) (fun W' hb => ?_) HS0 ?_
            · go_simp
            try simp only [List.setIfInBounds_toArray, List.set_cons_zero, List.set_cons_succ]
            refine RK.Any.take 5 63 (.slice x.ko x.keep.length x.kc) rfl rfl (by kernel_rfl) (by kernel_rfl) (by kernel_rfl) (by kernel_rfl) (fun _ _ _ h => h) (by rfl) (fun W' hb => ?_) HS0 ?_
            · obtain ⟨h4, h5⟩ := hb; go_simp
            try simp only [List.setIfInBounds_toArray, List.set_cons_zero, List.set_cons_succ]
            refine RK.Any.take 6 64 (.slice (some ta) n c) rfl rfl (by kernel_rfl) (by kernel_rfl) (by kernel_rfl) (by kernel_rfl) (fun _ _ _ h => h) (by rfl) (fun W' hb => ?_) HS0 ?_
            · go_simp
            try simp only [List.setIfInBounds_toArray, List.set_cons_zero, List.set_cons_succ]
            refine RK.Any.take 7 65 (.int .i64 (i : Int)) rfl rfl (by kernel_rfl) (by kernel_rfl) (by kernel_rfl) (by kernel_rfl) (fun _ _ _ h => h) (by rfl) (fun W' hb => ?_) HS0 ?_
            · go_simp
            try simp only [List.setIfInBounds_toArray, List.set_cons_zero, List.set_cons_succ]
            refine RK.Any.take 8 66 (.pointer (some ⟨TB, TO, none⟩)) rfl rfl (by kernel_rfl) (by kernel_rfl) (by kernel_rfl) (by kernel_rfl) (fun _ _ _ h => h) (by rfl) (fun W' hb => ?_) HS0 ?_
            · go_simp
            try simp only [List.setIfInBounds_toArray, List.set_cons_zero, List.set_cons_succ]
            refine RK.Any.take 9 67 (.pointer (some ⟨TB, TO + 5, none⟩)) rfl rfl (by kernel_rfl) (by kernel_rfl) (by kernel_rfl) (by kernel_rfl) (fun _ _ _ h => h) (by rfl) (fun W' hb => ?_) HS0 ?_
            · go_simp
            try simp only [List.setIfInBounds_toArray, List.set_cons_zero, List.set_cons_succ]
            refine RK.Any.take 10 68 (.int .i64 x.at_) rfl rfl (by kernel_rfl) (by kernel_rfl) (by kernel_rfl) (by kernel_rfl) (fun _ _ _ h => h) (by rfl) (fun W' hb => ?_) HS0 ?_
            · obtain ⟨h4, h5⟩ := hb; go_simp
            try simp only [List.setIfInBounds_toArray, List.set_cons_zero, List.set_cons_succ]
            refine RK.Any.call 11 69 23 #[ptr B, .slice x.ko x.keep.length x.kc, .int .i64 x.at_] (by kernel_rfl) rfl rfl (by rfl) (by go_simp) (Calls.mono (HCA.out) ?_)
            rintro e wf ⟨rfl, h⟩
            have HWF := Lib.hid h
            clear h
            refine ⟨_, rfl, fun _ => HCK.out wf HWF.out.below, ?_⟩
            try simp only [List.setIfInBounds_toArray, List.set_cons_zero, List.set_cons_succ]
            refine RK.Any.done (by kernel_rfl) ?_
            have HWC : Hid (Calls Tryd.prog 18 #[ptr B] wf fun e w' => e = .returned (.tuple #[]) ∧ WS W B (y.crash x.keep x.at_).start (.slice (some ad2) ml2 c2) m2 w') := Lib.hid (HWF.out.goes fun F hd _ => (start_any hd).mono fun e w' ⟨h1, h2, h3⟩ => ⟨h1, .of h2 h3⟩)
            have HL2 : Hid (Live (y.crash x.keep x.at_).start) := Lib.hid ⟨rfl, rfl⟩
            have HI2 := Lib.hid (HI1.out.crashed x.keep x.at_).1
            have HIC := Lib.hid (HI1.out.crashed x.keep x.at_).2
            clear HI1 HWB HWD HWF HCA hck hca
            generalize (y.crash x.keep x.at_).start = z2 at *
            go_upto_region 19 with (go_at_call 18; (with_reducible refine HWC.out.mono ?_); rintro e wc ⟨rfl, h⟩; have HW2 := Lib.hid h; clear h)
            have hml9 : ml2 ≤ 61 := by have := HML2.out.2.2; omega
            obtain ⟨o, ho⟩ : ∃ o, textV z2.read = o := ⟨_, rfl⟩
            have hM := HI2.out.read HL2.out.dead
            rw [ho] at hM
            have RD : Hid (Calls Tryd.prog 8 #[ptr B] wc fun e w' => e = .returned (.tuple #[.string ⟨(o.getD []).toArray⟩, .bool o.isSome]) ∧ WS W B z2 (.slice (some ad2) ml2 c2) m2 w') := Lib.hid (by
              obtain ⟨F, hd, _, _⟩ := HW2.out.ds.dk (i := 0) rfl
              refine (text_any hd).mono fun e w' ⟨he, hb⟩ => ⟨?_, HW2.out.step hb⟩
              unfold textR at he
              rw [ho] at he
              exact he)
            have HO := Lib.hid ho
            clear ho
            rcases hM with ⟨rfl, hnn⟩ | ⟨kk, S, hkk, rfl, hc3⟩
            · subst hnn
              go_upto_region 21 with (go_at_call 8; (with_reducible refine RD.out.mono ?_); rintro e wd ⟨rfl, h⟩; have HW3 := Lib.hid h; clear h)
              go_wp2_with fail
              go_loopw [10, 11] (fun s10 s11 wx => ∃ k : Nat, k ≤ ml2 ∧ s11 = .int .i64 (k : Int) ∧ s10 = .bool true ∧ wx = wd) (fun _ s11 _ => ml2 - (RowKit.intOf s11).toNat)
              case atStart => exact ⟨0, Nat.zero_le _, rfl, rfl, rfl⟩
              case round =>
                obtain ⟨k, hk, rfl, rfl, hwq⟩ := hrel
                replace hwq := hwq.symm
                subst hwq
                by_cases hkl : k < ml2
                · have hkp : (k : Int) < (ml2 : Int) := by omega
                  go_wp2_with fail
                  go_roundw
                  case rel => exact ⟨k + 1, by omega, by go_num, rfl, (by first | rfl | trivial)⟩
                  case measure => simp [RowKit.intOf]; omega
                · have hkn : ¬ (k : Int) < (ml2 : Int) := by omega
                  have hcd := HCR.out wd HW3.out.below
                  go_wp2_with fail
                  have HW4 := Lib.hid (HW3.out.one ([] : By))
                  have HI4 : Hid (Inv (Mof [[]] true) (2 * (i + 1)) z2) := Lib.hid (HIC.out.up (fun o' h' => by
                    rw [HO.out] at h'
                    subst h'
                    exact Mof_told none) (Nat.le_refl _))
                  go_roundw
                  case rel => exact ⟨i + 1, z2, [[]], true, ⟨wd.heap.size, 0, none⟩, 1, 1, by omega, by go_num, rfl, rfl, Lib.hid ⟨rfl, by omega, by omega⟩, HL2, HI4, HW4⟩
                  case measure => simp [RowKit.intOf]; omega
            · have HWIT := Lib.hid (show ∃ j, j < ml2 ∧ m2[j]? = some S ∧ (0 < j ∨ nn = false) from ⟨kk, HMN.out ▸ (List.getElem?_eq_some_iff.1 hkk).1, hkk, hc3⟩)
              clear hkk hc3
              cases nn with
              | true =>
                go_upto_region 21 with (go_at_call 8; (with_reducible refine RD.out.mono ?_); rintro e wd ⟨rfl, h⟩; have HW3 := Lib.hid h; clear h)
                go_wp2_with fail
                go_loopw [10, 11] (fun s10 s11 wx => ∃ (k : Nat) (b : Bool), k ≤ ml2 ∧ s11 = .int .i64 (k : Int) ∧ s10 = .bool b ∧ Hid (Seen m2 true S k b) ∧ wx = wd) (fun _ s11 _ => ml2 - (RowKit.intOf s11).toNat)
                case atStart => exact ⟨0, false, Nat.zero_le _, rfl, rfl, Lib.hid (fun j hj => absurd hj (by omega)), rfl⟩
                case round =>
                  obtain ⟨k, b, hk, rfl, rfl, HSE, hwq⟩ := hrel
                  replace hwq := hwq.symm
                  subst hwq
                  by_cases hkl : k < ml2
                  · have hkp : (k : Int) < (ml2 : Int) := by omega
                    have hk00 : (0 : Int) ≤ (k : Int) := Int.natCast_nonneg _
                    obtain ⟨t, ht⟩ : ∃ t, m2[k]? = some t := ⟨_, List.getElem?_eq_getElem (by rw [HMN.out]; exact hkl)⟩
                    have hct := HW3.out.row.cell ht
                    cases b with
                    | true =>
                      have HS2 : Hid (Seen m2 true S (k + 1) true) := Lib.hid fun _ _ _ _ => rfl
                      clear ht
                      go_wp2_with fail
                      go_roundw
                      case rel => exact ⟨k + 1, true, by omega, by go_num, rfl, HS2, (by first | rfl | trivial)⟩
                      case measure => simp [RowKit.intOf]; omega
                    | false =>
                      by_cases hts : t = S
                      · have hst : (t == S) = true := by simpa using hts
                        by_cases hk0 : 0 < k
                        · have hki : (0 : Int) < (k : Int) := by omega
                          have HS2 : Hid (Seen m2 true S (k + 1) true) := Lib.hid (fun _ _ _ _ => rfl)
                          clear ht hts
                          go_wp2_with fail
                          go_roundw
                          case rel => exact ⟨k + 1, true, by omega, by go_num, rfl, HS2, (by first | rfl | trivial)⟩
                          case measure => simp [RowKit.intOf]; omega
                        · have hki : ¬ (0 : Int) < (k : Int) := by omega
                          have HS2 : Hid (Seen m2 true S (k + 1) false) := Lib.hid (fun j hj h1 h2 => by rcases h2 with h2 | h2 <;> first | omega | cases h2)
                          clear ht hts
                          go_wp2_with fail
                          go_roundw
                          case rel => exact ⟨k + 1, false, by omega, by go_num, rfl, HS2, (by first | rfl | trivial)⟩
                          case measure => simp [RowKit.intOf]; omega
                      · have hst : (t == S) = false := by simpa using hts
                        have HS2 : Hid (Seen m2 true S (k + 1) false) := Lib.hid (fun j hj h1 h2 => by
                          by_cases e : j = k
                          · subst e; rw [ht] at h1; injection h1 with h1; exact absurd h1 hts
                          · exact HSE.out j (by omega) h1 h2)
                        clear ht hts
                        go_wp2_with fail
                        go_roundw
                        case rel => exact ⟨k + 1, false, by omega, by go_num, rfl, HS2, (by first | rfl | trivial)⟩
                        case measure => simp [RowKit.intOf]; omega
                  · have hkn : ¬ (k : Int) < (ml2 : Int) := by omega
                    have hb : b = true := by
                      obtain ⟨j, h1, h2, h3⟩ := HWIT.out
                      exact HSE.out j (by omega) h2 (by first | exact h3 | exact h3.imp id (fun _ => rfl) | (rcases h3 with h | h <;> first | exact .inl h | cases h))
                    subst hb
                    have hcd := HCR.out wd HW3.out.below
                    go_wp2_with fail
                    have HW4 := Lib.hid (HW3.out.one S)
                    have HI4 : Hid (Inv (Mof [S] false) (2 * (i + 1)) z2) := Lib.hid (HIC.out.up (fun o' h' => by
                      rw [HO.out] at h'
                      subst h'
                      exact Mof_told (some S)) (Nat.le_refl _))
                    go_roundw
                    case rel => exact ⟨i + 1, z2, [S], false, ⟨wd.heap.size, 0, none⟩, 1, 1, by omega, by go_num, rfl, rfl, Lib.hid ⟨rfl, by omega, by omega⟩, HL2, HI4, HW4⟩
                    case measure => simp [RowKit.intOf]; omega
              | false =>
                go_upto_region 21 with (go_at_call 8; (with_reducible refine RD.out.mono ?_); rintro e wd ⟨rfl, h⟩; have HW3 := Lib.hid h; clear h)
                go_wp2_with fail
                go_loopw [10, 11] (fun s10 s11 wx => ∃ (k : Nat) (b : Bool), k ≤ ml2 ∧ s11 = .int .i64 (k : Int) ∧ s10 = .bool b ∧ Hid (Seen m2 false S k b) ∧ wx = wd) (fun _ s11 _ => ml2 - (RowKit.intOf s11).toNat)
                case atStart => exact ⟨0, false, Nat.zero_le _, rfl, rfl, Lib.hid (fun j hj => absurd hj (by omega)), rfl⟩
                case round =>
                  obtain ⟨k, b, hk, rfl, rfl, HSE, hwq⟩ := hrel
                  replace hwq := hwq.symm
                  subst hwq
                  by_cases hkl : k < ml2
                  · have hkp : (k : Int) < (ml2 : Int) := by omega
                    have hk00 : (0 : Int) ≤ (k : Int) := Int.natCast_nonneg _
                    obtain ⟨t, ht⟩ : ∃ t, m2[k]? = some t := ⟨_, List.getElem?_eq_getElem (by rw [HMN.out]; exact hkl)⟩
                    have hct := HW3.out.row.cell ht
                    cases b with
                    | true =>
                      have HS2 : Hid (Seen m2 false S (k + 1) true) := Lib.hid fun _ _ _ _ => rfl
                      clear ht
                      go_wp2_with fail
                      go_roundw
                      case rel => exact ⟨k + 1, true, by omega, by go_num, rfl, HS2, (by first | rfl | trivial)⟩
                      case measure => simp [RowKit.intOf]; omega
                    | false =>
                      by_cases hts : t = S
                      · have hst : (t == S) = true := by simpa using hts
                        by_cases hk0 : 0 < k
                        · have hki : (0 : Int) < (k : Int) := by omega
                          have HS2 : Hid (Seen m2 false S (k + 1) true) := Lib.hid (fun _ _ _ _ => rfl)
                          clear ht hts
                          go_wp2_with fail
                          go_roundw
                          case rel => exact ⟨k + 1, true, by omega, by go_num, rfl, HS2, (by first | rfl | trivial)⟩
                          case measure => simp [RowKit.intOf]; omega
                        · have hki : ¬ (0 : Int) < (k : Int) := by omega
                          have HS2 : Hid (Seen m2 false S (k + 1) true) := Lib.hid (fun _ _ _ _ => rfl)
                          clear ht hts
                          go_wp2_with fail
                          go_roundw
                          case rel => exact ⟨k + 1, true, by omega, by go_num, rfl, HS2, (by first | rfl | trivial)⟩
                          case measure => simp [RowKit.intOf]; omega
                      · have hst : (t == S) = false := by simpa using hts
                        have HS2 : Hid (Seen m2 false S (k + 1) false) := Lib.hid (fun j hj h1 h2 => by
                          by_cases e : j = k
                          · subst e; rw [ht] at h1; injection h1 with h1; exact absurd h1 hts
                          · exact HSE.out j (by omega) h1 h2)
                        clear ht hts
                        go_wp2_with fail
                        go_roundw
                        case rel => exact ⟨k + 1, false, by omega, by go_num, rfl, HS2, (by first | rfl | trivial)⟩
                        case measure => simp [RowKit.intOf]; omega
                  · have hkn : ¬ (k : Int) < (ml2 : Int) := by omega
                    have hb : b = true := by
                      obtain ⟨j, h1, h2, h3⟩ := HWIT.out
                      exact HSE.out j (by omega) h2 (by first | exact h3 | exact h3.imp id (fun _ => rfl) | (rcases h3 with h | h <;> first | exact .inl h | cases h))
                    subst hb
                    have hcd := HCR.out wd HW3.out.below
                    go_wp2_with fail
                    have HW4 := Lib.hid (HW3.out.one S)
                    have HI4 : Hid (Inv (Mof [S] false) (2 * (i + 1)) z2) := Lib.hid (HIC.out.up (fun o' h' => by
                      rw [HO.out] at h'
                      subst h'
                      exact Mof_told (some S)) (Nat.le_refl _))
                    go_roundw
                    case rel => exact ⟨i + 1, z2, [S], false, ⟨wd.heap.size, 0, none⟩, 1, 1, by omega, by go_num, rfl, rfl, Lib.hid ⟨rfl, by omega, by omega⟩, HL2, HI4, HW4⟩
                    case measure => simp [RowKit.intOf]; omega
          | false =>
            have HWC : Hid (Calls Tryd.prog 18 #[ptr B] wb fun e w' => e = .returned (.tuple #[]) ∧ WS W B y.start (.slice (some ad2) ml2 c2) m2 w') := Lib.hid (HWB.out.goes fun F hd _ => (start_any hd).mono fun e w' ⟨h1, h2, h3⟩ => ⟨h1, .of h2 h3⟩)
            have HL2 : Hid (Live y.start) := Lib.hid ⟨rfl, rfl⟩
            have HI2 : Hid (Inv (Mof m2 nn) (2 * (i + 1)) y.start) := Lib.hid HI1.out.boot
            clear HI1 HWB
            generalize y.start = z2 at *
            go_upto_region 19 with (go_at_call 18; (with_reducible refine HWC.out.mono ?_); rintro e wc ⟨rfl, h⟩; have HW2 := Lib.hid h; clear h)
            have hml9 : ml2 ≤ 61 := by have := HML2.out.2.2; omega
            obtain ⟨o, ho⟩ : ∃ o, textV z2.read = o := ⟨_, rfl⟩
            have hM := HI2.out.read HL2.out.dead
            rw [ho] at hM
            have RD : Hid (Calls Tryd.prog 8 #[ptr B] wc fun e w' => e = .returned (.tuple #[.string ⟨(o.getD []).toArray⟩, .bool o.isSome]) ∧ WS W B z2 (.slice (some ad2) ml2 c2) m2 w') := Lib.hid (by
              obtain ⟨F, hd, _, _⟩ := HW2.out.ds.dk (i := 0) rfl
              refine (text_any hd).mono fun e w' ⟨he, hb⟩ => ⟨?_, HW2.out.step hb⟩
              unfold textR at he
              rw [ho] at he
              exact he)
            have HO := Lib.hid ho
            clear ho
            rcases hM with ⟨rfl, hnn⟩ | ⟨kk, S, hkk, rfl, hc3⟩
            · subst hnn
              go_upto_region 21 with (go_at_call 8; (with_reducible refine RD.out.mono ?_); rintro e wd ⟨rfl, h⟩; have HW3 := Lib.hid h; clear h)
              go_wp2_with fail
              go_loopw [10, 11] (fun s10 s11 wx => ∃ k : Nat, k ≤ ml2 ∧ s11 = .int .i64 (k : Int) ∧ s10 = .bool true ∧ wx = wd) (fun _ s11 _ => ml2 - (RowKit.intOf s11).toNat)
              case atStart => exact ⟨0, Nat.zero_le _, rfl, rfl, rfl⟩
              case round =>
                obtain ⟨k, hk, rfl, rfl, hwq⟩ := hrel
                replace hwq := hwq.symm
                subst hwq
                by_cases hkl : k < ml2
                · have hkp : (k : Int) < (ml2 : Int) := by omega
                  go_wp2_with fail
                  go_roundw
                  case rel => exact ⟨k + 1, by omega, by go_num, rfl, (by first | rfl | trivial)⟩
                  case measure => simp [RowKit.intOf]; omega
                · have hkn : ¬ (k : Int) < (ml2 : Int) := by omega
                  have hcd := HCR.out wd HW3.out.below
                  go_wp2_with fail
                  go_roundw
                  case rel => exact ⟨i + 1, z2, m2, true, ad2, ml2, c2, by omega, by go_num, rfl, rfl, HML2, HL2, HI2, HW3⟩
                  case measure => simp [RowKit.intOf]; omega
            · have HWIT := Lib.hid (show ∃ j, j < ml2 ∧ m2[j]? = some S ∧ (0 < j ∨ nn = false) from ⟨kk, HMN.out ▸ (List.getElem?_eq_some_iff.1 hkk).1, hkk, hc3⟩)
              clear hkk hc3
              cases nn with
              | true =>
                go_upto_region 21 with (go_at_call 8; (with_reducible refine RD.out.mono ?_); rintro e wd ⟨rfl, h⟩; have HW3 := Lib.hid h; clear h)
                go_wp2_with fail
                go_loopw [10, 11] (fun s10 s11 wx => ∃ (k : Nat) (b : Bool), k ≤ ml2 ∧ s11 = .int .i64 (k : Int) ∧ s10 = .bool b ∧ Hid (Seen m2 true S k b) ∧ wx = wd) (fun _ s11 _ => ml2 - (RowKit.intOf s11).toNat)
                case atStart => exact ⟨0, false, Nat.zero_le _, rfl, rfl, Lib.hid (fun j hj => absurd hj (by omega)), rfl⟩
                case round =>
                  obtain ⟨k, b, hk, rfl, rfl, HSE, hwq⟩ := hrel
                  replace hwq := hwq.symm
                  subst hwq
                  by_cases hkl : k < ml2
                  · have hkp : (k : Int) < (ml2 : Int) := by omega
                    have hk00 : (0 : Int) ≤ (k : Int) := Int.natCast_nonneg _
                    obtain ⟨t, ht⟩ : ∃ t, m2[k]? = some t := ⟨_, List.getElem?_eq_getElem (by rw [HMN.out]; exact hkl)⟩
                    have hct := HW3.out.row.cell ht
                    cases b with
                    | true =>
                      have HS2 : Hid (Seen m2 true S (k + 1) true) := Lib.hid fun _ _ _ _ => rfl
                      clear ht
                      go_wp2_with fail
                      go_roundw
                      case rel => exact ⟨k + 1, true, by omega, by go_num, rfl, HS2, (by first | rfl | trivial)⟩
                      case measure => simp [RowKit.intOf]; omega
                    | false =>
                      by_cases hts : t = S
                      · have hst : (t == S) = true := by simpa using hts
                        by_cases hk0 : 0 < k
                        · have hki : (0 : Int) < (k : Int) := by omega
                          have HS2 : Hid (Seen m2 true S (k + 1) true) := Lib.hid (fun _ _ _ _ => rfl)
                          clear ht hts
                          go_wp2_with fail
                          go_roundw
                          case rel => exact ⟨k + 1, true, by omega, by go_num, rfl, HS2, (by first | rfl | trivial)⟩
                          case measure => simp [RowKit.intOf]; omega
                        · have hki : ¬ (0 : Int) < (k : Int) := by omega
                          have HS2 : Hid (Seen m2 true S (k + 1) false) := Lib.hid (fun j hj h1 h2 => by rcases h2 with h2 | h2 <;> first | omega | cases h2)
                          clear ht hts
                          go_wp2_with fail
                          go_roundw
                          case rel => exact ⟨k + 1, false, by omega, by go_num, rfl, HS2, (by first | rfl | trivial)⟩
                          case measure => simp [RowKit.intOf]; omega
                      · have hst : (t == S) = false := by simpa using hts
                        have HS2 : Hid (Seen m2 true S (k + 1) false) := Lib.hid (fun j hj h1 h2 => by
                          by_cases e : j = k
                          · subst e; rw [ht] at h1; injection h1 with h1; exact absurd h1 hts
                          · exact HSE.out j (by omega) h1 h2)
                        clear ht hts
                        go_wp2_with fail
                        go_roundw
                        case rel => exact ⟨k + 1, false, by omega, by go_num, rfl, HS2, (by first | rfl | trivial)⟩
                        case measure => simp [RowKit.intOf]; omega
                  · have hkn : ¬ (k : Int) < (ml2 : Int) := by omega
                    have hb : b = true := by
                      obtain ⟨j, h1, h2, h3⟩ := HWIT.out
                      exact HSE.out j (by omega) h2 (by first | exact h3 | exact h3.imp id (fun _ => rfl) | (rcases h3 with h | h <;> first | exact .inl h | cases h))
                    subst hb
                    have hcd := HCR.out wd HW3.out.below
                    go_wp2_with fail
                    go_roundw
                    case rel => exact ⟨i + 1, z2, m2, true, ad2, ml2, c2, by omega, by go_num, rfl, rfl, HML2, HL2, HI2, HW3⟩
                    case measure => simp [RowKit.intOf]; omega
              | false =>
                go_upto_region 21 with (go_at_call 8; (with_reducible refine RD.out.mono ?_); rintro e wd ⟨rfl, h⟩; have HW3 := Lib.hid h; clear h)
                go_wp2_with fail
                go_loopw [10, 11] (fun s10 s11 wx => ∃ (k : Nat) (b : Bool), k ≤ ml2 ∧ s11 = .int .i64 (k : Int) ∧ s10 = .bool b ∧ Hid (Seen m2 false S k b) ∧ wx = wd) (fun _ s11 _ => ml2 - (RowKit.intOf s11).toNat)
                case atStart => exact ⟨0, false, Nat.zero_le _, rfl, rfl, Lib.hid (fun j hj => absurd hj (by omega)), rfl⟩
                case round =>
                  obtain ⟨k, b, hk, rfl, rfl, HSE, hwq⟩ := hrel
                  replace hwq := hwq.symm
                  subst hwq
                  by_cases hkl : k < ml2
                  · have hkp : (k : Int) < (ml2 : Int) := by omega
                    have hk00 : (0 : Int) ≤ (k : Int) := Int.natCast_nonneg _
                    obtain ⟨t, ht⟩ : ∃ t, m2[k]? = some t := ⟨_, List.getElem?_eq_getElem (by rw [HMN.out]; exact hkl)⟩
                    have hct := HW3.out.row.cell ht
                    cases b with
                    | true =>
                      have HS2 : Hid (Seen m2 false S (k + 1) true) := Lib.hid fun _ _ _ _ => rfl
                      clear ht
                      go_wp2_with fail
                      go_roundw
                      case rel => exact ⟨k + 1, true, by omega, by go_num, rfl, HS2, (by first | rfl | trivial)⟩
                      case measure => simp [RowKit.intOf]; omega
                    | false =>
                      by_cases hts : t = S
                      · have hst : (t == S) = true := by simpa using hts
                        by_cases hk0 : 0 < k
                        · have hki : (0 : Int) < (k : Int) := by omega
                          have HS2 : Hid (Seen m2 false S (k + 1) true) := Lib.hid (fun _ _ _ _ => rfl)
                          clear ht hts
                          go_wp2_with fail
                          go_roundw
                          case rel => exact ⟨k + 1, true, by omega, by go_num, rfl, HS2, (by first | rfl | trivial)⟩
                          case measure => simp [RowKit.intOf]; omega
                        · have hki : ¬ (0 : Int) < (k : Int) := by omega
                          have HS2 : Hid (Seen m2 false S (k + 1) true) := Lib.hid (fun _ _ _ _ => rfl)
                          clear ht hts
                          go_wp2_with fail
                          go_roundw
                          case rel => exact ⟨k + 1, true, by omega, by go_num, rfl, HS2, (by first | rfl | trivial)⟩
                          case measure => simp [RowKit.intOf]; omega
                      · have hst : (t == S) = false := by simpa using hts
                        have HS2 : Hid (Seen m2 false S (k + 1) false) := Lib.hid (fun j hj h1 h2 => by
                          by_cases e : j = k
                          · subst e; rw [ht] at h1; injection h1 with h1; exact absurd h1 hts
                          · exact HSE.out j (by omega) h1 h2)
                        clear ht hts
                        go_wp2_with fail
                        go_roundw
                        case rel => exact ⟨k + 1, false, by omega, by go_num, rfl, HS2, (by first | rfl | trivial)⟩
                        case measure => simp [RowKit.intOf]; omega
                  · have hkn : ¬ (k : Int) < (ml2 : Int) := by omega
                    have hb : b = true := by
                      obtain ⟨j, h1, h2, h3⟩ := HWIT.out
                      exact HSE.out j (by omega) h2 (by first | exact h3 | exact h3.imp id (fun _ => rfl) | (rcases h3 with h | h <;> first | exact .inl h | cases h))
                    subst hb
                    have hcd := HCR.out wd HW3.out.below
                    go_wp2_with fail
                    go_roundw
                    case rel => exact ⟨i + 1, z2, m2, false, ad2, ml2, c2, by omega, by go_num, rfl, rfl, HML2, HL2, HI2, HW3⟩
                    case measure => simp [RowKit.intOf]; omega
      · obtain rfl : i = n := by omega
        have HBE := Lib.hid HW.out.below
        go_wp2_with fail
        go_ret
        exact ⟨rfl, HBE.out⟩
  · go_ret
    exact ⟨rfl, HB.out⟩
end M
end Go.Proofs.YtoacmingocmaaaaDoor

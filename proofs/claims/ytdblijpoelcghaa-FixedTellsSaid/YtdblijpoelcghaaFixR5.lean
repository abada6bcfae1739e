/- The document's own: may a model be. -/
import Derived.Test.YtdblijpoelcghaaFixR3
namespace Go.Proofs.Ytdblijpoelcghaa
open Go Go.RowKit Go.Lib
namespace M
set_option maxRecDepth 100000 in
set_option maxHeartbeats 8000000 in
theorem rmay_any (p : Pm) (v : MoV) (o : MM.Mo) (W : World) (hr : MoAt W v o) :
    Calls Try.prog 31 #[.agg p.cells, .agg (v.cells o)] W fun e w' => e = .returned (.bool (decide (MM.Valid p o))) ∧ Below W.heap.size W w' := by
  obtain ⟨wo, wc, bo, bc⟩ := v
  have HI : Hid (InM W W.heap.size (W.heap.size + 1) p ⟨wo, wc, bo, bc⟩ o _) := Lib.hid (InM.new W p _ o hr)
  have HU := rfit_any p
  have HNV : Hid (¬ MM.Valid p o → decide (MM.Valid p o) = false) := Lib.hid fun h => decide_eq_false h
  have HV : Hid (MM.Valid p o → decide (MM.Valid p o) = true) := Lib.hid fun h => decide_eq_true h
  generalize decide (MM.Valid p o) = ans at *
  clear hr
  by_cases hf : MM.Fit p
  · rw [decide_eq_true hf] at HU
    by_cases hm : (o.m : Int) = p.K
    · by_cases hn : (o.n : Int) = p.K
      · have h20 : 0 ≤ p.M ∧ p.M ≤ 1048576 := ⟨hf.2.2.2.2.1, hf.2.2.2.2.2.1⟩
        have HW := Lib.hid (fun n => rwithin_any n p.M h20)
        have HF := Lib.hid hf
        have hm2 : o.m ≤ 2 := by have := hf.2.1; omega
        obtain ⟨d, hd⟩ : ∃ d : Nat, p.D = (d : Int) := ⟨p.D.toNat, by have := hf.2.2.1; omega⟩
        have hd4 : d ≤ 4 := by have := hf.2.2.2.1; omega
        have HD := Lib.hid hd
        have HM := Lib.hid hm
        have HN := Lib.hid hn
        have hnm : o.n = o.m := by omega
        clear hf h20
        go_enter Try.func31, Try.ntmps31
        go_upto_region 3 with (first
          | (refine load_pm ?_ _ rfl W.heap.size rfl p HI.out.box ?_; first | rfl | (simp [Region.wanted, yielded]; done))
          | (go_at_call 42; (with_reducible refine (HU.at _).mono ?_); rintro e w1 ⟨rfl, hb⟩; replace HI := Lib.hid (HI.out.step hb); have k7 := HI.out.box.cell 7; have k8 := HI.out.box.cell 8; have c0 := HI.out.mod.cell 0; have c1 := HI.out.mod.cell 1; clear hb))
        have hw1 := HI
        obtain ⟨w3, hw3⟩ : ∃ w3, w3 = w1 := ⟨_, rfl⟩
        subst hw3
        clear k7 k8 c0 c1 hm hn hd
        have q7 : w3.cell? ⟨W.heap.size, 7, none⟩ = some (.int .i64 (o.m : Int)) := by rw [HM.out]; exact HI.out.box.cell 7
        have q8 : w3.cell? ⟨W.heap.size, 8, none⟩ = some (.int .i64 (d : Int)) := by rw [← HD.out]; exact HI.out.box.cell 8
        have q10 : w3.cell? ⟨W.heap.size, 10, none⟩ = some (.int .i64 p.M) := HI.out.box.cell 10
        have c0 : w3.cell? ⟨W.heap.size + 1, 0, none⟩ = some (.slice wo o.m wc) := HI.out.mod.cell 0
        have c1 : w3.cell? ⟨W.heap.size + 1, 1, none⟩ = some (.slice bo o.n bc) := HI.out.mod.cell 1
        go_wp2_with fail
        go_loopw [5] (fun s5 wx => ∃ k dd : Nat, k ≤ o.m ∧ s5 = .int .i64 (k : Int) ∧ wx = w3.drewN dd ∧ Hid (∀ i, i < k → o.L i = d ∧ MM.Wi p.M (o.L i) (o.F i) ∧ (-p.M ≤ o.b i ∧ o.b i ≤ p.M))) (fun s5 _ => o.m - (RowKit.intOf s5).toNat)
        case atStart => exact ⟨0, 0, Nat.zero_le _, rfl, rfl, Lib.hid fun i hi => absurd hi (by omega)⟩
        case round =>
          obtain ⟨k, dd, hk, rfl, rfl, HJ⟩ := hrel
          have hk0 : (0 : Int) ≤ (k : Int) := Int.natCast_nonneg _
          by_cases hlt : k < o.m
          · have hkI : (k : Int) < (o.m : Int) := by omega
            have hkN : (k : Int) < (o.n : Int) := by omega
            obtain ⟨ad, ro, rc, hwo, hc, hs⟩ := HI.out.mat.mat k hlt
            have hwo' : wo = some ad := hwo
            subst hwo'
            obtain ⟨bd, hbo, hcb⟩ := HI.out.mat.bias.at_ (k := k) (by show k < o.n; omega)
            have hbo' : bo = some bd := hbo
            subst hbo'
            have HS := Lib.hid hs
            have HX := HW.out (o.b k)
            have HNB : Hid (¬ (-p.M ≤ o.b k ∧ o.b k ≤ p.M) → ans = false) := Lib.hid fun h => HNV.out fun hq => h (hq.2.2.2.2.2 k (by omega))
            have HNL : Hid (o.L k ≠ d → ans = false) := Lib.hid fun h => HNV.out fun hq => h (by have := hq.2.2.2.1 k hlt; have := HD.out; omega)
            have HNX : Hid (∀ i, i < o.L k → ¬ (-p.M ≤ o.F k i ∧ o.F k i ≤ p.M) → ans = false) := Lib.hid fun i hi h => HNV.out fun hq => h (hq.2.2.2.2.1 k hlt i hi)
            have HNEXT : Hid (o.L k = d ∧ MM.Wi p.M (o.L k) (o.F k) ∧ (-p.M ≤ o.b k ∧ o.b k ≤ p.M) → ∀ i, i < k + 1 → o.L i = d ∧ MM.Wi p.M (o.L i) (o.F i) ∧ (-p.M ≤ o.b i ∧ o.b i ≤ p.M)) := Lib.hid fun h i hi => by
              by_cases e : i = k
              · subst e; exact h
              · exact HJ.out i (by omega)
            clear hwo hbo hs HJ HW
            have HWF := Lib.hid (fun n => rwithin_any n p.M (show 0 ≤ p.M ∧ p.M ≤ 1048576 from ⟨HF.out.2.2.2.2.1, HF.out.2.2.2.2.2.1⟩))
            generalize o.L k = lk at *
            go_upto_region 6 with fail
            generalize hwr : w3.drewN dd = wr
            have q8 : wr.cell? ⟨W.heap.size, 8, none⟩ = some (.int .i64 (d : Int)) := by rw [← hwr]; exact q8
            have q10 : wr.cell? ⟨W.heap.size, 10, none⟩ = some (.int .i64 p.M) := by rw [← hwr]; exact q10
            have c0 : wr.cell? ⟨W.heap.size + 1, 0, none⟩ = some (.slice (some ad) o.m wc) := by rw [← hwr]; exact c0
            have c1 : wr.cell? ⟨W.heap.size + 1, 1, none⟩ = some (.slice (some bd) o.n bc) := by rw [← hwr]; exact c1
            have hc : wr.cell? (ad.add k) = some (.slice ro lk rc) := by rw [← hwr]; exact hc
            have hcb : wr.cell? (bd.add k) = some (.int .i64 (o.b k)) := by rw [← hwr]; exact hcb
            have HWR := Lib.hid hwr
            have HBW : Hid (Below W.heap.size W wr) := Lib.hid (by rw [← hwr]; exact Below.drawn HI.out.below _)
            clear hwr q7
            by_cases hl : lk = d
            · subst hl
              by_cases hb : -p.M ≤ o.b k ∧ o.b k ≤ p.M
              · rw [decide_eq_true hb] at HX
                have HB2 := Lib.hid hb
                generalize o.b k = bk at *
                clear hb
                go_quiet ((go_at_call 45; with_reducible exact (HX).quiet))
                go_upto_region 8 with fail
                generalize hwv : wr.drewN _ = wv
                have q8 : wv.cell? ⟨W.heap.size, 8, none⟩ = some (.int .i64 (lk : Int)) := by rw [← hwv]; exact q8
                have q10 : wv.cell? ⟨W.heap.size, 10, none⟩ = some (.int .i64 p.M) := by rw [← hwv]; exact q10
                have c0 : wv.cell? ⟨W.heap.size + 1, 0, none⟩ = some (.slice (some ad) o.m wc) := by rw [← hwv]; exact c0
                have hc : wv.cell? (ad.add k) = some (.slice ro lk rc) := by rw [← hwv]; exact hc
                have HRW := Lib.hid (HS.out.below (W' := wv) (by rw [← hwv, ← HWR.out]; exact Below.drawn (Below.drawn (Below.refl _ _) _) _))
                have HWV := Lib.hid hwv
                have HBV : Hid (Below W.heap.size W wv) := Lib.hid (by rw [← hwv]; exact Below.drawn HBW.out _)
                have HDV : Hid (∃ e, wv = w3.drewN e) := Lib.hid ⟨_, by rw [← hwv, ← HWR.out]; exact World.drewN_drewN _ _ _⟩
                clear hwv c1 hcb HWR HBW HWV
                generalize o.F k = F at *
                go_wp2_with fail
                go_loopw [6] (fun s6 wx => ∃ i dv : Nat, i ≤ lk ∧ s6 = .int .i64 (i : Int) ∧ wx = wv.drewN dv ∧ Hid (MM.Wi p.M i F)) (fun s6 _ => lk - (RowKit.intOf s6).toNat)
                case atStart => exact ⟨0, 0, Nat.zero_le _, rfl, rfl, Lib.hid fun j h => absurd h (by omega)⟩
                case round =>
                  obtain ⟨i, dv, hi, rfl, rfl, HJW⟩ := hrel
                  have hi0 : (0 : Int) ≤ (i : Int) := Int.natCast_nonneg _
                  by_cases hlt2 : i < lk
                  · have hiI : (i : Int) < (lk : Int) := by omega
                    obtain ⟨rd, rfl, hcr⟩ := HRW.out.at_ hlt2
                    have HX2 := HWF.out (F i)
                    have HN3 : Hid ((-p.M ≤ F i ∧ F i ≤ p.M) → MM.Wi p.M (i + 1) F) := Lib.hid fun h j hj => by
                      by_cases e : j = i
                      · subst e; exact h
                      · exact HJW.out j (by omega)
                    have HNN := Lib.hid (fun h => HNX.out i hlt2 h)
                    go_upto_region 11 with fail
                    generalize hwq : wv.drewN dv = wq
                    have q10 : wq.cell? ⟨W.heap.size, 10, none⟩ = some (.int .i64 p.M) := by rw [← hwq]; exact q10
                    have c0 : wq.cell? ⟨W.heap.size + 1, 0, none⟩ = some (.slice (some ad) o.m wc) := by rw [← hwq]; exact c0
                    have hc : wq.cell? (ad.add k) = some (.slice (some rd) lk rc) := by rw [← hwq]; exact hc
                    have hcr : wq.cell? (rd.add i) = some (.int .i64 (F i)) := by rw [← hwq]; exact hcr
                    have HWQ := Lib.hid hwq
                    clear hwq
                    by_cases hw : -p.M ≤ F i ∧ F i ≤ p.M
                    · rw [decide_eq_true hw] at HX2
                      have HN4 := Lib.hid (HN3.out hw)
                      clear HN3 HNN hw
                      generalize F i = xk at *
                      go_quiet ((go_at_call 45; with_reducible exact (HX2).quiet))
                      go_wp2_with fail
                      go_roundw
                      case rel => exact ⟨i + 1, _, by omega, by go_num, by rw [← HWQ.out]; exact World.drewN_drewN _ _ _, HN4⟩
                      case measure => simp [RowKit.intOf]; omega
                    · rw [decide_eq_false hw] at HX2
                      have HZ := Lib.hid (HNN.out hw)
                      clear HN3 HNN hw
                      generalize F i = xk at *
                      go_quiet ((go_at_call 45; with_reducible exact (HX2).quiet))
                      go_wp2_with fail
                      go_ret
                      refine ⟨by rw [HZ.out]; rfl, ?_⟩
                      rw [← HWQ.out]
                      exact Below.drawn (Below.drawn HBV.out _) _
                  · have hiI : ¬ (i : Int) < (lk : Int) := by omega
                    have hil : i = lk := by omega
                    rw [hil] at HJW
                    have HNX2 := Lib.hid (HNEXT.out ⟨by trivial, HJW.out, HB2.out⟩)
                    clear HNEXT HNX HNL HNB
                    go_wp2_with fail
                    go_roundw
                    case rel =>
                      obtain ⟨e, he⟩ := HDV.out
                      exact ⟨k + 1, _, by omega, by go_num, by rw [he]; exact World.drewN_drewN _ _ _, HNX2⟩
                    case measure => simp [RowKit.intOf]; omega
              · have HZ := Lib.hid (HNB.out hb)
                rw [decide_eq_false hb] at HX
                generalize o.b k = bk at *
                clear HNB HNL HNX HNEXT hb
                go_quiet ((go_at_call 45; with_reducible exact (HX).quiet))
                go_wp2_with fail
                go_ret
                exact ⟨by rw [HZ.out]; rfl, Below.drawn HBW.out _⟩
            · have HZ := Lib.hid (HNL.out hl)
              have hlI : ((lk : Int) != (d : Int)) = true := by simp; omega
              clear HNB HNL HNX HNEXT
              go_quiet (fail)
              go_wp2_with fail
              go_ret
              exact ⟨by rw [HZ.out]; rfl, Below.drawn HBW.out _⟩
          · have hkI : ¬ (k : Int) < (o.m : Int) := by omega
            have hkm : k = o.m := by omega
            rw [hkm] at HJ
            have HZ := Lib.hid (HV.out ⟨HF.out, HM.out, HN.out, fun i hi => by rw [(HJ.out i hi).1]; exact HD.out.symm, fun i hi => (HJ.out i hi).2.1, fun i hi => (HJ.out i (by omega)).2.2⟩)
            go_wp2_with fail
            go_ret
            exact ⟨by rw [HZ.out]; rfl, Below.drawn HI.out.below _⟩
      · have HZ := Lib.hid (HNV.out fun h => hn h.2.2.1)
        clear hf
        go_enter Try.func31, Try.ntmps31
        go_wp2_with (first
          | (refine load_pm ?_ _ rfl W.heap.size rfl p HI.out.box ?_; first | rfl | (simp [Region.wanted, yielded]; done))
          | (go_at_call 42; (with_reducible refine (HU.at _).mono ?_); rintro e w1 ⟨rfl, hb⟩; replace HI := Lib.hid (HI.out.step hb); have k7 := HI.out.box.cell 7; have k8 := HI.out.box.cell 8; have c0 := HI.out.mod.cell 0; have c1 := HI.out.mod.cell 1; clear hb))
        go_ret
        exact ⟨by rw [HZ.out]; rfl, HI.out.below⟩
    · have HZ := Lib.hid (HNV.out fun h => hm h.2.1)
      clear hf
      go_enter Try.func31, Try.ntmps31
      go_wp2_with (first
        | (refine load_pm ?_ _ rfl W.heap.size rfl p HI.out.box ?_; first | rfl | (simp [Region.wanted, yielded]; done))
        | (go_at_call 42; (with_reducible refine (HU.at _).mono ?_); rintro e w1 ⟨rfl, hb⟩; replace HI := Lib.hid (HI.out.step hb); have k7 := HI.out.box.cell 7; have k8 := HI.out.box.cell 8; have c0 := HI.out.mod.cell 0; have c1 := HI.out.mod.cell 1; clear hb))
      go_ret
      exact ⟨by rw [HZ.out]; rfl, HI.out.below⟩
  · have HZ := Lib.hid (HNV.out fun h => hf h.1)
    rw [decide_eq_false hf] at HU
    clear hf
    go_enter Try.func31, Try.ntmps31
    go_wp2_with (first
      | (refine load_pm ?_ _ rfl W.heap.size rfl p HI.out.box ?_; first | rfl | (simp [Region.wanted, yielded]; done))
      | (go_at_call 42; (with_reducible refine (HU.at _).mono ?_); rintro e w1 ⟨rfl, hb⟩; replace HI := Lib.hid (HI.out.step hb); have k7 := HI.out.box.cell 7; have k8 := HI.out.box.cell 8; have c0 := HI.out.mod.cell 0; have c1 := HI.out.mod.cell 1; clear hb))
    go_ret
    exact ⟨by rw [HZ.out]; rfl, HI.out.below⟩
end M
end Go.Proofs.Ytdblijpoelcghaa

/- Whatever things were written, one behind the other, they are read, one behind the other; then nothing is left: whatever comes in. -/
import Derived.Test.YtaijnejbffnfpaaRows
import Derived.Test.YtaijnejbffnfpaaWB1
import Derived.Test.YtaijnejbffnfpaaWB11
import Derived.Test.YtaijnejbffnfpaaWB10
import Derived.SizedLaws
namespace Go.Proofs.Ytaijnejbffnfpaa
open Go.ChangeShapes Go.WideShapes Go.ChangeAt Go.RowKit
namespace WireBack
open M

set_option maxHeartbeats 8000000 in
set_option maxRecDepth 100000 in
theorem walk (v : Value) (W : World) (hv : ∃ (ao : Option Addr) (n c : Nat) (f : Nat → Th), v = .slice ao n c ∧ n ≤ 9223372036854775807 ∧
    (∀ i, i < n → (f i).Ok ∧ Rd W (f i).ao (f i).len (f i).z ∧ ∃ a, ao = some a ∧ ∀ (j : Nat) (u : Value), (f i).cells[j]? = some u → W.cell? (a.add (i * 5 + j)) = some u) ∧ ∀ i, i < n → (f i).s.length ≤ 140737488355328 ∧ (f i).len ≤ 140737488355328) :
    Calls Try.prog 6 #[v] W fun e w' => e = .returned (.bool true) ∧ Below W.heap.size W w' := by
  obtain ⟨ao, n, c, f, rfl, hn, hf, hz⟩ := hv
  have HLG := Lib.hid (long_any ao n c f hn W (fun i hi => ⟨(hz i hi).1, (hz i hi).2, (hf i hi).2.2⟩))
  have HF := Lib.hid hf
  clear hf hz
  go_enter Try.func6, Try.ntmps6
  go_wp2_with (first
    | (go_at_call 16; (with_reducible refine (awake_any _).mono ?_); rintro e w1 ⟨rfl, hb1⟩; have HB1 := Lib.hid hb1; clear hb1)
    | (go_at_call 41; (with_reducible refine HLG.out.mono ?_); rintro e w2 ⟨r, rfl, hsm, hb2⟩; have HSM := Lib.hid hsm; have HB2 := Lib.hid hb2; clear hsm hb2; cases r))
  · have hn450 : n ≤ 450 := by
      have h1 := HSM.out trivial
      have h2 := MM.sm_ge f n
      omega
    have HI := Lib.hid (HB2.out.trans (HB1.out.mono HB2.out.size))
    clear HSM HB1 HB2 HLG
    go_loopw [3, 4] (fun s3 s4 wx => ∃ i : Nat, i ≤ n ∧ s4 = .int .i64 (i : Int) ∧ s3 = .string ⟨(MM.cat f i).toArray⟩ ∧ Hid (∀ j, j < i → (f j).may = true) ∧ Below W.heap.size W wx) (fun _ s4 _ => n - (RowKit.intOf s4).toNat)
    case atStart => exact ⟨0, Nat.zero_le _, rfl, rfl, Lib.hid (fun j hj => absurd hj (by omega)), HI.out⟩
    case round =>
      obtain ⟨i, hi, rfl, rfl, HMAY, hM⟩ := hrel
      have HK := Lib.hid hM
      clear hM
      by_cases hlt : i < n
      · obtain ⟨hok, hrd, a, ha, hcl⟩ := HF.out i hlt
        subst ha
        obtain ⟨B, O, hadr, hr0⟩ := thing_range hcl
        have HRG := Lib.hid (range_below hr0 HK.out)
        have HG := Lib.hid (may_any (f i) wr)
        have hcl10 : (MM.cat f i).length ≤ 7000000 := by have := MM.cat_len f i; omega
        have HP := Lib.hid (fun w1 (hb : Below wr.heap.size wr w1) => put_any (f i) hok (MM.cat f i) hcl10 w1 ((hrd.below HK.out).below hb))
        rw [← MM.cat_succ f i] at HP
        clear hcl hr0 hok hrd hcl10
        generalize hS1 : MM.cat f (i + 1) = s1 at *
        have HS1 := Lib.hid hS1
        generalize hfi : f i = t at *
        have HFI := Lib.hid hfi
        clear hS1 hfi
        generalize wr = w0 at *
        go_wp2_with (first
          | (refine wpList_load_mid rfl 45 _ rfl B O rfl t.cells.toList _ HRG.out Try.underlying45 rfl (info_th2 t) ?_)
          | (refine wpList_load_mid rfl 45 _ rfl B O rfl t.cells.toList _ HRG1.out Try.underlying45 rfl (info_th2 t) ?_)
          | (go_at_call 42; (with_reducible refine HG.out.mono ?_); rintro e w1 ⟨rfl, hb1⟩; have HB1 := Lib.hid hb1; have HRG1 := Lib.hid (range_below HRG.out hb1); clear hb1; rcases hmb : t.may with _ | _)
          | (go_at_call 43; (with_reducible refine (HP.out _ HB1.out).mono ?_); rintro e w2 ⟨rfl, hb2⟩; have HB2 := Lib.hid hb2; clear hb2))
        · go_ret
          exact ⟨rfl, HK.out.trans (HB1.out.mono HK.out.size)⟩
        · go_roundw
          case rel => exact ⟨i + 1, by omega, by go_num, by rw [HS1.out], Lib.hid (fun j hj => by
            by_cases e : j = i
            · subst e; rw [HFI.out]; exact hmb
            · exact HMAY.out j (by omega)), (HK.out.trans (HB1.out.mono HK.out.size)).trans (HB2.out.mono (Nat.le_trans HK.out.size HB1.out.size))⟩
          case measure => simp [RowKit.intOf]; omega
      · obtain rfl : i = n := by omega
        have HO := open_any (MM.cat f i) (by have := MM.cat_len f i; omega) wr
        have HGE := fun j (hj : j < i) => MM.cat_at f i j hj
        have HE0 : Hid ((MM.cat f i).drop (MM.cat f i).length = []) := Lib.hid (by simp)
        clear HI
        generalize hS : MM.cat f i = S at *
        have HS0 := Lib.hid hS
        clear hS
        go_wp2_with (go_at_call 20; (with_reducible refine HO.mono ?_); rintro e w2 ⟨g, rfl, hg, hr, hb2⟩; have HI : Hid (InG W g S 0 w2) := Lib.hid ⟨hr, HK.out.trans (hb2.mono HK.out.size), Nat.le_trans HK.out.size hg⟩; clear hb2 hg hr)
        clear HK
        have HGE := Lib.hid HGE
        go_loopw [6] (fun s6 wx => ∃ k : Nat, k ≤ i ∧ s6 = .int .i64 (k : Int) ∧ InG W g (S.drop (MM.cat f k).length) 0 wx) (fun s6 _ => i - (RowKit.intOf s6).toNat)
        case atStart => exact ⟨0, Nat.zero_le _, rfl, HI.out⟩
        case round =>
          obtain ⟨k, hk, rfl, hM⟩ := hrel
          have HK := Lib.hid hM
          clear hM HI
          by_cases hlt : k < i
          · obtain ⟨hok, hrd, a, ha, hcl⟩ := HF.out k hlt
            subst ha
            obtain ⟨B, O, hadr, hr0⟩ := thing_range hcl
            have HRG := Lib.hid (range_below hr0 HK.out.below)
            have HR0 := Lib.hid hr0
            have HRDW := Lib.hid hrd
            have HOKT := Lib.hid hok
            have hge := HGE.out k hlt
            have hmay := Lib.hid (HMAY.out k hlt)
            rw [hge] at HK
            generalize hmore : S.drop (MM.cat f (k + 1)).length = more at *
            have HMO := Lib.hid hmore
            have HG := Lib.hid (got_any (f k) hok.k g ((f k).bytes ++ more) wr HK.out.rg)
            clear hcl hr0 hok hrd hge hmore
            generalize f k = t at *
            generalize wr = w0 at *
            go_upto_region 15 with (first
              | (refine wpList_load_mid rfl 45 _ rfl B O rfl t.cells.toList _ HRG.out Try.underlying45 rfl (info_th2 t) ?_)
              | (go_at_call 21; (with_reducible refine HG.out.mono ?_); rintro e w1 ⟨y, er, rest, rfl, hr1, ht1, hrd1, hS⟩; have HSS : Hid (GotS t.k (t.bytes ++ more) y er rest) := Lib.hid hS; obtain ⟨rfl, hyb, rfl⟩ := GotS.whole HSS.out HOKT.out hmay.out; have HYB := Lib.hid hyb; have HYK := Lib.hid HSS.out.kind; have HYO := Lib.hid HSS.out.ok; have HK1 := Lib.hid (HK.out.next hr1 ht1); have HRD1 := Lib.hid hrd1; clear hr1 ht1 hrd1 hS hyb HSS)
              | (refine wpList_store_row rfl 45 _ _ rfl w1.heap.size y.cells rfl rfl 45 zTh (heap_alloc_new w1 _) info_th rfl (th_one y) ?_))
            have HB3 := boxed_below w1 y.cells
            have HK3 := HK1.out.step HB3
            have HS3 : Hid (BK W g rest w1.heap.size y B O t ((w1.alloc (.cells zTh 45)).setRow w1.heap.size y.cells)) := Lib.hid ⟨HK3, boxed_at w1 y.cells, range_below HR0.out HK3.below, HRD1.out.below HB3, HRDW.out.below HK3.below⟩
            clear HB3 HK3 HK1 HRD1 HG HRG HK
            generalize (w1.alloc (.cells zTh 45)).setRow w1.heap.size y.cells = w3 at *
            generalize w1.heap.size = b1 at *
            have hki : (k : Int) < (i : Int) := by omega
            refine RK.region (BK W g rest b1 y B O t) 100 (by kernel_rfl) ?_
            have hS0 : BK W g rest b1 y B O t w3.drew := HS3.out.step (Below.drawn (Below.refl _ _) 1)
            refine RK.Any.take 0 51 (.int .i64 0) rfl rfl (by kernel_rfl) (by kernel_rfl) (by kernel_rfl) (by kernel_rfl) (fun _ _ _ h => h) (by rfl) (fun W' hb => ?_) hS0 ?_
            · go_simp
            simp only [List.setIfInBounds_toArray, List.set_cons_zero, List.set_cons_succ]
            refine RK.Any.take 1 52 (.bool false) rfl rfl (by kernel_rfl) (by kernel_rfl) (by kernel_rfl) (by kernel_rfl) (fun _ _ _ h => h) (by rfl) (fun W' hb => ?_) hS0 ?_
            · go_simp
            simp only [List.setIfInBounds_toArray, List.set_cons_zero, List.set_cons_succ]
            refine RK.Any.take 2 53 (.bool false) rfl rfl (by kernel_rfl) (by kernel_rfl) (by kernel_rfl) (by kernel_rfl) (fun _ _ _ h => h) (by rfl) (fun W' hb => ?_) hS0 ?_
            · go_simp
            simp only [List.setIfInBounds_toArray, List.set_cons_zero, List.set_cons_succ]
            refine RK.Any.take 3 54 (.agg y.cells) rfl rfl (by kernel_rfl) (by kernel_rfl) (by kernel_rfl) (by kernel_rfl) (fun _ _ _ h => h) (by rfl) (fun W' hb => ?_) hS0 ?_
            · exact load_th hb.x rfl rfl rfl
            simp only [List.setIfInBounds_toArray, List.set_cons_zero, List.set_cons_succ]
            refine RK.Any.take 4 55 (.slice (some a) i c) rfl rfl (by kernel_rfl) (by kernel_rfl) (by kernel_rfl) (by kernel_rfl) (fun _ _ _ h => h) (by rfl) (fun W' hb => ?_) hS0 ?_
            · go_simp
            simp only [List.setIfInBounds_toArray, List.set_cons_zero, List.set_cons_succ]
            refine RK.Any.take 5 56 (.int .i64 (k : Int)) rfl rfl (by kernel_rfl) (by kernel_rfl) (by kernel_rfl) (by kernel_rfl) (fun _ _ _ h => h) (by rfl) (fun W' hb => ?_) hS0 ?_
            · go_simp
            simp only [List.setIfInBounds_toArray, List.set_cons_zero, List.set_cons_succ]
            refine RK.Any.take 6 57 (.pointer (some ⟨B, O, none⟩)) rfl rfl (by kernel_rfl) (by kernel_rfl) (by kernel_rfl) (by kernel_rfl) (fun _ _ _ h => h) (by rfl) (fun W' hb => ?_) hS0 ?_
            · go_simp
            simp only [List.setIfInBounds_toArray, List.set_cons_zero, List.set_cons_succ]
            refine RK.Any.take 7 58 (.agg t.cells) rfl rfl (by kernel_rfl) (by kernel_rfl) (by kernel_rfl) (by kernel_rfl) (fun _ _ _ h => h) (by rfl) (fun W' hb => ?_) hS0 ?_
            · exact load_mid hb.r rfl rfl
            simp only [List.setIfInBounds_toArray, List.set_cons_zero, List.set_cons_succ]
            refine RK.Any.call 8 59 44 #[.agg y.cells, .agg t.cells] (by kernel_rfl) rfl rfl (by rfl) (by go_simp) (Calls.mono (like_yes y t HYO.out HOKT.out HYK.out HYB.out _ hS0.ry hS0.rt) ?_)
            rintro e w4 ⟨rfl, hb4⟩
            have hS4 := hS0.step hb4
            refine ⟨_, rfl, fun _ => hS4, ?_⟩
            simp only [List.setIfInBounds_toArray, List.set_cons_zero, List.set_cons_succ]
            refine RK.Any.exec 9 60 (.bool false) (w1 := w4) (by kernel_rfl) rfl rfl (by rfl) (by go_simp) hS4 ?_
            simp only [List.setIfInBounds_toArray, List.set_cons_zero, List.set_cons_succ]
            refine RK.Any.exec 10 61 (.bool false) (w1 := w4) (by kernel_rfl) rfl rfl (by rfl) (by go_simp) hS4 ?_
            simp only [List.setIfInBounds_toArray, List.set_cons_zero, List.set_cons_succ]
            refine RK.Any.done (by kernel_rfl) ?_
            go_wp2_with fail
            go_roundw
            case rel => exact ⟨k + 1, by omega, by go_num, by rw [HMO.out]; exact hS4.rg⟩
            case measure => simp [RowKit.intOf]; omega
          · obtain rfl : k = i := by omega
            rw [HS0.out, HE0.out] at HK
            have HL := left_any g [] 0 wr HK.out.rg
            have HEN := end_none g 0 wr HK.out.rg
            have HWR := wrong_any g [] 0 wr HK.out.rg
            go_wp2_with (first
              | (go_at_call 19; (with_reducible refine HL.mono ?_); rintro e w5 ⟨rfl, rfl⟩)
              | (go_at_call 17; (with_reducible refine HEN.mono ?_); rintro e w5 ⟨rfl, rfl⟩)
              | (go_at_call 18; (with_reducible refine HWR.mono ?_); rintro e w5 ⟨rfl, rfl⟩))
            go_ret
            exact ⟨rfl, HK.out.below⟩
  · go_ret
    exact ⟨rfl, HB2.out.trans (HB1.out.mono HB2.out.size)⟩

set_option maxRecDepth 100000 in
theorem lifted (os : Os) (started : os.Started) (H : Type) (enc : TypeId × Value → H) :
    ReturnsInHanded {} Try.checked os 6 .any (Rows.wireBackSpec.pre6 enc Try.prog Try.f6 Rows.wireBackRow.domain false) (Rows.wireBackSpec.post enc Try.prog Try.f6 false true false false) := by
  refine returnsInHanded_of_change_sized (C := Try.checked) M.own started (by kernel_rfl) Try.func6
    (ChangeSpec.witness6 (enc := enc) (C := Try.checked) false ⟨#[], #[.slice none 0 0], []⟩ 8 (by kernel_rfl) (by kernel_rfl) (by kernel_rfl) (by kernel_rfl)) ?_
  intro W base args ds gs before hval0 hW _ hsz0 _
  have hval : ∀ (j : Nat) t v, Try.f6.params[j]? = some t → args[j]? = some v → Value.okWide Try.prog W .any base t v := hval0
  have hW' := hW
  obtain ⟨p, q, hA0, hV, rfl, _, _⟩ := hW
  have hA : DataW.TrodAll enc Try.prog W 0 (fun _ => true) true Try.f6.params.toList args.toList ds p := hA0
  rw [Try.params6] at hA hval
  obtain ⟨v0, vs0, d0, ds0, p0, q0, hargs, rfl, rfl, h0, r0⟩ := trodAll_cons hA
  obtain ⟨rfl, rfl, rfl⟩ := trodAll_nil r0
  obtain rfl : args = #[v0] := by cases args; simp_all
  obtain ⟨rfl, rfl⟩ := trodVars_none hV
  have k0 := h0
  have lt0 : ∀ x ∈ p0, x.block < W.heap.size := by obtain ⟨m, hm⟩ := k0; exact DataW.trod_lt m _ _ _ hm
  obtain ⟨ao0, n0, c0, f0, rfl, nl0, hf0⟩ := M.open_things (hval 0 55 v0 rfl rfl) h0
  have sm0 : M.Small d0 55 := M.small_each hsz0 (j := 0) (by rw [Try.params6]; rfl) rfl
  have ns0 := M.things_small h0 sm0 hf0
  clear hA0 hval0
  simp only [List.append_nil] at hW'
  refine (walk _ W ⟨_, _, _, _, rfl, nl0, hf0, ns0⟩).mono fun e W' ⟨he, bel⟩ => ?_
  subst he
  exact ⟨_, rfl, _, _, _, [], _, [], hW', (trodAll_cons_mk (shut_bool Try.underlying4 _) trodAll_mk0), (trodAll_cons_mk (Below.trod M.laidOut (by kernel_rfl) (of_decide_eq_true (by kernel_rfl)) k0 bel lt0) trodAll_mk0), rfl, bel.frame _, fun h => by cases h⟩

theorem holds : Rows.WireBackSaid :=
  OpenClaim.holds_of_wide 6 Try.f6 rfl rfl rfl rfl rfl rfl rfl ⟨rfl, rfl, rfl, rfl, rfl⟩ rfl rfl rfl rfl rfl (by kernel_rfl) Try.func6 (by kernel_rfl)
    (of_decide_eq_true (by kernel_rfl)) (by unfold Func.isWrapper; first | (rw [if_pos (by decide +kernel)]; kernel_rfl) | (rw [if_neg (by decide +kernel)]; exact ⟨rfl, rfl⟩))
    (fun os started H enc _ => lifted os started H enc)

end WireBack

theorem wireBack_holds : Rows.WireBackSaid := WireBack.holds
#print axioms wireBack_holds
end Go.Proofs.Ytaijnejbffnfpaa

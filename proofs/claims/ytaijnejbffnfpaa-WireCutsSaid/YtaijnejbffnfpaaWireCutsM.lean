/- Of things that were written, cut anywhere: those ahead of the cut are read, the next one is too short, and if there is none, all was read: whatever comes in. -/
import Derived.Test.YtaijnejbffnfpaaRows
import Derived.Test.YtaijnejbffnfpaaWB1
import Derived.Test.YtaijnejbffnfpaaWB12
import Derived.Test.YtaijnejbffnfpaaWB10
import Derived.SizedLaws
import Derived.Lib.AppendZeros
namespace Go.Proofs.Ytaijnejbffnfpaa
open Go.ChangeShapes Go.WideShapes Go.ChangeAt Go.RowKit
namespace WireCuts
open M

set_option maxHeartbeats 8000000 in
set_option maxRecDepth 100000 in
theorem walk (v : Value) (cut : Int) (W : World) (hv : ∃ (ao : Option Addr) (n c : Nat) (f : Nat → Th), v = .slice ao n c ∧ n ≤ 9223372036854775807 ∧
    (∀ i, i < n → (f i).Ok ∧ Rd W (f i).ao (f i).len (f i).z ∧ ∃ a, ao = some a ∧ ∀ (j : Nat) (u : Value), (f i).cells[j]? = some u → W.cell? (a.add (i * 5 + j)) = some u) ∧ ∀ i, i < n → (f i).s.length ≤ 140737488355328 ∧ (f i).len ≤ 140737488355328) :
    Calls Try.prog 8 #[v, .int .i64 cut] W fun e w' => e = .returned (.bool true) ∧ Below W.heap.size W w' := by
  obtain ⟨ao, n, c, f, rfl, hn, hf, hz⟩ := hv
  have HLG := Lib.hid (long_any ao n c f hn W (fun i hi => ⟨(hz i hi).1, (hz i hi).2, (hf i hi).2.2⟩))
  have HF := Lib.hid hf
  clear hf hz
  go_enter Try.func8, Try.ntmps8
  go_wp2_with (first
    | (go_at_call 16; (with_reducible refine (awake_any _).mono ?_); rintro e w1 ⟨rfl, hb1⟩; have HB1 := Lib.hid hb1; clear hb1)
    | (go_at_call 41; (with_reducible refine HLG.out.mono ?_); rintro e w2 ⟨r, rfl, hsm, hb2⟩; have HSM := Lib.hid hsm; have HB2 := Lib.hid hb2; clear hsm hb2; cases r))
  · have hn450 : n ≤ 450 := by
      have h1 := HSM.out trivial
      have h2 := MM.sm_ge f n
      omega
    have HI := Lib.hid (HB2.out.trans (HB1.out.mono HB2.out.size))
    clear HSM HB1 HB2 HLG
    go_loopw [5, 6, 7] (fun s5 s6 s7 wx => ∃ (i : Nat) (eo : Option Addr) (ec : Nat), i ≤ n ∧ s7 = .int .i64 (i : Int) ∧ s6 = .slice eo i ec ∧ s5 = .string ⟨(MM.cat f i).toArray⟩ ∧ Hid (∀ j, j < i → (f j).may = true) ∧ OwnZ W i (fun j => (MM.cat f (j + 1)).length) (.slice eo i ec) wx) (fun _ _ s7 _ => n - (RowKit.intOf s7).toNat)
    case atStart => exact ⟨0, none, 0, Nat.zero_le _, rfl, rfl, rfl, Lib.hid (fun j hj => absurd hj (by omega)), OwnZ.start _ HI.out⟩
    case round =>
      obtain ⟨i, eo, ec, hi, rfl, rfl, rfl, HMAY, hM⟩ := hrel
      have HK := Lib.hid hM
      clear hM
      by_cases hlt : i < n
      · obtain ⟨hok, hrd, a, ha, hcl⟩ := HF.out i hlt
        subst ha
        obtain ⟨B, O, hadr, hr0⟩ := thing_range hcl
        have HRG := Lib.hid (range_below hr0 HK.out.below)
        have HG := Lib.hid (may_any (f i) wr)
        have hcl10 : (MM.cat f i).length ≤ 7000000 := by have := MM.cat_len f i; omega
        have HP := Lib.hid (fun w1 (hb : Below wr.heap.size wr w1) => put_any (f i) hok (MM.cat f i) hcl10 w1 ((hrd.below HK.out.below).below hb))
        rw [← MM.cat_succ f i] at HP
        have hzx : (fun j => (MM.cat f (j + 1)).length) i = (MM.cat f (i + 1)).length := rfl
        generalize hzz : (fun j => (MM.cat f (j + 1)).length) = z at *
        have HZX := Lib.hid hzx
        clear hcl hr0 hok hrd hcl10 hzz hzx
        generalize hS1 : MM.cat f (i + 1) = s1 at *
        have HS1 := Lib.hid hS1
        generalize hfi : f i = t at *
        have HFI := Lib.hid hfi
        clear hS1 hfi
        generalize wr = w0 at *
        go_wp2_with (first
          | (refine wpList_load_mid rfl 45 _ rfl B O rfl t.cells.toList _ HRG.out Try.underlying45 rfl (info_th2 t) ?_)
          | (refine wpList_load_mid rfl 45 _ rfl B O rfl t.cells.toList _ HRG1.out Try.underlying45 rfl (info_th2 t) ?_)
          | (go_at_call 42; (with_reducible refine HG.out.mono ?_); rintro e w1 ⟨rfl, hb1⟩; have HB1 := Lib.hid hb1; have HRG1 := Lib.hid (range_below HRG.out hb1); clear hb1; rcases hmb : t.may with _ | _)
          | (go_at_call 43; (with_reducible refine (HP.out _ HB1.out).mono ?_); rintro e w2 ⟨rfl, hb2⟩; have HB2 := Lib.hid hb2; clear hb2; have HO2 := Lib.hid ((HK.out.step HB1.out).step HB2.out); obtain ⟨eo3, ec3, w3, hr3, ho3⟩ := OwnZ.push HO2.out HZX.out (by omega); have HO3 := Lib.hid ho3; have HR3 := Lib.hid hr3; clear hr3 ho3)
          | (at_builtin; refine Lib.wpList_append_run _ rfl _ _ _ _ rfl _ _ rfl rfl _ _ HR3.out ?_))
        · go_ret
          exact ⟨rfl, HK.out.below.trans (HB1.out.mono HK.out.below.size)⟩
        · go_roundw
          case rel => exact ⟨i + 1, eo3, ec3, by omega, by go_num, rfl, by rw [HS1.out], Lib.hid (fun j hj => by
            by_cases e : j = i
            · subst e; rw [HFI.out]; exact hmb
            · exact HMAY.out j (by omega)), HO3.out⟩
          case measure => simp [RowKit.intOf]; omega
      · obtain rfl : i = n := by omega
        obtain ⟨ge, hge0, hge1, hge2, hge3⟩ := HK.out.row
        have HLn := MM.cat_len f i
        generalize hS : MM.cat f i = S at *
        have HS0 := Lib.hid hS
        clear hS HI
        obtain ⟨k, hkk, hkS⟩ := cut_at cut S (by omega)
        have HO := open_any (S.take k) (by rw [List.length_take]; omega) wr
        have hx1 : (⟨S.toArray⟩ : ByteArray).extract 0 k = ⟨(S.take k).toArray⟩ := by rw [ByteArray.extract_mk]; simp
        have HEN : Hid (∀ w2, Below wr.heap.size wr w2 → ∀ j, j < i → w2.cell? ⟨ge, j, none⟩ = some (.int .i64 (((MM.cat f (j + 1)).length : Nat) : Int))) := Lib.hid (fun w2 hb j hj => by
          rw [hb.cell (p := ⟨ge, j, none⟩) (hge2 (by omega))]
          exact hge3 j hj)
        have HAO := Lib.hid hge0
        have HGE := Lib.hid hge2
        clear hge0 hge1 hge2 hge3
        go_wp2_with (go_at_call 20; (with_reducible refine HO.mono ?_); rintro e w2 ⟨g, rfl, hg, hr, hb2⟩; have HI : Hid (CK W g ge i (fun j => (MM.cat f (j + 1)).length) (S.take k) w2) := Lib.hid ⟨⟨hr, HK.out.below.trans (hb2.mono HK.out.below.size), Nat.le_trans HK.out.below.size hg⟩, HEN.out w2 hb2⟩; have HNE : Hid (0 < i → ge ≠ g) := Lib.hid (fun h e => by have := HGE.out h; omega); clear hb2 hg hr)
        clear HK HO HEN HGE
        go_loopw [10] (fun s10 wx => ∃ m : Nat, m ≤ i ∧ s10 = .int .i64 (m : Int) ∧ (MM.cat f m).length ≤ k ∧ CK W g ge i (fun j => (MM.cat f (j + 1)).length) ((S.take k).drop (MM.cat f m).length) wx) (fun s10 _ => i - (RowKit.intOf s10).toNat)
        case atStart => exact ⟨0, Nat.zero_le _, rfl, Nat.zero_le _, HI.out⟩
        case round =>
          obtain ⟨m, hm, rfl, hmk, hM⟩ := hrel
          have HK := Lib.hid hM
          clear hM HI
          by_cases hlt : m < i
          · obtain ⟨hok, hrd, a, ha, hcl⟩ := HF.out m hlt
            subst ha
            obtain ⟨B, O, hadr, hr0⟩ := thing_range hcl
            have hao := HAO.out (by omega)
            have hne := Lib.hid (HNE.out (by omega))
            subst hao
            have HRG := Lib.hid (range_below hr0 HK.out.rg.below)
            have HR0 := Lib.hid hr0
            have HRDW := Lib.hid hrd
            have HOKT := Lib.hid hok
            have hmay := Lib.hid (HMAY.out m hlt)
            have hmi : (m : Int) < (i : Int) := by omega
            by_cases hcut : k < (MM.cat f (m + 1)).length
            · obtain ⟨hx, hlen⟩ := MM.cat_cut f i m k hlt hmk hcut
              rw [HS0.out] at hx
              have HG := Lib.hid (got_any (f m) hok.k g ((S.take k).drop (MM.cat f m).length) wr HK.out.rg.rg)
              rw [hx] at HG
              have HLEN := Lib.hid hlen
              have hzi : ((k : Nat) : Int) < (((MM.cat f (m + 1)).length : Nat) : Int) := by omega
              have HEM : Hid (∀ w1, Turn g wr w1 → w1.cell? ⟨ge, m, none⟩ = some (.int .i64 (((MM.cat f (m + 1)).length : Nat) : Int))) := Lib.hid (fun w1 (ht : Turn g wr w1) => ht.cell (HK.out.en m hlt) hne.out)
              clear hcl hr0 hok hrd hx hlen
              generalize (MM.cat f (m + 1)).length = zm at *
              generalize k - (MM.cat f m).length = kc at *
              generalize f m = t at *
              generalize wr = w0 at *
              go_upto_region 18 with (first
                | (refine wpList_load_mid rfl 45 _ rfl B O rfl t.cells.toList _ HRG.out Try.underlying45 rfl (info_th2 t) ?_)
                | (go_at_call 21; (with_reducible refine HG.out.mono ?_); rintro e w1 ⟨y, er, rest, rfl, hr1, ht1, hrd1, hS⟩; have HSS : Hid (GotS t.k (t.bytes.take kc) y er rest) := Lib.hid hS; obtain ⟨rfl, rfl, hy1, hy2, hy3⟩ := GotS.cut HSS.out HOKT.out hmay.out HLEN.out; have HYS := Lib.hid (And.intro hy1 (And.intro hy2 hy3)); have HK1 := Lib.hid (HK.out.rg.next hr1 ht1); have HE1 := Lib.hid (HEM.out w1 ht1); clear hr1 ht1 hrd1 hS hy1 hy2 hy3 HSS)
                | (refine wpList_store_row rfl 45 _ _ rfl w1.heap.size y.cells rfl rfl 45 zTh (heap_alloc_new w1 _) info_th rfl (th_one y) ?_))
              have HX := Lib.hid (boxed_at w1 y.cells)
              have HB3 := boxed_below w1 y.cells
              have HK3 := Lib.hid (HK1.out.step HB3)
              have hend := (HB3.cell (World.block_lt_of_cell? w1 _ HE1.out)).trans HE1.out
              clear HB3 HK1 HE1 HG HRG HK HEM
              generalize (w1.alloc (.cells zTh 45)).setRow w1.heap.size y.cells = w3 at *
              generalize w1.heap.size = b1 at *
              obtain ⟨hy1, hy2, hy3⟩ := HYS.out
              obtain ⟨yk, yn, ys, yao, yl, yc, yz, ym⟩ := y
              simp only at hy1 hy2 hy3
              subst hy1 hy2 hy3
              have hx := HX.out
              have hc1 : w3.cell? ⟨b1, 1, none⟩ = some (.int .u64 0) := (cell_of_row w3 b1 1 _ _ _ hx).trans rfl
              have hc2 : w3.cell? ⟨b1, 2, none⟩ = some (.string ⟨#[]⟩) := (cell_of_row w3 b1 2 _ _ _ hx).trans rfl
              have hc3 : w3.cell? ⟨b1, 3, none⟩ = some (.slice yao 0 yc) := (cell_of_row w3 b1 3 _ _ _ hx).trans rfl
              have HL := left_any g [] 8 w3 HK3.out.rg
              clear hx
              go_wp2_with (go_at_call 19; (with_reducible refine HL.mono ?_); rintro e w5 ⟨rfl, rfl⟩)
              go_ret
              exact ⟨rfl, HK3.out.below⟩
            · have hx := MM.cat_keep f i m k hlt (by omega)
              rw [HS0.out] at hx
              have HG := Lib.hid (got_any (f m) hok.k g ((S.take k).drop (MM.cat f m).length) wr HK.out.rg.rg)
              rw [hx] at HG
              have HZK := Lib.hid (Nat.le_of_not_lt hcut)
              have hzi : ¬ ((k : Nat) : Int) < (((MM.cat f (m + 1)).length : Nat) : Int) := by omega
              have hml : (((S.take k).drop (MM.cat f (m + 1)).length).length : Int) = (k : Int) - (((MM.cat f (m + 1)).length : Nat) : Int) := by rw [List.length_drop, List.length_take]; omega
              have HEM : Hid (∀ w1, Turn g wr w1 → w1.cell? ⟨ge, m, none⟩ = some (.int .i64 (((MM.cat f (m + 1)).length : Nat) : Int))) := Lib.hid (fun w1 (ht : Turn g wr w1) => ht.cell (HK.out.en m hlt) hne.out)
              have HENA := Lib.hid (fun w1 (ht : Turn g wr w1) (j : Nat) (hj : j < i) => ht.cell (HK.out.en j hj) hne.out)
              clear hcl hr0 hok hrd hx
              generalize hmore : (S.take k).drop (MM.cat f (m + 1)).length = more at *
              have HMO := Lib.hid hmore
              generalize hzm : (MM.cat f (m + 1)).length = zm at *
              have HZM := Lib.hid hzm
              have hw1 : IntKind.i64.wrap ((k : Int) - (zm : Int)) = (more.length : Int) := by rw [hml]; simp [IntKind.wrap, IntKind.bits, IntKind.signed]; omega
              have hw2 : wrap64 ((k : Int) - (zm : Int)) = (more.length : Int) := by rw [hml]; unfold wrap64; omega
              have hw3 : (k : Int) - (zm : Int) = (more.length : Int) := hml.symm
              have hw4 : IntKind.i64.wrap (more.length : Int) = (more.length : Int) := by rw [hml]; simp [IntKind.wrap, IntKind.bits, IntKind.signed]; omega
              clear hmore hml hzm
              generalize f m = t at *
              generalize wr = w0 at *
              go_upto_region 18 with (first
                | (refine wpList_load_mid rfl 45 _ rfl B O rfl t.cells.toList _ HRG.out Try.underlying45 rfl (info_th2 t) ?_)
                | (go_at_call 21; (with_reducible refine HG.out.mono ?_); rintro e w1 ⟨y, er, rest, rfl, hr1, ht1, hrd1, hS⟩; have HSS : Hid (GotS t.k (t.bytes ++ more) y er rest) := Lib.hid hS; obtain ⟨rfl, hyb, rfl⟩ := GotS.whole HSS.out HOKT.out hmay.out; have HYB := Lib.hid hyb; have HYK := Lib.hid HSS.out.kind; have HYO := Lib.hid HSS.out.ok; have HK1 := Lib.hid (HK.out.rg.next hr1 ht1); have HRD1 := Lib.hid hrd1; have HE1 := Lib.hid (HENA.out w1 ht1); have hend := boxed_cell (HEM.out w1 ht1) y.cells; clear hr1 ht1 hrd1 hS hyb HSS)
                | (refine wpList_store_row rfl 45 _ _ rfl w1.heap.size y.cells rfl rfl 45 zTh (heap_alloc_new w1 _) info_th rfl (th_one y) ?_))
              have HB3 := boxed_below w1 y.cells
              have HK3 := HK1.out.step HB3
              have HS3 : Hid (BC W g rest w1.heap.size y B O t ge i (fun j => (MM.cat f (j + 1)).length) ((w1.alloc (.cells zTh 45)).setRow w1.heap.size y.cells)) := Lib.hid ⟨⟨HK3, boxed_at w1 y.cells, range_below HR0.out HK3.below, HRD1.out.below HB3, HRDW.out.below HK3.below⟩, fun j hj => boxed_cell (HE1.out j hj) y.cells⟩
              clear HB3 HK3 HK1 HRD1 HG HRG HK HE1 HENA HEM
              generalize (w1.alloc (.cells zTh 45)).setRow w1.heap.size y.cells = w3 at *
              generalize w1.heap.size = b1 at *
              go_upto_region 20 with fail
              have hen := Lib.hid hend
              clear hend
              refine RK.region (BC W g rest b1 y B O t ge i (fun j => (MM.cat f (j + 1)).length)) 400 (by kernel_rfl) ?_
              have hS0 : BC W g rest b1 y B O t ge i (fun j => (MM.cat f (j + 1)).length) w3.drew := HS3.out.step (Below.drawn (Below.refl _ _) 1)
              refine RK.Any.take 0 99 (.int .i64 0) rfl rfl (by kernel_rfl) (by kernel_rfl) (by kernel_rfl) (by kernel_rfl) (fun _ _ _ h => h) (by rfl) (fun W' hb => ?_) hS0 ?_
              · go_simp
              simp only [List.setIfInBounds_toArray, List.set_cons_zero, List.set_cons_succ]
              refine RK.Any.take 1 100 (.bool false) rfl rfl (by kernel_rfl) (by kernel_rfl) (by kernel_rfl) (by kernel_rfl) (fun _ _ _ h => h) (by rfl) (fun W' hb => ?_) hS0 ?_
              · go_simp
              simp only [List.setIfInBounds_toArray, List.set_cons_zero, List.set_cons_succ]
              refine RK.Any.take 2 101 (.bool false) rfl rfl (by kernel_rfl) (by kernel_rfl) (by kernel_rfl) (by kernel_rfl) (fun _ _ _ h => h) (by rfl) (fun W' hb => ?_) hS0 ?_
              · go_simp
              simp only [List.setIfInBounds_toArray, List.set_cons_zero, List.set_cons_succ]
              refine RK.Any.take 3 102 (.agg y.cells) rfl rfl (by kernel_rfl) (by kernel_rfl) (by kernel_rfl) (by kernel_rfl) (fun _ _ _ h => h) (by rfl) (fun W' hb => ?_) hS0 ?_
              · exact load_th hb.bk.x rfl rfl rfl
              simp only [List.setIfInBounds_toArray, List.set_cons_zero, List.set_cons_succ]
              refine RK.Any.take 4 103 (.slice (some a) i c) rfl rfl (by kernel_rfl) (by kernel_rfl) (by kernel_rfl) (by kernel_rfl) (fun _ _ _ h => h) (by rfl) (fun W' hb => ?_) hS0 ?_
              · go_simp
              simp only [List.setIfInBounds_toArray, List.set_cons_zero, List.set_cons_succ]
              refine RK.Any.take 5 104 (.int .i64 (m : Int)) rfl rfl (by kernel_rfl) (by kernel_rfl) (by kernel_rfl) (by kernel_rfl) (fun _ _ _ h => h) (by rfl) (fun W' hb => ?_) hS0 ?_
              · go_simp
              simp only [List.setIfInBounds_toArray, List.set_cons_zero, List.set_cons_succ]
              refine RK.Any.take 6 105 (.pointer (some ⟨B, O, none⟩)) rfl rfl (by kernel_rfl) (by kernel_rfl) (by kernel_rfl) (by kernel_rfl) (fun _ _ _ h => h) (by rfl) (fun W' hb => ?_) hS0 ?_
              · go_simp
              simp only [List.setIfInBounds_toArray, List.set_cons_zero, List.set_cons_succ]
              refine RK.Any.take 7 106 (.agg t.cells) rfl rfl (by kernel_rfl) (by kernel_rfl) (by kernel_rfl) (by kernel_rfl) (fun _ _ _ h => h) (by rfl) (fun W' hb => ?_) hS0 ?_
              · exact load_mid hb.bk.r rfl rfl
              simp only [List.setIfInBounds_toArray, List.set_cons_zero, List.set_cons_succ]
              refine RK.Any.call 8 107 44 #[.agg y.cells, .agg t.cells] (by kernel_rfl) rfl rfl (by rfl) (by go_simp) (Calls.mono (like_yes y t HYO.out HOKT.out HYK.out HYB.out _ hS0.bk.ry hS0.bk.rt) ?_)
              rintro e w4 ⟨rfl, hb4⟩
              have hS4 := hS0.step hb4
              refine ⟨_, rfl, fun _ => hS4, ?_⟩
              simp only [List.setIfInBounds_toArray, List.set_cons_zero, List.set_cons_succ]
              refine RK.Any.take 9 108 (.bool false) rfl rfl (by kernel_rfl) (by kernel_rfl) (by kernel_rfl) (by kernel_rfl) (fun _ _ _ h => h) (by rfl) (fun W' hb => ?_) hS4 ?_
              · go_simp
              simp only [List.setIfInBounds_toArray, List.set_cons_zero, List.set_cons_succ]
              refine RK.Any.take 10 109 (.bool false) rfl rfl (by kernel_rfl) (by kernel_rfl) (by kernel_rfl) (by kernel_rfl) (fun _ _ _ h => h) (by rfl) (fun W' hb => ?_) hS4 ?_
              · go_simp
              simp only [List.setIfInBounds_toArray, List.set_cons_zero, List.set_cons_succ]
              refine RK.Any.take 11 110 (.bool false) rfl rfl (by kernel_rfl) (by kernel_rfl) (by kernel_rfl) (by kernel_rfl) (fun _ _ _ h => h) (by rfl) (fun W' hb => ?_) hS4 ?_
              · go_simp
              simp only [List.setIfInBounds_toArray, List.set_cons_zero, List.set_cons_succ]
              refine RK.Any.take 12 111 (.pointer (some ⟨g, 0, none⟩)) rfl rfl (by kernel_rfl) (by kernel_rfl) (by kernel_rfl) (by kernel_rfl) (fun _ _ _ h => h) (by rfl) (fun W' hb => ?_) hS4 ?_
              · go_simp
              simp only [List.setIfInBounds_toArray, List.set_cons_zero, List.set_cons_succ]
              refine RK.Any.take 14 113 (.int .i64 (k : Int)) rfl rfl (by kernel_rfl) (by kernel_rfl) (by kernel_rfl) (by kernel_rfl) (fun _ _ _ h => h) (by rfl) (fun W' hb => ?_) hS4 ?_
              · go_simp
              simp only [List.setIfInBounds_toArray, List.set_cons_zero, List.set_cons_succ]
              refine RK.Any.take 15 114 (.slice (some ⟨ge, 0, none⟩) i ec) rfl rfl (by kernel_rfl) (by kernel_rfl) (by kernel_rfl) (by kernel_rfl) (fun _ _ _ h => h) (by rfl) (fun W' hb => ?_) hS4 ?_
              · go_simp
              simp only [List.setIfInBounds_toArray, List.set_cons_zero, List.set_cons_succ]
              refine RK.Any.take 16 115 (.int .i64 (m : Int)) rfl rfl (by kernel_rfl) (by kernel_rfl) (by kernel_rfl) (by kernel_rfl) (fun _ _ _ h => h) (by rfl) (fun W' hb => ?_) hS4 ?_
              · go_simp
              simp only [List.setIfInBounds_toArray, List.set_cons_zero, List.set_cons_succ]
              refine RK.Any.take 17 116 (.pointer (some ⟨ge, m, none⟩)) rfl rfl (by kernel_rfl) (by kernel_rfl) (by kernel_rfl) (by kernel_rfl) (fun _ _ _ h => h) (by rfl) (fun W' hb => ?_) hS4 ?_
              · go_simp
              simp only [List.setIfInBounds_toArray, List.set_cons_zero, List.set_cons_succ]
              refine RK.Any.take 18 117 (.int .i64 (zm : Int)) rfl rfl (by kernel_rfl) (by kernel_rfl) (by kernel_rfl) (by kernel_rfl) (fun _ _ _ h => h) (by rfl) (fun W' hb => ?_) hS4 ?_
              · (have hc : W'.cell? ⟨ge, m, none⟩ = some (.int .i64 (zm : Int)) := (hb.en m hlt).trans (by rw [← HZM.out]); go_simp)
              simp only [List.setIfInBounds_toArray, List.set_cons_zero, List.set_cons_succ]
              refine RK.Any.take 19 118 (.int .i64 (rest.length : Int)) rfl rfl (by kernel_rfl) (by kernel_rfl) (by kernel_rfl) (by kernel_rfl) (fun _ _ _ h => h) (by rfl) (fun W' hb => ?_) hS4 ?_
              · go_simp
              simp only [List.setIfInBounds_toArray, List.set_cons_zero, List.set_cons_succ]
              refine RK.Any.call 13 112 19 #[.pointer (some ⟨g, 0, none⟩)] (by kernel_rfl) rfl rfl (by rfl) (by go_simp) (Calls.mono (left_any g rest 0 w4 hS4.bk.rg.rg) ?_)
              rintro e w5 ⟨rfl, rfl⟩
              refine ⟨_, rfl, fun _ => hS4, ?_⟩
              simp only [List.setIfInBounds_toArray, List.set_cons_zero, List.set_cons_succ]
              refine RK.Any.take 20 119 (.bool false) rfl rfl (by kernel_rfl) (by kernel_rfl) (by kernel_rfl) (by kernel_rfl) (fun _ _ _ h => h) (by rfl) (fun W' hb => ?_) hS4 ?_
              · go_simp
              simp only [List.setIfInBounds_toArray, List.set_cons_zero, List.set_cons_succ]
              refine RK.Any.take 21 120 (.bool false) rfl rfl (by kernel_rfl) (by kernel_rfl) (by kernel_rfl) (by kernel_rfl) (fun _ _ _ h => h) (by rfl) (fun W' hb => ?_) hS4 ?_
              · go_simp
              simp only [List.setIfInBounds_toArray, List.set_cons_zero, List.set_cons_succ]
              refine RK.Any.done (by kernel_rfl) ?_
              go_wp2_with fail
              go_roundw
              case rel => exact ⟨m + 1, by omega, by go_num, by rw [HZM.out]; exact HZK.out, ⟨by rw [HZM.out, HMO.out]; exact hS4.bk.rg, hS4.en⟩⟩
              case measure => simp [RowKit.intOf]; omega
          · obtain rfl : m = i := by omega
            have hdl := MM.cat_drop_len f m k (by rw [HS0.out]; exact hkS)
            rw [HS0.out] at HK hdl
            rw [hdl] at HK
            have HENN := end_none g 0 wr HK.out.rg.rg
            go_wp2_with (go_at_call 17; (with_reducible refine HENN.mono ?_); rintro e w5 ⟨rfl, rfl⟩)
            go_ret
            exact ⟨rfl, HK.out.rg.below⟩
  · go_ret
    exact ⟨rfl, HB2.out.trans (HB1.out.mono HB2.out.size)⟩

set_option maxRecDepth 100000 in
theorem lifted (os : Os) (started : os.Started) (H : Type) (enc : TypeId × Value → H) :
    ReturnsInHanded {} Try.checked os 8 .any (Rows.wireCutsSpec.pre6 enc Try.prog Try.f8 Rows.wireCutsRow.domain false) (Rows.wireCutsSpec.post enc Try.prog Try.f8 false true false false) := by
  refine returnsInHanded_of_change_sized (C := Try.checked) M.own started (by kernel_rfl) Try.func8
    (ChangeSpec.witness6 (enc := enc) (C := Try.checked) false ⟨#[], #[.slice none 0 0, .int .i64 0], []⟩ 8 (by kernel_rfl) (by kernel_rfl) (by kernel_rfl) (by kernel_rfl)) ?_
  intro W base args ds gs before hval0 hW _ hsz0 _
  have hval : ∀ (j : Nat) t v, Try.f8.params[j]? = some t → args[j]? = some v → Value.okWide Try.prog W .any base t v := hval0
  have hW' := hW
  obtain ⟨p, q, hA0, hV, rfl, _, _⟩ := hW
  have hA : DataW.TrodAll enc Try.prog W 0 (fun _ => true) true Try.f8.params.toList args.toList ds p := hA0
  rw [Try.params8] at hA hval
  obtain ⟨v0, vs0, d0, ds0, p0, q0, hargs, rfl, rfl, h0, r0⟩ := trodAll_cons hA
  obtain ⟨v1, vs1, d1, ds1, p1, q1, rfl, rfl, rfl, h1, r1⟩ := trodAll_cons r0
  obtain ⟨rfl, rfl, rfl⟩ := trodAll_nil r1
  obtain rfl : args = #[v0, v1] := by cases args; simp_all
  obtain ⟨rfl, rfl⟩ := trodVars_none hV
  have k0 := h0
  have lt0 : ∀ x ∈ p0, x.block < W.heap.size := by obtain ⟨m, hm⟩ := k0; exact DataW.trod_lt m _ _ _ hm
  obtain ⟨ao0, n0, c0, f0, rfl, nl0, hf0⟩ := M.open_things (hval 0 55 v0 rfl rfl) h0
  have sm0 : M.Small d0 55 := M.small_each hsz0 (j := 0) (by rw [Try.params8]; rfl) rfl
  have ns0 := M.things_small h0 sm0 hf0
  have k1 := h1
  have lt1 : ∀ x ∈ p1, x.block < W.heap.size := by obtain ⟨m, hm⟩ := k1; exact DataW.trod_lt m _ _ _ hm
  obtain ⟨x1, rfl, rfl, rfl, w1⟩ := open_int Try.underlying3 (hval 1 3 v1 rfl rfl) h1
  clear hA0 hval0
  simp only [List.append_nil] at hW'
  refine (walk _ x1 W ⟨_, _, _, _, rfl, nl0, hf0, ns0⟩).mono fun e W' ⟨he, bel⟩ => ?_
  subst he
  exact ⟨_, rfl, _, _, _, [], _, [], hW', (trodAll_cons_mk (shut_bool Try.underlying4 _) trodAll_mk0), (trodAll_cons_mk (Below.trod M.laidOut (by kernel_rfl) (of_decide_eq_true (by kernel_rfl)) k0 bel lt0) (trodAll_cons_mk (Below.trod M.laidOut (by kernel_rfl) (of_decide_eq_true (by kernel_rfl)) k1 bel lt1) trodAll_mk0)), rfl, bel.frame _, fun h => by cases h⟩

theorem holds : Rows.WireCutsSaid :=
  OpenClaim.holds_of_wide 8 Try.f8 rfl rfl rfl rfl rfl rfl rfl ⟨rfl, rfl, rfl, rfl, rfl⟩ rfl rfl rfl rfl rfl (by kernel_rfl) Try.func8 (by kernel_rfl)
    (of_decide_eq_true (by kernel_rfl)) (by unfold Func.isWrapper; first | (rw [if_pos (by decide +kernel)]; kernel_rfl) | (rw [if_neg (by decide +kernel)]; exact ⟨rfl, rfl⟩))
    (fun os started H enc _ => lifted os started H enc)

end WireCuts

theorem wireCuts_holds : Rows.WireCutsSaid := WireCuts.holds
#print axioms wireCuts_holds
end Go.Proofs.Ytaijnejbffnfpaa

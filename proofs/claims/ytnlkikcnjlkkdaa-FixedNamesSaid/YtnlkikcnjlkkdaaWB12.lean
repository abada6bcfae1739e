/- The texts FixLast, one behind the other. -/
import Derived.Test.YtnlkikcnjlkkdaaWB11
import Derived.Test.YtnlkikcnjlkkdaaWB5
/- The walk of FixedNames: three tables, a table of models, one of parameters, and what is asked of the model at the ends. -/
namespace Go.Proofs.Ytnlkikcnjlkkdaa
open Go Go.RowKit Go.Lib
namespace M
namespace Fn7
theorem range_below {w w' : World} {b o : Nat} {cs : List Value} (h : w.rangeAt b o cs) (hb : Below w.heap.size w w') : w'.rangeAt b o cs := fun j v hv => (hb.cell (World.block_lt_of_cell? w _ (h j v hv))).trans (h j v hv)
theorem box_cells {w : World} {T : TypeId} {cs : Array Value} : ∀ u, Below (w.alloc (.cells cs T)).heap.size (w.alloc (.cells cs T)) u → ∀ j, j < cs.size → u.cell? ⟨w.heap.size, j, none⟩ = cs[j]? := fun u hu j hj => by
  have h := cell_of_row (w.alloc (.cells cs T)) w.heap.size j _ _ _ (heap_alloc_new w _)
  have h2 : (w.alloc (.cells cs T)).cell? ⟨w.heap.size, j, none⟩ = some (cs[j]'hj) := by rw [h, Array.getElem?_eq_getElem hj]
  rw [Array.getElem?_eq_getElem hj]
  exact (hu.cell (World.block_lt_of_cell? _ _ h2)).trans h2
theorem load_box7 {w : World} {g : Nat} {p : Pm} (h : PBox w g p) {o : Oper} {ev : Operand → Value} {x : Operand} (ho : o.op = .load 31 x) (hx : ev x = .pointer (some ⟨g, 0, none⟩)) : (execOp ev o).run Try.prog w = .ok (.value (.agg p.cells)) w := by
  unfold execOp
  simp only [ho, hx, Instr.loadAt, Instr.sureAddr, Sem.run_bind, Sem.run_pure, Result.andThen_ok, run_loadVar_row w g 31 31 p.cells (0, 0) _ h Try.underlying31 rfl info_pm]
set_option maxRecDepth 100000 in
set_option maxHeartbeats 32000000 in
theorem names_any (W : World) : Calls Try.prog 3 #[] W fun e w' => e = .returned (.bool true) ∧ Below W.heap.size W w' := by
  have HSO := some_any
  go_enter Try.func3, Try.ntmps3
  go_wp2_with (go_at_call 4; refine (awake_any _).mono ?_; rintro e w2 ⟨rfl, hb⟩; have HB := Lib.hid hb; clear hb)
  obtain ⟨wa, hwa⟩ : ∃ wa, w2.alloc (.cells #[.int .i64 50, .int .u64 101, .int .u64 50, .int .i64 51, .int .u64 101, .int .u64 51, .int .i64 (-50), .int .u64 101, .int .u64 51, .int .i64 101, .int .u64 101, .int .u64 0, .int .i64 (-9223372036854775808), .int .u64 2305843009213693951, .int .u64 2305843009213693947, .int .i64 9223372036854775807, .int .u64 2305843009213693952, .int .u64 2305843009213693951, .int .i64 5, .int .u64 0, .int .u64 0, .int .i64 5, .int .u64 2305843009213693953, .int .u64 0, .int .i64 (-7), .int .u64 1, .int .u64 0] 24) = wa := ⟨_, rfl⟩
  have HT : Hid (∀ k, k < 9 → wa.rangeAt w2.heap.size (k * 3) [.int .i64 (MM.il nuN k), .int .u64 ((MM.nl nuQ k : Nat) : Int), .int .u64 ((MM.nl nuX k : Nat) : Int)]) := by rw [← hwa]; exact Lib.hid (fun k hk => num_at w2 _ k hk)
  have HBa : Hid (Below W.heap.size W wa) := by rw [← hwa]; exact Lib.hid (HB.out.alloc HB.out.size _)
  obtain ⟨D, hD⟩ : ∃ D, w2.heap.size = D := ⟨_, rfl⟩
  rw [hD] at HT ⊢
  rw [hwa]
  clear hwa hD HB
  go_loopw [31] (fun s31 wx => ∃ k : Nat, k ≤ 9 ∧ s31 = .int .i64 (k : Int) ∧ Hid (Below wa.heap.size wa wx)) (fun s31 _ => 9 - (RowKit.intOf s31).toNat)
  case atStart => exact ⟨0, Nat.zero_le _, rfl, Lib.hid (Below.refl _ _)⟩
  case round =>
    obtain ⟨k, hk, rfl, HBX⟩ := hrel
    have hk0 : (0 : Int) ≤ (k : Int) := Int.natCast_nonneg _
    by_cases hlt : k < 9
    · have hk1 : (k : Int) < 9 := by omega
      have HR := Lib.hid (range_below (HT.out k hlt) HBX.out)
      obtain ⟨hn, hlo, hhi⟩ := num_tab k hlt
      generalize MM.il nuN k = n at *
      generalize MM.nl nuQ k = q at *
      generalize MM.nl nuX k = x at *
      have HK : Hid (Ret 5 #[.int .i64 n, .int .u64 (q : Int)] (.int .u64 (x : Int))) := Lib.hid (by rw [← hn]; exact num_any n q ⟨hlo, hhi⟩)
      clear hn hlo hhi
      go_upto_region 6 with (refine wpList_load_mid rfl 24 _ rfl D (k * 3) rfl [.int .i64 n, .int .u64 (q : Int), .int .u64 (x : Int)] _ HR.out Try.underlying24 rfl (by kernel_rfl) ?_)
      have HC : Hid (∀ u, Below (wr.alloc (.cells #[.int .i64 n, .int .u64 (q : Int), .int .u64 (x : Int)] 24)).heap.size (wr.alloc (.cells #[.int .i64 n, .int .u64 (q : Int), .int .u64 (x : Int)] 24)) u → u.cell? ⟨wr.heap.size, 0, none⟩ = some (.int .i64 n) ∧ u.cell? ⟨wr.heap.size, 1, none⟩ = some (.int .u64 (q : Int)) ∧ u.cell? ⟨wr.heap.size, 2, none⟩ = some (.int .u64 (x : Int))) := Lib.hid fun u hu => ⟨box_cells u hu 0 (by simp), box_cells u hu 1 (by simp), box_cells u hu 2 (by simp)⟩
      have HBb := Lib.hid (HBX.out.alloc HBX.out.size (.cells #[.int .i64 n, .int .u64 (q : Int), .int .u64 (x : Int)] 24))
      obtain ⟨wb, hwb⟩ : ∃ wb, wr.alloc (.cells #[.int .i64 n, .int .u64 (q : Int), .int .u64 (x : Int)] 24) = wb := ⟨_, rfl⟩
      obtain ⟨gb, hgb⟩ : ∃ gb, wr.heap.size = gb := ⟨_, rfl⟩
      rw [hwb, hgb] at HC
      rw [hwb] at HBb ⊢
      rw [hgb]
      clear hwb hgb HR HBX
      refine RK.region (Below wb.heap.size wb) 100 (by kernel_rfl) ?_
      have HS0 : Below wb.heap.size wb wb.drew := below_drewN' wb 1 _
      refine RK.Any.take 0 35 (.pointer (some ⟨gb, 0, none⟩)) rfl rfl (by kernel_rfl) (by kernel_rfl) (by kernel_rfl) (by kernel_rfl) (fun _ _ _ h => h) (by rfl) (fun W' hb => ?_) HS0 ?_
      · go_simp
      simp only [List.setIfInBounds_toArray, List.set_cons_zero, List.set_cons_succ]
      refine RK.Any.take 1 36 (.int .i64 n) rfl rfl (by kernel_rfl) (by kernel_rfl) (by kernel_rfl) (by kernel_rfl) (fun _ _ _ h => h) (by rfl) (fun W' hb => ?_) HS0 ?_
      · have c := (HC.out W' hb).1; go_simp
      simp only [List.setIfInBounds_toArray, List.set_cons_zero, List.set_cons_succ]
      refine RK.Any.take 2 37 (.pointer (some ⟨gb, 1, none⟩)) rfl rfl (by kernel_rfl) (by kernel_rfl) (by kernel_rfl) (by kernel_rfl) (fun _ _ _ h => h) (by rfl) (fun W' hb => ?_) HS0 ?_
      · go_simp
      simp only [List.setIfInBounds_toArray, List.set_cons_zero, List.set_cons_succ]
      refine RK.Any.take 3 38 (.int .u64 (q : Int)) rfl rfl (by kernel_rfl) (by kernel_rfl) (by kernel_rfl) (by kernel_rfl) (fun _ _ _ h => h) (by rfl) (fun W' hb => ?_) HS0 ?_
      · have c := (HC.out W' hb).2.1; go_simp
      simp only [List.setIfInBounds_toArray, List.set_cons_zero, List.set_cons_succ]
      refine RK.Any.take 5 40 (.pointer (some ⟨gb, 2, none⟩)) rfl rfl (by kernel_rfl) (by kernel_rfl) (by kernel_rfl) (by kernel_rfl) (fun _ _ _ h => h) (by rfl) (fun W' hb => ?_) HS0 ?_
      · go_simp
      simp only [List.setIfInBounds_toArray, List.set_cons_zero, List.set_cons_succ]
      refine RK.Any.take 6 41 (.int .u64 (x : Int)) rfl rfl (by kernel_rfl) (by kernel_rfl) (by kernel_rfl) (by kernel_rfl) (fun _ _ _ h => h) (by rfl) (fun W' hb => ?_) HS0 ?_
      · have c := (HC.out W' hb).2.2; go_simp
      simp only [List.setIfInBounds_toArray, List.set_cons_zero, List.set_cons_succ]
      refine RK.Any.call 4 39 5 #[.int .i64 n, .int .u64 (q : Int)] (by kernel_rfl) rfl rfl (by rfl) (by go_simp) (Calls.mono (HK.out _) ?_)
      rintro E X1 ⟨rfl, d, hd⟩
      have HS1 : Below wb.heap.size wb X1 := by rw [hd]; exact HS0.trans (below_drewN' _ d _)
      clear hd
      refine ⟨_, rfl, fun _ => HS1, ?_⟩
      simp only [List.setIfInBounds_toArray, List.set_cons_zero, List.set_cons_succ]
      refine RK.Any.take 7 42 (.bool false) rfl rfl (by kernel_rfl) (by kernel_rfl) (by kernel_rfl) (by kernel_rfl) (fun _ _ _ h => h) (by rfl) (fun W' hb => ?_) HS1 ?_
      · go_simp
      simp only [List.setIfInBounds_toArray, List.set_cons_zero, List.set_cons_succ]
      refine RK.Any.done (by kernel_rfl) ?_
      have HBc := Lib.hid (HBb.out.trans (HS1.mono HBb.out.size))
      clear HS0 HS1 HC HBb
      go_wp2_with fail
      go_roundw
      case rel => exact ⟨k + 1, by omega, by go_num, HBc⟩
      case measure => simp [RowKit.intOf]; omega
    · have hk9 : ¬ ((k : Int) < 9) := by omega
      have HBa' := Lib.hid (HBa.out.trans (HBX.out.mono HBa.out.size))
      clear HBX HT HBa hlt hk hk0
      obtain ⟨kk, hkk⟩ : ∃ kk, (k : Int) = kk := ⟨_, rfl⟩
      rw [hkk] at hk9 ⊢
      clear hkk
      go_wp2_with fail
      obtain ⟨wc, hwc⟩ : ∃ wc, wr.alloc (.cells #[.int .u64 50, .int .u64 101, .int .i64 50, .int .u64 51, .int .u64 101, .int .i64 (-50), .int .u64 151, .int .u64 101, .int .i64 50, .int .u64 5, .int .u64 10, .int .i64 (-5), .int .u64 4, .int .u64 10, .int .i64 4, .int .u64 1, .int .u64 2, .int .i64 (-1), .int .u64 0, .int .u64 1, .int .i64 0, .int .u64 5, .int .u64 0, .int .i64 0, .int .u64 5, .int .u64 2305843009213693953, .int .i64 0, .int .u64 1152921504606846976, .int .u64 2305843009213693952, .int .i64 (-1152921504606846976), .int .u64 2305843009213693950, .int .u64 2305843009213693951, .int .i64 (-1)] 27) = wc := ⟨_, rfl⟩
      have HT : Hid (∀ k, k < 11 → wc.rangeAt wr.heap.size (k * 3) [.int .u64 ((MM.nl inX k : Nat) : Int), .int .u64 ((MM.nl inQ k : Nat) : Int), .int .i64 (MM.il inN k)]) := by rw [← hwc]; exact Lib.hid (fun k hk => int_at wr _ k hk)
      have HBd : Hid (Below W.heap.size W wc) := by rw [← hwc]; exact Lib.hid (HBa'.out.alloc HBa'.out.size _)
      obtain ⟨D2, hD2⟩ : ∃ D2, wr.heap.size = D2 := ⟨_, rfl⟩
      rw [hD2] at HT ⊢
      rw [hwc]
      clear hwc hD2 HBa'
      go_loopw [57] (fun s57 wx => ∃ k : Nat, k ≤ 11 ∧ s57 = .int .i64 (k : Int) ∧ Hid (Below wc.heap.size wc wx)) (fun s57 _ => 11 - (RowKit.intOf s57).toNat)
      case atStart => exact ⟨0, Nat.zero_le _, rfl, Lib.hid (Below.refl _ _)⟩
      case round =>
        obtain ⟨k, hk, rfl, HBX⟩ := hrel
        have hk0 : (0 : Int) ≤ (k : Int) := Int.natCast_nonneg _
        by_cases hlt : k < 11
        · have hk1 : (k : Int) < 11 := by omega
          have HR := Lib.hid (range_below (HT.out k hlt) HBX.out)
          obtain ⟨hn, hlo⟩ := int_tab k hlt
          generalize MM.nl inX k = x at *
          generalize MM.nl inQ k = q at *
          generalize MM.il inN k = n at *
          have HK : Hid (Ret 6 #[.int .u64 (x : Int), .int .u64 (q : Int)] (.int .i64 n)) := Lib.hid (by rw [← hn]; exact int_any x q hlo)
          clear hn hlo
          go_upto_region 12 with (refine wpList_load_mid rfl 27 _ rfl D2 (k * 3) rfl [.int .u64 (x : Int), .int .u64 (q : Int), .int .i64 n] _ HR.out Try.underlying27 rfl (by kernel_rfl) ?_)
          have HC : Hid (∀ u, Below (wr.alloc (.cells #[.int .u64 (x : Int), .int .u64 (q : Int), .int .i64 n] 27)).heap.size (wr.alloc (.cells #[.int .u64 (x : Int), .int .u64 (q : Int), .int .i64 n] 27)) u → u.cell? ⟨wr.heap.size, 0, none⟩ = some (.int .u64 (x : Int)) ∧ u.cell? ⟨wr.heap.size, 1, none⟩ = some (.int .u64 (q : Int)) ∧ u.cell? ⟨wr.heap.size, 2, none⟩ = some (.int .i64 n)) := Lib.hid fun u hu => ⟨box_cells u hu 0 (by simp), box_cells u hu 1 (by simp), box_cells u hu 2 (by simp)⟩
          have HBb := Lib.hid (HBX.out.alloc HBX.out.size (.cells #[.int .u64 (x : Int), .int .u64 (q : Int), .int .i64 n] 27))
          obtain ⟨wb, hwb⟩ : ∃ wb, wr.alloc (.cells #[.int .u64 (x : Int), .int .u64 (q : Int), .int .i64 n] 27) = wb := ⟨_, rfl⟩
          obtain ⟨gb, hgb⟩ : ∃ gb, wr.heap.size = gb := ⟨_, rfl⟩
          rw [hwb, hgb] at HC
          rw [hwb] at HBb ⊢
          rw [hgb]
          clear hwb hgb HR HBX
          refine RK.region (Below wb.heap.size wb) 100 (by kernel_rfl) ?_
          have HS0 : Below wb.heap.size wb wb.drew := below_drewN' wb 1 _
          refine RK.Any.take 0 61 (.pointer (some ⟨gb, 0, none⟩)) rfl rfl (by kernel_rfl) (by kernel_rfl) (by kernel_rfl) (by kernel_rfl) (fun _ _ _ h => h) (by rfl) (fun W' hb => ?_) HS0 ?_
          · go_simp
          simp only [List.setIfInBounds_toArray, List.set_cons_zero, List.set_cons_succ]
          refine RK.Any.take 1 62 (.int .u64 (x : Int)) rfl rfl (by kernel_rfl) (by kernel_rfl) (by kernel_rfl) (by kernel_rfl) (fun _ _ _ h => h) (by rfl) (fun W' hb => ?_) HS0 ?_
          · have c := (HC.out W' hb).1; go_simp
          simp only [List.setIfInBounds_toArray, List.set_cons_zero, List.set_cons_succ]
          refine RK.Any.take 2 63 (.pointer (some ⟨gb, 1, none⟩)) rfl rfl (by kernel_rfl) (by kernel_rfl) (by kernel_rfl) (by kernel_rfl) (fun _ _ _ h => h) (by rfl) (fun W' hb => ?_) HS0 ?_
          · go_simp
          simp only [List.setIfInBounds_toArray, List.set_cons_zero, List.set_cons_succ]
          refine RK.Any.take 3 64 (.int .u64 (q : Int)) rfl rfl (by kernel_rfl) (by kernel_rfl) (by kernel_rfl) (by kernel_rfl) (fun _ _ _ h => h) (by rfl) (fun W' hb => ?_) HS0 ?_
          · have c := (HC.out W' hb).2.1; go_simp
          simp only [List.setIfInBounds_toArray, List.set_cons_zero, List.set_cons_succ]
          refine RK.Any.take 5 66 (.pointer (some ⟨gb, 2, none⟩)) rfl rfl (by kernel_rfl) (by kernel_rfl) (by kernel_rfl) (by kernel_rfl) (fun _ _ _ h => h) (by rfl) (fun W' hb => ?_) HS0 ?_
          · go_simp
          simp only [List.setIfInBounds_toArray, List.set_cons_zero, List.set_cons_succ]
          refine RK.Any.take 6 67 (.int .i64 n) rfl rfl (by kernel_rfl) (by kernel_rfl) (by kernel_rfl) (by kernel_rfl) (fun _ _ _ h => h) (by rfl) (fun W' hb => ?_) HS0 ?_
          · have c := (HC.out W' hb).2.2; go_simp
          simp only [List.setIfInBounds_toArray, List.set_cons_zero, List.set_cons_succ]
          refine RK.Any.call 4 65 6 #[.int .u64 (x : Int), .int .u64 (q : Int)] (by kernel_rfl) rfl rfl (by rfl) (by go_simp) (Calls.mono (HK.out _) ?_)
          rintro E X1 ⟨rfl, d, hd⟩
          have HS1 : Below wb.heap.size wb X1 := by rw [hd]; exact HS0.trans (below_drewN' _ d _)
          clear hd
          refine ⟨_, rfl, fun _ => HS1, ?_⟩
          simp only [List.setIfInBounds_toArray, List.set_cons_zero, List.set_cons_succ]
          refine RK.Any.take 7 68 (.bool false) rfl rfl (by kernel_rfl) (by kernel_rfl) (by kernel_rfl) (by kernel_rfl) (fun _ _ _ h => h) (by rfl) (fun W' hb => ?_) HS1 ?_
          · go_simp
          simp only [List.setIfInBounds_toArray, List.set_cons_zero, List.set_cons_succ]
          refine RK.Any.done (by kernel_rfl) ?_
          have HBc := Lib.hid (HBb.out.trans (HS1.mono HBb.out.size))
          clear HS0 HS1 HC HBb
          go_wp2_with fail
          go_roundw
          case rel => exact ⟨k + 1, by omega, by go_num, HBc⟩
          case measure => simp [RowKit.intOf]; omega
        · have hk9 : ¬ ((k : Int) < 11) := by omega
          have HBd' := Lib.hid (HBd.out.trans (HBX.out.mono HBd.out.size))
          clear HBX HT HBd hlt hk hk0
          obtain ⟨kk, hkk⟩ : ∃ kk, (k : Int) = kk := ⟨_, rfl⟩
          rw [hkk] at hk9 ⊢
          clear hkk
          go_upto_region 16 with (go_at_call 7; (with_reducible refine (HSO.at _).mono ?_); rintro e w9 ⟨rfl, hb⟩; have HB9 := Lib.hid (HBd'.out.trans (hb.mono HBd'.out.size)); clear hb)
          have HS5 : Hid (PBox (w9.alloc (.cells sp.cells 31)) w9.heap.size sp) := Lib.hid (PBox.new w9 sp)
          have HBh := Lib.hid (HB9.out.alloc HB9.out.size (.cells sp.cells 31))
          generalize w9.heap.size = g5 at *
          generalize w9.alloc (.cells _ 31) = wh at *
          clear HB9
          go_wp2_with fail
          obtain ⟨wm, hwm, hms, hbl⟩ := models_at wh 36
          obtain ⟨E, hE⟩ : ∃ E, wh.heap.size + 1 + 1 + 1 + 1 + 1 + 1 + 1 + 1 + 1 + 1 + 1 + 1 + 1 + 1 + 1 + 1 + 1 + 1 + 1 + 1 + 1 + 1 + 1 = E := ⟨_, rfl⟩
          rw [hE] at hms ⊢
          rw [hwm]
          have HMS := Lib.hid hms
          have HS5m := Lib.hid (HS5.out.below hbl)
          have HBm := Lib.hid (HBh.out.trans (hbl.mono HBh.out.size))
          clear hwm hE hms hbl HS5 HBh
          go_loopw [103] (fun s103 wx => ∃ k : Nat, k ≤ 7 ∧ s103 = .int .i64 (k : Int) ∧ Hid (Below wm.heap.size wm wx)) (fun s103 _ => 7 - (RowKit.intOf s103).toNat)
          case atStart => exact ⟨0, Nat.zero_le _, rfl, Lib.hid (Below.refl _ _)⟩
          case round =>
            obtain ⟨k, hk, rfl, HBX⟩ := hrel
            have hk0 : (0 : Int) ≤ (k : Int) := Int.natCast_nonneg _
            by_cases hlt : k < 7
            · have hk1 : (k : Int) < 7 := by omega
              obtain ⟨v, hat, hrg⟩ := HMS.out k hlt
              have HR := Lib.hid (range_below hrg HBX.out)
              have HAT := Lib.hid (MoAt.below hat HBX.out)
              have HBAD := Lib.hid (bad_mo k hlt).1
              have HOK := Lib.hid (ok_mo hlt)
              clear hat hrg
              generalize moK k = mo at *
              go_upto_region 19 with (refine wpList_load_mid rfl 36 _ rfl E (k * 2) rfl [.slice v.wo mo.m v.wc, .slice v.bo mo.n v.bc] _ HR.out Try.underlying36 rfl (by kernel_rfl) ?_)
              have hbb := below_box wr (.cells (MoV.cells v mo) 36)
              have HXb : Hid (BoxM (wr.alloc (.cells (MoV.cells v mo) 36)) wr.heap.size v mo) := Lib.hid (BoxM.new wr v mo)
              have HATb := Lib.hid (MoAt.below HAT.out hbb)
              have HS5b := Lib.hid ((HS5m.out.below HBX.out).below hbb)
              have HBb := Lib.hid (HBX.out.trans (hbb.mono HBX.out.size))
              clear hbb HR HAT HBX
              obtain ⟨wb, hwb⟩ : ∃ wb, wr.alloc (.cells (MoV.cells v mo) 36) = wb := ⟨_, rfl⟩
              obtain ⟨gb, hgb⟩ : ∃ gb, wr.heap.size = gb := ⟨_, rfl⟩
              rw [hwb] at HXb HATb HS5b HBb
              rw [hgb] at HXb ⊢
              change wr.alloc (.cells #[.slice v.wo mo.m v.wc, .slice v.bo mo.n v.bc] 36) = wb at hwb
              rw [hwb]
              clear hwb hgb
              refine RK.tame [none, none, none, none, none, none, none, none, none, none, none, none, none, none, none, none, none, none, none, none, none, none, none, none, none, none, none, none, none, none, none, none, none, none, none, none, none, none, none, none, none, none, none, none, none, none, none, none, none, none, none, none, none, none, none, none, none, none, none, none, none, none, none, none, none, none, none, none, none, none, none, none, none, none, none, none, none, none, none, none, none, none, none, none, none, none, none, none, none, none, none, none, none, none, none, none, none, none, none, none, none, none, none, none, none, none, none, some 0, some 1, some 2, some 3, some 4, some 5, some 6, some 7, some 8, some 9, some 10, some 11, some 12, some 13, some 14, some 15, none, none, none, none, none, none, none, none, none, none, none, none, none, none, none, none, none, none, none, none, none, none, none, none, none, none, none, none, none, none, none, none, none, none, none, none, none, none, none, none, none, none, none, none, none, none, none, none, none, none, none, none, none, none, none, none, none, none, none, none, none, none, none, none, none, none, none, none, none, none, none, none, none, none, none, none, none, none, none, none, none, none, none, none, none, none, none, none, none, none, none, none, none, none, none, none, none, none, none, none, none, none, none, none, none, none, none, none, none, none, none, none, none, none, none, none, none, none, none, none, none, none, none, none, none, none, none] [RK.Word.eq (.agg sp.cells), RK.Word.eq (.agg (MoV.cells v mo)), RK.Word.eq (.bool false), RK.Word.eq (.bool false), RK.Word.eq (.agg sp.cells), RK.Word.eq (.agg (MoV.cells v mo)), wU [], RK.Word.eq (.int .i64 0), RK.Word.eq (.agg sp.cells), RK.Word.eq (.agg (MoV.cells v mo)), wI [1], wI [], RK.Word.eq (.int .i64 0), RK.Word.eq (.int .i64 0), RK.Word.eq (.bool false), RK.Word.eq (.bool false)] (fun u => PBox u g5 sp ∧ BoxM u gb v mo ∧ MoAt u v mo ∧ Below wb.heap.size wb u) (by kernel_rfl) (by kernel_rfl) (by kernel_rfl) ⟨HS5b.out, HXb.out, HATb.out, Below.refl _ _⟩ (fun _ _ h hb => ⟨h.1.below hb, h.2.1.below hb, h.2.2.1.below hb, h.2.2.2.trans (hb.mono h.2.2.2.size)⟩) (fun i hi a' val w' hF => ?_) (fun val w' hw hp => ?_)
              · have hi2 : i = 0 ∨ i = 1 ∨ i = 2 ∨ i = 3 ∨ i = 4 ∨ i = 5 ∨ i = 6 ∨ i = 7 ∨ i = 8 ∨ i = 9 ∨ i = 10 ∨ i = 11 ∨ i = 12 ∨ i = 13 ∨ i = 14 ∨ i = 15 := by
                  have : i < 16 := hi
                  omega
                clear hi
                rcases hi2 with rfl | rfl | rfl | rfl | rfl | rfl | rfl | rfl | rfl | rfl | rfl | rfl | rfl | rfl | rfl | rfl
                · have r5 : a'.eval (.tmp 5) = .pointer (some ⟨g5, 0, none⟩) := (hF.old 5 (.inr rfl)).trans rfl
                  refine RK.owes_exec (v := .agg sp.cells) (w' := w') rfl (RK.wanted_any rfl) ?_ (Below.refl _ _) rfl
                  exact load_box7 hF.S.1 rfl r5
                · have r7 : a'.eval (.tmp 7) = .pointer (some ⟨gb, 0, none⟩) := (hF.old 7 (.inr rfl)).trans rfl
                  refine RK.owes_exec (v := .agg (MoV.cells v mo)) (w' := w') rfl (RK.wanted_any rfl) ?_ (Below.refl _ _) rfl
                  exact load_mo7 hF.S.2.1 rfl r7
                · have p0 : val 0 = .agg sp.cells := hF.post 0 (by kernel_rfl)
                  have r107 : a'.eval (.tmp 107) = .agg sp.cells := (hF.ev 107 0 rfl (by kernel_rfl) (of_decide_eq_true (by kernel_rfl))).trans p0
                  have p1 : val 1 = .agg (MoV.cells v mo) := hF.post 1 (by kernel_rfl)
                  have r108 : a'.eval (.tmp 108) = .agg (MoV.cells v mo) := (hF.ev 108 1 rfl (by kernel_rfl) (of_decide_eq_true (by kernel_rfl))).trans p1
                  refine RK.owes_call (g := 8) (args := #[.agg sp.cells, .agg (MoV.cells v mo)]) rfl (RK.wanted_any rfl) ?_ ?_
                  · have rk : ∀ c, a'.eval (.const c) = c := fun _ => rfl
                    have rf : ∀ f, a'.eval (.func f) = .func (.func f) #[] #[] := fun _ => rfl
                    generalize a'.eval = ρ at *
                    go_simp
                  · refine (may_any sp v mo HOK.out w' hF.S.2.2.1).mono ?_
                    rintro e w2 ⟨rfl, hb⟩
                    exact ⟨_, rfl, hb, by rw [decide_eq_false HBAD.out]; rfl⟩
                · have p2 : val 2 = .bool false := hF.post 2 (by kernel_rfl)
                  have r109 : a'.eval (.tmp 109) = .bool false := (hF.ev 109 2 rfl (by kernel_rfl) (of_decide_eq_true (by kernel_rfl))).trans p2
                  refine RK.owes_exec (v := .bool false) (w' := w') rfl (RK.wanted_any rfl) ?_ (Below.refl _ _) rfl
                  have rk : ∀ c, a'.eval (.const c) = c := fun _ => rfl
                  generalize a'.eval = ρ at *
                  go_simp
                · have r5 : a'.eval (.tmp 5) = .pointer (some ⟨g5, 0, none⟩) := (hF.old 5 (.inr rfl)).trans rfl
                  have hwn : ∀ o : Oper, o.guard = some (3, false) → Region.wanted o _ = true := fun o h => RK.wanted_if h (hF.yields rfl rfl rfl (by kernel_rfl) (of_decide_eq_true (by kernel_rfl)) (hF.post 3 (by kernel_rfl)))
                  refine RK.owes_exec (v := .agg sp.cells) (w' := w') rfl (hwn _ rfl) ?_ (Below.refl _ _) rfl
                  exact load_box7 hF.S.1 rfl r5
                · have r7 : a'.eval (.tmp 7) = .pointer (some ⟨gb, 0, none⟩) := (hF.old 7 (.inr rfl)).trans rfl
                  have hwn : ∀ o : Oper, o.guard = some (3, false) → Region.wanted o _ = true := fun o h => RK.wanted_if h (hF.yields rfl rfl rfl (by kernel_rfl) (of_decide_eq_true (by kernel_rfl)) (hF.post 3 (by kernel_rfl)))
                  refine RK.owes_exec (v := .agg (MoV.cells v mo)) (w' := w') rfl (hwn _ rfl) ?_ (Below.refl _ _) rfl
                  exact load_mo7 hF.S.2.1 rfl r7
                · have p4 : val 4 = .agg sp.cells := hF.post 4 (by kernel_rfl)
                  have r111 : a'.eval (.tmp 111) = .agg sp.cells := (hF.ev 111 4 rfl (by kernel_rfl) (of_decide_eq_true (by kernel_rfl))).trans p4
                  have p5 : val 5 = .agg (MoV.cells v mo) := hF.post 5 (by kernel_rfl)
                  have r112 : a'.eval (.tmp 112) = .agg (MoV.cells v mo) := (hF.ev 112 5 rfl (by kernel_rfl) (of_decide_eq_true (by kernel_rfl))).trans p5
                  have hwn : ∀ o : Oper, o.guard = some (3, false) → Region.wanted o _ = true := fun o h => RK.wanted_if h (hF.yields rfl rfl rfl (by kernel_rfl) (of_decide_eq_true (by kernel_rfl)) (hF.post 3 (by kernel_rfl)))
                  refine RK.owes_call (g := 9) (args := #[.agg sp.cells, .agg (MoV.cells v mo)]) rfl (hwn _ rfl) ?_ ?_
                  · have rk : ∀ c, a'.eval (.const c) = c := fun _ => rfl
                    have rf : ∀ f, a'.eval (.func f) = .func (.func f) #[] #[] := fun _ => rfl
                    generalize a'.eval = ρ at *
                    go_simp
                  · refine (secrets_any sp v mo HOK.out w' hF.S.2.2.1).mono ?_
                    rintro e w2 ⟨u, rfl, hu, hb⟩
                    exact ⟨_, rfl, hb, isU_of hu (by unfold MM.secN; rw [if_neg HBAD.out]; rfl) (fun k hk => absurd hk (Nat.not_lt_zero _))⟩
                · obtain ⟨ao6, c6, e6, l6, h6⟩ : ∃ ao c, val 6 = .slice ao 0 c ∧ 0 ≤ c ∧ Rd w' ao 0 (MM.nl []) := (hF.post 6 (by kernel_rfl))
                  have r113 : a'.eval (.tmp 113) = .slice ao6 0 c6 := (hF.ev 113 6 rfl (by kernel_rfl) (of_decide_eq_true (by kernel_rfl))).trans e6
                  have hwn : ∀ o : Oper, o.guard = some (3, false) → Region.wanted o _ = true := fun o h => RK.wanted_if h (hF.yields rfl rfl rfl (by kernel_rfl) (of_decide_eq_true (by kernel_rfl)) (hF.post 3 (by kernel_rfl)))
                  refine RK.owes_exec (v := .int .i64 0) (w' := w') rfl (hwn _ rfl) ?_ (Below.refl _ _) rfl
                  have rk : ∀ c, a'.eval (.const c) = c := fun _ => rfl
                  generalize a'.eval = ρ at *
                  go_simp
                · have r5 : a'.eval (.tmp 5) = .pointer (some ⟨g5, 0, none⟩) := (hF.old 5 (.inr rfl)).trans rfl
                  have hwn : ∀ o : Oper, o.guard = some (3, false) → Region.wanted o _ = true := fun o h => RK.wanted_if h (hF.yields rfl rfl rfl (by kernel_rfl) (of_decide_eq_true (by kernel_rfl)) (hF.post 3 (by kernel_rfl)))
                  refine RK.owes_exec (v := .agg sp.cells) (w' := w') rfl (hwn _ rfl) ?_ (Below.refl _ _) rfl
                  exact load_box7 hF.S.1 rfl r5
                · have r7 : a'.eval (.tmp 7) = .pointer (some ⟨gb, 0, none⟩) := (hF.old 7 (.inr rfl)).trans rfl
                  have hwn : ∀ o : Oper, o.guard = some (3, false) → Region.wanted o _ = true := fun o h => RK.wanted_if h (hF.yields rfl rfl rfl (by kernel_rfl) (of_decide_eq_true (by kernel_rfl)) (hF.post 3 (by kernel_rfl)))
                  refine RK.owes_exec (v := .agg (MoV.cells v mo)) (w' := w') rfl (hwn _ rfl) ?_ (Below.refl _ _) rfl
                  exact load_mo7 hF.S.2.1 rfl r7
                · have hwn : ∀ o : Oper, o.guard = some (3, false) → Region.wanted o _ = true := fun o h => RK.wanted_if h (hF.yields rfl rfl rfl (by kernel_rfl) (of_decide_eq_true (by kernel_rfl)) (hF.post 3 (by kernel_rfl)))
                  refine RK.owes_exec (v := .slice (some ⟨w'.heap.size, 0, none⟩) 1 1) (w' := (w'.alloc (.cells #[.int .i64 1] 2))) rfl (hwn _ rfl) ?_ (below_box _ _) (isI_new w' [1] rfl rfl)
                  have rk : ∀ c, a'.eval (.const c) = c := fun _ => rfl
                  generalize a'.eval = ρ at *
                  go_simp
                · have p8 : val 8 = .agg sp.cells := hF.post 8 (by kernel_rfl)
                  have r115 : a'.eval (.tmp 115) = .agg sp.cells := (hF.ev 115 8 rfl (by kernel_rfl) (of_decide_eq_true (by kernel_rfl))).trans p8
                  have p9 : val 9 = .agg (MoV.cells v mo) := hF.post 9 (by kernel_rfl)
                  have r116 : a'.eval (.tmp 116) = .agg (MoV.cells v mo) := (hF.ev 116 9 rfl (by kernel_rfl) (of_decide_eq_true (by kernel_rfl))).trans p9
                  obtain ⟨ao10, c10, e10, h10⟩ : ∃ ao c, val 10 = .slice ao 1 c ∧ IRow w' ao 1 c (MM.il [1]) := (hF.post 10 (by kernel_rfl))
                  have r117 : a'.eval (.tmp 117) = .slice ao10 1 c10 := (hF.ev 117 10 rfl (by kernel_rfl) (of_decide_eq_true (by kernel_rfl))).trans e10
                  have hwn : ∀ o : Oper, o.guard = some (3, false) → Region.wanted o _ = true := fun o h => RK.wanted_if h (hF.yields rfl rfl rfl (by kernel_rfl) (of_decide_eq_true (by kernel_rfl)) (hF.post 3 (by kernel_rfl)))
                  refine RK.owes_call (g := 10) (args := #[.agg sp.cells, .agg (MoV.cells v mo), .slice ao10 1 c10]) rfl (hwn _ rfl) ?_ ?_
                  · have rk : ∀ c, a'.eval (.const c) = c := fun _ => rfl
                    have rf : ∀ f, a'.eval (.func f) = .func (.func f) #[] #[] := fun _ => rfl
                    generalize a'.eval = ρ at *
                    go_simp
                  · refine (scores_any sp v mo HOK.out ao10 1 c10 (MM.il [1]) (by omega) w' hF.S.2.2.1 h10).mono ?_
                    rintro e w2 ⟨u, rfl, hu, hb⟩
                    exact ⟨_, rfl, hb, isI_of hu (by unfold MM.scoN; rw [if_neg (fun h => HBAD.out h.1)]; rfl) (fun k hk => absurd hk (Nat.not_lt_zero _))⟩
                · obtain ⟨ao11, c11, e11, h11⟩ : ∃ ao c, val 11 = .slice ao 0 c ∧ IRow w' ao 0 c (MM.il []) := (hF.post 11 (by kernel_rfl))
                  have r118 : a'.eval (.tmp 118) = .slice ao11 0 c11 := (hF.ev 118 11 rfl (by kernel_rfl) (of_decide_eq_true (by kernel_rfl))).trans e11
                  have hwn : ∀ o : Oper, o.guard = some (3, false) → Region.wanted o _ = true := fun o h => RK.wanted_if h (hF.yields rfl rfl rfl (by kernel_rfl) (of_decide_eq_true (by kernel_rfl)) (hF.post 3 (by kernel_rfl)))
                  refine RK.owes_exec (v := .int .i64 0) (w' := w') rfl (hwn _ rfl) ?_ (Below.refl _ _) rfl
                  have rk : ∀ c, a'.eval (.const c) = c := fun _ => rfl
                  generalize a'.eval = ρ at *
                  go_simp
                · have p7 : val 7 = .int .i64 0 := hF.post 7 (by kernel_rfl)
                  have r114 : a'.eval (.tmp 114) = .int .i64 0 := (hF.ev 114 7 rfl (by kernel_rfl) (of_decide_eq_true (by kernel_rfl))).trans p7
                  have p12 : val 12 = .int .i64 0 := hF.post 12 (by kernel_rfl)
                  have r119 : a'.eval (.tmp 119) = .int .i64 0 := (hF.ev 119 12 rfl (by kernel_rfl) (of_decide_eq_true (by kernel_rfl))).trans p12
                  have hwn : ∀ o : Oper, o.guard = some (3, false) → Region.wanted o _ = true := fun o h => RK.wanted_if h (hF.yields rfl rfl rfl (by kernel_rfl) (of_decide_eq_true (by kernel_rfl)) (hF.post 3 (by kernel_rfl)))
                  refine RK.owes_exec (v := .int .i64 0) (w' := w') rfl (hwn _ rfl) ?_ (Below.refl _ _) rfl
                  have rk : ∀ c, a'.eval (.const c) = c := fun _ => rfl
                  generalize a'.eval = ρ at *
                  go_simp; rfl
                · have p13 : val 13 = .int .i64 0 := hF.post 13 (by kernel_rfl)
                  have r120 : a'.eval (.tmp 120) = .int .i64 0 := (hF.ev 120 13 rfl (by kernel_rfl) (of_decide_eq_true (by kernel_rfl))).trans p13
                  have hwn : ∀ o : Oper, o.guard = some (3, false) → Region.wanted o _ = true := fun o h => RK.wanted_if h (hF.yields rfl rfl rfl (by kernel_rfl) (of_decide_eq_true (by kernel_rfl)) (hF.post 3 (by kernel_rfl)))
                  refine RK.owes_exec (v := .bool false) (w' := w') rfl (hwn _ rfl) ?_ (Below.refl _ _) rfl
                  have rk : ∀ c, a'.eval (.const c) = c := fun _ => rfl
                  generalize a'.eval = ρ at *
                  go_simp
                · have p3 : val 3 = .bool false := hF.post 3 (by kernel_rfl)
                  have r110 : a'.eval (.tmp 110) = .bool false := (hF.ev 110 3 rfl (by kernel_rfl) (of_decide_eq_true (by kernel_rfl))).trans p3
                  have p14 : val 14 = .bool false := hF.post 14 (by kernel_rfl)
                  have r121 : a'.eval (.tmp 121) = .bool false := (hF.ev 121 14 rfl (by kernel_rfl) (of_decide_eq_true (by kernel_rfl))).trans p14
                  refine RK.owes_exec (v := .bool false) (w' := w') rfl (RK.wanted_any rfl) ?_ (Below.refl _ _) rfl
                  have rk : ∀ c, a'.eval (.const c) = c := fun _ => rfl
                  generalize a'.eval = ρ at *
                  go_simp
              have hz : val 15 = .bool false := hp 15 (of_decide_eq_true (by kernel_rfl))
              simp only [RK.slotsL, if_true, hz]
              obtain ⟨wt, hwt⟩ : ∃ wt, wt = w' := ⟨_, rfl⟩
              subst hwt
              have HBc := Lib.hid (HBb.out.trans (hw.2.2.2.mono HBb.out.size))
              clear hp hw hz HXb HATb HS5b HBb
              go_wp2_with fail
              go_roundw
              case rel => exact ⟨k + 1, by omega, by go_num, HBc⟩
              case measure => simp [RowKit.intOf]; omega
            · have hk9 : ¬ ((k : Int) < 7) := by omega
              have HB7 := Lib.hid (HBm.out.trans (HBX.out.mono HBm.out.size))
              have HS7 := Lib.hid (HS5m.out.below HBX.out)
              clear HBX HBm HS5m HMS hlt hk hk0
              obtain ⟨kk, hkk⟩ : ∃ kk, (k : Int) = kk := ⟨_, rfl⟩
              rw [hkk] at hk9 ⊢
              clear hkk
              go_upto_region 23 with fail
              obtain ⟨we, hwe, hma, hbx, hbl⟩ := ends_at wr
              obtain ⟨v8, hv8⟩ : ∃ v8, (⟨some ⟨wr.heap.size + 1 + 1, 0, none⟩, 2, some ⟨wr.heap.size + 1 + 1 + 1, 0, none⟩, 2⟩ : MoV) = v8 := ⟨_, rfl⟩
              rw [hv8] at hma hbx
              obtain ⟨g8, hg8⟩ : ∃ g8, wr.heap.size + 1 + 1 + 1 + 1 = g8 := ⟨_, rfl⟩
              rw [hg8] at hbx ⊢
              rw [hwe]
              have HX8 := Lib.hid hbx
              have HA8 := Lib.hid hma
              have HB8 := Lib.hid (HB7.out.trans (hbl.mono HB7.out.size))
              have HS8 := Lib.hid (HS7.out.below hbl)
              clear hwe hma hbx hbl hv8 hg8 HB7 HS7 hk9
              go_wp2_with fail
              obtain ⟨wp, hwp⟩ : ∃ wp, we.alloc (.cells #[.int .u64 0, .int .u64 101, .int .u64 0, .int .u64 0, .int .i64 0, .int .i64 0, .int .i64 0, .int .i64 (-1), .int .i64 1, .int .i64 0, .int .i64 3, .int .i64 2, .int .u64 0, .int .u64 101, .int .u64 0, .int .u64 0, .int .i64 0, .int .i64 0, .int .i64 0, .int .i64 3, .int .i64 1, .int .i64 0, .int .i64 3, .int .i64 2, .int .u64 0, .int .u64 101, .int .u64 0, .int .u64 0, .int .i64 0, .int .i64 0, .int .i64 0, .int .i64 2, .int .i64 5, .int .i64 0, .int .i64 3, .int .i64 2, .int .u64 0, .int .u64 101, .int .u64 0, .int .u64 0, .int .i64 0, .int .i64 0, .int .i64 0, .int .i64 2, .int .i64 (-1), .int .i64 0, .int .i64 3, .int .i64 2, .int .u64 0, .int .u64 101, .int .u64 0, .int .u64 0, .int .i64 0, .int .i64 0, .int .i64 0, .int .i64 2, .int .i64 1, .int .i64 0, .int .i64 (-1), .int .i64 2, .int .u64 0, .int .u64 101, .int .u64 0, .int .u64 0, .int .i64 0, .int .i64 0, .int .i64 0, .int .i64 2, .int .i64 1, .int .i64 0, .int .i64 1048577, .int .i64 2, .int .u64 0, .int .u64 101, .int .u64 0, .int .u64 0, .int .i64 0, .int .i64 0, .int .i64 0, .int .i64 2, .int .i64 1, .int .i64 0, .int .i64 3, .int .i64 (-1), .int .u64 0, .int .u64 101, .int .u64 0, .int .u64 0, .int .i64 0, .int .i64 0, .int .i64 0, .int .i64 2, .int .i64 1, .int .i64 0, .int .i64 3, .int .i64 1048577] 31) = wp := ⟨_, rfl⟩
              have HPQ : Hid (∀ k, k < 8 → wp.rangeAt we.heap.size (k * 12) (ps7.getD k sp).cells.toList) := by rw [← hwp]; exact Lib.hid (fun k hk => pm_at we _ k hk)
              have hbw : Below we.heap.size we wp := by rw [← hwp]; exact below_box we _
              have HBp := Lib.hid (HB8.out.trans (hbw.mono HB8.out.size))
              have HXp := Lib.hid (HX8.out.below hbw)
              have HATp := Lib.hid (MoAt.below HA8.out hbw)
              have HS5p := Lib.hid (HS8.out.below hbw)
              obtain ⟨D4, hD4⟩ : ∃ D4, we.heap.size = D4 := ⟨_, rfl⟩
              rw [hD4] at HPQ ⊢
              rw [hwp]
              clear hwp hD4 hbw HB8 HX8 HA8 HS8
              go_loopw [139] (fun s139 wx => ∃ k : Nat, k ≤ 8 ∧ s139 = .int .i64 (k : Int) ∧ Hid (Below wp.heap.size wp wx)) (fun s139 _ => 8 - (RowKit.intOf s139).toNat)
              case atStart => exact ⟨0, Nat.zero_le _, rfl, Lib.hid (Below.refl _ _)⟩
              case round =>
                obtain ⟨k, hk, rfl, HBX⟩ := hrel
                have hk0 : (0 : Int) ≤ (k : Int) := Int.natCast_nonneg _
                by_cases hlt : k < 8
                · have hk1 : (k : Int) < 8 := by omega
                  have HR := Lib.hid (range_below (HPQ.out k hlt) HBX.out)
                  have HBA := Lib.hid (bad_all (bad_pm k hlt))
                  generalize ps7.getD k sp = p at *
                  go_upto_region 26 with (refine wpList_load_mid rfl 31 _ rfl D4 (k * 12) rfl [.int .u64 (p.P : Int), .int .u64 (p.Q : Int), .int .u64 (p.G : Int), .int .u64 (p.H : Int), .int .i64 p.Nodes, .int .i64 p.N, .int .i64 p.T, .int .i64 p.K, .int .i64 p.D, .int .i64 p.R, .int .i64 p.M, .int .i64 p.X] _ HR.out Try.underlying31 rfl (by kernel_rfl) ?_)
                  have hbb := below_box wr (.cells p.cells 31)
                  have HPb : Hid (PBox (wr.alloc (.cells p.cells 31)) wr.heap.size p) := Lib.hid (PBox.new wr p)
                  have HXb := Lib.hid ((HXp.out.below HBX.out).below hbb)
                  have HATb := Lib.hid ((MoAt.below HATp.out HBX.out).below hbb)
                  have HBb := Lib.hid (HBX.out.trans (hbb.mono HBX.out.size))
                  clear hbb HR HBX
                  obtain ⟨wb, hwb⟩ : ∃ wb, wr.alloc (.cells p.cells 31) = wb := ⟨_, rfl⟩
                  obtain ⟨gb, hgb⟩ : ∃ gb, wr.heap.size = gb := ⟨_, rfl⟩
                  rw [hwb] at HPb HXb HATb HBb
                  rw [hgb] at HPb ⊢
                  change wr.alloc (.cells #[.int .u64 (p.P : Int), .int .u64 (p.Q : Int), .int .u64 (p.G : Int), .int .u64 (p.H : Int), .int .i64 p.Nodes, .int .i64 p.N, .int .i64 p.T, .int .i64 p.K, .int .i64 p.D, .int .i64 p.R, .int .i64 p.M, .int .i64 p.X] 31) = wb at hwb
                  rw [hwb]
                  clear hwb hgb
                  refine RK.tame [none, none, none, none, none, none, none, none, none, none, none, none, none, none, none, none, none, none, none, none, none, none, none, none, none, none, none, none, none, none, none, none, none, none, none, none, none, none, none, none, none, none, none, none, none, none, none, none, none, none, none, none, none, none, none, none, none, none, none, none, none, none, none, none, none, none, none, none, none, none, none, none, none, none, none, none, none, none, none, none, none, none, none, none, none, none, none, none, none, none, none, none, none, none, none, none, none, none, none, none, none, none, none, none, none, none, none, none, none, none, none, none, none, none, none, none, none, none, none, none, none, none, none, none, none, none, none, none, none, none, none, none, none, none, none, none, none, none, none, none, none, none, none, some 0, some 1, some 2, some 3, some 4, some 5, some 6, some 7, some 8, some 9, some 10, some 11, some 12, some 13, some 14, some 15, some 16, some 17, some 18, some 19, some 20, some 21, some 22, some 23, some 24, some 25, some 26, none, none, none, none, none, none, none, none, none, none, none, none, none, none, none, none, none, none, none, none, none, none, none, none, none, none, none, none, none, none, none, none, none, none, none, none, none, none, none, none, none, none, none, none, none, none, none, none, none, none, none, none, none, none, none, none, none, none, none, none, none, none, none, none, none, none, none, none, none, none, none, none, none, none, none, none, none, none, none, none] [RK.Word.eq (.agg p.cells), RK.Word.eq (.agg (MoV.cells v8 ends7)), RK.Word.eq (.bool false), RK.Word.eq (.bool false), RK.Word.eq (.agg p.cells), wI [0], RK.Word.eq (.int .i64 4), RK.Word.eq (.bool false), RK.Word.eq (.bool false), RK.Word.eq (.bool false), RK.Word.eq (.agg p.cells), wI [1], wU [], RK.Word.eq (.int .i64 0), RK.Word.eq (.agg p.cells), wU [1, 1, 1, 1], wI [1], wU [], RK.Word.eq (.int .i64 0), RK.Word.eq (.int .i64 0), RK.Word.eq (.agg p.cells), RK.Word.eq (.agg (MoV.cells v8 ends7)), wU [], RK.Word.eq (.int .i64 0), RK.Word.eq (.int .i64 0), RK.Word.eq (.bool false), RK.Word.eq (.bool false)] (fun u => PBox u gb p ∧ BoxM u g8 v8 ends7 ∧ MoAt u v8 ends7 ∧ Below wb.heap.size wb u) (by kernel_rfl) (by kernel_rfl) (by kernel_rfl) ⟨HPb.out, HXb.out, HATb.out, Below.refl _ _⟩ (fun _ _ h hb => ⟨h.1.below hb, h.2.1.below hb, h.2.2.1.below hb, h.2.2.2.trans (hb.mono h.2.2.2.size)⟩) (fun i hi a' val w' hF => ?_) (fun val w' hw hp => ?_)
                  · have hi2 : i = 0 ∨ i = 1 ∨ i = 2 ∨ i = 3 ∨ i = 4 ∨ i = 5 ∨ i = 6 ∨ i = 7 ∨ i = 8 ∨ i = 9 ∨ i = 10 ∨ i = 11 ∨ i = 12 ∨ i = 13 ∨ i = 14 ∨ i = 15 ∨ i = 16 ∨ i = 17 ∨ i = 18 ∨ i = 19 ∨ i = 20 ∨ i = 21 ∨ i = 22 ∨ i = 23 ∨ i = 24 ∨ i = 25 ∨ i = 26 := by
                      have : i < 27 := hi
                      omega
                    clear hi
                    rcases hi2 with rfl | rfl | rfl | rfl | rfl | rfl | rfl | rfl | rfl | rfl | rfl | rfl | rfl | rfl | rfl | rfl | rfl | rfl | rfl | rfl | rfl | rfl | rfl | rfl | rfl | rfl | rfl
                    · have r10 : a'.eval (.tmp 10) = .pointer (some ⟨gb, 0, none⟩) := (hF.old 10 (.inr rfl)).trans rfl
                      refine RK.owes_exec (v := .agg p.cells) (w' := w') rfl (RK.wanted_any rfl) ?_ (Below.refl _ _) rfl
                      exact load_box7 hF.S.1 rfl r10
                    · have r8 : a'.eval (.tmp 8) = .pointer (some ⟨g8, 0, none⟩) := (hF.old 8 (.inr rfl)).trans rfl
                      refine RK.owes_exec (v := .agg (MoV.cells v8 ends7)) (w' := w') rfl (RK.wanted_any rfl) ?_ (Below.refl _ _) rfl
                      exact load_mo7 hF.S.2.1 rfl r8
                    · have p0 : val 0 = .agg p.cells := hF.post 0 (by kernel_rfl)
                      have r143 : a'.eval (.tmp 143) = .agg p.cells := (hF.ev 143 0 rfl (by kernel_rfl) (of_decide_eq_true (by kernel_rfl))).trans p0
                      have p1 : val 1 = .agg (MoV.cells v8 ends7) := hF.post 1 (by kernel_rfl)
                      have r144 : a'.eval (.tmp 144) = .agg (MoV.cells v8 ends7) := (hF.ev 144 1 rfl (by kernel_rfl) (of_decide_eq_true (by kernel_rfl))).trans p1
                      refine RK.owes_call (g := 8) (args := #[.agg p.cells, .agg (MoV.cells v8 ends7)]) rfl (RK.wanted_any rfl) ?_ ?_
                      · have rk : ∀ c, a'.eval (.const c) = c := fun _ => rfl
                        have rf : ∀ f, a'.eval (.func f) = .func (.func f) #[] #[] := fun _ => rfl
                        generalize a'.eval = ρ at *
                        go_simp
                      · refine (may_any p v8 ends7 ends_ok w' hF.S.2.2.1).mono ?_
                        rintro e w2 ⟨rfl, hb⟩
                        exact ⟨_, rfl, hb, by rw [HBA.out.1]; rfl⟩
                    · have p2 : val 2 = .bool false := hF.post 2 (by kernel_rfl)
                      have r145 : a'.eval (.tmp 145) = .bool false := (hF.ev 145 2 rfl (by kernel_rfl) (of_decide_eq_true (by kernel_rfl))).trans p2
                      refine RK.owes_exec (v := .bool false) (w' := w') rfl (RK.wanted_any rfl) ?_ (Below.refl _ _) rfl
                      have rk : ∀ c, a'.eval (.const c) = c := fun _ => rfl
                      generalize a'.eval = ρ at *
                      go_simp
                    · have r10 : a'.eval (.tmp 10) = .pointer (some ⟨gb, 0, none⟩) := (hF.old 10 (.inr rfl)).trans rfl
                      have hwn : ∀ o : Oper, o.guard = some (3, false) → Region.wanted o _ = true := fun o h => RK.wanted_if h (hF.yields rfl rfl rfl (by kernel_rfl) (of_decide_eq_true (by kernel_rfl)) (hF.post 3 (by kernel_rfl)))
                      refine RK.owes_exec (v := .agg p.cells) (w' := w') rfl (hwn _ rfl) ?_ (Below.refl _ _) rfl
                      exact load_box7 hF.S.1 rfl r10
                    · have hwn : ∀ o : Oper, o.guard = some (3, false) → Region.wanted o _ = true := fun o h => RK.wanted_if h (hF.yields rfl rfl rfl (by kernel_rfl) (of_decide_eq_true (by kernel_rfl)) (hF.post 3 (by kernel_rfl)))
                      refine RK.owes_exec (v := .slice (some ⟨w'.heap.size, 0, none⟩) 1 1) (w' := (w'.alloc (.cells #[.int .i64 0] 2))) rfl (hwn _ rfl) ?_ (below_box _ _) (isI_new w' [0] rfl rfl)
                      have rk : ∀ c, a'.eval (.const c) = c := fun _ => rfl
                      generalize a'.eval = ρ at *
                      go_simp
                    · have p4 : val 4 = .agg p.cells := hF.post 4 (by kernel_rfl)
                      have r147 : a'.eval (.tmp 147) = .agg p.cells := (hF.ev 147 4 rfl (by kernel_rfl) (of_decide_eq_true (by kernel_rfl))).trans p4
                      obtain ⟨ao5, c5, e5, h5⟩ : ∃ ao c, val 5 = .slice ao 1 c ∧ IRow w' ao 1 c (MM.il [0]) := (hF.post 5 (by kernel_rfl))
                      have r148 : a'.eval (.tmp 148) = .slice ao5 1 c5 := (hF.ev 148 5 rfl (by kernel_rfl) (of_decide_eq_true (by kernel_rfl))).trans e5
                      have hwn : ∀ o : Oper, o.guard = some (3, false) → Region.wanted o _ = true := fun o h => RK.wanted_if h (hF.yields rfl rfl rfl (by kernel_rfl) (of_decide_eq_true (by kernel_rfl)) (hF.post 3 (by kernel_rfl)))
                      refine RK.owes_call (g := 11) (args := #[.agg p.cells, .slice ao5 1 c5]) rfl (hwn _ rfl) ?_ ?_
                      · have rk : ∀ c, a'.eval (.const c) = c := fun _ => rfl
                        have rf : ∀ f, a'.eval (.func f) = .func (.func f) #[] #[] := fun _ => rfl
                        generalize a'.eval = ρ at *
                        go_simp
                      · refine (query_any p ao5 1 c5 (MM.il [0]) (by omega) w' h5).mono ?_
                        rintro e w2 ⟨rfl, hb⟩
                        exact ⟨_, rfl, hb, by rw [HBA.out.2.1]; rfl⟩
                    · have p6 : val 6 = .int .i64 4 := hF.post 6 (by kernel_rfl)
                      have r149 : a'.eval (.tmp 149) = .int .i64 4 := (hF.ev 149 6 rfl (by kernel_rfl) (of_decide_eq_true (by kernel_rfl))).trans p6
                      have hwn : ∀ o : Oper, o.guard = some (3, false) → Region.wanted o _ = true := fun o h => RK.wanted_if h (hF.yields rfl rfl rfl (by kernel_rfl) (of_decide_eq_true (by kernel_rfl)) (hF.post 3 (by kernel_rfl)))
                      refine RK.owes_exec (v := .bool false) (w' := w') rfl (hwn _ rfl) ?_ (Below.refl _ _) rfl
                      have rk : ∀ c, a'.eval (.const c) = c := fun _ => rfl
                      generalize a'.eval = ρ at *
                      go_simp
                    · have p3 : val 3 = .bool false := hF.post 3 (by kernel_rfl)
                      have r146 : a'.eval (.tmp 146) = .bool false := (hF.ev 146 3 rfl (by kernel_rfl) (of_decide_eq_true (by kernel_rfl))).trans p3
                      have p7 : val 7 = .bool false := hF.post 7 (by kernel_rfl)
                      have r150 : a'.eval (.tmp 150) = .bool false := (hF.ev 150 7 rfl (by kernel_rfl) (of_decide_eq_true (by kernel_rfl))).trans p7
                      refine RK.owes_exec (v := .bool false) (w' := w') rfl (RK.wanted_any rfl) ?_ (Below.refl _ _) rfl
                      have rk : ∀ c, a'.eval (.const c) = c := fun _ => rfl
                      generalize a'.eval = ρ at *
                      go_simp
                    · have p8 : val 8 = .bool false := hF.post 8 (by kernel_rfl)
                      have r151 : a'.eval (.tmp 151) = .bool false := (hF.ev 151 8 rfl (by kernel_rfl) (of_decide_eq_true (by kernel_rfl))).trans p8
                      refine RK.owes_exec (v := .bool false) (w' := w') rfl (RK.wanted_any rfl) ?_ (Below.refl _ _) rfl
                      have rk : ∀ c, a'.eval (.const c) = c := fun _ => rfl
                      generalize a'.eval = ρ at *
                      go_simp
                    · have r10 : a'.eval (.tmp 10) = .pointer (some ⟨gb, 0, none⟩) := (hF.old 10 (.inr rfl)).trans rfl
                      have hwn : ∀ o : Oper, o.guard = some (9, false) → Region.wanted o _ = true := fun o h => RK.wanted_if h (hF.yields rfl rfl rfl (by kernel_rfl) (of_decide_eq_true (by kernel_rfl)) (hF.post 9 (by kernel_rfl)))
                      refine RK.owes_exec (v := .agg p.cells) (w' := w') rfl (hwn _ rfl) ?_ (Below.refl _ _) rfl
                      exact load_box7 hF.S.1 rfl r10
                    · have hwn : ∀ o : Oper, o.guard = some (9, false) → Region.wanted o _ = true := fun o h => RK.wanted_if h (hF.yields rfl rfl rfl (by kernel_rfl) (of_decide_eq_true (by kernel_rfl)) (hF.post 9 (by kernel_rfl)))
                      refine RK.owes_exec (v := .slice (some ⟨w'.heap.size, 0, none⟩) 1 1) (w' := (w'.alloc (.cells #[.int .i64 1] 2))) rfl (hwn _ rfl) ?_ (below_box _ _) (isI_new w' [1] rfl rfl)
                      have rk : ∀ c, a'.eval (.const c) = c := fun _ => rfl
                      generalize a'.eval = ρ at *
                      go_simp
                    · have p10 : val 10 = .agg p.cells := hF.post 10 (by kernel_rfl)
                      have r153 : a'.eval (.tmp 153) = .agg p.cells := (hF.ev 153 10 rfl (by kernel_rfl) (of_decide_eq_true (by kernel_rfl))).trans p10
                      obtain ⟨ao11, c11, e11, h11⟩ : ∃ ao c, val 11 = .slice ao 1 c ∧ IRow w' ao 1 c (MM.il [1]) := (hF.post 11 (by kernel_rfl))
                      have r154 : a'.eval (.tmp 154) = .slice ao11 1 c11 := (hF.ev 154 11 rfl (by kernel_rfl) (of_decide_eq_true (by kernel_rfl))).trans e11
                      have hwn : ∀ o : Oper, o.guard = some (9, false) → Region.wanted o _ = true := fun o h => RK.wanted_if h (hF.yields rfl rfl rfl (by kernel_rfl) (of_decide_eq_true (by kernel_rfl)) (hF.post 9 (by kernel_rfl)))
                      refine RK.owes_call (g := 12) (args := #[.agg p.cells, .slice ao11 1 c11]) rfl (hwn _ rfl) ?_ ?_
                      · have rk : ∀ c, a'.eval (.const c) = c := fun _ => rfl
                        have rf : ∀ f, a'.eval (.func f) = .func (.func f) #[] #[] := fun _ => rfl
                        generalize a'.eval = ρ at *
                        go_simp
                      · refine (row_any p ao11 1 c11 (MM.il [1]) (il7_ok [1] (by decide +kernel)) w' h11).mono ?_
                        rintro e w2 ⟨u, rfl, hu, hb⟩
                        exact ⟨_, rfl, hb, isU_of hu HBA.out.2.2.1 (fun k hk => absurd hk (Nat.not_lt_zero _))⟩
                    · obtain ⟨ao12, c12, e12, l12, h12⟩ : ∃ ao c, val 12 = .slice ao 0 c ∧ 0 ≤ c ∧ Rd w' ao 0 (MM.nl []) := (hF.post 12 (by kernel_rfl))
                      have r155 : a'.eval (.tmp 155) = .slice ao12 0 c12 := (hF.ev 155 12 rfl (by kernel_rfl) (of_decide_eq_true (by kernel_rfl))).trans e12
                      have hwn : ∀ o : Oper, o.guard = some (9, false) → Region.wanted o _ = true := fun o h => RK.wanted_if h (hF.yields rfl rfl rfl (by kernel_rfl) (of_decide_eq_true (by kernel_rfl)) (hF.post 9 (by kernel_rfl)))
                      refine RK.owes_exec (v := .int .i64 0) (w' := w') rfl (hwn _ rfl) ?_ (Below.refl _ _) rfl
                      have rk : ∀ c, a'.eval (.const c) = c := fun _ => rfl
                      generalize a'.eval = ρ at *
                      go_simp
                    · have r10 : a'.eval (.tmp 10) = .pointer (some ⟨gb, 0, none⟩) := (hF.old 10 (.inr rfl)).trans rfl
                      have hwn : ∀ o : Oper, o.guard = some (9, false) → Region.wanted o _ = true := fun o h => RK.wanted_if h (hF.yields rfl rfl rfl (by kernel_rfl) (of_decide_eq_true (by kernel_rfl)) (hF.post 9 (by kernel_rfl)))
                      refine RK.owes_exec (v := .agg p.cells) (w' := w') rfl (hwn _ rfl) ?_ (Below.refl _ _) rfl
                      exact load_box7 hF.S.1 rfl r10
                    · have hwn : ∀ o : Oper, o.guard = some (9, false) → Region.wanted o _ = true := fun o h => RK.wanted_if h (hF.yields rfl rfl rfl (by kernel_rfl) (of_decide_eq_true (by kernel_rfl)) (hF.post 9 (by kernel_rfl)))
                      refine RK.owes_exec (v := .slice (some ⟨w'.heap.size, 0, none⟩) 4 4) (w' := (w'.alloc (.cells #[.int .u64 1, .int .u64 1, .int .u64 1, .int .u64 1] 23))) rfl (hwn _ rfl) ?_ (below_box _ _) (isU_new w' [1, 1, 1, 1] rfl rfl)
                      have rk : ∀ c, a'.eval (.const c) = c := fun _ => rfl
                      generalize a'.eval = ρ at *
                      go_simp
                    · have hwn : ∀ o : Oper, o.guard = some (9, false) → Region.wanted o _ = true := fun o h => RK.wanted_if h (hF.yields rfl rfl rfl (by kernel_rfl) (of_decide_eq_true (by kernel_rfl)) (hF.post 9 (by kernel_rfl)))
                      refine RK.owes_exec (v := .slice (some ⟨w'.heap.size, 0, none⟩) 1 1) (w' := (w'.alloc (.cells #[.int .i64 1] 2))) rfl (hwn _ rfl) ?_ (below_box _ _) (isI_new w' [1] rfl rfl)
                      have rk : ∀ c, a'.eval (.const c) = c := fun _ => rfl
                      generalize a'.eval = ρ at *
                      go_simp
                    · have p14 : val 14 = .agg p.cells := hF.post 14 (by kernel_rfl)
                      have r157 : a'.eval (.tmp 157) = .agg p.cells := (hF.ev 157 14 rfl (by kernel_rfl) (of_decide_eq_true (by kernel_rfl))).trans p14
                      obtain ⟨ao15, c15, e15, l15, h15⟩ : ∃ ao c, val 15 = .slice ao 4 c ∧ 4 ≤ c ∧ Rd w' ao 4 (MM.nl [1, 1, 1, 1]) := (hF.post 15 (by kernel_rfl))
                      have r158 : a'.eval (.tmp 158) = .slice ao15 4 c15 := (hF.ev 158 15 rfl (by kernel_rfl) (of_decide_eq_true (by kernel_rfl))).trans e15
                      obtain ⟨ao16, c16, e16, h16⟩ : ∃ ao c, val 16 = .slice ao 1 c ∧ IRow w' ao 1 c (MM.il [1]) := (hF.post 16 (by kernel_rfl))
                      have r159 : a'.eval (.tmp 159) = .slice ao16 1 c16 := (hF.ev 159 16 rfl (by kernel_rfl) (of_decide_eq_true (by kernel_rfl))).trans e16
                      have hwn : ∀ o : Oper, o.guard = some (9, false) → Region.wanted o _ = true := fun o h => RK.wanted_if h (hF.yields rfl rfl rfl (by kernel_rfl) (of_decide_eq_true (by kernel_rfl)) (hF.post 9 (by kernel_rfl)))
                      refine RK.owes_call (g := 13) (args := #[.agg p.cells, .slice ao15 4 c15, .slice ao16 1 c16]) rfl (hwn _ rfl) ?_ ?_
                      · have rk : ∀ c, a'.eval (.const c) = c := fun _ => rfl
                        have rf : ∀ f, a'.eval (.func f) = .func (.func f) #[] #[] := fun _ => rfl
                        generalize a'.eval = ρ at *
                        go_simp
                      · refine (dot_any p ao15 4 c15 (MM.nl [1, 1, 1, 1]) ao16 1 c16 (MM.il [1]) (nl7_ok [1, 1, 1, 1] (by decide +kernel)) (il7_ok [1] (by decide +kernel)) w' h15 h16).mono ?_
                        rintro e w2 ⟨u, rfl, hu, hb⟩
                        exact ⟨_, rfl, hb, isU_of hu HBA.out.2.2.2.1 (fun k hk => absurd hk (Nat.not_lt_zero _))⟩
                    · obtain ⟨ao17, c17, e17, l17, h17⟩ : ∃ ao c, val 17 = .slice ao 0 c ∧ 0 ≤ c ∧ Rd w' ao 0 (MM.nl []) := (hF.post 17 (by kernel_rfl))
                      have r160 : a'.eval (.tmp 160) = .slice ao17 0 c17 := (hF.ev 160 17 rfl (by kernel_rfl) (of_decide_eq_true (by kernel_rfl))).trans e17
                      have hwn : ∀ o : Oper, o.guard = some (9, false) → Region.wanted o _ = true := fun o h => RK.wanted_if h (hF.yields rfl rfl rfl (by kernel_rfl) (of_decide_eq_true (by kernel_rfl)) (hF.post 9 (by kernel_rfl)))
                      refine RK.owes_exec (v := .int .i64 0) (w' := w') rfl (hwn _ rfl) ?_ (Below.refl _ _) rfl
                      have rk : ∀ c, a'.eval (.const c) = c := fun _ => rfl
                      generalize a'.eval = ρ at *
                      go_simp
                    · have p13 : val 13 = .int .i64 0 := hF.post 13 (by kernel_rfl)
                      have r156 : a'.eval (.tmp 156) = .int .i64 0 := (hF.ev 156 13 rfl (by kernel_rfl) (of_decide_eq_true (by kernel_rfl))).trans p13
                      have p18 : val 18 = .int .i64 0 := hF.post 18 (by kernel_rfl)
                      have r161 : a'.eval (.tmp 161) = .int .i64 0 := (hF.ev 161 18 rfl (by kernel_rfl) (of_decide_eq_true (by kernel_rfl))).trans p18
                      have hwn : ∀ o : Oper, o.guard = some (9, false) → Region.wanted o _ = true := fun o h => RK.wanted_if h (hF.yields rfl rfl rfl (by kernel_rfl) (of_decide_eq_true (by kernel_rfl)) (hF.post 9 (by kernel_rfl)))
                      refine RK.owes_exec (v := .int .i64 0) (w' := w') rfl (hwn _ rfl) ?_ (Below.refl _ _) rfl
                      have rk : ∀ c, a'.eval (.const c) = c := fun _ => rfl
                      generalize a'.eval = ρ at *
                      go_simp; rfl
                    · have r10 : a'.eval (.tmp 10) = .pointer (some ⟨gb, 0, none⟩) := (hF.old 10 (.inr rfl)).trans rfl
                      have hwn : ∀ o : Oper, o.guard = some (9, false) → Region.wanted o _ = true := fun o h => RK.wanted_if h (hF.yields rfl rfl rfl (by kernel_rfl) (of_decide_eq_true (by kernel_rfl)) (hF.post 9 (by kernel_rfl)))
                      refine RK.owes_exec (v := .agg p.cells) (w' := w') rfl (hwn _ rfl) ?_ (Below.refl _ _) rfl
                      exact load_box7 hF.S.1 rfl r10
                    · have r8 : a'.eval (.tmp 8) = .pointer (some ⟨g8, 0, none⟩) := (hF.old 8 (.inr rfl)).trans rfl
                      have hwn : ∀ o : Oper, o.guard = some (9, false) → Region.wanted o _ = true := fun o h => RK.wanted_if h (hF.yields rfl rfl rfl (by kernel_rfl) (of_decide_eq_true (by kernel_rfl)) (hF.post 9 (by kernel_rfl)))
                      refine RK.owes_exec (v := .agg (MoV.cells v8 ends7)) (w' := w') rfl (hwn _ rfl) ?_ (Below.refl _ _) rfl
                      exact load_mo7 hF.S.2.1 rfl r8
                    · have p20 : val 20 = .agg p.cells := hF.post 20 (by kernel_rfl)
                      have r163 : a'.eval (.tmp 163) = .agg p.cells := (hF.ev 163 20 rfl (by kernel_rfl) (of_decide_eq_true (by kernel_rfl))).trans p20
                      have p21 : val 21 = .agg (MoV.cells v8 ends7) := hF.post 21 (by kernel_rfl)
                      have r164 : a'.eval (.tmp 164) = .agg (MoV.cells v8 ends7) := (hF.ev 164 21 rfl (by kernel_rfl) (of_decide_eq_true (by kernel_rfl))).trans p21
                      have hwn : ∀ o : Oper, o.guard = some (9, false) → Region.wanted o _ = true := fun o h => RK.wanted_if h (hF.yields rfl rfl rfl (by kernel_rfl) (of_decide_eq_true (by kernel_rfl)) (hF.post 9 (by kernel_rfl)))
                      refine RK.owes_call (g := 9) (args := #[.agg p.cells, .agg (MoV.cells v8 ends7)]) rfl (hwn _ rfl) ?_ ?_
                      · have rk : ∀ c, a'.eval (.const c) = c := fun _ => rfl
                        have rf : ∀ f, a'.eval (.func f) = .func (.func f) #[] #[] := fun _ => rfl
                        generalize a'.eval = ρ at *
                        go_simp
                      · refine (secrets_any p v8 ends7 ends_ok w' hF.S.2.2.1).mono ?_
                        rintro e w2 ⟨u, rfl, hu, hb⟩
                        exact ⟨_, rfl, hb, isU_of hu (HBA.out.2.2.2.2 _) (fun k hk => absurd hk (Nat.not_lt_zero _))⟩
                    · obtain ⟨ao22, c22, e22, l22, h22⟩ : ∃ ao c, val 22 = .slice ao 0 c ∧ 0 ≤ c ∧ Rd w' ao 0 (MM.nl []) := (hF.post 22 (by kernel_rfl))
                      have r165 : a'.eval (.tmp 165) = .slice ao22 0 c22 := (hF.ev 165 22 rfl (by kernel_rfl) (of_decide_eq_true (by kernel_rfl))).trans e22
                      have hwn : ∀ o : Oper, o.guard = some (9, false) → Region.wanted o _ = true := fun o h => RK.wanted_if h (hF.yields rfl rfl rfl (by kernel_rfl) (of_decide_eq_true (by kernel_rfl)) (hF.post 9 (by kernel_rfl)))
                      refine RK.owes_exec (v := .int .i64 0) (w' := w') rfl (hwn _ rfl) ?_ (Below.refl _ _) rfl
                      have rk : ∀ c, a'.eval (.const c) = c := fun _ => rfl
                      generalize a'.eval = ρ at *
                      go_simp
                    · have p19 : val 19 = .int .i64 0 := hF.post 19 (by kernel_rfl)
                      have r162 : a'.eval (.tmp 162) = .int .i64 0 := (hF.ev 162 19 rfl (by kernel_rfl) (of_decide_eq_true (by kernel_rfl))).trans p19
                      have p23 : val 23 = .int .i64 0 := hF.post 23 (by kernel_rfl)
                      have r166 : a'.eval (.tmp 166) = .int .i64 0 := (hF.ev 166 23 rfl (by kernel_rfl) (of_decide_eq_true (by kernel_rfl))).trans p23
                      have hwn : ∀ o : Oper, o.guard = some (9, false) → Region.wanted o _ = true := fun o h => RK.wanted_if h (hF.yields rfl rfl rfl (by kernel_rfl) (of_decide_eq_true (by kernel_rfl)) (hF.post 9 (by kernel_rfl)))
                      refine RK.owes_exec (v := .int .i64 0) (w' := w') rfl (hwn _ rfl) ?_ (Below.refl _ _) rfl
                      have rk : ∀ c, a'.eval (.const c) = c := fun _ => rfl
                      generalize a'.eval = ρ at *
                      go_simp; rfl
                    · have p24 : val 24 = .int .i64 0 := hF.post 24 (by kernel_rfl)
                      have r167 : a'.eval (.tmp 167) = .int .i64 0 := (hF.ev 167 24 rfl (by kernel_rfl) (of_decide_eq_true (by kernel_rfl))).trans p24
                      have hwn : ∀ o : Oper, o.guard = some (9, false) → Region.wanted o _ = true := fun o h => RK.wanted_if h (hF.yields rfl rfl rfl (by kernel_rfl) (of_decide_eq_true (by kernel_rfl)) (hF.post 9 (by kernel_rfl)))
                      refine RK.owes_exec (v := .bool false) (w' := w') rfl (hwn _ rfl) ?_ (Below.refl _ _) rfl
                      have rk : ∀ c, a'.eval (.const c) = c := fun _ => rfl
                      generalize a'.eval = ρ at *
                      go_simp
                    · have p9 : val 9 = .bool false := hF.post 9 (by kernel_rfl)
                      have r152 : a'.eval (.tmp 152) = .bool false := (hF.ev 152 9 rfl (by kernel_rfl) (of_decide_eq_true (by kernel_rfl))).trans p9
                      have p25 : val 25 = .bool false := hF.post 25 (by kernel_rfl)
                      have r168 : a'.eval (.tmp 168) = .bool false := (hF.ev 168 25 rfl (by kernel_rfl) (of_decide_eq_true (by kernel_rfl))).trans p25
                      refine RK.owes_exec (v := .bool false) (w' := w') rfl (RK.wanted_any rfl) ?_ (Below.refl _ _) rfl
                      have rk : ∀ c, a'.eval (.const c) = c := fun _ => rfl
                      generalize a'.eval = ρ at *
                      go_simp
                  have hz : val 26 = .bool false := hp 26 (of_decide_eq_true (by kernel_rfl))
                  simp only [RK.slotsL, if_true, hz]
                  obtain ⟨wt, hwt⟩ : ∃ wt, wt = w' := ⟨_, rfl⟩
                  subst hwt
                  have HBc := Lib.hid (HBb.out.trans (hw.2.2.2.mono HBb.out.size))
                  clear hp hw hz HPb HXb HATb HBb
                  go_wp2_with fail
                  go_roundw
                  case rel => exact ⟨k + 1, by omega, by go_num, HBc⟩
                  case measure => simp [RowKit.intOf]; omega
                · have hk9 : ¬ ((k : Int) < 8) := by omega
                  obtain ⟨kk, hkk⟩ : ∃ kk, (k : Int) = kk := ⟨_, rfl⟩
                  rw [hkk] at hk9 ⊢
                  clear hkk hlt hk hk0
                  go_upto_region 30 with fail
                  have hbn := below_box wr (.cells pn.cells 31)
                  have HPN : Hid (PBox (wr.alloc (.cells pn.cells 31)) wr.heap.size pn) := Lib.hid (PBox.new wr pn)
                  have HS5n := Lib.hid ((HS5p.out.below HBX.out).below hbn)
                  have HXn := Lib.hid ((HXp.out.below HBX.out).below hbn)
                  have HATn := Lib.hid ((MoAt.below HATp.out HBX.out).below hbn)
                  have HBn := Lib.hid ((HBp.out.trans (HBX.out.mono HBp.out.size)).trans (hbn.mono (HBp.out.trans (HBX.out.mono HBp.out.size)).size))
                  clear hbn HBX
                  obtain ⟨wn, hwn⟩ : ∃ wn, wr.alloc (.cells pn.cells 31) = wn := ⟨_, rfl⟩
                  obtain ⟨g11, hg11⟩ : ∃ g11, wr.heap.size = g11 := ⟨_, rfl⟩
                  rw [hwn] at HPN HS5n HXn HATn HBn
                  rw [hg11] at HPN ⊢
                  change wr.alloc (.cells #[.int .u64 0, .int .u64 101, .int .u64 0, .int .u64 0, .int .i64 0, .int .i64 0, .int .i64 0, .int .i64 0, .int .i64 0, .int .i64 0, .int .i64 0, .int .i64 0] 31) = wn at hwn
                  rw [hwn]
                  clear hwn hg11 HPQ HXp HATp HS5p HBp
                  refine RK.tame [some 78, none, none, none, none, none, none, none, none, none, none, none, none, none, none, none, none, none, none, none, none, none, none, none, none, none, none, none, none, none, none, none, none, none, none, none, none, none, none, none, none, none, none, none, none, none, none, none, none, none, none, none, none, none, none, none, none, none, none, none, none, none, none, none, none, none, none, none, none, none, none, none, none, none, none, none, none, none, none, none, none, none, none, none, none, none, none, none, none, none, none, none, none, none, none, none, none, none, none, none, none, none, none, none, none, none, none, none, none, none, none, none, none, none, none, none, none, none, none, none, none, none, none, none, none, none, none, none, none, none, none, none, none, none, none, none, none, none, none, none, none, none, none, none, none, none, none, none, none, none, none, none, none, none, none, none, none, none, none, none, none, none, none, none, none, none, none, none, none, none, none, none, some 0, some 1, some 2, some 3, some 4, some 5, some 6, some 7, some 8, some 9, some 10, some 11, some 12, some 13, some 14, some 15, some 16, some 17, some 18, some 19, some 20, some 21, some 22, some 23, some 24, some 25, some 26, some 27, some 28, some 29, some 30, some 31, some 32, some 33, some 34, some 35, some 36, some 37, some 38, some 39, some 40, some 41, some 42, some 43, some 44, some 45, some 46, some 47, some 48, some 49, some 50, some 51, some 52, some 53, some 54, some 55, some 56, some 57, some 58, some 59, some 60, some 61, some 62, some 63, some 64, some 65, some 66, some 67, some 68, some 69, some 70, some 71, some 72, some 73, some 74, some 75, some 76, some 77] [RK.Word.eq (.agg sp.cells), RK.Word.eq (.agg (MoV.cells v8 ends7)), RK.Word.eq (.bool true), RK.Word.eq (.bool true), RK.Word.eq (.agg sp.cells), wI [2], RK.Word.eq (.int .i64 0), RK.Word.eq (.bool true), RK.Word.eq (.bool true), RK.Word.eq (.bool true), RK.Word.eq (.agg sp.cells), wI [-3], RK.Word.eq (.int .i64 20), RK.Word.eq (.bool true), RK.Word.eq (.bool true), RK.Word.eq (.bool true), RK.Word.eq (.agg sp.cells), wI [1, 1], RK.Word.eq (.int .i64 4), RK.Word.eq (.bool true), RK.Word.eq (.bool true), RK.Word.eq (.bool true), RK.Word.eq (.agg sp.cells), RK.Word.eq (.int .i64 4), RK.Word.eq (.bool true), RK.Word.eq (.bool true), RK.Word.eq (.bool true), RK.Word.eq (.agg pn.cells), RK.Word.eq (.agg #[.slice none 0 0, .slice none 0 0]), RK.Word.eq (.bool true), RK.Word.eq (.bool true), RK.Word.eq (.bool true), RK.Word.eq (.agg pn.cells), RK.Word.eq (.int .i64 0), RK.Word.eq (.bool true), RK.Word.eq (.bool true), RK.Word.eq (.bool true), RK.Word.eq (.agg pn.cells), wI [5], wU [1], wU [1], RK.Word.eq (.bool true), RK.Word.eq (.bool true), RK.Word.eq (.bool true), RK.Word.eq (.agg pn.cells), wU [4], wU [], RK.Word.eq (.int .i64 0), RK.Word.eq (.bool true), RK.Word.eq (.bool true), RK.Word.eq (.bool true), RK.Word.eq (.agg sp.cells), wU [0, 1], wU [0, 1], RK.Word.eq (.bool true), RK.Word.eq (.bool true), RK.Word.eq (.bool true), RK.Word.eq (.agg sp.cells), wU [5], wI [3, 9], wU [15, 0], wU [15, 0], RK.Word.eq (.bool true), RK.Word.eq (.bool true), RK.Word.eq (.bool true), RK.Word.eq (.agg (MoV.cells v8 ends7)), RK.Word.eq (.pointer (some ⟨g8, 0, none⟩)), RK.Word.eq (.slice v8.wo 2 v8.wc), RK.Word.eq (.agg #[.slice v8.wo 2 v8.wc, .slice none 0 0]), RK.Word.eq (.bool false), RK.Word.eq (.bool true), RK.Word.eq (.bool true), RK.Word.eq (.bool true), RK.Word.eq (.agg (MoV.cells v8 ends7)), RK.Word.eq (.agg (MoV.cells v8 ends7)), wM, RK.Word.eq (.bool true), RK.Word.eq (.bool true), RK.Word.eq (.bool true)] (fun u => PBox u g5 sp ∧ PBox u g11 pn ∧ BoxM u g8 v8 ends7 ∧ MoAt u v8 ends7 ∧ Below wn.heap.size wn u) (by kernel_rfl) (by kernel_rfl) (by kernel_rfl) ⟨HS5n.out, HPN.out, HXn.out, HATn.out, Below.refl _ _⟩ (fun _ _ h hb => ⟨h.1.below hb, h.2.1.below hb, h.2.2.1.below hb, h.2.2.2.1.below hb, h.2.2.2.2.trans (hb.mono h.2.2.2.2.size)⟩) (fun i hi a' val w' hF => ?_) (fun val w' hw hp => ?_)
                  · have hi2 : i = 0 ∨ i = 1 ∨ i = 2 ∨ i = 3 ∨ i = 4 ∨ i = 5 ∨ i = 6 ∨ i = 7 ∨ i = 8 ∨ i = 9 ∨ i = 10 ∨ i = 11 ∨ i = 12 ∨ i = 13 ∨ i = 14 ∨ i = 15 ∨ i = 16 ∨ i = 17 ∨ i = 18 ∨ i = 19 ∨ i = 20 ∨ i = 21 ∨ i = 22 ∨ i = 23 ∨ i = 24 ∨ i = 25 ∨ i = 26 ∨ i = 27 ∨ i = 28 ∨ i = 29 ∨ i = 30 ∨ i = 31 ∨ i = 32 ∨ i = 33 ∨ i = 34 ∨ i = 35 ∨ i = 36 ∨ i = 37 ∨ i = 38 ∨ i = 39 ∨ i = 40 ∨ i = 41 ∨ i = 42 ∨ i = 43 ∨ i = 44 ∨ i = 45 ∨ i = 46 ∨ i = 47 ∨ i = 48 ∨ i = 49 ∨ i = 50 ∨ i = 51 ∨ i = 52 ∨ i = 53 ∨ i = 54 ∨ i = 55 ∨ i = 56 ∨ i = 57 ∨ i = 58 ∨ i = 59 ∨ i = 60 ∨ i = 61 ∨ i = 62 ∨ i = 63 ∨ i = 64 ∨ i = 65 ∨ i = 66 ∨ i = 67 ∨ i = 68 ∨ i = 69 ∨ i = 70 ∨ i = 71 ∨ i = 72 ∨ i = 73 ∨ i = 74 ∨ i = 75 ∨ i = 76 ∨ i = 77 ∨ i = 78 := by
                      have : i < 79 := hi
                      omega
                    clear hi
                    rcases hi2 with rfl | rfl | rfl | rfl | rfl | rfl | rfl | rfl | rfl | rfl | rfl | rfl | rfl | rfl | rfl | rfl | rfl | rfl | rfl | rfl | rfl | rfl | rfl | rfl | rfl | rfl | rfl | rfl | rfl | rfl | rfl | rfl | rfl | rfl | rfl | rfl | rfl | rfl | rfl | rfl | rfl | rfl | rfl | rfl | rfl | rfl | rfl | rfl | rfl | rfl | rfl | rfl | rfl | rfl | rfl | rfl | rfl | rfl | rfl | rfl | rfl | rfl | rfl | rfl | rfl | rfl | rfl | rfl | rfl | rfl | rfl | rfl | rfl | rfl | rfl | rfl | rfl | rfl | rfl
                    · have r5 : a'.eval (.tmp 5) = .pointer (some ⟨g5, 0, none⟩) := (hF.old 5 (.inr rfl)).trans rfl
                      refine RK.owes_exec (v := .agg sp.cells) (w' := w') rfl (RK.wanted_any rfl) ?_ (Below.refl _ _) rfl
                      exact load_box7 hF.S.1 rfl r5
                    · have r8 : a'.eval (.tmp 8) = .pointer (some ⟨g8, 0, none⟩) := (hF.old 8 (.inr rfl)).trans rfl
                      refine RK.owes_exec (v := .agg (MoV.cells v8 ends7)) (w' := w') rfl (RK.wanted_any rfl) ?_ (Below.refl _ _) rfl
                      exact load_mo7 hF.S.2.2.1 rfl r8
                    · have p0 : val 0 = .agg sp.cells := hF.post 0 (by kernel_rfl)
                      have r172 : a'.eval (.tmp 172) = .agg sp.cells := (hF.ev 172 0 rfl (by kernel_rfl) (of_decide_eq_true (by kernel_rfl))).trans p0
                      have p1 : val 1 = .agg (MoV.cells v8 ends7) := hF.post 1 (by kernel_rfl)
                      have r173 : a'.eval (.tmp 173) = .agg (MoV.cells v8 ends7) := (hF.ev 173 1 rfl (by kernel_rfl) (of_decide_eq_true (by kernel_rfl))).trans p1
                      refine RK.owes_call (g := 8) (args := #[.agg sp.cells, .agg (MoV.cells v8 ends7)]) rfl (RK.wanted_any rfl) ?_ ?_
                      · have rk : ∀ c, a'.eval (.const c) = c := fun _ => rfl
                        have rf : ∀ f, a'.eval (.func f) = .func (.func f) #[] #[] := fun _ => rfl
                        generalize a'.eval = ρ at *
                        go_simp
                      · refine (may_any sp v8 ends7 ends_ok w' hF.S.2.2.2.1).mono ?_
                        rintro e w2 ⟨rfl, hb⟩
                        exact ⟨_, rfl, hb, by rw [may1]; rfl⟩
                    · have p2 : val 2 = .bool true := hF.post 2 (by kernel_rfl)
                      have r174 : a'.eval (.tmp 174) = .bool true := (hF.ev 174 2 rfl (by kernel_rfl) (of_decide_eq_true (by kernel_rfl))).trans p2
                      refine RK.owes_exec (v := .bool true) (w' := w') rfl (RK.wanted_any rfl) ?_ (Below.refl _ _) rfl
                      have rk : ∀ c, a'.eval (.const c) = c := fun _ => rfl
                      generalize a'.eval = ρ at *
                      go_simp
                    · have r5 : a'.eval (.tmp 5) = .pointer (some ⟨g5, 0, none⟩) := (hF.old 5 (.inr rfl)).trans rfl
                      have hwn : ∀ o : Oper, o.guard = some (3, true) → Region.wanted o _ = true := fun o h => RK.wanted_if h (hF.yields rfl rfl rfl (by kernel_rfl) (of_decide_eq_true (by kernel_rfl)) (hF.post 3 (by kernel_rfl)))
                      refine RK.owes_exec (v := .agg sp.cells) (w' := w') rfl (hwn _ rfl) ?_ (Below.refl _ _) rfl
                      exact load_box7 hF.S.1 rfl r5
                    · have hwn : ∀ o : Oper, o.guard = some (3, true) → Region.wanted o _ = true := fun o h => RK.wanted_if h (hF.yields rfl rfl rfl (by kernel_rfl) (of_decide_eq_true (by kernel_rfl)) (hF.post 3 (by kernel_rfl)))
                      refine RK.owes_exec (v := .slice (some ⟨w'.heap.size, 0, none⟩) 1 1) (w' := (w'.alloc (.cells #[.int .i64 2] 2))) rfl (hwn _ rfl) ?_ (below_box _ _) (isI_new w' [2] rfl rfl)
                      have rk : ∀ c, a'.eval (.const c) = c := fun _ => rfl
                      generalize a'.eval = ρ at *
                      go_simp
                    · have p4 : val 4 = .agg sp.cells := hF.post 4 (by kernel_rfl)
                      have r176 : a'.eval (.tmp 176) = .agg sp.cells := (hF.ev 176 4 rfl (by kernel_rfl) (of_decide_eq_true (by kernel_rfl))).trans p4
                      obtain ⟨ao5, c5, e5, h5⟩ : ∃ ao c, val 5 = .slice ao 1 c ∧ IRow w' ao 1 c (MM.il [2]) := (hF.post 5 (by kernel_rfl))
                      have r177 : a'.eval (.tmp 177) = .slice ao5 1 c5 := (hF.ev 177 5 rfl (by kernel_rfl) (of_decide_eq_true (by kernel_rfl))).trans e5
                      have hwn : ∀ o : Oper, o.guard = some (3, true) → Region.wanted o _ = true := fun o h => RK.wanted_if h (hF.yields rfl rfl rfl (by kernel_rfl) (of_decide_eq_true (by kernel_rfl)) (hF.post 3 (by kernel_rfl)))
                      refine RK.owes_call (g := 11) (args := #[.agg sp.cells, .slice ao5 1 c5]) rfl (hwn _ rfl) ?_ ?_
                      · have rk : ∀ c, a'.eval (.const c) = c := fun _ => rfl
                        have rf : ∀ f, a'.eval (.func f) = .func (.func f) #[] #[] := fun _ => rfl
                        generalize a'.eval = ρ at *
                        go_simp
                      · refine (query_any sp ao5 1 c5 (MM.il [2]) (by omega) w' h5).mono ?_
                        rintro e w2 ⟨rfl, hb⟩
                        exact ⟨_, rfl, hb, by rw [qry1]; rfl⟩
                    · have p6 : val 6 = .int .i64 0 := hF.post 6 (by kernel_rfl)
                      have r178 : a'.eval (.tmp 178) = .int .i64 0 := (hF.ev 178 6 rfl (by kernel_rfl) (of_decide_eq_true (by kernel_rfl))).trans p6
                      have hwn : ∀ o : Oper, o.guard = some (3, true) → Region.wanted o _ = true := fun o h => RK.wanted_if h (hF.yields rfl rfl rfl (by kernel_rfl) (of_decide_eq_true (by kernel_rfl)) (hF.post 3 (by kernel_rfl)))
                      refine RK.owes_exec (v := .bool true) (w' := w') rfl (hwn _ rfl) ?_ (Below.refl _ _) rfl
                      have rk : ∀ c, a'.eval (.const c) = c := fun _ => rfl
                      generalize a'.eval = ρ at *
                      go_simp
                    · have p3 : val 3 = .bool true := hF.post 3 (by kernel_rfl)
                      have r175 : a'.eval (.tmp 175) = .bool true := (hF.ev 175 3 rfl (by kernel_rfl) (of_decide_eq_true (by kernel_rfl))).trans p3
                      have p7 : val 7 = .bool true := hF.post 7 (by kernel_rfl)
                      have r179 : a'.eval (.tmp 179) = .bool true := (hF.ev 179 7 rfl (by kernel_rfl) (of_decide_eq_true (by kernel_rfl))).trans p7
                      refine RK.owes_exec (v := .bool true) (w' := w') rfl (RK.wanted_any rfl) ?_ (Below.refl _ _) rfl
                      have rk : ∀ c, a'.eval (.const c) = c := fun _ => rfl
                      generalize a'.eval = ρ at *
                      go_simp
                    · have p8 : val 8 = .bool true := hF.post 8 (by kernel_rfl)
                      have r180 : a'.eval (.tmp 180) = .bool true := (hF.ev 180 8 rfl (by kernel_rfl) (of_decide_eq_true (by kernel_rfl))).trans p8
                      refine RK.owes_exec (v := .bool true) (w' := w') rfl (RK.wanted_any rfl) ?_ (Below.refl _ _) rfl
                      have rk : ∀ c, a'.eval (.const c) = c := fun _ => rfl
                      generalize a'.eval = ρ at *
                      go_simp
                    · have r5 : a'.eval (.tmp 5) = .pointer (some ⟨g5, 0, none⟩) := (hF.old 5 (.inr rfl)).trans rfl
                      have hwn : ∀ o : Oper, o.guard = some (9, true) → Region.wanted o _ = true := fun o h => RK.wanted_if h (hF.yields rfl rfl rfl (by kernel_rfl) (of_decide_eq_true (by kernel_rfl)) (hF.post 9 (by kernel_rfl)))
                      refine RK.owes_exec (v := .agg sp.cells) (w' := w') rfl (hwn _ rfl) ?_ (Below.refl _ _) rfl
                      exact load_box7 hF.S.1 rfl r5
                    · have hwn : ∀ o : Oper, o.guard = some (9, true) → Region.wanted o _ = true := fun o h => RK.wanted_if h (hF.yields rfl rfl rfl (by kernel_rfl) (of_decide_eq_true (by kernel_rfl)) (hF.post 9 (by kernel_rfl)))
                      refine RK.owes_exec (v := .slice (some ⟨w'.heap.size, 0, none⟩) 1 1) (w' := (w'.alloc (.cells #[.int .i64 (-3)] 2))) rfl (hwn _ rfl) ?_ (below_box _ _) (isI_new w' [-3] rfl rfl)
                      have rk : ∀ c, a'.eval (.const c) = c := fun _ => rfl
                      generalize a'.eval = ρ at *
                      go_simp
                    · have p10 : val 10 = .agg sp.cells := hF.post 10 (by kernel_rfl)
                      have r182 : a'.eval (.tmp 182) = .agg sp.cells := (hF.ev 182 10 rfl (by kernel_rfl) (of_decide_eq_true (by kernel_rfl))).trans p10
                      obtain ⟨ao11, c11, e11, h11⟩ : ∃ ao c, val 11 = .slice ao 1 c ∧ IRow w' ao 1 c (MM.il [-3]) := (hF.post 11 (by kernel_rfl))
                      have r183 : a'.eval (.tmp 183) = .slice ao11 1 c11 := (hF.ev 183 11 rfl (by kernel_rfl) (of_decide_eq_true (by kernel_rfl))).trans e11
                      have hwn : ∀ o : Oper, o.guard = some (9, true) → Region.wanted o _ = true := fun o h => RK.wanted_if h (hF.yields rfl rfl rfl (by kernel_rfl) (of_decide_eq_true (by kernel_rfl)) (hF.post 9 (by kernel_rfl)))
                      refine RK.owes_call (g := 11) (args := #[.agg sp.cells, .slice ao11 1 c11]) rfl (hwn _ rfl) ?_ ?_
                      · have rk : ∀ c, a'.eval (.const c) = c := fun _ => rfl
                        have rf : ∀ f, a'.eval (.func f) = .func (.func f) #[] #[] := fun _ => rfl
                        generalize a'.eval = ρ at *
                        go_simp
                      · refine (query_any sp ao11 1 c11 (MM.il [-3]) (by omega) w' h11).mono ?_
                        rintro e w2 ⟨rfl, hb⟩
                        exact ⟨_, rfl, hb, by rw [qry2]; rfl⟩
                    · have p12 : val 12 = .int .i64 20 := hF.post 12 (by kernel_rfl)
                      have r184 : a'.eval (.tmp 184) = .int .i64 20 := (hF.ev 184 12 rfl (by kernel_rfl) (of_decide_eq_true (by kernel_rfl))).trans p12
                      have hwn : ∀ o : Oper, o.guard = some (9, true) → Region.wanted o _ = true := fun o h => RK.wanted_if h (hF.yields rfl rfl rfl (by kernel_rfl) (of_decide_eq_true (by kernel_rfl)) (hF.post 9 (by kernel_rfl)))
                      refine RK.owes_exec (v := .bool true) (w' := w') rfl (hwn _ rfl) ?_ (Below.refl _ _) rfl
                      have rk : ∀ c, a'.eval (.const c) = c := fun _ => rfl
                      generalize a'.eval = ρ at *
                      go_simp
                    · have p9 : val 9 = .bool true := hF.post 9 (by kernel_rfl)
                      have r181 : a'.eval (.tmp 181) = .bool true := (hF.ev 181 9 rfl (by kernel_rfl) (of_decide_eq_true (by kernel_rfl))).trans p9
                      have p13 : val 13 = .bool true := hF.post 13 (by kernel_rfl)
                      have r185 : a'.eval (.tmp 185) = .bool true := (hF.ev 185 13 rfl (by kernel_rfl) (of_decide_eq_true (by kernel_rfl))).trans p13
                      refine RK.owes_exec (v := .bool true) (w' := w') rfl (RK.wanted_any rfl) ?_ (Below.refl _ _) rfl
                      have rk : ∀ c, a'.eval (.const c) = c := fun _ => rfl
                      generalize a'.eval = ρ at *
                      go_simp
                    · have p14 : val 14 = .bool true := hF.post 14 (by kernel_rfl)
                      have r186 : a'.eval (.tmp 186) = .bool true := (hF.ev 186 14 rfl (by kernel_rfl) (of_decide_eq_true (by kernel_rfl))).trans p14
                      refine RK.owes_exec (v := .bool true) (w' := w') rfl (RK.wanted_any rfl) ?_ (Below.refl _ _) rfl
                      have rk : ∀ c, a'.eval (.const c) = c := fun _ => rfl
                      generalize a'.eval = ρ at *
                      go_simp
                    · have r5 : a'.eval (.tmp 5) = .pointer (some ⟨g5, 0, none⟩) := (hF.old 5 (.inr rfl)).trans rfl
                      have hwn : ∀ o : Oper, o.guard = some (15, true) → Region.wanted o _ = true := fun o h => RK.wanted_if h (hF.yields rfl rfl rfl (by kernel_rfl) (of_decide_eq_true (by kernel_rfl)) (hF.post 15 (by kernel_rfl)))
                      refine RK.owes_exec (v := .agg sp.cells) (w' := w') rfl (hwn _ rfl) ?_ (Below.refl _ _) rfl
                      exact load_box7 hF.S.1 rfl r5
                    · have hwn : ∀ o : Oper, o.guard = some (15, true) → Region.wanted o _ = true := fun o h => RK.wanted_if h (hF.yields rfl rfl rfl (by kernel_rfl) (of_decide_eq_true (by kernel_rfl)) (hF.post 15 (by kernel_rfl)))
                      refine RK.owes_exec (v := .slice (some ⟨w'.heap.size, 0, none⟩) 2 2) (w' := (w'.alloc (.cells #[.int .i64 1, .int .i64 1] 2))) rfl (hwn _ rfl) ?_ (below_box _ _) (isI_new w' [1, 1] rfl rfl)
                      have rk : ∀ c, a'.eval (.const c) = c := fun _ => rfl
                      generalize a'.eval = ρ at *
                      go_simp
                    · have p16 : val 16 = .agg sp.cells := hF.post 16 (by kernel_rfl)
                      have r188 : a'.eval (.tmp 188) = .agg sp.cells := (hF.ev 188 16 rfl (by kernel_rfl) (of_decide_eq_true (by kernel_rfl))).trans p16
                      obtain ⟨ao17, c17, e17, h17⟩ : ∃ ao c, val 17 = .slice ao 2 c ∧ IRow w' ao 2 c (MM.il [1, 1]) := (hF.post 17 (by kernel_rfl))
                      have r189 : a'.eval (.tmp 189) = .slice ao17 2 c17 := (hF.ev 189 17 rfl (by kernel_rfl) (of_decide_eq_true (by kernel_rfl))).trans e17
                      have hwn : ∀ o : Oper, o.guard = some (15, true) → Region.wanted o _ = true := fun o h => RK.wanted_if h (hF.yields rfl rfl rfl (by kernel_rfl) (of_decide_eq_true (by kernel_rfl)) (hF.post 15 (by kernel_rfl)))
                      refine RK.owes_call (g := 11) (args := #[.agg sp.cells, .slice ao17 2 c17]) rfl (hwn _ rfl) ?_ ?_
                      · have rk : ∀ c, a'.eval (.const c) = c := fun _ => rfl
                        have rf : ∀ f, a'.eval (.func f) = .func (.func f) #[] #[] := fun _ => rfl
                        generalize a'.eval = ρ at *
                        go_simp
                      · refine (query_any sp ao17 2 c17 (MM.il [1, 1]) (by omega) w' h17).mono ?_
                        rintro e w2 ⟨rfl, hb⟩
                        exact ⟨_, rfl, hb, by rw [qry3]; rfl⟩
                    · have p18 : val 18 = .int .i64 4 := hF.post 18 (by kernel_rfl)
                      have r190 : a'.eval (.tmp 190) = .int .i64 4 := (hF.ev 190 18 rfl (by kernel_rfl) (of_decide_eq_true (by kernel_rfl))).trans p18
                      have hwn : ∀ o : Oper, o.guard = some (15, true) → Region.wanted o _ = true := fun o h => RK.wanted_if h (hF.yields rfl rfl rfl (by kernel_rfl) (of_decide_eq_true (by kernel_rfl)) (hF.post 15 (by kernel_rfl)))
                      refine RK.owes_exec (v := .bool true) (w' := w') rfl (hwn _ rfl) ?_ (Below.refl _ _) rfl
                      have rk : ∀ c, a'.eval (.const c) = c := fun _ => rfl
                      generalize a'.eval = ρ at *
                      go_simp
                    · have p15 : val 15 = .bool true := hF.post 15 (by kernel_rfl)
                      have r187 : a'.eval (.tmp 187) = .bool true := (hF.ev 187 15 rfl (by kernel_rfl) (of_decide_eq_true (by kernel_rfl))).trans p15
                      have p19 : val 19 = .bool true := hF.post 19 (by kernel_rfl)
                      have r191 : a'.eval (.tmp 191) = .bool true := (hF.ev 191 19 rfl (by kernel_rfl) (of_decide_eq_true (by kernel_rfl))).trans p19
                      refine RK.owes_exec (v := .bool true) (w' := w') rfl (RK.wanted_any rfl) ?_ (Below.refl _ _) rfl
                      have rk : ∀ c, a'.eval (.const c) = c := fun _ => rfl
                      generalize a'.eval = ρ at *
                      go_simp
                    · have p20 : val 20 = .bool true := hF.post 20 (by kernel_rfl)
                      have r192 : a'.eval (.tmp 192) = .bool true := (hF.ev 192 20 rfl (by kernel_rfl) (of_decide_eq_true (by kernel_rfl))).trans p20
                      refine RK.owes_exec (v := .bool true) (w' := w') rfl (RK.wanted_any rfl) ?_ (Below.refl _ _) rfl
                      have rk : ∀ c, a'.eval (.const c) = c := fun _ => rfl
                      generalize a'.eval = ρ at *
                      go_simp
                    · have r5 : a'.eval (.tmp 5) = .pointer (some ⟨g5, 0, none⟩) := (hF.old 5 (.inr rfl)).trans rfl
                      have hwn : ∀ o : Oper, o.guard = some (21, true) → Region.wanted o _ = true := fun o h => RK.wanted_if h (hF.yields rfl rfl rfl (by kernel_rfl) (of_decide_eq_true (by kernel_rfl)) (hF.post 21 (by kernel_rfl)))
                      refine RK.owes_exec (v := .agg sp.cells) (w' := w') rfl (hwn _ rfl) ?_ (Below.refl _ _) rfl
                      exact load_box7 hF.S.1 rfl r5
                    · have p22 : val 22 = .agg sp.cells := hF.post 22 (by kernel_rfl)
                      have r194 : a'.eval (.tmp 194) = .agg sp.cells := (hF.ev 194 22 rfl (by kernel_rfl) (of_decide_eq_true (by kernel_rfl))).trans p22
                      have hwn : ∀ o : Oper, o.guard = some (21, true) → Region.wanted o _ = true := fun o h => RK.wanted_if h (hF.yields rfl rfl rfl (by kernel_rfl) (of_decide_eq_true (by kernel_rfl)) (hF.post 21 (by kernel_rfl)))
                      refine RK.owes_call (g := 11) (args := #[.agg sp.cells, .slice none 0 0]) rfl (hwn _ rfl) ?_ ?_
                      · have rk : ∀ c, a'.eval (.const c) = c := fun _ => rfl
                        have rf : ∀ f, a'.eval (.func f) = .func (.func f) #[] #[] := fun _ => rfl
                        generalize a'.eval = ρ at *
                        go_simp
                      · refine (query_any sp none 0 0 (MM.il []) (by omega) w' (IRow.nil w' _)).mono ?_
                        rintro e w2 ⟨rfl, hb⟩
                        exact ⟨_, rfl, hb, by rw [qry4]; rfl⟩
                    · have p23 : val 23 = .int .i64 4 := hF.post 23 (by kernel_rfl)
                      have r195 : a'.eval (.tmp 195) = .int .i64 4 := (hF.ev 195 23 rfl (by kernel_rfl) (of_decide_eq_true (by kernel_rfl))).trans p23
                      have hwn : ∀ o : Oper, o.guard = some (21, true) → Region.wanted o _ = true := fun o h => RK.wanted_if h (hF.yields rfl rfl rfl (by kernel_rfl) (of_decide_eq_true (by kernel_rfl)) (hF.post 21 (by kernel_rfl)))
                      refine RK.owes_exec (v := .bool true) (w' := w') rfl (hwn _ rfl) ?_ (Below.refl _ _) rfl
                      have rk : ∀ c, a'.eval (.const c) = c := fun _ => rfl
                      generalize a'.eval = ρ at *
                      go_simp
                    · have p21 : val 21 = .bool true := hF.post 21 (by kernel_rfl)
                      have r193 : a'.eval (.tmp 193) = .bool true := (hF.ev 193 21 rfl (by kernel_rfl) (of_decide_eq_true (by kernel_rfl))).trans p21
                      have p24 : val 24 = .bool true := hF.post 24 (by kernel_rfl)
                      have r196 : a'.eval (.tmp 196) = .bool true := (hF.ev 196 24 rfl (by kernel_rfl) (of_decide_eq_true (by kernel_rfl))).trans p24
                      refine RK.owes_exec (v := .bool true) (w' := w') rfl (RK.wanted_any rfl) ?_ (Below.refl _ _) rfl
                      have rk : ∀ c, a'.eval (.const c) = c := fun _ => rfl
                      generalize a'.eval = ρ at *
                      go_simp
                    · have p25 : val 25 = .bool true := hF.post 25 (by kernel_rfl)
                      have r197 : a'.eval (.tmp 197) = .bool true := (hF.ev 197 25 rfl (by kernel_rfl) (of_decide_eq_true (by kernel_rfl))).trans p25
                      refine RK.owes_exec (v := .bool true) (w' := w') rfl (RK.wanted_any rfl) ?_ (Below.refl _ _) rfl
                      have rk : ∀ c, a'.eval (.const c) = c := fun _ => rfl
                      generalize a'.eval = ρ at *
                      go_simp
                    · have r11 : a'.eval (.tmp 11) = .pointer (some ⟨g11, 0, none⟩) := (hF.old 11 (.inr rfl)).trans rfl
                      have hwn : ∀ o : Oper, o.guard = some (26, true) → Region.wanted o _ = true := fun o h => RK.wanted_if h (hF.yields rfl rfl rfl (by kernel_rfl) (of_decide_eq_true (by kernel_rfl)) (hF.post 26 (by kernel_rfl)))
                      refine RK.owes_exec (v := .agg pn.cells) (w' := w') rfl (hwn _ rfl) ?_ (Below.refl _ _) rfl
                      exact load_box7 hF.S.2.1 rfl r11
                    · have hwn : ∀ o : Oper, o.guard = some (26, true) → Region.wanted o _ = true := fun o h => RK.wanted_if h (hF.yields rfl rfl rfl (by kernel_rfl) (of_decide_eq_true (by kernel_rfl)) (hF.post 26 (by kernel_rfl)))
                      refine RK.owes_exec (v := .agg #[.slice none 0 0, .slice none 0 0]) (w' := w') rfl (hwn _ rfl) ?_ (Below.refl _ _) rfl
                      have rk : ∀ c, a'.eval (.const c) = c := fun _ => rfl
                      generalize a'.eval = ρ at *
                      go_simp
                    · have p27 : val 27 = .agg pn.cells := hF.post 27 (by kernel_rfl)
                      have r199 : a'.eval (.tmp 199) = .agg pn.cells := (hF.ev 199 27 rfl (by kernel_rfl) (of_decide_eq_true (by kernel_rfl))).trans p27
                      have p28 : val 28 = .agg #[.slice none 0 0, .slice none 0 0] := hF.post 28 (by kernel_rfl)
                      have r200 : a'.eval (.tmp 200) = .agg #[.slice none 0 0, .slice none 0 0] := (hF.ev 200 28 rfl (by kernel_rfl) (of_decide_eq_true (by kernel_rfl))).trans p28
                      have hwn : ∀ o : Oper, o.guard = some (26, true) → Region.wanted o _ = true := fun o h => RK.wanted_if h (hF.yields rfl rfl rfl (by kernel_rfl) (of_decide_eq_true (by kernel_rfl)) (hF.post 26 (by kernel_rfl)))
                      refine RK.owes_call (g := 8) (args := #[.agg pn.cells, .agg #[.slice none 0 0, .slice none 0 0]]) rfl (hwn _ rfl) ?_ ?_
                      · have rk : ∀ c, a'.eval (.const c) = c := fun _ => rfl
                        have rf : ∀ f, a'.eval (.func f) = .func (.func f) #[] #[] := fun _ => rfl
                        generalize a'.eval = ρ at *
                        go_simp
                      · refine (may_any pn ⟨none, 0, none, 0⟩ nil7 nil_ok w' (nil_at w')).mono ?_
                        rintro e w2 ⟨rfl, hb⟩
                        exact ⟨_, rfl, hb, by rw [may2]; rfl⟩
                    · have p26 : val 26 = .bool true := hF.post 26 (by kernel_rfl)
                      have r198 : a'.eval (.tmp 198) = .bool true := (hF.ev 198 26 rfl (by kernel_rfl) (of_decide_eq_true (by kernel_rfl))).trans p26
                      have p29 : val 29 = .bool true := hF.post 29 (by kernel_rfl)
                      have r201 : a'.eval (.tmp 201) = .bool true := (hF.ev 201 29 rfl (by kernel_rfl) (of_decide_eq_true (by kernel_rfl))).trans p29
                      refine RK.owes_exec (v := .bool true) (w' := w') rfl (RK.wanted_any rfl) ?_ (Below.refl _ _) rfl
                      have rk : ∀ c, a'.eval (.const c) = c := fun _ => rfl
                      generalize a'.eval = ρ at *
                      go_simp
                    · have p30 : val 30 = .bool true := hF.post 30 (by kernel_rfl)
                      have r202 : a'.eval (.tmp 202) = .bool true := (hF.ev 202 30 rfl (by kernel_rfl) (of_decide_eq_true (by kernel_rfl))).trans p30
                      refine RK.owes_exec (v := .bool true) (w' := w') rfl (RK.wanted_any rfl) ?_ (Below.refl _ _) rfl
                      have rk : ∀ c, a'.eval (.const c) = c := fun _ => rfl
                      generalize a'.eval = ρ at *
                      go_simp
                    · have r11 : a'.eval (.tmp 11) = .pointer (some ⟨g11, 0, none⟩) := (hF.old 11 (.inr rfl)).trans rfl
                      have hwn : ∀ o : Oper, o.guard = some (31, true) → Region.wanted o _ = true := fun o h => RK.wanted_if h (hF.yields rfl rfl rfl (by kernel_rfl) (of_decide_eq_true (by kernel_rfl)) (hF.post 31 (by kernel_rfl)))
                      refine RK.owes_exec (v := .agg pn.cells) (w' := w') rfl (hwn _ rfl) ?_ (Below.refl _ _) rfl
                      exact load_box7 hF.S.2.1 rfl r11
                    · have p32 : val 32 = .agg pn.cells := hF.post 32 (by kernel_rfl)
                      have r204 : a'.eval (.tmp 204) = .agg pn.cells := (hF.ev 204 32 rfl (by kernel_rfl) (of_decide_eq_true (by kernel_rfl))).trans p32
                      have hwn : ∀ o : Oper, o.guard = some (31, true) → Region.wanted o _ = true := fun o h => RK.wanted_if h (hF.yields rfl rfl rfl (by kernel_rfl) (of_decide_eq_true (by kernel_rfl)) (hF.post 31 (by kernel_rfl)))
                      refine RK.owes_call (g := 11) (args := #[.agg pn.cells, .slice none 0 0]) rfl (hwn _ rfl) ?_ ?_
                      · have rk : ∀ c, a'.eval (.const c) = c := fun _ => rfl
                        have rf : ∀ f, a'.eval (.func f) = .func (.func f) #[] #[] := fun _ => rfl
                        generalize a'.eval = ρ at *
                        go_simp
                      · refine (query_any pn none 0 0 (MM.il []) (by omega) w' (IRow.nil w' _)).mono ?_
                        rintro e w2 ⟨rfl, hb⟩
                        exact ⟨_, rfl, hb, by rw [qry5]; rfl⟩
                    · have p33 : val 33 = .int .i64 0 := hF.post 33 (by kernel_rfl)
                      have r205 : a'.eval (.tmp 205) = .int .i64 0 := (hF.ev 205 33 rfl (by kernel_rfl) (of_decide_eq_true (by kernel_rfl))).trans p33
                      have hwn : ∀ o : Oper, o.guard = some (31, true) → Region.wanted o _ = true := fun o h => RK.wanted_if h (hF.yields rfl rfl rfl (by kernel_rfl) (of_decide_eq_true (by kernel_rfl)) (hF.post 31 (by kernel_rfl)))
                      refine RK.owes_exec (v := .bool true) (w' := w') rfl (hwn _ rfl) ?_ (Below.refl _ _) rfl
                      have rk : ∀ c, a'.eval (.const c) = c := fun _ => rfl
                      generalize a'.eval = ρ at *
                      go_simp
                    · have p31 : val 31 = .bool true := hF.post 31 (by kernel_rfl)
                      have r203 : a'.eval (.tmp 203) = .bool true := (hF.ev 203 31 rfl (by kernel_rfl) (of_decide_eq_true (by kernel_rfl))).trans p31
                      have p34 : val 34 = .bool true := hF.post 34 (by kernel_rfl)
                      have r206 : a'.eval (.tmp 206) = .bool true := (hF.ev 206 34 rfl (by kernel_rfl) (of_decide_eq_true (by kernel_rfl))).trans p34
                      refine RK.owes_exec (v := .bool true) (w' := w') rfl (RK.wanted_any rfl) ?_ (Below.refl _ _) rfl
                      have rk : ∀ c, a'.eval (.const c) = c := fun _ => rfl
                      generalize a'.eval = ρ at *
                      go_simp
                    · have p35 : val 35 = .bool true := hF.post 35 (by kernel_rfl)
                      have r207 : a'.eval (.tmp 207) = .bool true := (hF.ev 207 35 rfl (by kernel_rfl) (of_decide_eq_true (by kernel_rfl))).trans p35
                      refine RK.owes_exec (v := .bool true) (w' := w') rfl (RK.wanted_any rfl) ?_ (Below.refl _ _) rfl
                      have rk : ∀ c, a'.eval (.const c) = c := fun _ => rfl
                      generalize a'.eval = ρ at *
                      go_simp
                    · have r11 : a'.eval (.tmp 11) = .pointer (some ⟨g11, 0, none⟩) := (hF.old 11 (.inr rfl)).trans rfl
                      have hwn : ∀ o : Oper, o.guard = some (36, true) → Region.wanted o _ = true := fun o h => RK.wanted_if h (hF.yields rfl rfl rfl (by kernel_rfl) (of_decide_eq_true (by kernel_rfl)) (hF.post 36 (by kernel_rfl)))
                      refine RK.owes_exec (v := .agg pn.cells) (w' := w') rfl (hwn _ rfl) ?_ (Below.refl _ _) rfl
                      exact load_box7 hF.S.2.1 rfl r11
                    · have hwn : ∀ o : Oper, o.guard = some (36, true) → Region.wanted o _ = true := fun o h => RK.wanted_if h (hF.yields rfl rfl rfl (by kernel_rfl) (of_decide_eq_true (by kernel_rfl)) (hF.post 36 (by kernel_rfl)))
                      refine RK.owes_exec (v := .slice (some ⟨w'.heap.size, 0, none⟩) 1 1) (w' := (w'.alloc (.cells #[.int .i64 5] 2))) rfl (hwn _ rfl) ?_ (below_box _ _) (isI_new w' [5] rfl rfl)
                      have rk : ∀ c, a'.eval (.const c) = c := fun _ => rfl
                      generalize a'.eval = ρ at *
                      go_simp
                    · have p37 : val 37 = .agg pn.cells := hF.post 37 (by kernel_rfl)
                      have r209 : a'.eval (.tmp 209) = .agg pn.cells := (hF.ev 209 37 rfl (by kernel_rfl) (of_decide_eq_true (by kernel_rfl))).trans p37
                      obtain ⟨ao38, c38, e38, h38⟩ : ∃ ao c, val 38 = .slice ao 1 c ∧ IRow w' ao 1 c (MM.il [5]) := (hF.post 38 (by kernel_rfl))
                      have r210 : a'.eval (.tmp 210) = .slice ao38 1 c38 := (hF.ev 210 38 rfl (by kernel_rfl) (of_decide_eq_true (by kernel_rfl))).trans e38
                      have hwn : ∀ o : Oper, o.guard = some (36, true) → Region.wanted o _ = true := fun o h => RK.wanted_if h (hF.yields rfl rfl rfl (by kernel_rfl) (of_decide_eq_true (by kernel_rfl)) (hF.post 36 (by kernel_rfl)))
                      refine RK.owes_call (g := 12) (args := #[.agg pn.cells, .slice ao38 1 c38]) rfl (hwn _ rfl) ?_ ?_
                      · have rk : ∀ c, a'.eval (.const c) = c := fun _ => rfl
                        have rf : ∀ f, a'.eval (.func f) = .func (.func f) #[] #[] := fun _ => rfl
                        generalize a'.eval = ρ at *
                        go_simp
                      · refine (row_any pn ao38 1 c38 (MM.il [5]) (il7_ok [5] (by decide +kernel)) w' h38).mono ?_
                        rintro e w2 ⟨u, rfl, hu, hb⟩
                        exact ⟨_, rfl, hb, isU_of hu row1.1 row1.2⟩
                    · have hwn : ∀ o : Oper, o.guard = some (36, true) → Region.wanted o _ = true := fun o h => RK.wanted_if h (hF.yields rfl rfl rfl (by kernel_rfl) (of_decide_eq_true (by kernel_rfl)) (hF.post 36 (by kernel_rfl)))
                      refine RK.owes_exec (v := .slice (some ⟨w'.heap.size, 0, none⟩) 1 1) (w' := (w'.alloc (.cells #[.int .u64 1] 23))) rfl (hwn _ rfl) ?_ (below_box _ _) (isU_new w' [1] rfl rfl)
                      have rk : ∀ c, a'.eval (.const c) = c := fun _ => rfl
                      generalize a'.eval = ρ at *
                      go_simp
                    · obtain ⟨ao39, c39, e39, l39, h39⟩ : ∃ ao c, val 39 = .slice ao 1 c ∧ 1 ≤ c ∧ Rd w' ao 1 (MM.nl [1]) := (hF.post 39 (by kernel_rfl))
                      have r211 : a'.eval (.tmp 211) = .slice ao39 1 c39 := (hF.ev 211 39 rfl (by kernel_rfl) (of_decide_eq_true (by kernel_rfl))).trans e39
                      obtain ⟨ao40, c40, e40, l40, h40⟩ : ∃ ao c, val 40 = .slice ao 1 c ∧ 1 ≤ c ∧ Rd w' ao 1 (MM.nl [1]) := (hF.post 40 (by kernel_rfl))
                      have r212 : a'.eval (.tmp 212) = .slice ao40 1 c40 := (hF.ev 212 40 rfl (by kernel_rfl) (of_decide_eq_true (by kernel_rfl))).trans e40
                      have hwn : ∀ o : Oper, o.guard = some (36, true) → Region.wanted o _ = true := fun o h => RK.wanted_if h (hF.yields rfl rfl rfl (by kernel_rfl) (of_decide_eq_true (by kernel_rfl)) (hF.post 36 (by kernel_rfl)))
                      refine RK.owes_call (g := 14) (args := #[.slice ao39 1 c39, .slice ao40 1 c40]) rfl (hwn _ rfl) ?_ ?_
                      · have rk : ∀ c, a'.eval (.const c) = c := fun _ => rfl
                        have rf : ∀ f, a'.eval (.func f) = .func (.func f) #[] #[] := fun _ => rfl
                        generalize a'.eval = ρ at *
                        go_simp
                      · refine (numbers_yes7 ao39 ao40 1 c39 c40 (MM.nl [1]) (by omega) w' h39 h40).mono ?_
                        rintro e w2 ⟨rfl, nd, rfl⟩
                        exact ⟨_, rfl, below_drewN' _ nd _, rfl⟩
                    · have p36 : val 36 = .bool true := hF.post 36 (by kernel_rfl)
                      have r208 : a'.eval (.tmp 208) = .bool true := (hF.ev 208 36 rfl (by kernel_rfl) (of_decide_eq_true (by kernel_rfl))).trans p36
                      have p41 : val 41 = .bool true := hF.post 41 (by kernel_rfl)
                      have r213 : a'.eval (.tmp 213) = .bool true := (hF.ev 213 41 rfl (by kernel_rfl) (of_decide_eq_true (by kernel_rfl))).trans p41
                      refine RK.owes_exec (v := .bool true) (w' := w') rfl (RK.wanted_any rfl) ?_ (Below.refl _ _) rfl
                      have rk : ∀ c, a'.eval (.const c) = c := fun _ => rfl
                      generalize a'.eval = ρ at *
                      go_simp
                    · have p42 : val 42 = .bool true := hF.post 42 (by kernel_rfl)
                      have r214 : a'.eval (.tmp 214) = .bool true := (hF.ev 214 42 rfl (by kernel_rfl) (of_decide_eq_true (by kernel_rfl))).trans p42
                      refine RK.owes_exec (v := .bool true) (w' := w') rfl (RK.wanted_any rfl) ?_ (Below.refl _ _) rfl
                      have rk : ∀ c, a'.eval (.const c) = c := fun _ => rfl
                      generalize a'.eval = ρ at *
                      go_simp
                    · have r11 : a'.eval (.tmp 11) = .pointer (some ⟨g11, 0, none⟩) := (hF.old 11 (.inr rfl)).trans rfl
                      have hwn : ∀ o : Oper, o.guard = some (43, true) → Region.wanted o _ = true := fun o h => RK.wanted_if h (hF.yields rfl rfl rfl (by kernel_rfl) (of_decide_eq_true (by kernel_rfl)) (hF.post 43 (by kernel_rfl)))
                      refine RK.owes_exec (v := .agg pn.cells) (w' := w') rfl (hwn _ rfl) ?_ (Below.refl _ _) rfl
                      exact load_box7 hF.S.2.1 rfl r11
                    · have hwn : ∀ o : Oper, o.guard = some (43, true) → Region.wanted o _ = true := fun o h => RK.wanted_if h (hF.yields rfl rfl rfl (by kernel_rfl) (of_decide_eq_true (by kernel_rfl)) (hF.post 43 (by kernel_rfl)))
                      refine RK.owes_exec (v := .slice (some ⟨w'.heap.size, 0, none⟩) 1 1) (w' := (w'.alloc (.cells #[.int .u64 4] 23))) rfl (hwn _ rfl) ?_ (below_box _ _) (isU_new w' [4] rfl rfl)
                      have rk : ∀ c, a'.eval (.const c) = c := fun _ => rfl
                      generalize a'.eval = ρ at *
                      go_simp
                    · have p44 : val 44 = .agg pn.cells := hF.post 44 (by kernel_rfl)
                      have r216 : a'.eval (.tmp 216) = .agg pn.cells := (hF.ev 216 44 rfl (by kernel_rfl) (of_decide_eq_true (by kernel_rfl))).trans p44
                      obtain ⟨ao45, c45, e45, l45, h45⟩ : ∃ ao c, val 45 = .slice ao 1 c ∧ 1 ≤ c ∧ Rd w' ao 1 (MM.nl [4]) := (hF.post 45 (by kernel_rfl))
                      have r217 : a'.eval (.tmp 217) = .slice ao45 1 c45 := (hF.ev 217 45 rfl (by kernel_rfl) (of_decide_eq_true (by kernel_rfl))).trans e45
                      have hwn : ∀ o : Oper, o.guard = some (43, true) → Region.wanted o _ = true := fun o h => RK.wanted_if h (hF.yields rfl rfl rfl (by kernel_rfl) (of_decide_eq_true (by kernel_rfl)) (hF.post 43 (by kernel_rfl)))
                      refine RK.owes_call (g := 13) (args := #[.agg pn.cells, .slice ao45 1 c45, .slice none 0 0]) rfl (hwn _ rfl) ?_ ?_
                      · have rk : ∀ c, a'.eval (.const c) = c := fun _ => rfl
                        have rf : ∀ f, a'.eval (.func f) = .func (.func f) #[] #[] := fun _ => rfl
                        generalize a'.eval = ρ at *
                        go_simp
                      · refine (dot_any pn ao45 1 c45 (MM.nl [4]) none 0 0 (MM.il []) (nl7_ok [4] (by decide +kernel)) (il7_ok [] (by decide +kernel)) w' h45 (IRow.nil w' _)).mono ?_
                        rintro e w2 ⟨u, rfl, hu, hb⟩
                        exact ⟨_, rfl, hb, isU_of hu dot1 (fun k hk => absurd hk (Nat.not_lt_zero _))⟩
                    · obtain ⟨ao46, c46, e46, l46, h46⟩ : ∃ ao c, val 46 = .slice ao 0 c ∧ 0 ≤ c ∧ Rd w' ao 0 (MM.nl []) := (hF.post 46 (by kernel_rfl))
                      have r218 : a'.eval (.tmp 218) = .slice ao46 0 c46 := (hF.ev 218 46 rfl (by kernel_rfl) (of_decide_eq_true (by kernel_rfl))).trans e46
                      have hwn : ∀ o : Oper, o.guard = some (43, true) → Region.wanted o _ = true := fun o h => RK.wanted_if h (hF.yields rfl rfl rfl (by kernel_rfl) (of_decide_eq_true (by kernel_rfl)) (hF.post 43 (by kernel_rfl)))
                      refine RK.owes_exec (v := .int .i64 0) (w' := w') rfl (hwn _ rfl) ?_ (Below.refl _ _) rfl
                      have rk : ∀ c, a'.eval (.const c) = c := fun _ => rfl
                      generalize a'.eval = ρ at *
                      go_simp
                    · have p47 : val 47 = .int .i64 0 := hF.post 47 (by kernel_rfl)
                      have r219 : a'.eval (.tmp 219) = .int .i64 0 := (hF.ev 219 47 rfl (by kernel_rfl) (of_decide_eq_true (by kernel_rfl))).trans p47
                      have hwn : ∀ o : Oper, o.guard = some (43, true) → Region.wanted o _ = true := fun o h => RK.wanted_if h (hF.yields rfl rfl rfl (by kernel_rfl) (of_decide_eq_true (by kernel_rfl)) (hF.post 43 (by kernel_rfl)))
                      refine RK.owes_exec (v := .bool true) (w' := w') rfl (hwn _ rfl) ?_ (Below.refl _ _) rfl
                      have rk : ∀ c, a'.eval (.const c) = c := fun _ => rfl
                      generalize a'.eval = ρ at *
                      go_simp
                    · have p43 : val 43 = .bool true := hF.post 43 (by kernel_rfl)
                      have r215 : a'.eval (.tmp 215) = .bool true := (hF.ev 215 43 rfl (by kernel_rfl) (of_decide_eq_true (by kernel_rfl))).trans p43
                      have p48 : val 48 = .bool true := hF.post 48 (by kernel_rfl)
                      have r220 : a'.eval (.tmp 220) = .bool true := (hF.ev 220 48 rfl (by kernel_rfl) (of_decide_eq_true (by kernel_rfl))).trans p48
                      refine RK.owes_exec (v := .bool true) (w' := w') rfl (RK.wanted_any rfl) ?_ (Below.refl _ _) rfl
                      have rk : ∀ c, a'.eval (.const c) = c := fun _ => rfl
                      generalize a'.eval = ρ at *
                      go_simp
                    · have p49 : val 49 = .bool true := hF.post 49 (by kernel_rfl)
                      have r221 : a'.eval (.tmp 221) = .bool true := (hF.ev 221 49 rfl (by kernel_rfl) (of_decide_eq_true (by kernel_rfl))).trans p49
                      refine RK.owes_exec (v := .bool true) (w' := w') rfl (RK.wanted_any rfl) ?_ (Below.refl _ _) rfl
                      have rk : ∀ c, a'.eval (.const c) = c := fun _ => rfl
                      generalize a'.eval = ρ at *
                      go_simp
                    · have r5 : a'.eval (.tmp 5) = .pointer (some ⟨g5, 0, none⟩) := (hF.old 5 (.inr rfl)).trans rfl
                      have hwn : ∀ o : Oper, o.guard = some (50, true) → Region.wanted o _ = true := fun o h => RK.wanted_if h (hF.yields rfl rfl rfl (by kernel_rfl) (of_decide_eq_true (by kernel_rfl)) (hF.post 50 (by kernel_rfl)))
                      refine RK.owes_exec (v := .agg sp.cells) (w' := w') rfl (hwn _ rfl) ?_ (Below.refl _ _) rfl
                      exact load_box7 hF.S.1 rfl r5
                    · have p51 : val 51 = .agg sp.cells := hF.post 51 (by kernel_rfl)
                      have r223 : a'.eval (.tmp 223) = .agg sp.cells := (hF.ev 223 51 rfl (by kernel_rfl) (of_decide_eq_true (by kernel_rfl))).trans p51
                      have hwn : ∀ o : Oper, o.guard = some (50, true) → Region.wanted o _ = true := fun o h => RK.wanted_if h (hF.yields rfl rfl rfl (by kernel_rfl) (of_decide_eq_true (by kernel_rfl)) (hF.post 50 (by kernel_rfl)))
                      refine RK.owes_call (g := 12) (args := #[.agg sp.cells, .slice none 0 0]) rfl (hwn _ rfl) ?_ ?_
                      · have rk : ∀ c, a'.eval (.const c) = c := fun _ => rfl
                        have rf : ∀ f, a'.eval (.func f) = .func (.func f) #[] #[] := fun _ => rfl
                        generalize a'.eval = ρ at *
                        go_simp
                      · refine (row_any sp none 0 0 (MM.il []) (il7_ok [] (by decide +kernel)) w' (IRow.nil w' _)).mono ?_
                        rintro e w2 ⟨u, rfl, hu, hb⟩
                        exact ⟨_, rfl, hb, isU_of hu row2.1 row2.2⟩
                    · have hwn : ∀ o : Oper, o.guard = some (50, true) → Region.wanted o _ = true := fun o h => RK.wanted_if h (hF.yields rfl rfl rfl (by kernel_rfl) (of_decide_eq_true (by kernel_rfl)) (hF.post 50 (by kernel_rfl)))
                      refine RK.owes_exec (v := .slice (some ⟨w'.heap.size, 0, none⟩) 2 2) (w' := (w'.alloc (.cells #[.int .u64 0, .int .u64 1] 23))) rfl (hwn _ rfl) ?_ (below_box _ _) (isU_new w' [0, 1] rfl rfl)
                      have rk : ∀ c, a'.eval (.const c) = c := fun _ => rfl
                      generalize a'.eval = ρ at *
                      go_simp
                    · obtain ⟨ao52, c52, e52, l52, h52⟩ : ∃ ao c, val 52 = .slice ao 2 c ∧ 2 ≤ c ∧ Rd w' ao 2 (MM.nl [0, 1]) := (hF.post 52 (by kernel_rfl))
                      have r224 : a'.eval (.tmp 224) = .slice ao52 2 c52 := (hF.ev 224 52 rfl (by kernel_rfl) (of_decide_eq_true (by kernel_rfl))).trans e52
                      obtain ⟨ao53, c53, e53, l53, h53⟩ : ∃ ao c, val 53 = .slice ao 2 c ∧ 2 ≤ c ∧ Rd w' ao 2 (MM.nl [0, 1]) := (hF.post 53 (by kernel_rfl))
                      have r225 : a'.eval (.tmp 225) = .slice ao53 2 c53 := (hF.ev 225 53 rfl (by kernel_rfl) (of_decide_eq_true (by kernel_rfl))).trans e53
                      have hwn : ∀ o : Oper, o.guard = some (50, true) → Region.wanted o _ = true := fun o h => RK.wanted_if h (hF.yields rfl rfl rfl (by kernel_rfl) (of_decide_eq_true (by kernel_rfl)) (hF.post 50 (by kernel_rfl)))
                      refine RK.owes_call (g := 14) (args := #[.slice ao52 2 c52, .slice ao53 2 c53]) rfl (hwn _ rfl) ?_ ?_
                      · have rk : ∀ c, a'.eval (.const c) = c := fun _ => rfl
                        have rf : ∀ f, a'.eval (.func f) = .func (.func f) #[] #[] := fun _ => rfl
                        generalize a'.eval = ρ at *
                        go_simp
                      · refine (numbers_yes7 ao52 ao53 2 c52 c53 (MM.nl [0, 1]) (by omega) w' h52 h53).mono ?_
                        rintro e w2 ⟨rfl, nd, rfl⟩
                        exact ⟨_, rfl, below_drewN' _ nd _, rfl⟩
                    · have p50 : val 50 = .bool true := hF.post 50 (by kernel_rfl)
                      have r222 : a'.eval (.tmp 222) = .bool true := (hF.ev 222 50 rfl (by kernel_rfl) (of_decide_eq_true (by kernel_rfl))).trans p50
                      have p54 : val 54 = .bool true := hF.post 54 (by kernel_rfl)
                      have r226 : a'.eval (.tmp 226) = .bool true := (hF.ev 226 54 rfl (by kernel_rfl) (of_decide_eq_true (by kernel_rfl))).trans p54
                      refine RK.owes_exec (v := .bool true) (w' := w') rfl (RK.wanted_any rfl) ?_ (Below.refl _ _) rfl
                      have rk : ∀ c, a'.eval (.const c) = c := fun _ => rfl
                      generalize a'.eval = ρ at *
                      go_simp
                    · have p55 : val 55 = .bool true := hF.post 55 (by kernel_rfl)
                      have r227 : a'.eval (.tmp 227) = .bool true := (hF.ev 227 55 rfl (by kernel_rfl) (of_decide_eq_true (by kernel_rfl))).trans p55
                      refine RK.owes_exec (v := .bool true) (w' := w') rfl (RK.wanted_any rfl) ?_ (Below.refl _ _) rfl
                      have rk : ∀ c, a'.eval (.const c) = c := fun _ => rfl
                      generalize a'.eval = ρ at *
                      go_simp
                    · have r5 : a'.eval (.tmp 5) = .pointer (some ⟨g5, 0, none⟩) := (hF.old 5 (.inr rfl)).trans rfl
                      have hwn : ∀ o : Oper, o.guard = some (56, true) → Region.wanted o _ = true := fun o h => RK.wanted_if h (hF.yields rfl rfl rfl (by kernel_rfl) (of_decide_eq_true (by kernel_rfl)) (hF.post 56 (by kernel_rfl)))
                      refine RK.owes_exec (v := .agg sp.cells) (w' := w') rfl (hwn _ rfl) ?_ (Below.refl _ _) rfl
                      exact load_box7 hF.S.1 rfl r5
                    · have hwn : ∀ o : Oper, o.guard = some (56, true) → Region.wanted o _ = true := fun o h => RK.wanted_if h (hF.yields rfl rfl rfl (by kernel_rfl) (of_decide_eq_true (by kernel_rfl)) (hF.post 56 (by kernel_rfl)))
                      refine RK.owes_exec (v := .slice (some ⟨w'.heap.size, 0, none⟩) 1 1) (w' := (w'.alloc (.cells #[.int .u64 5] 23))) rfl (hwn _ rfl) ?_ (below_box _ _) (isU_new w' [5] rfl rfl)
                      have rk : ∀ c, a'.eval (.const c) = c := fun _ => rfl
                      generalize a'.eval = ρ at *
                      go_simp
                    · have hwn : ∀ o : Oper, o.guard = some (56, true) → Region.wanted o _ = true := fun o h => RK.wanted_if h (hF.yields rfl rfl rfl (by kernel_rfl) (of_decide_eq_true (by kernel_rfl)) (hF.post 56 (by kernel_rfl)))
                      refine RK.owes_exec (v := .slice (some ⟨w'.heap.size, 0, none⟩) 2 2) (w' := (w'.alloc (.cells #[.int .i64 3, .int .i64 9] 2))) rfl (hwn _ rfl) ?_ (below_box _ _) (isI_new w' [3, 9] rfl rfl)
                      have rk : ∀ c, a'.eval (.const c) = c := fun _ => rfl
                      generalize a'.eval = ρ at *
                      go_simp
                    · have p57 : val 57 = .agg sp.cells := hF.post 57 (by kernel_rfl)
                      have r229 : a'.eval (.tmp 229) = .agg sp.cells := (hF.ev 229 57 rfl (by kernel_rfl) (of_decide_eq_true (by kernel_rfl))).trans p57
                      obtain ⟨ao58, c58, e58, l58, h58⟩ : ∃ ao c, val 58 = .slice ao 1 c ∧ 1 ≤ c ∧ Rd w' ao 1 (MM.nl [5]) := (hF.post 58 (by kernel_rfl))
                      have r230 : a'.eval (.tmp 230) = .slice ao58 1 c58 := (hF.ev 230 58 rfl (by kernel_rfl) (of_decide_eq_true (by kernel_rfl))).trans e58
                      obtain ⟨ao59, c59, e59, h59⟩ : ∃ ao c, val 59 = .slice ao 2 c ∧ IRow w' ao 2 c (MM.il [3, 9]) := (hF.post 59 (by kernel_rfl))
                      have r231 : a'.eval (.tmp 231) = .slice ao59 2 c59 := (hF.ev 231 59 rfl (by kernel_rfl) (of_decide_eq_true (by kernel_rfl))).trans e59
                      have hwn : ∀ o : Oper, o.guard = some (56, true) → Region.wanted o _ = true := fun o h => RK.wanted_if h (hF.yields rfl rfl rfl (by kernel_rfl) (of_decide_eq_true (by kernel_rfl)) (hF.post 56 (by kernel_rfl)))
                      refine RK.owes_call (g := 13) (args := #[.agg sp.cells, .slice ao58 1 c58, .slice ao59 2 c59]) rfl (hwn _ rfl) ?_ ?_
                      · have rk : ∀ c, a'.eval (.const c) = c := fun _ => rfl
                        have rf : ∀ f, a'.eval (.func f) = .func (.func f) #[] #[] := fun _ => rfl
                        generalize a'.eval = ρ at *
                        go_simp
                      · refine (dot_any sp ao58 1 c58 (MM.nl [5]) ao59 2 c59 (MM.il [3, 9]) (nl7_ok [5] (by decide +kernel)) (il7_ok [3, 9] (by decide +kernel)) w' h58 h59).mono ?_
                        rintro e w2 ⟨u, rfl, hu, hb⟩
                        exact ⟨_, rfl, hb, isU_of hu dot2.1 dot2.2⟩
                    · have hwn : ∀ o : Oper, o.guard = some (56, true) → Region.wanted o _ = true := fun o h => RK.wanted_if h (hF.yields rfl rfl rfl (by kernel_rfl) (of_decide_eq_true (by kernel_rfl)) (hF.post 56 (by kernel_rfl)))
                      refine RK.owes_exec (v := .slice (some ⟨w'.heap.size, 0, none⟩) 2 2) (w' := (w'.alloc (.cells #[.int .u64 15, .int .u64 0] 23))) rfl (hwn _ rfl) ?_ (below_box _ _) (isU_new w' [15, 0] rfl rfl)
                      have rk : ∀ c, a'.eval (.const c) = c := fun _ => rfl
                      generalize a'.eval = ρ at *
                      go_simp
                    · obtain ⟨ao60, c60, e60, l60, h60⟩ : ∃ ao c, val 60 = .slice ao 2 c ∧ 2 ≤ c ∧ Rd w' ao 2 (MM.nl [15, 0]) := (hF.post 60 (by kernel_rfl))
                      have r232 : a'.eval (.tmp 232) = .slice ao60 2 c60 := (hF.ev 232 60 rfl (by kernel_rfl) (of_decide_eq_true (by kernel_rfl))).trans e60
                      obtain ⟨ao61, c61, e61, l61, h61⟩ : ∃ ao c, val 61 = .slice ao 2 c ∧ 2 ≤ c ∧ Rd w' ao 2 (MM.nl [15, 0]) := (hF.post 61 (by kernel_rfl))
                      have r233 : a'.eval (.tmp 233) = .slice ao61 2 c61 := (hF.ev 233 61 rfl (by kernel_rfl) (of_decide_eq_true (by kernel_rfl))).trans e61
                      have hwn : ∀ o : Oper, o.guard = some (56, true) → Region.wanted o _ = true := fun o h => RK.wanted_if h (hF.yields rfl rfl rfl (by kernel_rfl) (of_decide_eq_true (by kernel_rfl)) (hF.post 56 (by kernel_rfl)))
                      refine RK.owes_call (g := 14) (args := #[.slice ao60 2 c60, .slice ao61 2 c61]) rfl (hwn _ rfl) ?_ ?_
                      · have rk : ∀ c, a'.eval (.const c) = c := fun _ => rfl
                        have rf : ∀ f, a'.eval (.func f) = .func (.func f) #[] #[] := fun _ => rfl
                        generalize a'.eval = ρ at *
                        go_simp
                      · refine (numbers_yes7 ao60 ao61 2 c60 c61 (MM.nl [15, 0]) (by omega) w' h60 h61).mono ?_
                        rintro e w2 ⟨rfl, nd, rfl⟩
                        exact ⟨_, rfl, below_drewN' _ nd _, rfl⟩
                    · have p56 : val 56 = .bool true := hF.post 56 (by kernel_rfl)
                      have r228 : a'.eval (.tmp 228) = .bool true := (hF.ev 228 56 rfl (by kernel_rfl) (of_decide_eq_true (by kernel_rfl))).trans p56
                      have p62 : val 62 = .bool true := hF.post 62 (by kernel_rfl)
                      have r234 : a'.eval (.tmp 234) = .bool true := (hF.ev 234 62 rfl (by kernel_rfl) (of_decide_eq_true (by kernel_rfl))).trans p62
                      refine RK.owes_exec (v := .bool true) (w' := w') rfl (RK.wanted_any rfl) ?_ (Below.refl _ _) rfl
                      have rk : ∀ c, a'.eval (.const c) = c := fun _ => rfl
                      generalize a'.eval = ρ at *
                      go_simp
                    · have p63 : val 63 = .bool true := hF.post 63 (by kernel_rfl)
                      have r235 : a'.eval (.tmp 235) = .bool true := (hF.ev 235 63 rfl (by kernel_rfl) (of_decide_eq_true (by kernel_rfl))).trans p63
                      refine RK.owes_exec (v := .bool true) (w' := w') rfl (RK.wanted_any rfl) ?_ (Below.refl _ _) rfl
                      have rk : ∀ c, a'.eval (.const c) = c := fun _ => rfl
                      generalize a'.eval = ρ at *
                      go_simp
                    · have r8 : a'.eval (.tmp 8) = .pointer (some ⟨g8, 0, none⟩) := (hF.old 8 (.inr rfl)).trans rfl
                      have hwn : ∀ o : Oper, o.guard = some (64, true) → Region.wanted o _ = true := fun o h => RK.wanted_if h (hF.yields rfl rfl rfl (by kernel_rfl) (of_decide_eq_true (by kernel_rfl)) (hF.post 64 (by kernel_rfl)))
                      refine RK.owes_exec (v := .agg (MoV.cells v8 ends7)) (w' := w') rfl (hwn _ rfl) ?_ (Below.refl _ _) rfl
                      exact load_mo7 hF.S.2.2.1 rfl r8
                    · have r8 : a'.eval (.tmp 8) = .pointer (some ⟨g8, 0, none⟩) := (hF.old 8 (.inr rfl)).trans rfl
                      have hwn : ∀ o : Oper, o.guard = some (64, true) → Region.wanted o _ = true := fun o h => RK.wanted_if h (hF.yields rfl rfl rfl (by kernel_rfl) (of_decide_eq_true (by kernel_rfl)) (hF.post 64 (by kernel_rfl)))
                      refine RK.owes_exec (v := .pointer (some ⟨g8, 0, none⟩)) (w' := w') rfl (hwn _ rfl) ?_ (Below.refl _ _) rfl
                      have rk : ∀ c, a'.eval (.const c) = c := fun _ => rfl
                      generalize a'.eval = ρ at *
                      go_simp
                    · have p66 : val 66 = .pointer (some ⟨g8, 0, none⟩) := hF.post 66 (by kernel_rfl)
                      have r238 : a'.eval (.tmp 238) = .pointer (some ⟨g8, 0, none⟩) := (hF.ev 238 66 rfl (by kernel_rfl) (of_decide_eq_true (by kernel_rfl))).trans p66
                      have hwn : ∀ o : Oper, o.guard = some (64, true) → Region.wanted o _ = true := fun o h => RK.wanted_if h (hF.yields rfl rfl rfl (by kernel_rfl) (of_decide_eq_true (by kernel_rfl)) (hF.post 64 (by kernel_rfl)))
                      have cw : w'.cell? ⟨g8, 0, none⟩ = some (.slice v8.wo 2 v8.wc) := BoxM.cell hF.S.2.2.1 0
                      refine RK.owes_exec (v := .slice v8.wo 2 v8.wc) (w' := w') rfl (hwn _ rfl) ?_ (Below.refl _ _) rfl
                      have rk : ∀ c, a'.eval (.const c) = c := fun _ => rfl
                      generalize a'.eval = ρ at *
                      go_simp
                    · have p67 : val 67 = .slice v8.wo 2 v8.wc := hF.post 67 (by kernel_rfl)
                      have r239 : a'.eval (.tmp 239) = .slice v8.wo 2 v8.wc := (hF.ev 239 67 rfl (by kernel_rfl) (of_decide_eq_true (by kernel_rfl))).trans p67
                      have hwn : ∀ o : Oper, o.guard = some (64, true) → Region.wanted o _ = true := fun o h => RK.wanted_if h (hF.yields rfl rfl rfl (by kernel_rfl) (of_decide_eq_true (by kernel_rfl)) (hF.post 64 (by kernel_rfl)))
                      refine RK.owes_exec (v := .agg #[.slice v8.wo 2 v8.wc, .slice none 0 0]) (w' := w') rfl (hwn _ rfl) ?_ (Below.refl _ _) rfl
                      have rk : ∀ c, a'.eval (.const c) = c := fun _ => rfl
                      generalize a'.eval = ρ at *
                      go_simp
                    · have p65 : val 65 = .agg (MoV.cells v8 ends7) := hF.post 65 (by kernel_rfl)
                      have r237 : a'.eval (.tmp 237) = .agg (MoV.cells v8 ends7) := (hF.ev 237 65 rfl (by kernel_rfl) (of_decide_eq_true (by kernel_rfl))).trans p65
                      have p68 : val 68 = .agg #[.slice v8.wo 2 v8.wc, .slice none 0 0] := hF.post 68 (by kernel_rfl)
                      have r240 : a'.eval (.tmp 240) = .agg #[.slice v8.wo 2 v8.wc, .slice none 0 0] := (hF.ev 240 68 rfl (by kernel_rfl) (of_decide_eq_true (by kernel_rfl))).trans p68
                      have hwn : ∀ o : Oper, o.guard = some (64, true) → Region.wanted o _ = true := fun o h => RK.wanted_if h (hF.yields rfl rfl rfl (by kernel_rfl) (of_decide_eq_true (by kernel_rfl)) (hF.post 64 (by kernel_rfl)))
                      refine RK.owes_call (g := 15) (args := #[.agg (MoV.cells v8 ends7), .agg #[.slice v8.wo 2 v8.wc, .slice none 0 0]]) rfl (hwn _ rfl) ?_ ?_
                      · have rk : ∀ c, a'.eval (.const c) = c := fun _ => rfl
                        have rf : ∀ f, a'.eval (.func f) = .func (.func f) #[] #[] := fun _ => rfl
                        generalize a'.eval = ρ at *
                        go_simp
                      · refine (same_any v8 ⟨v8.wo, v8.wc, none, 0⟩ ends7 ends0 ends_ok w' hF.S.2.2.2.1 (ends0_at hF.S.2.2.2.1)).mono ?_
                        rintro e w2 ⟨rfl, hb⟩
                        exact ⟨_, rfl, hb, by rw [same1]; rfl⟩
                    · have p69 : val 69 = .bool false := hF.post 69 (by kernel_rfl)
                      have r241 : a'.eval (.tmp 241) = .bool false := (hF.ev 241 69 rfl (by kernel_rfl) (of_decide_eq_true (by kernel_rfl))).trans p69
                      have hwn : ∀ o : Oper, o.guard = some (64, true) → Region.wanted o _ = true := fun o h => RK.wanted_if h (hF.yields rfl rfl rfl (by kernel_rfl) (of_decide_eq_true (by kernel_rfl)) (hF.post 64 (by kernel_rfl)))
                      refine RK.owes_exec (v := .bool true) (w' := w') rfl (hwn _ rfl) ?_ (Below.refl _ _) rfl
                      have rk : ∀ c, a'.eval (.const c) = c := fun _ => rfl
                      generalize a'.eval = ρ at *
                      go_simp
                    · have p64 : val 64 = .bool true := hF.post 64 (by kernel_rfl)
                      have r236 : a'.eval (.tmp 236) = .bool true := (hF.ev 236 64 rfl (by kernel_rfl) (of_decide_eq_true (by kernel_rfl))).trans p64
                      have p70 : val 70 = .bool true := hF.post 70 (by kernel_rfl)
                      have r242 : a'.eval (.tmp 242) = .bool true := (hF.ev 242 70 rfl (by kernel_rfl) (of_decide_eq_true (by kernel_rfl))).trans p70
                      refine RK.owes_exec (v := .bool true) (w' := w') rfl (RK.wanted_any rfl) ?_ (Below.refl _ _) rfl
                      have rk : ∀ c, a'.eval (.const c) = c := fun _ => rfl
                      generalize a'.eval = ρ at *
                      go_simp
                    · have p71 : val 71 = .bool true := hF.post 71 (by kernel_rfl)
                      have r243 : a'.eval (.tmp 243) = .bool true := (hF.ev 243 71 rfl (by kernel_rfl) (of_decide_eq_true (by kernel_rfl))).trans p71
                      refine RK.owes_exec (v := .bool true) (w' := w') rfl (RK.wanted_any rfl) ?_ (Below.refl _ _) rfl
                      have rk : ∀ c, a'.eval (.const c) = c := fun _ => rfl
                      generalize a'.eval = ρ at *
                      go_simp
                    · have r8 : a'.eval (.tmp 8) = .pointer (some ⟨g8, 0, none⟩) := (hF.old 8 (.inr rfl)).trans rfl
                      have hwn : ∀ o : Oper, o.guard = some (72, true) → Region.wanted o _ = true := fun o h => RK.wanted_if h (hF.yields rfl rfl rfl (by kernel_rfl) (of_decide_eq_true (by kernel_rfl)) (hF.post 72 (by kernel_rfl)))
                      refine RK.owes_exec (v := .agg (MoV.cells v8 ends7)) (w' := w') rfl (hwn _ rfl) ?_ (Below.refl _ _) rfl
                      exact load_mo7 hF.S.2.2.1 rfl r8
                    · have r8 : a'.eval (.tmp 8) = .pointer (some ⟨g8, 0, none⟩) := (hF.old 8 (.inr rfl)).trans rfl
                      have hwn : ∀ o : Oper, o.guard = some (72, true) → Region.wanted o _ = true := fun o h => RK.wanted_if h (hF.yields rfl rfl rfl (by kernel_rfl) (of_decide_eq_true (by kernel_rfl)) (hF.post 72 (by kernel_rfl)))
                      refine RK.owes_exec (v := .agg (MoV.cells v8 ends7)) (w' := w') rfl (hwn _ rfl) ?_ (Below.refl _ _) rfl
                      exact load_mo7 hF.S.2.2.1 rfl r8
                    · have p74 : val 74 = .agg (MoV.cells v8 ends7) := hF.post 74 (by kernel_rfl)
                      have r246 : a'.eval (.tmp 246) = .agg (MoV.cells v8 ends7) := (hF.ev 246 74 rfl (by kernel_rfl) (of_decide_eq_true (by kernel_rfl))).trans p74
                      have hwn : ∀ o : Oper, o.guard = some (72, true) → Region.wanted o _ = true := fun o h => RK.wanted_if h (hF.yields rfl rfl rfl (by kernel_rfl) (of_decide_eq_true (by kernel_rfl)) (hF.post 72 (by kernel_rfl)))
                      refine RK.owes_call (g := 16) (args := #[.agg (MoV.cells v8 ends7)]) rfl (hwn _ rfl) ?_ ?_
                      · have rk : ∀ c, a'.eval (.const c) = c := fun _ => rfl
                        have rf : ∀ f, a'.eval (.func f) = .func (.func f) #[] #[] := fun _ => rfl
                        generalize a'.eval = ρ at *
                        go_simp
                      · refine (copied_any v8 ends7 (by decide) (by decide) (by intro i hi; exact ends_L i) w' hF.S.2.2.2.1).mono ?_
                        rintro e w2 ⟨u, rfl, hu, hb⟩
                        exact ⟨_, rfl, hb, u, rfl, hu⟩
                    · have p73 : val 73 = .agg (MoV.cells v8 ends7) := hF.post 73 (by kernel_rfl)
                      have r245 : a'.eval (.tmp 245) = .agg (MoV.cells v8 ends7) := (hF.ev 245 73 rfl (by kernel_rfl) (of_decide_eq_true (by kernel_rfl))).trans p73
                      obtain ⟨u75, e75, h75⟩ : ∃ u : MoV, val 75 = .agg (u.cells ends7) ∧ MoAt w' u ends7 := (hF.post 75 (by kernel_rfl))
                      have r247 : a'.eval (.tmp 247) = .agg (MoV.cells u75 ends7) := (hF.ev 247 75 rfl (by kernel_rfl) (of_decide_eq_true (by kernel_rfl))).trans e75
                      have hwn : ∀ o : Oper, o.guard = some (72, true) → Region.wanted o _ = true := fun o h => RK.wanted_if h (hF.yields rfl rfl rfl (by kernel_rfl) (of_decide_eq_true (by kernel_rfl)) (hF.post 72 (by kernel_rfl)))
                      refine RK.owes_call (g := 15) (args := #[.agg (MoV.cells v8 ends7), .agg (MoV.cells u75 ends7)]) rfl (hwn _ rfl) ?_ ?_
                      · have rk : ∀ c, a'.eval (.const c) = c := fun _ => rfl
                        have rf : ∀ f, a'.eval (.func f) = .func (.func f) #[] #[] := fun _ => rfl
                        generalize a'.eval = ρ at *
                        go_simp
                      · refine (same_any v8 u75 ends7 ends7 ends_ok w' hF.S.2.2.2.1 h75).mono ?_
                        rintro e w2 ⟨rfl, hb⟩
                        exact ⟨_, rfl, hb, by rw [same2]; rfl⟩
                    · have p72 : val 72 = .bool true := hF.post 72 (by kernel_rfl)
                      have r244 : a'.eval (.tmp 244) = .bool true := (hF.ev 244 72 rfl (by kernel_rfl) (of_decide_eq_true (by kernel_rfl))).trans p72
                      have p76 : val 76 = .bool true := hF.post 76 (by kernel_rfl)
                      have r248 : a'.eval (.tmp 248) = .bool true := (hF.ev 248 76 rfl (by kernel_rfl) (of_decide_eq_true (by kernel_rfl))).trans p76
                      refine RK.owes_exec (v := .bool true) (w' := w') rfl (RK.wanted_any rfl) ?_ (Below.refl _ _) rfl
                      have rk : ∀ c, a'.eval (.const c) = c := fun _ => rfl
                      generalize a'.eval = ρ at *
                      go_simp
                    · have p77 : val 77 = .bool true := hF.post 77 (by kernel_rfl)
                      have r249 : a'.eval (.tmp 249) = .bool true := (hF.ev 249 77 rfl (by kernel_rfl) (of_decide_eq_true (by kernel_rfl))).trans p77
                      refine RK.owes_exec (v := .bool true) (w' := w') rfl (RK.wanted_any rfl) ?_ (Below.refl _ _) rfl
                      have rk : ∀ c, a'.eval (.const c) = c := fun _ => rfl
                      generalize a'.eval = ρ at *
                      go_simp
                  have hz : val 78 = .bool true := hp 78 (of_decide_eq_true (by kernel_rfl))
                  simp only [RK.slotsL, if_true, hz]
                  have HBc := Lib.hid (HBn.out.trans (hw.2.2.2.2.mono HBn.out.size))
                  clear hp hw hz HPN HS5n HXn HATn HBn
                  go_wp2_with fail
                  go_ret
                  exact ⟨rfl, HBc.out⟩

end Fn7
end M
end Go.Proofs.Ytnlkikcnjlkkdaa

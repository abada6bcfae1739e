/- BivarTells: for every list of lists of numbers and all numbers x, y and q the value, the row and the column of the program are those of the document, what was handed in stands, and what is told may be written over. -/
import Derived.Test.YtccpdjjgpkkkbaaRows
import Derived.Test.YtccpdjjgpkkkbaaOpenN
import Derived.Test.YtccpdjjgpkkkbaaOpenR
import Derived.Test.YtccpdjjgpkkkbaaLaw06a
import Derived.Test.YtccpdjjgpkkkbaaBivW2
import Derived.Test.YtccpdjjgpkkkbaaOpenR
namespace Go.Proofs.Ytccpdjjgpkkkbaa
open Go.ChangeShapes Go.WideShapes Go.ChangeAt Go.RowKit
namespace BivarTells
open M

set_option maxRecDepth 100000 in
set_option maxHeartbeats 8000000 in
theorem core (ao : Option Addr) (cap m x y q : Nat) (L : Nat → Nat) (F : Nat → Nat → Nat) (hm : m ≤ 20) (hw : MM.widU L m ≤ 20) (hF : ∀ i j, F i j < 18446744073709551616) (hx : x < 18446744073709551616) (hy : y < 18446744073709551616) (W : World) (hr : Mat W ao m L F) :
    Calls Try.prog 4 #[.slice ao m cap, .int .u64 (x : Int), .int .u64 (y : Int), .int .u64 (q : Int)] W fun e w' => e = .returned (.bool true) ∧ Below W.heap.size W w' := by
  have hL : ∀ i, i < m → L i ≤ 1000 := fun i hi => Nat.le_trans (MM.le_widU hi) (by omega)
  have hb1 := below_box W (.cells #[.slice ao m cap] 24)
  have HLA := Lib.hid (large_no ao cap m W.heap.size L F hm hw (W.alloc (.cells #[.slice ao m cap] 24)) (by rw [cell_of_row _ _ _ _ _ _ (heap_alloc_new W _)]; rfl) (hr.below hb1))
  have HOW := Lib.hid (own_any ao cap m L F (by omega) hL (W.alloc (.cells #[.slice ao m cap] 24)) (hr.below hb1))
  have HR := Lib.hid hr
  have HB1 := Lib.hid hb1
  have HL := Lib.hid hL
  have HF := Lib.hid hF
  clear hr hb1 hL hF
  go_enter Try.func4, Try.ntmps4
  go_wp2_with fail
  refine HLA.out.mono ?_
  rintro e w1 ⟨rfl, rfl⟩
  go_wp2_with fail
  refine HOW.out.mono ?_
  rintro e W2 ⟨v, rfl, ho⟩
  have hB2 := HB1.out.trans (ho.below.mono HB1.out.size)
  have HB2 := Lib.hid hB2
  obtain ⟨io, ic, rfl, hi, _⟩ := ho.mat
  have HI := Lib.hid hi
  have HR2 := Lib.hid (HR.out.below hB2)
  clear hi ho hB2 HLA HOW HR HB1
  go_wp2_with fail
  have HJ0 : Hid (Below W2.heap.size W2 W2) := Lib.hid (Below.refl _ _)
  go_loopw [10] (fun s10 wx => ∃ r : Nat, r ≤ 2 ∧ s10 = .int .i64 (r : Int) ∧ Hid (Below W2.heap.size W2 wx)) (fun s10 _ => 2 - (RowKit.intOf s10).toNat)
  case atStart => exact ⟨0, by omega, rfl, HJ0⟩
  case round =>
    clear HJ0
    obtain ⟨r, hr2, rfl, HJ⟩ := hrel
    obtain ⟨wo, hwo⟩ : ∃ wo : World, wo = wr := ⟨_, rfl⟩
    subst hwo
    by_cases hlt : r < 2
    · have p1 : (r : Int) < 2 := by omega
      go_wp2_with fail
      refine (row_any io ic m x q L F (by omega) HL.out HF.out hx wo (HI.out.below HJ.out)).mono ?_
      rintro e w1 ⟨rfl, hm1⟩
      have HM1 := Lib.hid hm1
      have HNE := Lib.hid (Nat.ne_of_lt hm1.lt)
      have HB01 := Lib.hid hm1.below
      have HJ1 := Lib.hid (HJ.out.trans (hm1.below.mono HJ.out.size))
      clear hm1
      go_wp2_with fail
      refine (col_any io ic m y q L F (by omega) HL.out hy w1 (HI.out.below HJ1.out)).mono ?_
      rintro e w2 ⟨rfl, hm2⟩
      have HM2 := Lib.hid hm2
      have HM1 := Lib.hid (HM1.out.step hm2.below)
      have HJ2 := Lib.hid (HJ1.out.trans (hm2.below.mono HJ1.out.size))
      clear hm2 HJ1
      go_wp2_with fail
      refine (at_any io ic m x y q L F (by omega) HL.out hx hy w2 (HI.out.below HJ2.out)).mono ?_
      rintro e w3 ⟨rfl, hb3⟩
      have HM2 := Lib.hid (HM2.out.step hb3)
      have HM1 := Lib.hid (HM1.out.step hb3)
      have HJ3 := Lib.hid (HJ2.out.trans (hb3.mono HJ2.out.size))
      clear hb3 HJ2
      go_wp2_with fail
      refine (rat_any ao cap m x y q L F (by omega) HL.out hx hy w3 (HR2.out.below HJ3.out)).mono ?_
      rintro e w4 ⟨rfl, d4, rfl⟩
      have HM2 := Lib.hid (HM2.out.drewN d4)
      have HM1 := Lib.hid (HM1.out.drewN d4)
      have HJ4 := Lib.hid (HJ3.out.trans (below_drewN' w3 d4 _))
      generalize w3.drewN d4 = w4 at *
      generalize MM.atP q x y m L F = v at *
      clear HJ3
      have d1 : ((v : Int) != (v : Int)) = false := by simp
      go_wp2_with fail
      refine (rrow_any ao cap m x q L F (by omega) HL.out hx w4 (HR2.out.below HJ4.out)).mono ?_
      rintro e w5 ⟨rfl, hm5⟩
      have HM2 := Lib.hid (HM2.out.step hm5.below)
      have HM1 := Lib.hid (HM1.out.step hm5.below)
      have HJ5 := Lib.hid (HJ4.out.trans (hm5.below.mono HJ4.out.size))
      have HN1 := Lib.hid (rnums_yes (some ⟨wo.heap.size, 0, none⟩) (some ⟨w4.heap.size, 0, none⟩) (MM.widU L m) (MM.widU L m) (MM.widU L m) _ (by omega) w5 HM1.out.rd hm5.rd)
      clear hm5 HJ4 d1
      go_wp2_with fail
      refine HN1.out.mono ?_
      rintro e w6 ⟨rfl, d6, rfl⟩
      have HM2 := Lib.hid (HM2.out.drewN d6)
      have HM1 := Lib.hid (HM1.out.drewN d6)
      have HJ6 := Lib.hid (HJ5.out.trans (below_drewN' w5 d6 _))
      generalize w5.drewN d6 = w6 at *
      clear HJ5 HN1
      go_wp2_with fail
      refine (rcol_any ao cap m y q L F (by omega) HL.out hy w6 (HR2.out.below HJ6.out)).mono ?_
      rintro e w7 ⟨v7, rfl, ho7⟩
      obtain ⟨bo, cb, rfl, _, _, hrd⟩ := ho7.rd
      have HM2 := Lib.hid (HM2.out.step ho7.below)
      have HM1 := Lib.hid (HM1.out.step ho7.below)
      have HJ7 := Lib.hid (HJ6.out.trans (ho7.below.mono HJ6.out.size))
      have HN2 := Lib.hid (rnums_yes (some ⟨w1.heap.size, 0, none⟩) bo m m cb _ (by omega) w7 HM2.out.rd hrd)
      clear ho7 HJ6 hrd
      go_wp2_with fail
      refine HN2.out.mono ?_
      rintro e w8 ⟨rfl, d8, rfl⟩
      have HM2 := Lib.hid (HM2.out.drewN d8)
      have HM1 := Lib.hid (HM1.out.drewN d8)
      have HK1 : Hid (∃ z, Mine wo wo.heap.size (MM.widU L m) z (w7.drewN d8)) := Lib.hid ⟨_, HM1.out⟩
      have HK2 : Hid (∃ z, Mine wo w1.heap.size m z (w7.drewN d8)) := Lib.hid ⟨_, Mine.from HM2.out HB01.out⟩
      generalize w7.drewN d8 = w8 at *
      clear HJ7 HN2 HM1 HM2
      generalize MM.widU L m = n at *
      go_wp2_with fail
      go_loopw [13] (fun s13 wx => ∃ k : Nat, k ≤ n ∧ s13 = .int .i64 (k : Int) ∧ Hid (∃ z, Mine wo wo.heap.size n z wx) ∧ Hid (∃ z, Mine wo w1.heap.size m z wx)) (fun s13 _ => n - (RowKit.intOf s13).toNat)
      case atStart => exact ⟨0, Nat.zero_le _, rfl, HK1, HK2⟩
      case round =>
        clear HK1 HK2
        obtain ⟨k, hk, rfl, HM, HM2⟩ := hrel
        by_cases hlk : k < n
        · obtain ⟨z, hmz⟩ := HM.out
          obtain ⟨z2, hmz2⟩ := HM2.out
          have hc := hmz.cell hlk
          have hf := hmz.free k
          have HA : Hid (∃ z, Mine wo wo.heap.size n z (wr.setCell ⟨wo.heap.size, k, none⟩ (.int .u64 77))) := Lib.hid ⟨_, hmz.set k 77 (fun _ _ => rfl)⟩
          have HC : Hid (∃ z, Mine wo w1.heap.size m z (wr.setCell ⟨wo.heap.size, k, none⟩ (.int .u64 77))) := Lib.hid ⟨_, hmz2.other (fun e => HNE.out e.symm) (Nat.le_refl _) _⟩
          have p2 : (0 : Int) ≤ (k : Int) := Int.natCast_nonneg _
          have p3 : (k : Int) < (n : Int) := by omega
          clear hmz hmz2
          go_wp2_with fail
          go_roundw
          case rel => exact ⟨k + 1, by omega, by go_num, HA, HC⟩
          case measure => simp [RowKit.intOf]; omega
        · have p3 : ¬ (k : Int) < (n : Int) := by omega
          obtain rfl : k = n := by omega
          go_wp2_with fail
          go_loopw [14] (fun s14 wx => ∃ k : Nat, k ≤ m ∧ s14 = .int .i64 (k : Int) ∧ Hid (∃ z, Mine wo w1.heap.size m z wx)) (fun s14 _ => m - (RowKit.intOf s14).toNat)
          case atStart => exact ⟨0, Nat.zero_le _, rfl, HM2⟩
          case round =>
            clear HM HM2
            obtain ⟨i, hi, rfl, HM⟩ := hrel
            by_cases hli : i < m
            · obtain ⟨z, hmz⟩ := HM.out
              have hc := hmz.cell hli
              have hf := hmz.free i
              have HA : Hid (∃ z, Mine wo w1.heap.size m z (wr.setCell ⟨w1.heap.size, i, none⟩ (.int .u64 77))) := Lib.hid ⟨_, hmz.set i 77 (fun _ _ => rfl)⟩
              have p4 : (0 : Int) ≤ (i : Int) := Int.natCast_nonneg _
              have p5 : (i : Int) < (m : Int) := by omega
              clear hmz
              go_wp2_with fail
              go_roundw
              case rel => exact ⟨i + 1, by omega, by go_num, HA⟩
              case measure => simp [RowKit.intOf]; omega
            · have p5 : ¬ (i : Int) < (m : Int) := by omega
              obtain rfl : i = m := by omega
              have HE : Hid (Below W2.heap.size W2 wr) := Lib.hid (by obtain ⟨z, hmz⟩ := HM.out; exact HJ.out.trans (hmz.below.mono HJ.out.size))
              clear HM
              go_wp2_with fail
              go_roundw
              case rel => exact ⟨r + 1, by omega, by go_num, HE⟩
              case measure => simp [RowKit.intOf]; omega
    · have p1 : ¬ (r : Int) < 2 := by omega
      have HP := Lib.hid (rpolys_yes io ao m ic cap L F (by omega) HL.out wo (HI.out.below HJ.out) (HR2.out.below HJ.out))
      go_wp2_with fail
      refine HP.out.mono ?_
      rintro e w9 ⟨rfl, d9, rfl⟩
      go_wp2_with fail
      go_ret
      exact ⟨rfl, HB2.out.trans ((HJ.out.trans (below_drewN' wo d9 _)).mono HB2.out.size)⟩
set_option maxRecDepth 100000 in
set_option maxHeartbeats 2000000 in
theorem long (ao : Option Addr) (cap m x y q : Nat) (L : Nat → Nat) (F : Nat → Nat → Nat) (hL : ∀ i, L i ≤ 9223372036854775807) (h : 20 < m ∨ (m ≤ 20 ∧ 20 < MM.widU L m)) (W : World) (hr : Mat W ao m L F) :
    Calls Try.prog 4 #[.slice ao m cap, .int .u64 (x : Int), .int .u64 (y : Int), .int .u64 (q : Int)] W fun e w' => e = .returned (.bool true) ∧ Below W.heap.size W w' := by
  have hb1 := below_box W (.cells #[.slice ao m cap] 24)
  have hc1 : (W.alloc (.cells #[.slice ao m cap] 24)).cell? ⟨W.heap.size, 0, none⟩ = some (.slice ao m cap) := by rw [cell_of_row _ _ _ _ _ _ (heap_alloc_new W _)]; rfl
  have HLA : Hid (Calls Try.prog 14 #[.slice (some ⟨W.heap.size, 0, none⟩) 1 1] (W.alloc (.cells #[.slice ao m cap] 24)) fun e w' => e = .returned (.bool true) ∧ (W.alloc (.cells #[.slice ao m cap] 24)) = w') := Lib.hid (by
    rcases h with h | ⟨h1, h2⟩
    · exact large_many ao cap m W.heap.size h _ hc1
    · exact large_wide ao cap m W.heap.size L F h1 hL h2 _ hc1 (hr.below hb1))
  have HB1 := Lib.hid hb1
  clear hr hb1 hc1 hL h
  go_enter Try.func4, Try.ntmps4
  go_wp2_with fail
  refine HLA.out.mono ?_
  rintro e w1 ⟨rfl, rfl⟩
  go_wp2_with fail
  go_ret
  exact ⟨rfl, HB1.out⟩
theorem walk (v0 : Value) (x y q : Nat) (hx : x < 18446744073709551616) (hy : y < 18446744073709551616) (_hq : q < 18446744073709551616) (W : World) (h0 : MatIn W v0) :
    Calls Try.prog 4 #[v0, .int .u64 (x : Int), .int .u64 (y : Int), .int .u64 (q : Int)] W fun e w' => e = .returned (.bool true) ∧ Below W.heap.size W w' := by
  obtain ⟨ao, m, c, L, F, rfl, _, hL, hF, hr, _⟩ := h0
  by_cases hl : 20 < m ∨ (m ≤ 20 ∧ 20 < MM.widU L m)
  · exact long ao c m x y q L F hL hl W hr
  · exact core ao c m x y q L F (by omega) (by omega) hF hx hy W hr

set_option maxRecDepth 100000 in
theorem lifted (os : Os) (started : os.Started) (H : Type) (enc : TypeId × Value → H) :
    ReturnsInHanded {} Try.checked os 4 .any (Rows.bivarTellsSpec.pre6 enc Try.prog Try.f4 Rows.bivarTellsRow.domain false) (Rows.bivarTellsSpec.post enc Try.prog Try.f4 false true false false) := by
  refine returnsInHanded_of_change (C := Try.checked) M.own started (by kernel_rfl) Try.func4
    (ChangeSpec.witness6 (enc := enc) (C := Try.checked) false ⟨#[], #[.slice none 0 0, .int .u64 0, .int .u64 0, .int .u64 0], []⟩ 8 (by kernel_rfl) (by kernel_rfl) (by kernel_rfl) (by kernel_rfl)) ?_
  intro W base args ds gs before hval0 hW _ _
  have hval : ∀ (j : Nat) t v, Try.f4.params[j]? = some t → args[j]? = some v → Value.okWide Try.prog W .any base t v := hval0
  have hW' := hW
  obtain ⟨p, q, hA0, hV, rfl, _, _⟩ := hW
  have hA : DataW.TrodAll enc Try.prog W 0 (fun _ => true) true Try.f4.params.toList args.toList ds p := hA0
  rw [Try.params4] at hA hval
  obtain ⟨v0, vs0, d0, ds0, p0, q0, hargs, rfl, rfl, h0, r0⟩ := trodAll_cons hA
  obtain ⟨v1, vs1, d1, ds1, p1, q1, rfl, rfl, rfl, h1, r1⟩ := trodAll_cons r0
  obtain ⟨v2, vs2, d2, ds2, p2, q2, rfl, rfl, rfl, h2, r2⟩ := trodAll_cons r1
  obtain ⟨v3, vs3, d3, ds3, p3, q3, rfl, rfl, rfl, h3, r3⟩ := trodAll_cons r2
  obtain ⟨rfl, rfl, rfl⟩ := trodAll_nil r3
  obtain rfl : args = #[v0, v1, v2, v3] := by cases args; simp_all
  obtain ⟨rfl, rfl⟩ := trodVars_none hV
  have k0 := h0
  have lt0 : ∀ x ∈ p0, x.block < W.heap.size := by obtain ⟨m, hm⟩ := k0; exact DataW.trod_lt m _ _ _ hm
  have ns0 := M.open_rows (hval 0 24 v0 rfl rfl) h0
  have k1 := h1
  have lt1 : ∀ x ∈ p1, x.block < W.heap.size := by obtain ⟨m, hm⟩ := k1; exact DataW.trod_lt m _ _ _ hm
  obtain ⟨x1, rfl, rfl, rfl, w1⟩ := open_int Try.underlying22 (hval 1 22 v1 rfl rfl) h1
  obtain ⟨lo1, hi1⟩ := M.u64_bounds w1
  obtain ⟨a1, rfl⟩ : ∃ a : Nat, x1 = a := ⟨x1.toNat, by omega⟩
  have k2 := h2
  have lt2 : ∀ x ∈ p2, x.block < W.heap.size := by obtain ⟨m, hm⟩ := k2; exact DataW.trod_lt m _ _ _ hm
  obtain ⟨x2, rfl, rfl, rfl, w2⟩ := open_int Try.underlying22 (hval 2 22 v2 rfl rfl) h2
  obtain ⟨lo2, hi2⟩ := M.u64_bounds w2
  obtain ⟨a2, rfl⟩ : ∃ a : Nat, x2 = a := ⟨x2.toNat, by omega⟩
  have k3 := h3
  have lt3 : ∀ x ∈ p3, x.block < W.heap.size := by obtain ⟨m, hm⟩ := k3; exact DataW.trod_lt m _ _ _ hm
  obtain ⟨x3, rfl, rfl, rfl, w3⟩ := open_int Try.underlying22 (hval 3 22 v3 rfl rfl) h3
  obtain ⟨lo3, hi3⟩ := M.u64_bounds w3
  obtain ⟨a3, rfl⟩ : ∃ a : Nat, x3 = a := ⟨x3.toNat, by omega⟩
  clear hA0 hval0
  simp only [List.append_nil] at hW'
  refine (walk v0 a1 a2 a3 (by omega) (by omega) (by omega) W ns0).mono fun e W' ⟨he, bel⟩ => ?_
  subst he
  exact ⟨_, rfl, _, _, _, [], _, [], hW', (trodAll_cons_mk (shut_bool Try.underlying4 _) trodAll_mk0), (trodAll_cons_mk (Below.trod M.laidOut (by kernel_rfl) (of_decide_eq_true (by kernel_rfl)) k0 bel lt0) (trodAll_cons_mk (Below.trod M.laidOut (by kernel_rfl) (of_decide_eq_true (by kernel_rfl)) k1 bel lt1) (trodAll_cons_mk (Below.trod M.laidOut (by kernel_rfl) (of_decide_eq_true (by kernel_rfl)) k2 bel lt2) (trodAll_cons_mk (Below.trod M.laidOut (by kernel_rfl) (of_decide_eq_true (by kernel_rfl)) k3 bel lt3) trodAll_mk0)))), rfl, bel.frame _, fun h => by cases h⟩

theorem holds : Rows.BivarTellsSaid :=
  OpenClaim.holds_of_wide 4 Try.f4 rfl rfl rfl rfl rfl rfl rfl ⟨rfl, rfl, rfl, rfl, rfl⟩ rfl rfl rfl rfl rfl (by kernel_rfl) Try.func4 (by kernel_rfl)
    (of_decide_eq_true (by kernel_rfl)) (by unfold Func.isWrapper; first | (rw [if_pos (by decide +kernel)]; kernel_rfl) | (rw [if_neg (by decide +kernel)]; exact ⟨rfl, rfl⟩))
    (fun os started H enc _ => lifted os started H enc)

end BivarTells

theorem bivarTells_holds : Rows.BivarTellsSaid := BivarTells.holds
#print axioms bivarTells_holds
end Go.Proofs.Ytccpdjjgpkkkbaa

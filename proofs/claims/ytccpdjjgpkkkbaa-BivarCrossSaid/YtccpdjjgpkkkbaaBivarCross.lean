/- BivarCross: for every list of lists of numbers and all numbers x, y and q the value at x and y is that of the row at x at y, and that of the column at y at x; with both turned about rows are columns. -/
import Derived.Test.YtccpdjjgpkkkbaaRows
import Derived.Test.YtccpdjjgpkkkbaaOpenN
import Derived.Test.YtccpdjjgpkkkbaaBivA
import Derived.Test.YtccpdjjgpkkkbaaBivB
namespace Go.Proofs.Ytccpdjjgpkkkbaa
open Go.ChangeShapes Go.WideShapes Go.ChangeAt Go.RowKit
namespace BivarCross
open M

set_option maxRecDepth 100000 in
set_option maxHeartbeats 8000000 in
theorem core (ao : Option Addr) (cap m x y q : Nat) (L : Nat → Nat) (F : Nat → Nat → Nat) (hm : m ≤ 20) (hw : MM.widU L m ≤ 20) (hF : ∀ i j, F i j < 18446744073709551616) (hx : x < 18446744073709551616) (hy : y < 18446744073709551616) (W : World) (hr : Mat W ao m L F) :
    Calls Try.prog 6 #[.slice ao m cap, .int .u64 (x : Int), .int .u64 (y : Int), .int .u64 (q : Int)] W fun e w' => e = .returned (.bool true) ∧ Below W.heap.size W w' := by
  have hL : ∀ i, i < m → L i ≤ 1000 := fun i hi => Nat.le_trans (MM.le_widU hi) (by omega)
  have HR := Lib.hid hr
  have HL := Lib.hid hL
  have HF := Lib.hid hF
  have HLG := Lib.hid (fun (u : World) (hu : Mat u ao m L F) => large_no ao cap m u.heap.size L F hm hw (u.alloc (.cells #[.slice ao m cap] 24)) (by rw [cell_of_row _ _ _ _ _ _ (heap_alloc_new u _)]; rfl) (hu.alloc _))
  have HE1 := Lib.hid (MM.row_at q x y m L F)
  have HE2 := Lib.hid (show MM.evalU (MM.colP q y L F) x q m = MM.atP q x y m L F from rfl)
  have HE3 := Lib.hid (MM.trn_at q x y m L F)
  have HE4 := Lib.hid (fun j => MM.trn_col q x m L F j)
  have hN : MM.widU L m ≤ 1000 := by omega
  clear hr hL hF hw
  go_enter Try.func6, Try.ntmps6
  go_wp2_with fail
  refine (works_any _).mono ?_
  rintro e w1 ⟨rfl, hb⟩
  have HR1 := Lib.hid (HR.out.below hb)
  have HS1 := Lib.hid ((St.start W).step hb)
  clear hb HR
  go_wp2_with fail
  refine (HLG.out w1 HR1.out).mono ?_
  rintro e w2 ⟨rfl, hb⟩
  have HR2 := Lib.hid (HR1.out.alloc (.cells #[.slice ao m cap] 24))
  have HS2 := Lib.hid (HS1.out.alloc (.cells #[.slice ao m cap] 24))
  rw [hb] at HR2 HS2
  clear hb HR1 HS1 HLG
  go_wp2_with fail
  refine (at_any ao cap m x y q L F (by omega) HL.out hx hy w2 HR2.out).mono ?_
  rintro e w3 ⟨rfl, hb⟩
  have HR3 := Lib.hid (HR2.out.below hb)
  have HS3 := Lib.hid (HS2.out.step hb)
  clear hb HR2 HS2
  obtain ⟨v, hv⟩ : ∃ v, MM.atP q x y m L F = v := ⟨_, rfl⟩
  rw [hv] at HE1 HE2 HE3 ⊢
  clear hv
  have d1 : ((v : Int) != (v : Int)) = false := by simp
  go_wp2_with fail
  refine (row_any ao cap m x q L F (by omega) HL.out HF.out hx w3 HR3.out).mono ?_
  rintro e w4 ⟨rfl, hm4⟩
  have HR4 := Lib.hid (HR3.out.below hm4.below)
  have HS4 := Lib.hid (HS3.out.step hm4.below)
  have h4 := evalP_any (some ⟨w3.heap.size, 0, none⟩) (MM.widU L m) (MM.widU L m) y q _ hN hy w4 hm4.rd
  rw [HE1.out] at h4
  clear HR3 HS3 hm4
  go_wp2_with fail
  refine h4.mono ?_
  rintro e w5 ⟨rfl, hb⟩
  have HR5 := Lib.hid (HR4.out.below hb)
  have HS5 := Lib.hid (HS4.out.step hb)
  clear hb HR4 HS4 h4
  go_wp2_with fail
  refine (col_any ao cap m y q L F (by omega) HL.out hy w5 HR5.out).mono ?_
  rintro e w6 ⟨rfl, hm6⟩
  have HR6 := Lib.hid (HR5.out.below hm6.below)
  have HS6 := Lib.hid (HS5.out.step hm6.below)
  have h6 := evalP_any (some ⟨w5.heap.size, 0, none⟩) m m x q _ (by omega) hx w6 hm6.rd
  rw [HE2.out] at h6
  clear HR5 HS5 hm6
  go_wp2_with fail
  refine h6.mono ?_
  rintro e w7 ⟨rfl, hb⟩
  have HR7 := Lib.hid (HR6.out.below hb)
  have HS7 := Lib.hid (HS6.out.step hb)
  clear hb HR6 HS6 h6
  go_wp2_with fail
  refine (rturned_any ao cap m L F (by omega) HL.out w7 HR7.out).mono ?_
  rintro e w8 ⟨v8, rfl, ho⟩
  obtain ⟨to_, tc, rfl, ht, _⟩ := ho.mat
  have HR8 := Lib.hid (HR7.out.below ho.below)
  have HS8 := Lib.hid (HS7.out.step ho.below)
  have HT8 := Lib.hid ht
  have h8 := at_any to_ tc (MM.widU L m) y x q (fun _ => m) (MM.trn L F) hN (fun _ _ => by omega) hy hx w8 ht
  rw [HE3.out] at h8
  clear HR7 HS7 ho ht
  go_wp2_with fail
  refine h8.mono ?_
  rintro e w9 ⟨rfl, hb⟩
  have HR9 := Lib.hid (HR8.out.below hb)
  have HS9 := Lib.hid (HS8.out.step hb)
  have HT9 := Lib.hid (HT8.out.below hb)
  clear hb HR8 HS8 HT8 h8
  have d2 : ((v : Int) == (v : Int)) = true := by simp
  go_wp2_with fail
  refine (col_any to_ tc (MM.widU L m) x q (fun _ => m) (MM.trn L F) hN (fun _ _ => by omega) hx w9 HT9.out).mono ?_
  rintro e w10 ⟨rfl, hm10⟩
  have HR10 := Lib.hid (HR9.out.below hm10.below)
  have HS10 := Lib.hid (HS9.out.step hm10.below)
  have HC10 := Lib.hid (hm10.congr fun k _ => HE4.out k)
  clear HR9 HS9 HT9 hm10
  go_wp2_with fail
  refine (row_any ao cap m x q L F (by omega) HL.out HF.out hx w10 HR10.out).mono ?_
  rintro e w11 ⟨rfl, hm11⟩
  have HS11 := Lib.hid (HS10.out.step hm11.below)
  have h11 := nums_is (ca := MM.widU L m) (cb := MM.widU L m) hN (HC10.out.step hm11.below).rd hm11.rd
  clear HR10 HS10 HC10 hm11
  go_wp2_with fail
  refine h11.mono ?_
  rintro e w12 ⟨rfl, hb⟩
  have HS12 := Lib.hid (HS11.out.step hb)
  clear hb HS11 h11
  go_wp2_with fail
  go_ret
  exact ⟨rfl, HS12.out.below⟩
set_option maxRecDepth 100000 in
set_option maxHeartbeats 2000000 in
theorem long (ao : Option Addr) (cap m x y q : Nat) (L : Nat → Nat) (F : Nat → Nat → Nat) (hL : ∀ i, L i ≤ 9223372036854775807) (h : 20 < m ∨ (m ≤ 20 ∧ 20 < MM.widU L m)) (W : World) (hr : Mat W ao m L F) :
    Calls Try.prog 6 #[.slice ao m cap, .int .u64 (x : Int), .int .u64 (y : Int), .int .u64 (q : Int)] W fun e w' => e = .returned (.bool true) ∧ Below W.heap.size W w' := by
  have HLG : Hid (∀ u : World, Mat u ao m L F → Calls Try.prog 14 #[.slice (some ⟨u.heap.size, 0, none⟩) 1 1] (u.alloc (.cells #[.slice ao m cap] 24)) fun e w' => e = .returned (.bool true) ∧ (u.alloc (.cells #[.slice ao m cap] 24)) = w') := Lib.hid (fun u hu => by
    have hc1 : (u.alloc (.cells #[.slice ao m cap] 24)).cell? ⟨u.heap.size, 0, none⟩ = some (.slice ao m cap) := by rw [cell_of_row _ _ _ _ _ _ (heap_alloc_new u _)]; rfl
    rcases h with h | ⟨h1, h2⟩
    · exact large_many ao cap m u.heap.size h _ hc1
    · exact large_wide ao cap m u.heap.size L F h1 hL h2 _ hc1 (hu.alloc _))
  have HR := Lib.hid hr
  clear hr hL h
  go_enter Try.func6, Try.ntmps6
  go_wp2_with fail
  refine (works_any _).mono ?_
  rintro e w1 ⟨rfl, hb⟩
  have HR1 := Lib.hid (HR.out.below hb)
  have HS1 := Lib.hid ((St.start W).step hb)
  clear hb HR
  go_wp2_with fail
  refine (HLG.out w1 HR1.out).mono ?_
  rintro e w2 ⟨rfl, hb⟩
  have HS2 := Lib.hid (HS1.out.alloc (.cells #[.slice ao m cap] 24))
  rw [hb] at HS2
  clear hb HR1 HS1 HLG
  go_wp2_with fail
  refine (works_any _).mono ?_
  rintro e w3 ⟨rfl, hb⟩
  have HS3 := Lib.hid (HS2.out.step hb)
  clear hb HS2
  go_wp2_with fail
  go_ret
  exact ⟨rfl, HS3.out.below⟩
theorem walk (v0 : Value) (x y q : Nat) (hx : x < 18446744073709551616) (hy : y < 18446744073709551616) (_hq : q < 18446744073709551616) (W : World) (h0 : MatIn W v0) :
    Calls Try.prog 6 #[v0, .int .u64 (x : Int), .int .u64 (y : Int), .int .u64 (q : Int)] W fun e w' => e = .returned (.bool true) ∧ Below W.heap.size W w' := by
  obtain ⟨ao, m, c, L, F, rfl, _, hL, hF, hr, _⟩ := h0
  by_cases hl : 20 < m ∨ (m ≤ 20 ∧ 20 < MM.widU L m)
  · exact long ao c m x y q L F hL hl W hr
  · exact core ao c m x y q L F (by omega) (by omega) hF hx hy W hr

set_option maxRecDepth 100000 in
theorem lifted (os : Os) (started : os.Started) (H : Type) (enc : TypeId × Value → H) :
    ReturnsInHanded {} Try.checked os 6 .any (Rows.bivarCrossSpec.pre6 enc Try.prog Try.f6 Rows.bivarCrossRow.domain false) (Rows.bivarCrossSpec.post enc Try.prog Try.f6 false true false false) := by
  refine returnsInHanded_of_change (C := Try.checked) M.own started (by kernel_rfl) Try.func6
    (ChangeSpec.witness6 (enc := enc) (C := Try.checked) false ⟨#[], #[.slice none 0 0, .int .u64 0, .int .u64 0, .int .u64 0], []⟩ 8 (by kernel_rfl) (by kernel_rfl) (by kernel_rfl) (by kernel_rfl)) ?_
  intro W base args ds gs before hval0 hW _ _
  have hval : ∀ (j : Nat) t v, Try.f6.params[j]? = some t → args[j]? = some v → Value.okWide Try.prog W .any base t v := hval0
  have hW' := hW
  obtain ⟨p, q, hA0, hV, rfl, _, _⟩ := hW
  have hA : DataW.TrodAll enc Try.prog W 0 (fun _ => true) true Try.f6.params.toList args.toList ds p := hA0
  rw [Try.params6] at hA hval
  obtain ⟨v0, vs0, d0, ds0, p0, q0, hargs, rfl, rfl, h0, r0⟩ := trodAll_cons hA
  obtain ⟨v1, vs1, d1, ds1, p1, q1, rfl, rfl, rfl, h1, r1⟩ := trodAll_cons r0
  obtain ⟨v2, vs2, d2, ds2, p2, q2, rfl, rfl, rfl, h2, r2⟩ := trodAll_cons r1
  obtain ⟨v3, vs3, d3, ds3, p3, q3, rfl, rfl, rfl, h3, r3⟩ := trodAll_cons r2
  obtain ⟨rfl, rfl, rfl⟩ := trodAll_nil r3
  obtain rfl : args = #[v0, v1, v2, v3] := by cases args; simp_all
  obtain ⟨rfl, rfl⟩ := trodVars_none hV
  have k0 := h0
  have lt0 : ∀ x ∈ p0, x.block < W.heap.size := by obtain ⟨m, hm⟩ := k0; exact DataW.trod_lt m _ _ _ hm
  have ns0 := M.open_rows (hval 0 24 v0 rfl rfl) h0
  have k1 := h1
  have lt1 : ∀ x ∈ p1, x.block < W.heap.size := by obtain ⟨m, hm⟩ := k1; exact DataW.trod_lt m _ _ _ hm
  obtain ⟨x1, rfl, rfl, rfl, w1⟩ := open_int Try.underlying22 (hval 1 22 v1 rfl rfl) h1
  obtain ⟨lo1, hi1⟩ := M.u64_bounds w1
  obtain ⟨a1, rfl⟩ : ∃ a : Nat, x1 = a := ⟨x1.toNat, by omega⟩
  have k2 := h2
  have lt2 : ∀ x ∈ p2, x.block < W.heap.size := by obtain ⟨m, hm⟩ := k2; exact DataW.trod_lt m _ _ _ hm
  obtain ⟨x2, rfl, rfl, rfl, w2⟩ := open_int Try.underlying22 (hval 2 22 v2 rfl rfl) h2
  obtain ⟨lo2, hi2⟩ := M.u64_bounds w2
  obtain ⟨a2, rfl⟩ : ∃ a : Nat, x2 = a := ⟨x2.toNat, by omega⟩
  have k3 := h3
  have lt3 : ∀ x ∈ p3, x.block < W.heap.size := by obtain ⟨m, hm⟩ := k3; exact DataW.trod_lt m _ _ _ hm
  obtain ⟨x3, rfl, rfl, rfl, w3⟩ := open_int Try.underlying22 (hval 3 22 v3 rfl rfl) h3
  obtain ⟨lo3, hi3⟩ := M.u64_bounds w3
  obtain ⟨a3, rfl⟩ : ∃ a : Nat, x3 = a := ⟨x3.toNat, by omega⟩
  clear hA0 hval0
  simp only [List.append_nil] at hW'
  refine (walk v0 a1 a2 a3 (by omega) (by omega) (by omega) W ns0).mono fun e W' ⟨he, bel⟩ => ?_
  subst he
  exact ⟨_, rfl, _, _, _, [], _, [], hW', (trodAll_cons_mk (shut_bool Try.underlying4 _) trodAll_mk0), (trodAll_cons_mk (Below.trod M.laidOut (by kernel_rfl) (of_decide_eq_true (by kernel_rfl)) k0 bel lt0) (trodAll_cons_mk (Below.trod M.laidOut (by kernel_rfl) (of_decide_eq_true (by kernel_rfl)) k1 bel lt1) (trodAll_cons_mk (Below.trod M.laidOut (by kernel_rfl) (of_decide_eq_true (by kernel_rfl)) k2 bel lt2) (trodAll_cons_mk (Below.trod M.laidOut (by kernel_rfl) (of_decide_eq_true (by kernel_rfl)) k3 bel lt3) trodAll_mk0)))), rfl, bel.frame _, fun h => by cases h⟩

theorem holds : Rows.BivarCrossSaid :=
  OpenClaim.holds_of_wide 6 Try.f6 rfl rfl rfl rfl rfl rfl rfl ⟨rfl, rfl, rfl, rfl, rfl⟩ rfl rfl rfl rfl rfl (by kernel_rfl) Try.func6 (by kernel_rfl)
    (of_decide_eq_true (by kernel_rfl)) (by unfold Func.isWrapper; first | (rw [if_pos (by decide +kernel)]; kernel_rfl) | (rw [if_neg (by decide +kernel)]; exact ⟨rfl, rfl⟩))
    (fun os started H enc _ => lifted os started H enc)

end BivarCross

theorem bivarCross_holds : Rows.BivarCrossSaid := BivarCross.holds
#print axioms bivarCross_holds
end Go.Proofs.Ytccpdjjgpkkkbaa

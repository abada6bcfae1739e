/- The examples; no q; what is refused; none, and many: the closed statement. -/
import Derived.Test.YtebplinighoagaaRows
import Derived.Test.YtebplinighoagaaOpenN
import Derived.Test.YtebplinighoagaaLaw03d
namespace Go.Proofs.Ytebplinighoagaa
open Go.ChangeShapes Go.WideShapes Go.ChangeAt Go.RowKit
namespace PolyNames
open M

theorem nrL (W : World) (l : List Nat) : Row (W.alloc (.cells (l.map fun (x : Nat) => Value.int .u64 (x : Int)).toArray 23)) ⟨W.heap.size, 0, none⟩ l.length (MM.ofL l) := new_row W l _ (fun k hk => by simp [MM.ofL, hk])
theorem nr12 (W : World) : Row (W.alloc (.cells #[.int .u64 1, .int .u64 2] 23)) ⟨W.heap.size, 0, none⟩ 2 (MM.ofL [1, 2]) := nrL W [1, 2]
theorem nrqs (W : World) : Row (W.alloc (.cells #[.int .u64 0, .int .u64 2305843009213693953] 23)) ⟨W.heap.size, 0, none⟩ 2 (MM.ofL [0, 2305843009213693953]) := nrL W [0, 2305843009213693953]
theorem nr1_12 (W : World) : Row (W.alloc (.cells #[.int .u64 1, .int .u64 12] 23)) ⟨W.heap.size, 0, none⟩ 2 (MM.ofL [1, 12]) := nrL W [1, 12]
theorem nr13 (W : World) : Row (W.alloc (.cells #[.int .u64 1, .int .u64 3] 23)) ⟨W.heap.size, 0, none⟩ 2 (MM.ofL [1, 3]) := nrL W [1, 3]
theorem nr026 (W : World) : Row (W.alloc (.cells #[.int .u64 0, .int .u64 2, .int .u64 6] 23)) ⟨W.heap.size, 0, none⟩ 3 (MM.ofL [0, 2, 6]) := nrL W [0, 2, 6]
theorem nr9 (W : World) : Row (W.alloc (.cells #[.int .u64 9] 23)) ⟨W.heap.size, 0, none⟩ 1 (MM.ofL [9]) := nrL W [9]
theorem nr15 (W : World) : Row (W.alloc (.cells #[.int .u64 15] 23)) ⟨W.heap.size, 0, none⟩ 1 (MM.ofL [15]) := nrL W [15]
theorem nr4 (W : World) : Row (W.alloc (.cells #[.int .u64 4] 23)) ⟨W.heap.size, 0, none⟩ 1 (MM.ofL [4]) := nrL W [4]
theorem nr01 (W : World) : Row (W.alloc (.cells #[.int .u64 0, .int .u64 1] 23)) ⟨W.heap.size, 0, none⟩ 2 (MM.ofL [0, 1]) := nrL W [0, 1]
theorem nr0 (W : World) : Row (W.alloc (.cells #[.int .u64 0] 23)) ⟨W.heap.size, 0, none⟩ 1 (MM.ofL [0]) := nrL W [0]
theorem nr_11 (W : World) : Row (W.alloc (.cells #[.int .u64 11] 23)) ⟨W.heap.size, 0, none⟩ 1 (MM.ofL [11]) := nrL W [11]
theorem nr120 (W : World) : Row (W.alloc (.cells #[.int .u64 12, .int .u64 0] 23)) ⟨W.heap.size, 0, none⟩ 2 (MM.ofL [12, 0]) := nrL W [12, 0]
theorem nr1 (W : World) : Row (W.alloc (.cells #[.int .u64 1] 23)) ⟨W.heap.size, 0, none⟩ 1 (MM.ofL [1]) := nrL W [1]
theorem nr11b (W : World) : Row (W.alloc (.cells #[.int .u64 1, .int .u64 1] 23)) ⟨W.heap.size, 0, none⟩ 2 (MM.ofL [1, 1]) := nrL W [1, 1]
set_option maxHeartbeats 16000000 in
set_option maxRecDepth 100000 in
theorem names (w : World) : Calls Try.prog 3 #[] w fun e w' => e = .returned (.bool true) ∧ Below w.heap.size w w' := by
  go_enter Try.func3, Try.ntmps3
  go_wp2_with fail
  refine (awake_any _).mono ?_
  rintro e w1 ⟨rfl, hb⟩
  have HB1 := Lib.hid (Below.tr hb (box2 w1 (.cells #[.int .u64 1, .int .u64 2] 23) (.cells #[.int .u64 0, .int .u64 2305843009213693953] 23)))
  have HR1 := Lib.hid (two_new (nr12 w1) nrqs)
  clear hb
  go_wp2_with fail
  generalize (w1.alloc (.cells #[.int .u64 1, .int .u64 2] 23)).alloc (.cells #[.int .u64 0, .int .u64 2305843009213693953] 23) = W3 at *
  generalize w1.heap.size = B at *
  have HJ0 : Hid (Below W3.heap.size W3 W3) := Lib.hid (Below.refl _ _)
  go_loopw [35] (fun s35 wx => ∃ m : Nat, m ≤ 2 ∧ s35 = .int .i64 (m : Int) ∧ Hid (Below W3.heap.size W3 wx)) (fun s35 _ => 2 - (RowKit.intOf s35).toNat)
  case atStart => exact ⟨0, by omega, rfl, HJ0⟩
  case round =>
    clear HJ0
    obtain ⟨m, hm, rfl, HJ⟩ := hrel
    rename_i wr
    by_cases hlt : m < 2
    · have p1 : (m : Int) < 2 := by omega
      have p0 : (0 : Int) ≤ (m : Int) := Int.natCast_nonneg _
      obtain ⟨q, hq⟩ : ∃ q, MM.ofL [0, 2305843009213693953] m = q := ⟨_, rfl⟩
      have hbad : ¬ MM.Good (MM.ofL [0, 2305843009213693953] m) := qs_bad m hlt
      have hcq := row_cell (HR1.out.2.below HJ.out) hlt
      rw [hq] at hbad hcq
      have HL := Lib.hid (HR1.out.1.below HJ.out)
      have hbad := Lib.hid hbad
      clear hq hlt
      go_wp2_with fail
      refine (bad_weights hbad.out _ _).mono ?_
      rintro e u0 ⟨rfl, hb⟩
      have HJ0 := Lib.hid (Below.tr HJ.out hb)
      have HL0 := Lib.hid (HL.out.below hb)
      clear hb HL HJ
      go_wp2_with fail
      refine (bad_through hbad.out _ _).mono ?_
      rintro e u1 ⟨rfl, hb⟩
      have HJ1 := Lib.hid (Below.tr HJ0.out hb)
      have HL1 := Lib.hid (HL0.out.below hb)
      clear hb HL0 HJ0
      go_wp2_with fail
      refine (bad_eval hbad.out _ _ HL1.out).mono ?_
      rintro e u2 ⟨rfl, hb⟩
      have HJ2 := Lib.hid (Below.tr HJ1.out hb)
      have HL2 := Lib.hid (HL1.out.below hb)
      clear hb HL1 HJ1
      go_wp2_with fail
      refine (bad_degree hbad.out _ _ HL2.out).mono ?_
      rintro e u3 ⟨rfl, hb⟩
      have HJ3 := Lib.hid (Below.tr HJ2.out hb)
      have HL3 := Lib.hid (HL2.out.below hb)
      clear hb HL2 HJ2
      go_wp2_with fail
      refine (sum_bad _ _ 2 2 2 2 q hbad.out _).mono ?_
      rintro e u4 ⟨rfl, rfl⟩
      go_wp2_with fail
      refine (scale_bad _ 2 2 3 q hbad.out _).mono ?_
      rintro e u5 ⟨rfl, rfl⟩
      go_wp2_with fail
      refine (times_bad _ _ 2 2 2 2 q hbad.out _).mono ?_
      rintro e u6 ⟨rfl, rfl⟩
      go_wp2_with fail
      refine (bad_same hbad.out _ _ HL3.out).mono ?_
      rintro e u7 ⟨rfl, hb⟩
      have HJ7 := Lib.hid (Below.tr HJ3.out hb)
      have HL7 := Lib.hid (HL3.out.below hb)
      clear hb HL3 HJ3
      go_wp2_with fail
      go_roundw
      case rel => exact ⟨m + 1, by omega, by go_num, HJ7⟩
      case measure => simp [RowKit.intOf]; omega
    · obtain rfl : m = 2 := by omega
      have hmk := run_made 1025 (by omega) wr
      have hmm := Mine.made wr 1025
      obtain ⟨W5, hW5⟩ : ∃ W5, wr.alloc (.cells (madeCells (Value.int .u64 0).cells (1025 * 1)) 23) = W5 := ⟨_, rfl⟩
      obtain ⟨M5, hM5⟩ : ∃ M5, wr.heap.size = M5 := ⟨_, rfl⟩
      rw [hW5, hM5] at hmm hmk
      have hmk0 : (Instr.makeSlice 24 (.int .i64 1025) (.int .i64 1025)).run Try.prog wr = .ok (.slice (some ⟨M5, 0, none⟩) 1025 1025) W5 := hmk
      clear hmk hW5 hM5 hlt
      replace hmm := Lib.hid hmm
      have HL := Lib.hid (HR1.out.1.below HJ.out)
      have HB := Lib.hid (Below.tr HB1.out HJ.out)
      clear HR1 HB1 HJ
      go_wp2_with fail
      go_loopw [9] (fun s9 wx => ∃ k : Nat, k ≤ 1025 ∧ s9 = .int .i64 (k : Int) ∧ Hid (∃ y, Mine wr M5 1025 y wx)) (fun s9 _ => 1025 - (RowKit.intOf s9).toNat)
      case atStart => exact ⟨0, Nat.zero_le _, rfl, Lib.hid ⟨_, hmm.out⟩⟩
      case round =>
        clear hmm
        obtain ⟨k, hk, rfl, HM⟩ := hrel
        by_cases hlt : k < 1025
        · obtain ⟨y, hm⟩ := HM.out
          have hc := hm.cell hlt
          have hf := hm.free k
          have HN := Lib.hid (hm.set (y := fun j => if j = k then k else y j) k k (fun _ _ => rfl))
          have p0 : (0 : Int) ≤ (k : Int) := Int.natCast_nonneg _
          have p1 : (k : Int) < 1025 := by omega
          have p2 : (k : Int) % 18446744073709551616 = (k : Int) := by omega
          clear hm
          go_wp2_with fail
          go_roundw
          case rel => exact ⟨k + 1, by omega, by go_num, Lib.hid ⟨_, HN.out⟩⟩
          case measure => simp [RowKit.intOf]; omega
        · obtain rfl : k = 1025 := by omega
          have HBx := Lib.hid (by obtain ⟨y, hm⟩ := HM.out; exact hm.below)
          have HL0 := Lib.hid (HL.out.below HBx.out)
          have HB0 := Lib.hid (Below.tr HB.out HBx.out)
          clear HBx HM HL HB
          go_wp2_with fail
          refine (ex_many _ _).mono ?_
          rintro e v0 ⟨rfl, hb⟩
          have HB1 := Lib.hid (Below.tr HB0.out hb)
          have HLn0 := Lib.hid (HL0.out.below hb)
          clear hb HB0 HL0
          go_wp2_with fail
          refine (ex_twice _ _ (nr1_12 _)).mono ?_
          rintro e v1 ⟨rfl, hb⟩
          replace hb := Below.tr (below_box _ _) hb
          have HB2 := Lib.hid (Below.tr HB1.out hb)
          have HLn1 := Lib.hid (HLn0.out.below hb)
          clear hb HB1 HLn0
          go_wp2_with fail
          refine (ex_none _ _ (nr13 _)).mono ?_
          rintro e v2 ⟨rfl, hb⟩
          replace hb := Below.tr (below_box _ _) hb
          have HB3 := Lib.hid (Below.tr HB2.out hb)
          have HLn2 := Lib.hid (HLn1.out.below hb)
          clear hb HB2 HLn1
          go_wp2_with fail
          refine (ex_twice6 _ _ (nr026 _)).mono ?_
          rintro e v3 ⟨rfl, hb⟩
          replace hb := Below.tr (below_box _ _) hb
          have HB4 := Lib.hid (Below.tr HB3.out hb)
          have HLn3 := Lib.hid (HLn2.out.below hb)
          clear hb HB3 HLn2
          go_wp2_with fail
          refine (ex_len _ _).mono ?_
          rintro e v4 ⟨rfl, hb⟩
          have HB5 := Lib.hid (Below.tr HB4.out hb)
          have HLn4 := Lib.hid (HLn3.out.below hb)
          clear hb HB4 HLn3
          go_wp2_with fail
          refine (ex_wnil _).mono ?_
          rintro e v5 ⟨ao1, rfl, hb⟩
          have HB6 := Lib.hid (Below.tr HB5.out hb)
          have HLn5 := Lib.hid (HLn4.out.below hb)
          clear hb HB5 HLn4
          go_wp2_with fail
          refine (ex_tnil _).mono ?_
          rintro e v6 ⟨ao2, rfl, hb⟩
          have HB7 := Lib.hid (Below.tr HB6.out hb)
          have HLn6 := Lib.hid (HLn5.out.below hb)
          clear hb HB6 HLn5
          go_wp2_with fail
          refine (ex_one _ _ _ (two_new (nr9 _) nr15).1 (two_new (nr9 _) nr15).2).mono ?_
          rintro e v7 ⟨C1, rfl, hr, hb⟩
          replace hb := Below.tr (box2 _ _ _) hb
          have HB8 := Lib.hid (Below.tr HB7.out hb)
          have HLn7 := Lib.hid (HLn6.out.below hb)
          have R1 := Lib.hid hr
          clear hb HB7 HLn6 hr
          go_wp2_with fail
          refine (ex_two _ _ HLn7.out).mono ?_
          rintro e v8 ⟨C2, rfl, hr, hb⟩
          have HB9 := Lib.hid (Below.tr HB8.out hb)
          have HLn8 := Lib.hid (HLn7.out.below hb)
          have R1n8 := Lib.hid (R1.out.below hb)
          have R2 := Lib.hid hr
          clear hb HB8 HLn7 R1 hr
          go_wp2_with fail
          refine (ex_zero _ _ (nr4 _)).mono ?_
          rintro e v9 ⟨C0, rfl, hr, hb⟩
          replace hb := Below.tr (below_box _ _) hb
          have HB10 := Lib.hid (Below.tr HB9.out hb)
          have HLn9 := Lib.hid (HLn8.out.below hb)
          have R1n9 := Lib.hid (R1n8.out.below hb)
          have R2n9 := Lib.hid (R2.out.below hb)
          have R0 := Lib.hid hr
          clear hb HB9 HLn8 R1n8 R2 hr
          go_wp2_with fail
          refine (ex_numbers _ _ _ 1 (MM.ofL [4]) (by decide) (R1n9.out.below (below_box _ _)) (nr4 _)).mono ?_
          rintro e v10 ⟨rfl, hb⟩
          replace hb := Below.tr (below_box _ _) hb
          have HB11 := Lib.hid (Below.tr HB10.out hb)
          have HLn10 := Lib.hid (HLn9.out.below hb)
          have R1n10 := Lib.hid (R1n9.out.below hb)
          have R2n10 := Lib.hid (R2n9.out.below hb)
          have R0n10 := Lib.hid (R0.out.below hb)
          clear hb HB10 HLn9 R1n9 R2n9 R0
          go_wp2_with fail
          refine (ex_numbers _ _ _ 2 (MM.ofL [0, 1]) (by decide) (R2n10.out.below (below_box _ _)) (nr01 _)).mono ?_
          rintro e v11 ⟨rfl, hb⟩
          replace hb := Below.tr (below_box _ _) hb
          have HB12 := Lib.hid (Below.tr HB11.out hb)
          have HLn11 := Lib.hid (HLn10.out.below hb)
          have R1n11 := Lib.hid (R1n10.out.below hb)
          have R2n11 := Lib.hid (R2n10.out.below hb)
          have R0n11 := Lib.hid (R0n10.out.below hb)
          clear hb HB11 HLn10 R1n10 R2n10 R0n10
          go_wp2_with fail
          refine (ex_numbers _ _ _ 1 (MM.ofL [0]) (by decide) (R0n11.out.below (below_box _ _)) (nr0 _)).mono ?_
          rintro e v12 ⟨rfl, hb⟩
          replace hb := Below.tr (below_box _ _) hb
          have HB13 := Lib.hid (Below.tr HB12.out hb)
          have HLn12 := Lib.hid (HLn11.out.below hb)
          have R1n12 := Lib.hid (R1n11.out.below hb)
          have R2n12 := Lib.hid (R2n11.out.below hb)
          have R0n12 := Lib.hid (R0n11.out.below hb)
          clear hb HB12 HLn11 R1n11 R2n11 R0n11
          go_wp2_with fail
          refine (ex_deg11 _ _ (nr_11 _)).mono ?_
          rintro e v13 ⟨rfl, hb⟩
          replace hb := Below.tr (below_box _ _) hb
          have HB14 := Lib.hid (Below.tr HB13.out hb)
          have HLn13 := Lib.hid (HLn12.out.below hb)
          have R1n13 := Lib.hid (R1n12.out.below hb)
          have R2n13 := Lib.hid (R2n12.out.below hb)
          have R0n13 := Lib.hid (R0n12.out.below hb)
          clear hb HB13 HLn12 R1n12 R2n12 R0n12
          go_wp2_with fail
          refine (ex_degnil _).mono ?_
          rintro e v14 ⟨rfl, hb⟩
          have HB15 := Lib.hid (Below.tr HB14.out hb)
          have HLn14 := Lib.hid (HLn13.out.below hb)
          have R1n14 := Lib.hid (R1n13.out.below hb)
          have R2n14 := Lib.hid (R2n13.out.below hb)
          have R0n14 := Lib.hid (R0n13.out.below hb)
          clear hb HB14 HLn13 R1n13 R2n13 R0n13
          go_wp2_with fail
          refine (ex_evalnil _).mono ?_
          rintro e v15 ⟨rfl, hb⟩
          have HB16 := Lib.hid (Below.tr HB15.out hb)
          have HLn15 := Lib.hid (HLn14.out.below hb)
          have R1n15 := Lib.hid (R1n14.out.below hb)
          have R2n15 := Lib.hid (R2n14.out.below hb)
          have R0n15 := Lib.hid (R0n14.out.below hb)
          clear hb HB15 HLn14 R1n14 R2n14 R0n14
          go_wp2_with fail
          refine (ex_timesnil _ _).mono ?_
          rintro e v16 ⟨rfl, rfl⟩
          go_wp2_with fail
          refine (ex_sumnil _ _ HLn15.out).mono ?_
          rintro e v17 ⟨ao3, rfl, hb⟩
          have HB18 := Lib.hid (Below.tr HB16.out hb)
          have HLn17 := Lib.hid (HLn15.out.below hb)
          have R1n17 := Lib.hid (R1n15.out.below hb)
          have R2n17 := Lib.hid (R2n15.out.below hb)
          have R0n17 := Lib.hid (R0n15.out.below hb)
          clear hb HB16 HLn15 R1n15 R2n15 R0n15
          go_wp2_with fail
          refine (ex_same _ _ _ (two_new (nr120 _) nr1).1 (two_new (nr120 _) nr1).2).mono ?_
          rintro e v18 ⟨rfl, hb⟩
          replace hb := Below.tr (box2 _ _ _) hb
          have HB19 := Lib.hid (Below.tr HB18.out hb)
          have HLn18 := Lib.hid (HLn17.out.below hb)
          have R1n18 := Lib.hid (R1n17.out.below hb)
          have R2n18 := Lib.hid (R2n17.out.below hb)
          have R0n18 := Lib.hid (R0n17.out.below hb)
          clear hb HB18 HLn17 R1n17 R2n17 R0n17
          go_wp2_with fail
          refine (ex_differ _ _ _ (two_new (nr11b _) nr1).1 (two_new (nr11b _) nr1).2).mono ?_
          rintro e v19 ⟨rfl, hb⟩
          replace hb := Below.tr (box2 _ _ _) hb
          have HB20 := Lib.hid (Below.tr HB19.out hb)
          have HLn19 := Lib.hid (HLn18.out.below hb)
          have R1n19 := Lib.hid (R1n18.out.below hb)
          have R2n19 := Lib.hid (R2n18.out.below hb)
          have R0n19 := Lib.hid (R0n18.out.below hb)
          clear hb HB19 HLn18 R1n18 R2n18 R0n18
          go_wp2_with fail
          go_ret
          exact ⟨rfl, HB20.out⟩
theorem walk (w : World) : Calls Try.prog 3 #[] w fun e w' => e = .returned (.bool true) ∧ Below w.heap.size w w' := names w

set_option maxRecDepth 100000 in
theorem lifted (os : Os) (started : os.Started) (H : Type) (enc : TypeId × Value → H) :
    ReturnsInHanded {} Try.checked os 3 .any (Rows.polyNamesSpec.pre6 enc Try.prog Try.f3 Rows.polyNamesRow.domain false) (Rows.polyNamesSpec.post enc Try.prog Try.f3 false true false false) := by
  refine returnsInHanded_of_change (C := Try.checked) M.own started (by kernel_rfl) Try.func3
    (ChangeSpec.witness6 (enc := enc) (C := Try.checked) false ⟨#[], #[], []⟩ 8 (by kernel_rfl) (by kernel_rfl) (by kernel_rfl) (by kernel_rfl)) ?_
  intro W base args ds gs before hval0 hW _ _
  have hval : ∀ (j : Nat) t v, Try.f3.params[j]? = some t → args[j]? = some v → Value.okWide Try.prog W .any base t v := hval0
  have hW' := hW
  obtain ⟨p, q, hA0, hV, rfl, _, _⟩ := hW
  have hA : DataW.TrodAll enc Try.prog W 0 (fun _ => true) true Try.f3.params.toList args.toList ds p := hA0
  rw [Try.params3] at hA hval
  obtain ⟨rfl, rfl, rfl⟩ := trodAll_none hA
  obtain ⟨rfl, rfl⟩ := trodVars_none hV
  clear hA0 hval0
  simp only [List.append_nil] at hW'
  refine (walk  W ).mono fun e W' ⟨he, bel⟩ => ?_
  subst he
  exact ⟨_, rfl, _, _, _, [], _, [], hW', (trodAll_cons_mk (shut_bool Try.underlying4 _) trodAll_mk0), trodAll_mk0, rfl, bel.frame _, fun h => by cases h⟩

theorem holds : Rows.PolyNamesSaid :=
  OpenClaim.holds_of_wide 3 Try.f3 rfl rfl rfl rfl rfl rfl rfl ⟨rfl, rfl, rfl, rfl, rfl⟩ rfl rfl rfl rfl rfl (by kernel_rfl) Try.func3 (by kernel_rfl)
    (of_decide_eq_true (by kernel_rfl)) (by unfold Func.isWrapper; first | (rw [if_pos (by decide +kernel)]; kernel_rfl) | (rw [if_neg (by decide +kernel)]; exact ⟨rfl, rfl⟩))
    (fun os started H enc _ => lifted os started H enc)

end PolyNames

theorem polyNames_holds : Rows.PolyNamesSaid := PolyNames.holds
#print axioms polyNames_holds
end Go.Proofs.Ytebplinighoagaa

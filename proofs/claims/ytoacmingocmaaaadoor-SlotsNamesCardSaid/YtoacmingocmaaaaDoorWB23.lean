/- The texts SlotsNamesW, one behind the other. -/
import Derived.Test.YtoacmingocmaaaaDoorWB22
/- The walk of SlotsNames. -/
namespace Go.Proofs.YtoacmingocmaaaaDoor
open Go Go.RowKit Go.Lib
namespace M
open MM
theorem badH_len : badH.length = 7 := rfl
theorem raw_last {W w : World} {L : Dl} {R : World → Prop} (h : Ds W L R w) : Calls Tryd.prog 14 #[.string ⟨#[]⟩, .string ⟨(hdr3 1099511627775 0 1099511627775).toArray⟩] w fun e w' => ∃ B, e = .returned (ptr B) ∧ Ds W (L ++ [(B, 2, rawD [] (hdr3 1099511627775 0 1099511627775))]) R w' := raw_any h [] _
/-- One of the headers that are none. -/
theorem bad_round {h : By} (hl : h.length ≤ 512) (h0 : (headOf (full h)).1 = 0) : ∃ z z2 : Dsk, rawD h [] = z ∧ textV z.read = none ∧ ageV z.read = 0 ∧ z.save [120] = (0, z2) ∧ Has z2 [120] 1 := by
  obtain ⟨q1, q2, q3⟩ := raw_bad hl h0
  obtain ⟨a1, a2, _⟩ := save_ok q1 (t := [120]) (by show 1 ≤ 16776704; omega) (by rw [q3]; exact few_top (by omega))
  rw [q3] at a2
  exact ⟨_, _, rfl, q2, q3, pair_eq a1, a2⟩
set_option maxHeartbeats 16000000 in
set_option maxRecDepth 100000 in
theorem walkSlotsNames (W : World) : Calls Tryd.prog 3 #[] W fun e w' => e = .returned (.bool true) ∧ Below W.heap.size W w' := by
  have HB := Lib.hid (Below.refl W.heap.size W)
  go_enter Tryd.func3, Tryd.ntmps3
  go_upto_region 4 with (first
    | (go_at_call 8; (with_reducible refine (rd_nil _).mono ?_); rintro e w1 ⟨rfl, h⟩; replace HB := Lib.hid (bnext HB.out h); clear h)
    | (go_at_call 9; (with_reducible refine (awake_go _).mono ?_); rintro e w1 ⟨rfl, h⟩; replace HB := Lib.hid (bnext HB.out h); clear h)
    | (go_at_call 10; (with_reducible refine (age_nil _).mono ?_); rintro e w1 ⟨rfl, h⟩; replace HB := Lib.hid (bnext HB.out h); clear h)
    | (go_at_call 11; (with_reducible refine (wr_nil _).mono ?_); rintro e w1 ⟨rfl, h⟩; replace h := h.symm; subst h)
    | (go_at_call 12; (with_reducible refine (tw_nil _).mono ?_); rintro e w1 ⟨rfl, h⟩; replace h := h.symm; subst h))
  go_upto_region 5 with (first
    | (go_at_call 13; (with_reducible refine (nums3 0 0 0 _).mono ?_); rintro e wn ⟨rfl, h⟩; replace HB := Lib.hid (bnext HB.out h); clear h)
    | (go_at_call 13; (with_reducible refine (nums3 1 0 2 _).mono ?_); rintro e wn ⟨rfl, h⟩; replace HB := Lib.hid (bnext HB.out h); clear h)
    | (go_at_call 13; (with_reducible refine (nums3 1099511627777 0 1099511627777 _).mono ?_); rintro e wn ⟨rfl, h⟩; replace HB := Lib.hid (bnext HB.out h); clear h)
    | (go_at_call 13; (with_reducible refine (nums3 1 16776705 1 _).mono ?_); rintro e wn ⟨rfl, h⟩; replace HB := Lib.hid (bnext HB.out h); clear h)
    | (go_at_call 13; (with_reducible refine (nums3 (-1) 0 (-1) _).mono ?_); rintro e wn ⟨rfl, h⟩; replace HB := Lib.hid (bnext HB.out h); clear h)
    | (go_at_call 13; (with_reducible refine (nums3 1 (-1) 1 _).mono ?_); rintro e wn ⟨rfl, h⟩; replace HB := Lib.hid (bnext HB.out h); clear h))
  have hbr := below_box wn (.cells #[.string ⟨#[]⟩, .string ⟨(hdr3 0 0 0).toArray⟩, .string ⟨(hdr3 1 0 2).toArray⟩, .string ⟨(hdr3 1099511627777 0 1099511627777).toArray⟩, .string ⟨(hdr3 1 16776705 1).toArray⟩, .string ⟨(hdr3 (-1) 0 (-1)).toArray⟩, .string ⟨(hdr3 1 (-1) 1).toArray⟩] 9)
  have hgr := heap_alloc_new wn (.cells #[.string ⟨#[]⟩, .string ⟨(hdr3 0 0 0).toArray⟩, .string ⟨(hdr3 1 0 2).toArray⟩, .string ⟨(hdr3 1099511627777 0 1099511627777).toArray⟩, .string ⟨(hdr3 1 16776705 1).toArray⟩, .string ⟨(hdr3 (-1) 0 (-1)).toArray⟩, .string ⟨(hdr3 1 (-1) 1).toArray⟩] 9)
  replace HB := Lib.hid (bnext HB.out hbr)
  generalize wn.alloc (.cells #[.string ⟨#[]⟩, .string ⟨(hdr3 0 0 0).toArray⟩, .string ⟨(hdr3 1 0 2).toArray⟩, .string ⟨(hdr3 1099511627777 0 1099511627777).toArray⟩, .string ⟨(hdr3 1 16776705 1).toArray⟩, .string ⟨(hdr3 (-1) 0 (-1)).toArray⟩, .string ⟨(hdr3 1 (-1) 1).toArray⟩] 9) = wr0 at *
  have HCL : Hid (∀ (k : Nat) (h : By), badH[k]? = some h → wr0.cell? ⟨wn.heap.size, k, none⟩ = some (.string ⟨h.toArray⟩)) := Lib.hid fun k h hk => by
    rw [cell_of_row _ _ k _ _ _ hgr]
    have e : (#[.string ⟨#[]⟩, .string ⟨(hdr3 0 0 0).toArray⟩, .string ⟨(hdr3 1 0 2).toArray⟩, .string ⟨(hdr3 1099511627777 0 1099511627777).toArray⟩, .string ⟨(hdr3 1 16776705 1).toArray⟩, .string ⟨(hdr3 (-1) 0 (-1)).toArray⟩, .string ⟨(hdr3 1 (-1) 1).toArray⟩] : Array Value).toList = badH.map fun t => .string ⟨t.toArray⟩ := rfl
    rw [← Array.getElem?_toList, e, List.getElem?_map, hk]
    rfl
  have HGL := Lib.hid (row_lt hgr)
  generalize wn.heap.size = gR at *
  clear hbr hgr
  go_loopw [4, 5, 6, 7, 54] (fun _ _ _ _ s54 wx => ∃ k : Nat, k ≤ 7 ∧ s54 = .int .i64 (k : Int) ∧ Hid (Below wr0.heap.size wr0 wx)) (fun _ _ _ _ s54 _ => 7 - (RowKit.intOf s54).toNat)
  case atStart => exact ⟨0, Nat.zero_le _, rfl, Lib.hid (Below.refl _ _)⟩
  case round =>
    obtain ⟨k, hk, rfl, HBW⟩ := hrel
    by_cases hlt : k < 7
    · obtain ⟨h, hh⟩ : ∃ h, badH[k]? = some h := ⟨_, List.getElem?_eq_getElem (by rw [badH_len]; exact hlt)⟩
      have hc := (HBW.out.cell (p := ⟨gR, k, none⟩) HGL.out).trans (HCL.out k h hh)
      obtain ⟨hl, h0⟩ := badH_all k h hh
      obtain ⟨z, z2, e1, e2, e3, e4, e5⟩ := bad_round hl h0
      have RW : Hid (Calls Tryd.prog 14 #[.string ⟨h.toArray⟩, .string ⟨#[]⟩] wr fun e w' => ∃ B, e = .returned (ptr B) ∧ Ds wr [(B, 2, z)] (fun _ => True) w') := Lib.hid (e1 ▸ raw_any (Ds.start wr (Below.refl _ _)) h [])
      have R1 : Hid (∀ B u, Ds wr [(B, 2, z)] (fun _ => True) u → Calls Tryd.prog 8 #[ptr B] u fun e w' => e = .returned (.tuple #[.string ⟨#[]⟩, .bool false]) ∧ Ds wr [(B, 2, z)] (fun _ => True) w') := Lib.hid fun B u hu => by
        have := Ds.text hu (i := 0) rfl
        unfold textR at this
        rw [e2] at this; exact this
      have R2 : Hid (∀ B u, Ds wr [(B, 2, z)] (fun _ => True) u → Calls Tryd.prog 10 #[ptr B] u fun e w' => e = .returned (.int .i64 0) ∧ Ds wr [(B, 2, z)] (fun _ => True) w') := Lib.hid fun B u hu => by
        have := Ds.age hu (i := 0) rfl
        rw [e3] at this; exact this
      have R3 : Hid (∀ B u, Ds wr [(B, 2, z)] (fun _ => True) u → Calls Tryd.prog 11 #[ptr B, .string ⟨#[120]⟩] u fun e w' => e = .returned (.int .i64 0) ∧ Ds wr [(B, 131072, z2)] (fun _ => True) w') := Lib.hid fun B u hu => by
        have := Ds.save hu (i := 0) rfl (by omega) [120]
        rw [e4] at this; exact this
      have R4 : Hid (∀ B u, Ds wr [(B, 131072, z2)] (fun _ => True) u → Calls Tryd.prog 15 #[ptr B, .string ⟨#[120]⟩, .int .i64 1] u fun e w' => e = .returned (.bool true) ∧ Ds wr [(B, 131072, z2)] (fun _ => True) w') := Lib.hid fun B u hu => Ds.has hu (i := 0) rfl e5.text e5.age
      have hki : (k : Int) < 7 := by omega
      have HBR := Lib.hid HBW.out
      clear e1 e2 e3 e4 e5 hh hl h0
      go_wp2_with (first
        | (go_at_call 14; (with_reducible refine RW.out.mono ?_); rintro e wx ⟨B, rfl, h⟩; have HD := Lib.hid h; clear h)
        | (go_at_call 8; (with_reducible refine (R1.out _ _ HD.out).mono ?_); rintro e wx ⟨rfl, h⟩; replace HD := Lib.hid h; clear h)
        | (go_at_call 10; (with_reducible refine (R2.out _ _ HD.out).mono ?_); rintro e wx ⟨rfl, h⟩; replace HD := Lib.hid h; clear h)
        | (go_at_call 11; (with_reducible refine (R3.out _ _ HD.out).mono ?_); rintro e wx ⟨rfl, h⟩; replace HD := Lib.hid h; clear h)
        | (go_at_call 15; (with_reducible refine (R4.out _ _ HD.out).mono ?_); rintro e wx ⟨rfl, h⟩; replace HD := Lib.hid h; clear h))
      have HBX := Lib.hid (bnext HBR.out HD.out.below)
      go_roundw
      case rel => first | exact ⟨k + 1, by omega, by go_num, HBX⟩ | ((repeat apply Exists.intro); exact ⟨⟨k + 1, by omega, by go_num, HBX⟩, rfl⟩)
      case measure => simp [RowKit.intOf]; omega
    · replace HB := Lib.hid (bnext HB.out HBW.out)
      have hki : ¬ (k : Int) < 7 := by omega
      clear HCL HGL HBW
      go_upto_region 15 with (first
          | (go_at_call 13; (with_reducible refine (nums3 7 0 7 _).mono ?_); rintro e wn ⟨rfl, h⟩; replace HB := Lib.hid (bnext HB.out h); clear h)
          | (go_at_call 13; (with_reducible refine (nums3 7 1 7 _).mono ?_); rintro e wn ⟨rfl, h⟩; replace HB := Lib.hid (bnext HB.out h); clear h)
          | (go_at_call 14; (with_reducible refine (raw_any (Ds.start W HB.out) (hdr3 7 0 7) (hdr3 7 1 7)).mono ?_); rintro e wx ⟨B1, rfl, h⟩; have HD : Hid (Ds W [(B1, 2, rawD (hdr3 7 0 7) (hdr3 7 1 7))] (fun _ => True) wx) := Lib.hid h; clear h HB)
          | (go_at_call 13; (with_reducible refine (nums3 1 0 1 _).mono ?_); rintro e wn ⟨rfl, h⟩; replace HD := Lib.hid (HD.out.step h); clear h)
          | (go_at_call 13; (with_reducible refine (nums3 1099511627776 2 1099511627776 _).mono ?_); rintro e wn ⟨rfl, h⟩; replace HD := Lib.hid (HD.out.step h); clear h)
          | (go_at_call 14; (with_reducible refine (raw_any HD.out (hdr3 1 0 1) (hdr3 1099511627776 2 1099511627776)).mono ?_); rintro e wx ⟨B2, rfl, h⟩; replace HD : Hid (Ds W [(B1, 2, rawD (hdr3 7 0 7) (hdr3 7 1 7)), (B2, 2, rawD (hdr3 1 0 1) (hdr3 1099511627776 2 1099511627776))] (fun _ => True) wx) := Lib.hid h; clear h)
          | (go_at_call 13; (with_reducible refine (nums3 1099511627775 0 1099511627775 _).mono ?_); rintro e wn ⟨rfl, h⟩; replace HD := Lib.hid (HD.out.step h); clear h)
          | (go_at_call 14; (with_reducible refine (raw_last HD.out).mono ?_); rintro e wx ⟨B3, rfl, h⟩; replace HD := Lib.hid h; clear h))
      obtain ⟨t1, t2⟩ := two_is
      obtain ⟨f0, f1, f2⟩ := full_is
      obtain ⟨y1, l1, l2, l3⟩ := last_is
      have fsave : (rawD (hdr3 1 0 1) (hdr3 1099511627776 2 1099511627776)).save [] = (41, rawD (hdr3 1 0 1) (hdr3 1099511627776 2 1099511627776)) := save_full f0.dead (Nat.zero_le _) f2
      have ftw : (rawD (hdr3 1 0 1) (hdr3 1099511627776 2 1099511627776)).twice [] = (41, rawD (hdr3 1 0 1) (hdr3 1099511627776 2 1099511627776)) := by
        unfold Dsk.twice; rw [fsave]; rfl
      clear f0
      replace HD : Hid (Ds W [(B1, 2, rawD (hdr3 7 0 7) (hdr3 7 1 7)), (B2, 2, rawD (hdr3 1 0 1) (hdr3 1099511627776 2 1099511627776)), (B3, 2, rawD [] (hdr3 1099511627775 0 1099511627775))] (fun _ => True) wx) := HD
      generalize rawD (hdr3 7 0 7) (hdr3 7 1 7) = za at *
      generalize rawD (hdr3 1 0 1) (hdr3 1099511627776 2 1099511627776) = zb at *
      generalize rawD [] (hdr3 1099511627775 0 1099511627775) = zc at *
      have Q1 : Hid (∀ u, Ds W [(B1, 2, za), (B2, 2, zb), (B3, 2, zc)] (fun _ => True) u → Calls Tryd.prog 15 #[ptr B1, .string ⟨#[]⟩, .int .i64 7] u fun e w' => e = .returned (.bool true) ∧ Ds W [(B1, 2, za), (B2, 2, zb), (B3, 2, zc)] (fun _ => True) w') := Lib.hid fun u hu => Ds.has hu (i := 0) rfl t1 t2
      have Q2 : Hid (∀ u, Ds W [(B1, 2, za), (B2, 2, zb), (B3, 2, zc)] (fun _ => True) u → Calls Tryd.prog 15 #[ptr B2, .string ⟨#[0, 0]⟩, .int .i64 1099511627776] u fun e w' => e = .returned (.bool true) ∧ Ds W [(B1, 2, za), (B2, 2, zb), (B3, 2, zc)] (fun _ => True) w') := Lib.hid fun u hu => Ds.has hu (i := 1) rfl f1 f2
      have Q3 : Hid (∀ u, Ds W [(B1, 2, za), (B2, 2, zb), (B3, 2, zc)] (fun _ => True) u → Calls Tryd.prog 11 #[ptr B2, .string ⟨#[]⟩] u fun e w' => e = .returned (.int .i64 41) ∧ Ds W [(B1, 2, za), (B2, 131072, zb), (B3, 2, zc)] (fun _ => True) w') := Lib.hid fun u hu => by
        have := Ds.save hu (i := 1) rfl (by omega) []
        rw [fsave] at this; exact this
      have Q4 : Hid (∀ u, Ds W [(B1, 2, za), (B2, 131072, zb), (B3, 2, zc)] (fun _ => True) u → Calls Tryd.prog 12 #[ptr B2, .string ⟨#[]⟩] u fun e w' => e = .returned (.int .i64 41) ∧ Ds W [(B1, 2, za), (B2, 131072, zb), (B3, 2, zc)] (fun _ => True) w') := Lib.hid fun u hu => by
        have := Ds.twice hu (i := 1) rfl (by omega) []
        rw [ftw] at this; exact this
      have Q5 : Hid (∀ u, Ds W [(B1, 2, za), (B2, 131072, zb), (B3, 2, zc)] (fun _ => True) u → Calls Tryd.prog 12 #[ptr B3, .string ⟨#[121]⟩] u fun e w' => e = .returned (.int .i64 41) ∧ Ds W [(B1, 2, za), (B2, 131072, zb), (B3, 131072, y1)] (fun _ => True) w') := Lib.hid fun u hu => by
        have := Ds.twice hu (i := 2) rfl (by omega) tY
        rw [l1] at this; exact this
      have Q6 : Hid (∀ u, Ds W [(B1, 2, za), (B2, 131072, zb), (B3, 131072, y1)] (fun _ => True) u → Calls Tryd.prog 15 #[ptr B3, .string ⟨#[121]⟩, .int .i64 1099511627776] u fun e w' => e = .returned (.bool true) ∧ Ds W [(B1, 2, za), (B2, 131072, zb), (B3, 131072, y1)] (fun _ => True) w') := Lib.hid fun u hu => Ds.has hu (i := 2) rfl l2 l3
      clear t1 t2 f1 f2 l1 l2 l3 fsave ftw
      go_upto_region 17 with (first
          | (go_at_call 15; (with_reducible refine (Q1.out _ HD.out).mono ?_); rintro e wx ⟨rfl, h⟩; replace HD := Lib.hid h; clear h)
          | (go_at_call 15; (with_reducible refine (Q2.out _ HD.out).mono ?_); rintro e wx ⟨rfl, h⟩; replace HD := Lib.hid h; clear h)
          | (go_at_call 11; (with_reducible refine (Q3.out _ HD.out).mono ?_); rintro e wx ⟨rfl, h⟩; replace HD := Lib.hid h; clear h)
          | (go_at_call 12; (with_reducible refine (Q4.out _ HD.out).mono ?_); rintro e wx ⟨rfl, h⟩; replace HD := Lib.hid h; clear h)
          | (go_at_call 12; (with_reducible refine (Q5.out _ HD.out).mono ?_); rintro e wx ⟨rfl, h⟩; replace HD := Lib.hid h; clear h)
          | (go_at_call 15; (with_reducible refine (Q6.out _ HD.out).mono ?_); rintro e wx ⟨rfl, h⟩; replace HD := Lib.hid h; clear h))
      replace HB := Lib.hid HD.out.below
      clear Q1 Q2 Q3 Q4 Q5 Q6 HD
      obtain ⟨nz, hnz⟩ : ∃ n : Nat, n = 16776705 := ⟨_, rfl⟩
      obtain ⟨cz, hcz⟩ : ∃ c, madeCells #[.int .u8 0] nz = c := ⟨_, rfl⟩
      obtain ⟨LZ, hLZ⟩ : ∃ l : By, List.replicate nz (0 : UInt8) = l := ⟨_, rfl⟩
      have hzl : most < LZ.length := by rw [← hLZ, List.length_replicate, hnz]; unfold most; omega
      have hmz : ∀ w : World, (Instr.makeSlice 34 (.int .i64 16776705) (.int .i64 16776705)).run Tryd.prog w = .ok (.slice (some ⟨w.heap.size, 0, none⟩) nz nz) (w.alloc (.cells cz 5)) := fun w => by
        have := run_made8 nz (by omega) w
        rw [hcz, show ((nz : Nat) : Int) = 16776705 by omega] at this
        exact this
      have hcv : ∀ (w : World) (cap : Nat), (convert 34 9 (.slice (some ⟨w.heap.size, 0, none⟩) nz cap)).run Tryd.prog (w.alloc (.cells cz 5)) = .ok (.string ⟨LZ.toArray⟩) (w.alloc (.cells cz 5)) := fun w cap => by
        have := run_zeros (cap := cap) (n := nz) (by rw [hcz]; exact heap_alloc_new w (.cells cz 5))
        rw [hLZ] at this; exact this
      clear hcz hLZ hnz
      go_upto_region 18 with (go_at_call 16; (with_reducible refine (Ds.new (Ds.start W HB.out)).mono ?_); rintro e wx ⟨B, rfl, h⟩; have HD : Hid (Ds W [(B, 0, Dsk.new)] (fun _ => True) wx) := Lib.hid h; clear h HB)
      have HDZ := Lib.hid (HD.out.step (below_box wx (.cells cz 5)))
      go_upto_region 19 with fail
      clear hmz hcv HD
      generalize wx.alloc (.cells cz 5) = wz at *
      have HD := HDZ
      clear HDZ
      have HZL := Lib.hid hzl
      clear hzl
      obtain ⟨z1, z2, z4, d1, d2, d3, d4, d5, d6, d7, d8, d9, d10⟩ := dd
      have P1 : Hid (∀ u, Ds W [(B, 0, Dsk.new)] (fun _ => True) u → Calls Tryd.prog 11 #[ptr B, .string ⟨LZ.toArray⟩] u fun e w' => e = .returned (.int .i64 10) ∧ Ds W [(B, 131072, Dsk.new)] (fun _ => True) w') := Lib.hid fun u hu => by
        have := Ds.save hu (i := 0) rfl (by omega) LZ
        rw [save_long rfl HZL.out] at this; exact this
      have P2 : Hid (∀ u, Ds W [(B, 131072, Dsk.new)] (fun _ => True) u → Calls Tryd.prog 10 #[ptr B] u fun e w' => e = .returned (.int .i64 0) ∧ Ds W [(B, 131072, Dsk.new)] (fun _ => True) w') := Lib.hid fun u hu => by
        have := Ds.age hu (i := 0) rfl
        rw [new_age] at this; exact this
      have P3 : Hid (∀ u, Ds W [(B, 131072, Dsk.new)] (fun _ => True) u → Calls Tryd.prog 17 #[ptr B, .int .i64 0] u fun e w' => e = .returned (.tuple #[]) ∧ Ds W [(B, 131072, Dsk.new.setFuse 0)] (fun _ => True) w') := Lib.hid fun u hu => Ds.fuse hu (i := 0) rfl 0 (by omega)
      have P4 : Hid (∀ u, Ds W [(B, 131072, Dsk.new.setFuse 0)] (fun _ => True) u → Calls Tryd.prog 11 #[ptr B, .string ⟨#[]⟩] u fun e w' => e = .returned (.int .i64 42) ∧ Ds W [(B, 131072, z1)] (fun _ => True) w') := Lib.hid fun u hu => by
        have := Ds.save hu (i := 0) rfl (by omega) []
        rw [d1] at this; exact this
      have P5 : Hid (∀ u, Ds W [(B, 131072, z1)] (fun _ => True) u → Calls Tryd.prog 11 #[ptr B, .string ⟨LZ.toArray⟩] u fun e w' => e = .returned (.int .i64 42) ∧ Ds W [(B, 131072, z1)] (fun _ => True) w') := Lib.hid fun u hu => by
        have := Ds.save hu (i := 0) rfl (by omega) LZ
        rw [save_dead d2] at this; exact this
      have P6 : Hid (∀ u, Ds W [(B, 131072, z1)] (fun _ => True) u → Calls Tryd.prog 8 #[ptr B] u fun e w' => e = .returned (.tuple #[.string ⟨#[]⟩, .bool false]) ∧ Ds W [(B, 131072, z1)] (fun _ => True) w') := Lib.hid fun u hu => by
        have := Ds.text hu (i := 0) rfl
        unfold textR at this
        rw [dead_none d2] at this; exact this
      have P7 : Hid (∀ u, Ds W [(B, 131072, z1)] (fun _ => True) u → Calls Tryd.prog 18 #[ptr B] u fun e w' => e = .returned (.tuple #[]) ∧ Ds W [(B, 131072, z1.start)] (fun _ => True) w') := Lib.hid fun u hu => Ds.boot hu (i := 0) rfl
      have P8 : Hid (∀ u, Ds W [(B, 131072, z1.start)] (fun _ => True) u → Calls Tryd.prog 11 #[ptr B, .string ⟨#[]⟩] u fun e w' => e = .returned (.int .i64 0) ∧ Ds W [(B, 131072, z2)] (fun _ => True) w') := Lib.hid fun u hu => by
        have := Ds.save hu (i := 0) rfl (by omega) []
        rw [d3] at this; exact this
      have P9 : Hid (∀ u, Ds W [(B, 131072, z2)] (fun _ => True) u → Calls Tryd.prog 15 #[ptr B, .string ⟨#[]⟩, .int .i64 1] u fun e w' => e = .returned (.bool true) ∧ Ds W [(B, 131072, z2)] (fun _ => True) w') := Lib.hid fun u hu => Ds.has hu (i := 0) rfl d4.text d4.age
      have P10 : Hid (∀ u, Ds W [(B, 131072, z2)] (fun _ => True) u → Calls Tryd.prog 12 #[ptr B, .string ⟨#[101]⟩] u fun e w' => e = .returned (.int .i64 0) ∧ Ds W [(B, 131072, z4)] (fun _ => True) w') := Lib.hid fun u hu => by
        have := Ds.twice hu (i := 0) rfl (by omega) tE
        rw [d5] at this; exact this
      have P11 : Hid (∀ u, Ds W [(B, 131072, z4)] (fun _ => True) u → Calls Tryd.prog 15 #[ptr B, .string ⟨#[101]⟩, .int .i64 3] u fun e w' => e = .returned (.bool true) ∧ Ds W [(B, 131072, z4)] (fun _ => True) w') := Lib.hid fun u hu => Ds.has hu (i := 0) rfl d6.text d6.age
      obtain ⟨F1, hF1⟩ : ∃ F, full (hdr3 2 1 2) = F := ⟨_, rfl⟩
      obtain ⟨F2, hF2⟩ : ∃ F, full (hdr3 3 1 3) = F := ⟨_, rfl⟩
      obtain ⟨F3, hF3⟩ : ∃ F, full tE = F := ⟨_, rfl⟩
      have hh2 : hdr3 2 1 2 = hdr 2 1 := hdr3_hdr 2 1 (by unfold top; omega) (by unfold most; omega)
      have hh3 : hdr3 3 1 3 = hdr 3 1 := hdr3_hdr 3 1 (by unfold top; omega) (by unfold most; omega)
      have g1 : F1.length = 512 := by rw [← hF1]; exact full_len (by rw [hdr3_len]; omega)
      have g2 : F2.length = 512 := by rw [← hF2]; exact full_len (by rw [hdr3_len]; omega)
      have g3 : F3.length = 512 := by rw [← hF3]; exact full_len (by show 1 ≤ 512; omega)
      have x1 : (⟨F1.toArray⟩ : ByteArray).extract 0 24 = ⟨(hdr3 2 1 2).toArray⟩ := by rw [ByteArray.extract_mk, ← hF1]; simp [full_take, hdr3_len]; rw [List.take_of_length_le (by rw [hdr3_len]; omega)]
      have x2 : (⟨F2.toArray⟩ : ByteArray).extract 0 24 = ⟨(hdr3 3 1 3).toArray⟩ := by rw [ByteArray.extract_mk, ← hF2]; simp [full_take, hdr3_len]; rw [List.take_of_length_le (by rw [hdr3_len]; omega)]
      have x3 : (⟨F3.toArray⟩ : ByteArray).extract 0 2 = ⟨#[101, 0]⟩ := by rw [ByteArray.extract_mk, ← hF3]; rfl
      have pl : ∀ {k : Int} {t : By}, z4.p k = t → sec k = true → z4.platter k = t := fun h1 h2 => by unfold Dsk.platter; rw [if_pos h2, h1]
      have P12 : Hid (∀ u, Ds W [(B, 131072, z4)] (fun _ => True) u → Calls Tryd.prog 19 #[ptr B, .int .i64 32768] u fun e w' => e = .returned (.string ⟨F1.toArray⟩) ∧ Below u.heap.size u w') := Lib.hid fun u hu => by
        have := Ds.platter hu (i := 0) rfl 32768
        rw [pl (t := F1) (by rw [← hF1, hh2]; exact d8) (by decide)] at this
        exact this.mono fun _ _ ⟨a, b⟩ => ⟨a, b⟩
      have P13 : Hid (∀ u, Ds W [(B, 131072, z4)] (fun _ => True) u → Calls Tryd.prog 19 #[ptr B, .int .i64 0] u fun e w' => e = .returned (.string ⟨F2.toArray⟩) ∧ Below u.heap.size u w') := Lib.hid fun u hu => by
        have := Ds.platter hu (i := 0) rfl 0
        rw [pl (t := F2) (by rw [← hF2, hh3]; exact d9) (by decide)] at this
        exact this.mono fun _ _ ⟨a, b⟩ => ⟨a, b⟩
      have P14 : Hid (∀ u, Ds W [(B, 131072, z4)] (fun _ => True) u → Calls Tryd.prog 19 #[ptr B, .int .i64 1] u fun e w' => e = .returned (.string ⟨F3.toArray⟩) ∧ Below u.heap.size u w') := Lib.hid fun u hu => by
        have := Ds.platter hu (i := 0) rfl 1
        rw [pl (t := F3) (by rw [← hF3]; exact d10) (by decide)] at this
        exact this.mono fun _ _ ⟨a, b⟩ => ⟨a, b⟩
      have P15 : Hid (∀ u, Ds W [(B, 131072, z4)] (fun _ => True) u → Calls Tryd.prog 20 #[ptr B] u fun e w' => e = .returned (.int .i64 0) ∧ Below u.heap.size u w') := Lib.hid fun u hu => by
        have := Ds.waits hu (i := 0) rfl
        rw [d7] at this
        exact this.mono fun _ _ ⟨a, b⟩ => ⟨a, b ▸ Below.refl _ _⟩
      clear d1 d2 d3 d4 d5 d6 d7 d8 d9 d10 hF1 hF2 hF3 hh2 hh3
      clear pl
      have N1 : Hid (∀ g u, Row3 2 1 2 g u → Calls Tryd.prog 13 #[.slice (some ⟨g, 0, none⟩) 3 3] u fun e w' => e = .returned (.string ⟨(hdr3 2 1 2).toArray⟩) ∧ Below u.heap.size u w') := Lib.hid fun g u hu => nums3R 2 1 2 g u hu
      have N2 : Hid (∀ g u, Row3 3 1 3 g u → Calls Tryd.prog 13 #[.slice (some ⟨g, 0, none⟩) 3 3] u fun e w' => e = .returned (.string ⟨(hdr3 3 1 3).toArray⟩) ∧ Below u.heap.size u w') := Lib.hid fun g u hu => nums3R 3 1 3 g u hu
      obtain ⟨q1, hq1⟩ : ∃ q, (⟨(hdr3 2 1 2).toArray⟩ : ByteArray) = q := ⟨_, rfl⟩
      rw [hq1] at N1 x1
      obtain ⟨q2, hq2⟩ : ∃ q, (⟨(hdr3 3 1 3).toArray⟩ : ByteArray) = q := ⟨_, rfl⟩
      rw [hq2] at N2 x2
      obtain ⟨G1, hG1⟩ : ∃ q, (⟨F1.toArray⟩ : ByteArray) = q := ⟨_, rfl⟩
      obtain ⟨G2, hG2⟩ : ∃ q, (⟨F2.toArray⟩ : ByteArray) = q := ⟨_, rfl⟩
      obtain ⟨G3, hG3⟩ : ∃ q, (⟨F3.toArray⟩ : ByteArray) = q := ⟨_, rfl⟩
      rw [hG1] at P12 x1
      rw [hG2] at P13 x2
      rw [hG3] at P14 x3
      replace g1 : G1.size = 512 := by rw [← hG1]; exact g1
      replace g2 : G2.size = 512 := by rw [← hG2]; exact g2
      replace g3 : G3.size = 512 := by rw [← hG3]; exact g3
      clear hq1 hq2 hG1 hG2 hG3
      go_upto_region 22 with (first
          | (go_at_call 11; (with_reducible refine (P1.out _ HD.out).mono ?_); rintro e wx ⟨rfl, h⟩; replace HD := Lib.hid h; clear h)
          | (go_at_call 10; (with_reducible refine (P2.out _ HD.out).mono ?_); rintro e wx ⟨rfl, h⟩; replace HD := Lib.hid h; clear h)
          | (go_at_call 17; (with_reducible refine (P3.out _ HD.out).mono ?_); rintro e wx ⟨rfl, h⟩; replace HD := Lib.hid h; clear h))
      go_upto_region 23 with (go_at_call 11; (with_reducible refine (P4.out _ HD.out).mono ?_); rintro e wx ⟨rfl, h⟩; replace HD := Lib.hid h; clear h)
      go_upto_region 24 with (go_at_call 11; (with_reducible refine (P5.out _ HD.out).mono ?_); rintro e wx ⟨rfl, h⟩; replace HD := Lib.hid h; clear h)
      go_upto_region 26 with (first
          | (go_at_call 8; (with_reducible refine (P6.out _ HD.out).mono ?_); rintro e wx ⟨rfl, h⟩; replace HD := Lib.hid h; clear h)
          | (go_at_call 18; (with_reducible refine (P7.out _ HD.out).mono ?_); rintro e wx ⟨rfl, h⟩; replace HD := Lib.hid h; clear h))
      go_upto_region 27 with (first
          | (go_at_call 11; (with_reducible refine (P8.out _ HD.out).mono ?_); rintro e wx ⟨rfl, h⟩; replace HD := Lib.hid h; clear h)
          | (go_at_call 15; (with_reducible refine (P9.out _ HD.out).mono ?_); rintro e wx ⟨rfl, h⟩; replace HD := Lib.hid h; clear h))
      go_upto_region 28 with (first
          | (go_at_call 12; (with_reducible refine (P10.out _ HD.out).mono ?_); rintro e wx ⟨rfl, h⟩; replace HD := Lib.hid h; clear h)
          | (go_at_call 15; (with_reducible refine (P11.out _ HD.out).mono ?_); rintro e wx ⟨rfl, h⟩; replace HD := Lib.hid h; clear h))
      go_wp2_with fail
      refine RK.tame [some 51, none, none, none, none, none, none, none, none, none, none, none, none, none, none, none, none, none, none, none, none, none, none, none, none, none, none, none, none, none, none, none, none, none, none, none, none, none, none, none, none, none, none, none, none, none, none, none, none, none, none, none, none, none, none, none, none, none, none, none, none, none, none, none, none, none, none, none, none, none, none, none, none, none, none, none, none, none, none, none, none, none, none, none, none, none, none, none, none, none, none, none, none, none, none, none, none, none, none, none, none, none, none, none, none, none, none, none, none, none, none, none, none, none, none, none, none, none, none, none, none, none, none, none, none, none, none, none, none, none, none, none, none, none, none, none, none, none, none, none, none, none, none, none, none, none, none, none, none, none, none, none, none, none, none, none, none, some 0, some 1, some 2, some 3, some 4, some 5, some 6, some 7, some 8, some 9, some 10, some 11, some 12, some 13, some 14, some 15, some 16, some 17, some 18, some 19, some 20, some 21, some 22, some 23, some 24, some 25, some 26, some 27, some 28, some 29, some 30, some 31, some 32, some 33, some 34, some 35, some 36, some 37, some 38, some 39, some 40, some 41, some 42, some 43, some 44, some 45, some 46, some 47, some 48, some 49, some 50] [RK.Word.eq (.int .i64 42), RK.Word.eq (.bool true), RK.Word.eq (.bool true), RK.Word.eq (.int .i64 42), RK.Word.eq (.bool true), RK.Word.eq (.bool true), RK.Word.eq (.bool true), RK.Word.eq (.bool false), RK.Word.eq (.bool true), RK.Word.eq (.bool true), RK.Word.eq (.bool true), RK.Word.eq (.int .i64 0), RK.Word.eq (.bool true), RK.Word.eq (.bool true), RK.Word.eq (.bool true), RK.Word.eq (.bool true), RK.Word.eq (.bool true), RK.Word.eq (.bool true), RK.Word.eq (.int .i64 0), RK.Word.eq (.bool true), RK.Word.eq (.bool true), RK.Word.eq (.bool true), RK.Word.eq (.bool true), RK.Word.eq (.bool true), RK.Word.eq (.bool true), RK.Word.eq (ptr B), RK.Word.eq (.string G1), RK.Word.eq (.string q1), w3 2 1 2, RK.Word.eq (.string q1), RK.Word.eq (.bool true), RK.Word.eq (.bool true), RK.Word.eq (.bool true), RK.Word.eq (ptr B), RK.Word.eq (.string G2), RK.Word.eq (.string q2), w3 3 1 3, RK.Word.eq (.string q2), RK.Word.eq (.bool true), RK.Word.eq (.bool true), RK.Word.eq (.bool true), RK.Word.eq (ptr B), RK.Word.eq (.string G3), RK.Word.eq (.string ⟨#[101, 0]⟩), RK.Word.eq (.bool true), RK.Word.eq (.bool true), RK.Word.eq (.bool true), RK.Word.eq (ptr B), RK.Word.eq (.int .i64 0), RK.Word.eq (.bool true), RK.Word.eq (.bool true), RK.Word.eq (.bool true)] (fun u => Ds W [(B, 131072, z4)] (fun _ => True) u) (by kernel_rfl) (by kernel_rfl) (by kernel_rfl) HD.out (fun _ _ h hb => h.step hb) (fun i hi a' val w' hF => ?_) (fun val w' hw hp => ?_)
      · have hi2 : i = 0 ∨ i = 1 ∨ i = 2 ∨ i = 3 ∨ i = 4 ∨ i = 5 ∨ i = 6 ∨ i = 7 ∨ i = 8 ∨ i = 9 ∨ i = 10 ∨ i = 11 ∨ i = 12 ∨ i = 13 ∨ i = 14 ∨ i = 15 ∨ i = 16 ∨ i = 17 ∨ i = 18 ∨ i = 19 ∨ i = 20 ∨ i = 21 ∨ i = 22 ∨ i = 23 ∨ i = 24 ∨ i = 25 ∨ i = 26 ∨ i = 27 ∨ i = 28 ∨ i = 29 ∨ i = 30 ∨ i = 31 ∨ i = 32 ∨ i = 33 ∨ i = 34 ∨ i = 35 ∨ i = 36 ∨ i = 37 ∨ i = 38 ∨ i = 39 ∨ i = 40 ∨ i = 41 ∨ i = 42 ∨ i = 43 ∨ i = 44 ∨ i = 45 ∨ i = 46 ∨ i = 47 ∨ i = 48 ∨ i = 49 ∨ i = 50 ∨ i = 51 := by
          have : i < 52 := hi
          omega
        clear hi
        rcases hi2 with rfl | rfl | rfl | rfl | rfl | rfl | rfl | rfl | rfl | rfl | rfl | rfl | rfl | rfl | rfl | rfl | rfl | rfl | rfl | rfl | rfl | rfl | rfl | rfl | rfl | rfl | rfl | rfl | rfl | rfl | rfl | rfl | rfl | rfl | rfl | rfl | rfl | rfl | rfl | rfl | rfl | rfl | rfl | rfl | rfl | rfl | rfl | rfl | rfl | rfl | rfl | rfl
        · have r13 : a'.eval (.tmp 13) = .int .i64 42 := (hF.old 13 (.inr rfl)).trans rfl
          refine RK.owes_exec (v := .int .i64 42) (w' := w') rfl (RK.wanted_any rfl) ?_ (Below.refl _ _) rfl
          have rk : ∀ c, a'.eval (.const c) = c := fun _ => rfl
          generalize a'.eval = ρ at *
          go_simp
        · have p0 : val 0 = .int .i64 42 := hF.post 0 (by kernel_rfl)
          have r157 : a'.eval (.tmp 157) = .int .i64 42 := (hF.ev 157 0 rfl (by kernel_rfl) (of_decide_eq_true (by kernel_rfl))).trans p0
          refine RK.owes_exec (v := .bool true) (w' := w') rfl (RK.wanted_any rfl) ?_ (Below.refl _ _) rfl
          have rk : ∀ c, a'.eval (.const c) = c := fun _ => rfl
          generalize a'.eval = ρ at *
          go_simp
        · have p1 : val 1 = .bool true := hF.post 1 (by kernel_rfl)
          have r158 : a'.eval (.tmp 158) = .bool true := (hF.ev 158 1 rfl (by kernel_rfl) (of_decide_eq_true (by kernel_rfl))).trans p1
          refine RK.owes_exec (v := .bool true) (w' := w') rfl (RK.wanted_any rfl) ?_ (Below.refl _ _) rfl
          have rk : ∀ c, a'.eval (.const c) = c := fun _ => rfl
          generalize a'.eval = ρ at *
          go_simp
        · have r14 : a'.eval (.tmp 14) = .int .i64 42 := (hF.old 14 (.inr rfl)).trans rfl
          have hwn : ∀ o : Oper, o.guard = some (2, true) → Region.wanted o _ = true := fun o h => RK.wanted_if h (hF.yields rfl rfl rfl (by kernel_rfl) (of_decide_eq_true (by kernel_rfl)) (hF.post 2 (by kernel_rfl)))
          refine RK.owes_exec (v := .int .i64 42) (w' := w') rfl (hwn _ rfl) ?_ (Below.refl _ _) rfl
          have rk : ∀ c, a'.eval (.const c) = c := fun _ => rfl
          generalize a'.eval = ρ at *
          go_simp
        · have p3 : val 3 = .int .i64 42 := hF.post 3 (by kernel_rfl)
          have r160 : a'.eval (.tmp 160) = .int .i64 42 := (hF.ev 160 3 rfl (by kernel_rfl) (of_decide_eq_true (by kernel_rfl))).trans p3
          have hwn : ∀ o : Oper, o.guard = some (2, true) → Region.wanted o _ = true := fun o h => RK.wanted_if h (hF.yields rfl rfl rfl (by kernel_rfl) (of_decide_eq_true (by kernel_rfl)) (hF.post 2 (by kernel_rfl)))
          refine RK.owes_exec (v := .bool true) (w' := w') rfl (hwn _ rfl) ?_ (Below.refl _ _) rfl
          have rk : ∀ c, a'.eval (.const c) = c := fun _ => rfl
          generalize a'.eval = ρ at *
          go_simp
        · have p2 : val 2 = .bool true := hF.post 2 (by kernel_rfl)
          have r159 : a'.eval (.tmp 159) = .bool true := (hF.ev 159 2 rfl (by kernel_rfl) (of_decide_eq_true (by kernel_rfl))).trans p2
          have p4 : val 4 = .bool true := hF.post 4 (by kernel_rfl)
          have r161 : a'.eval (.tmp 161) = .bool true := (hF.ev 161 4 rfl (by kernel_rfl) (of_decide_eq_true (by kernel_rfl))).trans p4
          refine RK.owes_exec (v := .bool true) (w' := w') rfl (RK.wanted_any rfl) ?_ (Below.refl _ _) rfl
          have rk : ∀ c, a'.eval (.const c) = c := fun _ => rfl
          generalize a'.eval = ρ at *
          go_simp
        · have p5 : val 5 = .bool true := hF.post 5 (by kernel_rfl)
          have r162 : a'.eval (.tmp 162) = .bool true := (hF.ev 162 5 rfl (by kernel_rfl) (of_decide_eq_true (by kernel_rfl))).trans p5
          refine RK.owes_exec (v := .bool true) (w' := w') rfl (RK.wanted_any rfl) ?_ (Below.refl _ _) rfl
          have rk : ∀ c, a'.eval (.const c) = c := fun _ => rfl
          generalize a'.eval = ρ at *
          go_simp
        · have r2 : a'.eval (.tmp 2) = .bool false := (hF.old 2 (.inr rfl)).trans rfl
          have hwn : ∀ o : Oper, o.guard = some (6, true) → Region.wanted o _ = true := fun o h => RK.wanted_if h (hF.yields rfl rfl rfl (by kernel_rfl) (of_decide_eq_true (by kernel_rfl)) (hF.post 6 (by kernel_rfl)))
          refine RK.owes_exec (v := .bool false) (w' := w') rfl (hwn _ rfl) ?_ (Below.refl _ _) rfl
          have rk : ∀ c, a'.eval (.const c) = c := fun _ => rfl
          generalize a'.eval = ρ at *
          go_simp
        · have p7 : val 7 = .bool false := hF.post 7 (by kernel_rfl)
          have r164 : a'.eval (.tmp 164) = .bool false := (hF.ev 164 7 rfl (by kernel_rfl) (of_decide_eq_true (by kernel_rfl))).trans p7
          have hwn : ∀ o : Oper, o.guard = some (6, true) → Region.wanted o _ = true := fun o h => RK.wanted_if h (hF.yields rfl rfl rfl (by kernel_rfl) (of_decide_eq_true (by kernel_rfl)) (hF.post 6 (by kernel_rfl)))
          refine RK.owes_exec (v := .bool true) (w' := w') rfl (hwn _ rfl) ?_ (Below.refl _ _) rfl
          have rk : ∀ c, a'.eval (.const c) = c := fun _ => rfl
          generalize a'.eval = ρ at *
          go_simp
        · have p6 : val 6 = .bool true := hF.post 6 (by kernel_rfl)
          have r163 : a'.eval (.tmp 163) = .bool true := (hF.ev 163 6 rfl (by kernel_rfl) (of_decide_eq_true (by kernel_rfl))).trans p6
          have p8 : val 8 = .bool true := hF.post 8 (by kernel_rfl)
          have r165 : a'.eval (.tmp 165) = .bool true := (hF.ev 165 8 rfl (by kernel_rfl) (of_decide_eq_true (by kernel_rfl))).trans p8
          refine RK.owes_exec (v := .bool true) (w' := w') rfl (RK.wanted_any rfl) ?_ (Below.refl _ _) rfl
          have rk : ∀ c, a'.eval (.const c) = c := fun _ => rfl
          generalize a'.eval = ρ at *
          go_simp
        · have p9 : val 9 = .bool true := hF.post 9 (by kernel_rfl)
          have r166 : a'.eval (.tmp 166) = .bool true := (hF.ev 166 9 rfl (by kernel_rfl) (of_decide_eq_true (by kernel_rfl))).trans p9
          refine RK.owes_exec (v := .bool true) (w' := w') rfl (RK.wanted_any rfl) ?_ (Below.refl _ _) rfl
          have rk : ∀ c, a'.eval (.const c) = c := fun _ => rfl
          generalize a'.eval = ρ at *
          go_simp
        · have r15 : a'.eval (.tmp 15) = .int .i64 0 := (hF.old 15 (.inr rfl)).trans rfl
          have hwn : ∀ o : Oper, o.guard = some (10, true) → Region.wanted o _ = true := fun o h => RK.wanted_if h (hF.yields rfl rfl rfl (by kernel_rfl) (of_decide_eq_true (by kernel_rfl)) (hF.post 10 (by kernel_rfl)))
          refine RK.owes_exec (v := .int .i64 0) (w' := w') rfl (hwn _ rfl) ?_ (Below.refl _ _) rfl
          have rk : ∀ c, a'.eval (.const c) = c := fun _ => rfl
          generalize a'.eval = ρ at *
          go_simp
        · have p11 : val 11 = .int .i64 0 := hF.post 11 (by kernel_rfl)
          have r168 : a'.eval (.tmp 168) = .int .i64 0 := (hF.ev 168 11 rfl (by kernel_rfl) (of_decide_eq_true (by kernel_rfl))).trans p11
          have hwn : ∀ o : Oper, o.guard = some (10, true) → Region.wanted o _ = true := fun o h => RK.wanted_if h (hF.yields rfl rfl rfl (by kernel_rfl) (of_decide_eq_true (by kernel_rfl)) (hF.post 10 (by kernel_rfl)))
          refine RK.owes_exec (v := .bool true) (w' := w') rfl (hwn _ rfl) ?_ (Below.refl _ _) rfl
          have rk : ∀ c, a'.eval (.const c) = c := fun _ => rfl
          generalize a'.eval = ρ at *
          go_simp
        · have p10 : val 10 = .bool true := hF.post 10 (by kernel_rfl)
          have r167 : a'.eval (.tmp 167) = .bool true := (hF.ev 167 10 rfl (by kernel_rfl) (of_decide_eq_true (by kernel_rfl))).trans p10
          have p12 : val 12 = .bool true := hF.post 12 (by kernel_rfl)
          have r169 : a'.eval (.tmp 169) = .bool true := (hF.ev 169 12 rfl (by kernel_rfl) (of_decide_eq_true (by kernel_rfl))).trans p12
          refine RK.owes_exec (v := .bool true) (w' := w') rfl (RK.wanted_any rfl) ?_ (Below.refl _ _) rfl
          have rk : ∀ c, a'.eval (.const c) = c := fun _ => rfl
          generalize a'.eval = ρ at *
          go_simp
        · have p13 : val 13 = .bool true := hF.post 13 (by kernel_rfl)
          have r170 : a'.eval (.tmp 170) = .bool true := (hF.ev 170 13 rfl (by kernel_rfl) (of_decide_eq_true (by kernel_rfl))).trans p13
          refine RK.owes_exec (v := .bool true) (w' := w') rfl (RK.wanted_any rfl) ?_ (Below.refl _ _) rfl
          have rk : ∀ c, a'.eval (.const c) = c := fun _ => rfl
          generalize a'.eval = ρ at *
          go_simp
        · have r16 : a'.eval (.tmp 16) = .bool true := (hF.old 16 (.inr rfl)).trans rfl
          have hwn : ∀ o : Oper, o.guard = some (14, true) → Region.wanted o _ = true := fun o h => RK.wanted_if h (hF.yields rfl rfl rfl (by kernel_rfl) (of_decide_eq_true (by kernel_rfl)) (hF.post 14 (by kernel_rfl)))
          refine RK.owes_exec (v := .bool true) (w' := w') rfl (hwn _ rfl) ?_ (Below.refl _ _) rfl
          have rk : ∀ c, a'.eval (.const c) = c := fun _ => rfl
          generalize a'.eval = ρ at *
          go_simp
        · have p14 : val 14 = .bool true := hF.post 14 (by kernel_rfl)
          have r171 : a'.eval (.tmp 171) = .bool true := (hF.ev 171 14 rfl (by kernel_rfl) (of_decide_eq_true (by kernel_rfl))).trans p14
          have p15 : val 15 = .bool true := hF.post 15 (by kernel_rfl)
          have r172 : a'.eval (.tmp 172) = .bool true := (hF.ev 172 15 rfl (by kernel_rfl) (of_decide_eq_true (by kernel_rfl))).trans p15
          refine RK.owes_exec (v := .bool true) (w' := w') rfl (RK.wanted_any rfl) ?_ (Below.refl _ _) rfl
          have rk : ∀ c, a'.eval (.const c) = c := fun _ => rfl
          generalize a'.eval = ρ at *
          go_simp
        · have p16 : val 16 = .bool true := hF.post 16 (by kernel_rfl)
          have r173 : a'.eval (.tmp 173) = .bool true := (hF.ev 173 16 rfl (by kernel_rfl) (of_decide_eq_true (by kernel_rfl))).trans p16
          refine RK.owes_exec (v := .bool true) (w' := w') rfl (RK.wanted_any rfl) ?_ (Below.refl _ _) rfl
          have rk : ∀ c, a'.eval (.const c) = c := fun _ => rfl
          generalize a'.eval = ρ at *
          go_simp
        · have r17 : a'.eval (.tmp 17) = .int .i64 0 := (hF.old 17 (.inr rfl)).trans rfl
          have hwn : ∀ o : Oper, o.guard = some (17, true) → Region.wanted o _ = true := fun o h => RK.wanted_if h (hF.yields rfl rfl rfl (by kernel_rfl) (of_decide_eq_true (by kernel_rfl)) (hF.post 17 (by kernel_rfl)))
          refine RK.owes_exec (v := .int .i64 0) (w' := w') rfl (hwn _ rfl) ?_ (Below.refl _ _) rfl
          have rk : ∀ c, a'.eval (.const c) = c := fun _ => rfl
          generalize a'.eval = ρ at *
          go_simp
        · have p18 : val 18 = .int .i64 0 := hF.post 18 (by kernel_rfl)
          have r175 : a'.eval (.tmp 175) = .int .i64 0 := (hF.ev 175 18 rfl (by kernel_rfl) (of_decide_eq_true (by kernel_rfl))).trans p18
          have hwn : ∀ o : Oper, o.guard = some (17, true) → Region.wanted o _ = true := fun o h => RK.wanted_if h (hF.yields rfl rfl rfl (by kernel_rfl) (of_decide_eq_true (by kernel_rfl)) (hF.post 17 (by kernel_rfl)))
          refine RK.owes_exec (v := .bool true) (w' := w') rfl (hwn _ rfl) ?_ (Below.refl _ _) rfl
          have rk : ∀ c, a'.eval (.const c) = c := fun _ => rfl
          generalize a'.eval = ρ at *
          go_simp
        · have p17 : val 17 = .bool true := hF.post 17 (by kernel_rfl)
          have r174 : a'.eval (.tmp 174) = .bool true := (hF.ev 174 17 rfl (by kernel_rfl) (of_decide_eq_true (by kernel_rfl))).trans p17
          have p19 : val 19 = .bool true := hF.post 19 (by kernel_rfl)
          have r176 : a'.eval (.tmp 176) = .bool true := (hF.ev 176 19 rfl (by kernel_rfl) (of_decide_eq_true (by kernel_rfl))).trans p19
          refine RK.owes_exec (v := .bool true) (w' := w') rfl (RK.wanted_any rfl) ?_ (Below.refl _ _) rfl
          have rk : ∀ c, a'.eval (.const c) = c := fun _ => rfl
          generalize a'.eval = ρ at *
          go_simp
        · have p20 : val 20 = .bool true := hF.post 20 (by kernel_rfl)
          have r177 : a'.eval (.tmp 177) = .bool true := (hF.ev 177 20 rfl (by kernel_rfl) (of_decide_eq_true (by kernel_rfl))).trans p20
          refine RK.owes_exec (v := .bool true) (w' := w') rfl (RK.wanted_any rfl) ?_ (Below.refl _ _) rfl
          have rk : ∀ c, a'.eval (.const c) = c := fun _ => rfl
          generalize a'.eval = ρ at *
          go_simp
        · have r18 : a'.eval (.tmp 18) = .bool true := (hF.old 18 (.inr rfl)).trans rfl
          have hwn : ∀ o : Oper, o.guard = some (21, true) → Region.wanted o _ = true := fun o h => RK.wanted_if h (hF.yields rfl rfl rfl (by kernel_rfl) (of_decide_eq_true (by kernel_rfl)) (hF.post 21 (by kernel_rfl)))
          refine RK.owes_exec (v := .bool true) (w' := w') rfl (hwn _ rfl) ?_ (Below.refl _ _) rfl
          have rk : ∀ c, a'.eval (.const c) = c := fun _ => rfl
          generalize a'.eval = ρ at *
          go_simp
        · have p21 : val 21 = .bool true := hF.post 21 (by kernel_rfl)
          have r178 : a'.eval (.tmp 178) = .bool true := (hF.ev 178 21 rfl (by kernel_rfl) (of_decide_eq_true (by kernel_rfl))).trans p21
          have p22 : val 22 = .bool true := hF.post 22 (by kernel_rfl)
          have r179 : a'.eval (.tmp 179) = .bool true := (hF.ev 179 22 rfl (by kernel_rfl) (of_decide_eq_true (by kernel_rfl))).trans p22
          refine RK.owes_exec (v := .bool true) (w' := w') rfl (RK.wanted_any rfl) ?_ (Below.refl _ _) rfl
          have rk : ∀ c, a'.eval (.const c) = c := fun _ => rfl
          generalize a'.eval = ρ at *
          go_simp
        · have p23 : val 23 = .bool true := hF.post 23 (by kernel_rfl)
          have r180 : a'.eval (.tmp 180) = .bool true := (hF.ev 180 23 rfl (by kernel_rfl) (of_decide_eq_true (by kernel_rfl))).trans p23
          refine RK.owes_exec (v := .bool true) (w' := w') rfl (RK.wanted_any rfl) ?_ (Below.refl _ _) rfl
          have rk : ∀ c, a'.eval (.const c) = c := fun _ => rfl
          generalize a'.eval = ρ at *
          go_simp
        · have r11 : a'.eval (.tmp 11) = ptr B := (hF.old 11 (.inr rfl)).trans rfl
          have hwn : ∀ o : Oper, o.guard = some (24, true) → Region.wanted o _ = true := fun o h => RK.wanted_if h (hF.yields rfl rfl rfl (by kernel_rfl) (of_decide_eq_true (by kernel_rfl)) (hF.post 24 (by kernel_rfl)))
          refine RK.owes_exec (v := ptr B) (w' := w') rfl (hwn _ rfl) ?_ (Below.refl _ _) rfl
          have rk : ∀ c, a'.eval (.const c) = c := fun _ => rfl
          generalize a'.eval = ρ at *
          go_simp
        · have p25 : val 25 = ptr B := hF.post 25 (by kernel_rfl)
          have r182 : a'.eval (.tmp 182) = ptr B := (hF.ev 182 25 rfl (by kernel_rfl) (of_decide_eq_true (by kernel_rfl))).trans p25
          have hwn : ∀ o : Oper, o.guard = some (24, true) → Region.wanted o _ = true := fun o h => RK.wanted_if h (hF.yields rfl rfl rfl (by kernel_rfl) (of_decide_eq_true (by kernel_rfl)) (hF.post 24 (by kernel_rfl)))
          refine RK.owes_call (g := 19) (args := #[ptr B, .int .i64 32768]) rfl (hwn _ rfl) ?_ ?_
          · have rk : ∀ c, a'.eval (.const c) = c := fun _ => rfl
            have rf : ∀ f, a'.eval (.func f) = .func (.func f) #[] #[] := fun _ => rfl
            generalize a'.eval = ρ at *
            go_simp
          · refine (P12.out _ hF.S).mono ?_
            rintro e w2 ⟨rfl, hb⟩
            exact ⟨_, rfl, hb, rfl⟩
        · have p26 : val 26 = .string G1 := hF.post 26 (by kernel_rfl)
          have r183 : a'.eval (.tmp 183) = .string G1 := (hF.ev 183 26 rfl (by kernel_rfl) (of_decide_eq_true (by kernel_rfl))).trans p26
          have hwn : ∀ o : Oper, o.guard = some (24, true) → Region.wanted o _ = true := fun o h => RK.wanted_if h (hF.yields rfl rfl rfl (by kernel_rfl) (of_decide_eq_true (by kernel_rfl)) (hF.post 24 (by kernel_rfl)))
          have xx := x1
          have gg := g1
          refine RK.owes_exec (v := .string q1) (w' := w') rfl (hwn _ rfl) ?_ (Below.refl _ _) rfl
          have rk : ∀ c, a'.eval (.const c) = c := fun _ => rfl
          generalize a'.eval = ρ at *
          go_simp
        · have hwn : ∀ o : Oper, o.guard = some (24, true) → Region.wanted o _ = true := fun o h => RK.wanted_if h (hF.yields rfl rfl rfl (by kernel_rfl) (of_decide_eq_true (by kernel_rfl)) (hF.post 24 (by kernel_rfl)))
          refine RK.owes_exec (v := .slice (some ⟨w'.heap.size, 0, none⟩) 3 3) (w' := (w'.alloc (.cells #[.int .i64 2, .int .i64 1, .int .i64 2] 3))) rfl (hwn _ rfl) ?_ (below_box _ _) ⟨_, rfl, heap_alloc_new w' _⟩
          have rk : ∀ c, a'.eval (.const c) = c := fun _ => rfl
          generalize a'.eval = ρ at *
          go_simp
        · obtain ⟨b28, e28, h28⟩ : ∃ b, val 28 = .slice (some ⟨b, 0, none⟩) 3 3 ∧ Row3 2 1 2 b w' := (hF.post 28 (by kernel_rfl))
          have r185 : a'.eval (.tmp 185) = .slice (some ⟨b28, 0, none⟩) 3 3 := (hF.ev 185 28 rfl (by kernel_rfl) (of_decide_eq_true (by kernel_rfl))).trans e28
          have hwn : ∀ o : Oper, o.guard = some (24, true) → Region.wanted o _ = true := fun o h => RK.wanted_if h (hF.yields rfl rfl rfl (by kernel_rfl) (of_decide_eq_true (by kernel_rfl)) (hF.post 24 (by kernel_rfl)))
          refine RK.owes_call (g := 13) (args := #[.slice (some ⟨b28, 0, none⟩) 3 3]) rfl (hwn _ rfl) ?_ ?_
          · have rk : ∀ c, a'.eval (.const c) = c := fun _ => rfl
            have rf : ∀ f, a'.eval (.func f) = .func (.func f) #[] #[] := fun _ => rfl
            generalize a'.eval = ρ at *
            go_simp
          · refine (N1.out _ _ h28).mono ?_
            rintro e w2 ⟨rfl, hb⟩
            exact ⟨_, rfl, hb, rfl⟩
        · have p27 : val 27 = .string q1 := hF.post 27 (by kernel_rfl)
          have r184 : a'.eval (.tmp 184) = .string q1 := (hF.ev 184 27 rfl (by kernel_rfl) (of_decide_eq_true (by kernel_rfl))).trans p27
          have p29 : val 29 = .string q1 := hF.post 29 (by kernel_rfl)
          have r186 : a'.eval (.tmp 186) = .string q1 := (hF.ev 186 29 rfl (by kernel_rfl) (of_decide_eq_true (by kernel_rfl))).trans p29
          have hwn : ∀ o : Oper, o.guard = some (24, true) → Region.wanted o _ = true := fun o h => RK.wanted_if h (hF.yields rfl rfl rfl (by kernel_rfl) (of_decide_eq_true (by kernel_rfl)) (hF.post 24 (by kernel_rfl)))
          refine RK.owes_exec (v := .bool true) (w' := w') rfl (hwn _ rfl) ?_ (Below.refl _ _) rfl
          have rk : ∀ c, a'.eval (.const c) = c := fun _ => rfl
          generalize a'.eval = ρ at *
          go_simp
        · have p24 : val 24 = .bool true := hF.post 24 (by kernel_rfl)
          have r181 : a'.eval (.tmp 181) = .bool true := (hF.ev 181 24 rfl (by kernel_rfl) (of_decide_eq_true (by kernel_rfl))).trans p24
          have p30 : val 30 = .bool true := hF.post 30 (by kernel_rfl)
          have r187 : a'.eval (.tmp 187) = .bool true := (hF.ev 187 30 rfl (by kernel_rfl) (of_decide_eq_true (by kernel_rfl))).trans p30
          refine RK.owes_exec (v := .bool true) (w' := w') rfl (RK.wanted_any rfl) ?_ (Below.refl _ _) rfl
          have rk : ∀ c, a'.eval (.const c) = c := fun _ => rfl
          generalize a'.eval = ρ at *
          go_simp
        · have p31 : val 31 = .bool true := hF.post 31 (by kernel_rfl)
          have r188 : a'.eval (.tmp 188) = .bool true := (hF.ev 188 31 rfl (by kernel_rfl) (of_decide_eq_true (by kernel_rfl))).trans p31
          refine RK.owes_exec (v := .bool true) (w' := w') rfl (RK.wanted_any rfl) ?_ (Below.refl _ _) rfl
          have rk : ∀ c, a'.eval (.const c) = c := fun _ => rfl
          generalize a'.eval = ρ at *
          go_simp
        · have r11 : a'.eval (.tmp 11) = ptr B := (hF.old 11 (.inr rfl)).trans rfl
          have hwn : ∀ o : Oper, o.guard = some (32, true) → Region.wanted o _ = true := fun o h => RK.wanted_if h (hF.yields rfl rfl rfl (by kernel_rfl) (of_decide_eq_true (by kernel_rfl)) (hF.post 32 (by kernel_rfl)))
          refine RK.owes_exec (v := ptr B) (w' := w') rfl (hwn _ rfl) ?_ (Below.refl _ _) rfl
          have rk : ∀ c, a'.eval (.const c) = c := fun _ => rfl
          generalize a'.eval = ρ at *
          go_simp
        · have p33 : val 33 = ptr B := hF.post 33 (by kernel_rfl)
          have r190 : a'.eval (.tmp 190) = ptr B := (hF.ev 190 33 rfl (by kernel_rfl) (of_decide_eq_true (by kernel_rfl))).trans p33
          have hwn : ∀ o : Oper, o.guard = some (32, true) → Region.wanted o _ = true := fun o h => RK.wanted_if h (hF.yields rfl rfl rfl (by kernel_rfl) (of_decide_eq_true (by kernel_rfl)) (hF.post 32 (by kernel_rfl)))
          refine RK.owes_call (g := 19) (args := #[ptr B, .int .i64 0]) rfl (hwn _ rfl) ?_ ?_
          · have rk : ∀ c, a'.eval (.const c) = c := fun _ => rfl
            have rf : ∀ f, a'.eval (.func f) = .func (.func f) #[] #[] := fun _ => rfl
            generalize a'.eval = ρ at *
            go_simp
          · refine (P13.out _ hF.S).mono ?_
            rintro e w2 ⟨rfl, hb⟩
            exact ⟨_, rfl, hb, rfl⟩
        · have p34 : val 34 = .string G2 := hF.post 34 (by kernel_rfl)
          have r191 : a'.eval (.tmp 191) = .string G2 := (hF.ev 191 34 rfl (by kernel_rfl) (of_decide_eq_true (by kernel_rfl))).trans p34
          have hwn : ∀ o : Oper, o.guard = some (32, true) → Region.wanted o _ = true := fun o h => RK.wanted_if h (hF.yields rfl rfl rfl (by kernel_rfl) (of_decide_eq_true (by kernel_rfl)) (hF.post 32 (by kernel_rfl)))
          have xx := x2
          have gg := g2
          refine RK.owes_exec (v := .string q2) (w' := w') rfl (hwn _ rfl) ?_ (Below.refl _ _) rfl
          have rk : ∀ c, a'.eval (.const c) = c := fun _ => rfl
          generalize a'.eval = ρ at *
          go_simp
        · have hwn : ∀ o : Oper, o.guard = some (32, true) → Region.wanted o _ = true := fun o h => RK.wanted_if h (hF.yields rfl rfl rfl (by kernel_rfl) (of_decide_eq_true (by kernel_rfl)) (hF.post 32 (by kernel_rfl)))
          refine RK.owes_exec (v := .slice (some ⟨w'.heap.size, 0, none⟩) 3 3) (w' := (w'.alloc (.cells #[.int .i64 3, .int .i64 1, .int .i64 3] 3))) rfl (hwn _ rfl) ?_ (below_box _ _) ⟨_, rfl, heap_alloc_new w' _⟩
          have rk : ∀ c, a'.eval (.const c) = c := fun _ => rfl
          generalize a'.eval = ρ at *
          go_simp
        · obtain ⟨b36, e36, h36⟩ : ∃ b, val 36 = .slice (some ⟨b, 0, none⟩) 3 3 ∧ Row3 3 1 3 b w' := (hF.post 36 (by kernel_rfl))
          have r193 : a'.eval (.tmp 193) = .slice (some ⟨b36, 0, none⟩) 3 3 := (hF.ev 193 36 rfl (by kernel_rfl) (of_decide_eq_true (by kernel_rfl))).trans e36
          have hwn : ∀ o : Oper, o.guard = some (32, true) → Region.wanted o _ = true := fun o h => RK.wanted_if h (hF.yields rfl rfl rfl (by kernel_rfl) (of_decide_eq_true (by kernel_rfl)) (hF.post 32 (by kernel_rfl)))
          refine RK.owes_call (g := 13) (args := #[.slice (some ⟨b36, 0, none⟩) 3 3]) rfl (hwn _ rfl) ?_ ?_
          · have rk : ∀ c, a'.eval (.const c) = c := fun _ => rfl
            have rf : ∀ f, a'.eval (.func f) = .func (.func f) #[] #[] := fun _ => rfl
            generalize a'.eval = ρ at *
            go_simp
          · refine (N2.out _ _ h36).mono ?_
            rintro e w2 ⟨rfl, hb⟩
            exact ⟨_, rfl, hb, rfl⟩
        · have p35 : val 35 = .string q2 := hF.post 35 (by kernel_rfl)
          have r192 : a'.eval (.tmp 192) = .string q2 := (hF.ev 192 35 rfl (by kernel_rfl) (of_decide_eq_true (by kernel_rfl))).trans p35
          have p37 : val 37 = .string q2 := hF.post 37 (by kernel_rfl)
          have r194 : a'.eval (.tmp 194) = .string q2 := (hF.ev 194 37 rfl (by kernel_rfl) (of_decide_eq_true (by kernel_rfl))).trans p37
          have hwn : ∀ o : Oper, o.guard = some (32, true) → Region.wanted o _ = true := fun o h => RK.wanted_if h (hF.yields rfl rfl rfl (by kernel_rfl) (of_decide_eq_true (by kernel_rfl)) (hF.post 32 (by kernel_rfl)))
          refine RK.owes_exec (v := .bool true) (w' := w') rfl (hwn _ rfl) ?_ (Below.refl _ _) rfl
          have rk : ∀ c, a'.eval (.const c) = c := fun _ => rfl
          generalize a'.eval = ρ at *
          go_simp
        · have p32 : val 32 = .bool true := hF.post 32 (by kernel_rfl)
          have r189 : a'.eval (.tmp 189) = .bool true := (hF.ev 189 32 rfl (by kernel_rfl) (of_decide_eq_true (by kernel_rfl))).trans p32
          have p38 : val 38 = .bool true := hF.post 38 (by kernel_rfl)
          have r195 : a'.eval (.tmp 195) = .bool true := (hF.ev 195 38 rfl (by kernel_rfl) (of_decide_eq_true (by kernel_rfl))).trans p38
          refine RK.owes_exec (v := .bool true) (w' := w') rfl (RK.wanted_any rfl) ?_ (Below.refl _ _) rfl
          have rk : ∀ c, a'.eval (.const c) = c := fun _ => rfl
          generalize a'.eval = ρ at *
          go_simp
        · have p39 : val 39 = .bool true := hF.post 39 (by kernel_rfl)
          have r196 : a'.eval (.tmp 196) = .bool true := (hF.ev 196 39 rfl (by kernel_rfl) (of_decide_eq_true (by kernel_rfl))).trans p39
          refine RK.owes_exec (v := .bool true) (w' := w') rfl (RK.wanted_any rfl) ?_ (Below.refl _ _) rfl
          have rk : ∀ c, a'.eval (.const c) = c := fun _ => rfl
          generalize a'.eval = ρ at *
          go_simp
        · have r11 : a'.eval (.tmp 11) = ptr B := (hF.old 11 (.inr rfl)).trans rfl
          have hwn : ∀ o : Oper, o.guard = some (40, true) → Region.wanted o _ = true := fun o h => RK.wanted_if h (hF.yields rfl rfl rfl (by kernel_rfl) (of_decide_eq_true (by kernel_rfl)) (hF.post 40 (by kernel_rfl)))
          refine RK.owes_exec (v := ptr B) (w' := w') rfl (hwn _ rfl) ?_ (Below.refl _ _) rfl
          have rk : ∀ c, a'.eval (.const c) = c := fun _ => rfl
          generalize a'.eval = ρ at *
          go_simp
        · have p41 : val 41 = ptr B := hF.post 41 (by kernel_rfl)
          have r198 : a'.eval (.tmp 198) = ptr B := (hF.ev 198 41 rfl (by kernel_rfl) (of_decide_eq_true (by kernel_rfl))).trans p41
          have hwn : ∀ o : Oper, o.guard = some (40, true) → Region.wanted o _ = true := fun o h => RK.wanted_if h (hF.yields rfl rfl rfl (by kernel_rfl) (of_decide_eq_true (by kernel_rfl)) (hF.post 40 (by kernel_rfl)))
          refine RK.owes_call (g := 19) (args := #[ptr B, .int .i64 1]) rfl (hwn _ rfl) ?_ ?_
          · have rk : ∀ c, a'.eval (.const c) = c := fun _ => rfl
            have rf : ∀ f, a'.eval (.func f) = .func (.func f) #[] #[] := fun _ => rfl
            generalize a'.eval = ρ at *
            go_simp
          · refine (P14.out _ hF.S).mono ?_
            rintro e w2 ⟨rfl, hb⟩
            exact ⟨_, rfl, hb, rfl⟩
        · have p42 : val 42 = .string G3 := hF.post 42 (by kernel_rfl)
          have r199 : a'.eval (.tmp 199) = .string G3 := (hF.ev 199 42 rfl (by kernel_rfl) (of_decide_eq_true (by kernel_rfl))).trans p42
          have hwn : ∀ o : Oper, o.guard = some (40, true) → Region.wanted o _ = true := fun o h => RK.wanted_if h (hF.yields rfl rfl rfl (by kernel_rfl) (of_decide_eq_true (by kernel_rfl)) (hF.post 40 (by kernel_rfl)))
          have xx := x3
          have gg := g3
          refine RK.owes_exec (v := .string ⟨#[101, 0]⟩) (w' := w') rfl (hwn _ rfl) ?_ (Below.refl _ _) rfl
          have rk : ∀ c, a'.eval (.const c) = c := fun _ => rfl
          generalize a'.eval = ρ at *
          go_simp
        · have p43 : val 43 = .string ⟨#[101, 0]⟩ := hF.post 43 (by kernel_rfl)
          have r200 : a'.eval (.tmp 200) = .string ⟨#[101, 0]⟩ := (hF.ev 200 43 rfl (by kernel_rfl) (of_decide_eq_true (by kernel_rfl))).trans p43
          have hwn : ∀ o : Oper, o.guard = some (40, true) → Region.wanted o _ = true := fun o h => RK.wanted_if h (hF.yields rfl rfl rfl (by kernel_rfl) (of_decide_eq_true (by kernel_rfl)) (hF.post 40 (by kernel_rfl)))
          refine RK.owes_exec (v := .bool true) (w' := w') rfl (hwn _ rfl) ?_ (Below.refl _ _) rfl
          have rk : ∀ c, a'.eval (.const c) = c := fun _ => rfl
          generalize a'.eval = ρ at *
          go_simp
        · have p40 : val 40 = .bool true := hF.post 40 (by kernel_rfl)
          have r197 : a'.eval (.tmp 197) = .bool true := (hF.ev 197 40 rfl (by kernel_rfl) (of_decide_eq_true (by kernel_rfl))).trans p40
          have p44 : val 44 = .bool true := hF.post 44 (by kernel_rfl)
          have r201 : a'.eval (.tmp 201) = .bool true := (hF.ev 201 44 rfl (by kernel_rfl) (of_decide_eq_true (by kernel_rfl))).trans p44
          refine RK.owes_exec (v := .bool true) (w' := w') rfl (RK.wanted_any rfl) ?_ (Below.refl _ _) rfl
          have rk : ∀ c, a'.eval (.const c) = c := fun _ => rfl
          generalize a'.eval = ρ at *
          go_simp
        · have p45 : val 45 = .bool true := hF.post 45 (by kernel_rfl)
          have r202 : a'.eval (.tmp 202) = .bool true := (hF.ev 202 45 rfl (by kernel_rfl) (of_decide_eq_true (by kernel_rfl))).trans p45
          refine RK.owes_exec (v := .bool true) (w' := w') rfl (RK.wanted_any rfl) ?_ (Below.refl _ _) rfl
          have rk : ∀ c, a'.eval (.const c) = c := fun _ => rfl
          generalize a'.eval = ρ at *
          go_simp
        · have r11 : a'.eval (.tmp 11) = ptr B := (hF.old 11 (.inr rfl)).trans rfl
          have hwn : ∀ o : Oper, o.guard = some (46, true) → Region.wanted o _ = true := fun o h => RK.wanted_if h (hF.yields rfl rfl rfl (by kernel_rfl) (of_decide_eq_true (by kernel_rfl)) (hF.post 46 (by kernel_rfl)))
          refine RK.owes_exec (v := ptr B) (w' := w') rfl (hwn _ rfl) ?_ (Below.refl _ _) rfl
          have rk : ∀ c, a'.eval (.const c) = c := fun _ => rfl
          generalize a'.eval = ρ at *
          go_simp
        · have p47 : val 47 = ptr B := hF.post 47 (by kernel_rfl)
          have r204 : a'.eval (.tmp 204) = ptr B := (hF.ev 204 47 rfl (by kernel_rfl) (of_decide_eq_true (by kernel_rfl))).trans p47
          have hwn : ∀ o : Oper, o.guard = some (46, true) → Region.wanted o _ = true := fun o h => RK.wanted_if h (hF.yields rfl rfl rfl (by kernel_rfl) (of_decide_eq_true (by kernel_rfl)) (hF.post 46 (by kernel_rfl)))
          refine RK.owes_call (g := 20) (args := #[ptr B]) rfl (hwn _ rfl) ?_ ?_
          · have rk : ∀ c, a'.eval (.const c) = c := fun _ => rfl
            have rf : ∀ f, a'.eval (.func f) = .func (.func f) #[] #[] := fun _ => rfl
            generalize a'.eval = ρ at *
            go_simp
          · refine (P15.out _ hF.S).mono ?_
            rintro e w2 ⟨rfl, hb⟩
            exact ⟨_, rfl, hb, rfl⟩
        · have p48 : val 48 = .int .i64 0 := hF.post 48 (by kernel_rfl)
          have r205 : a'.eval (.tmp 205) = .int .i64 0 := (hF.ev 205 48 rfl (by kernel_rfl) (of_decide_eq_true (by kernel_rfl))).trans p48
          have hwn : ∀ o : Oper, o.guard = some (46, true) → Region.wanted o _ = true := fun o h => RK.wanted_if h (hF.yields rfl rfl rfl (by kernel_rfl) (of_decide_eq_true (by kernel_rfl)) (hF.post 46 (by kernel_rfl)))
          refine RK.owes_exec (v := .bool true) (w' := w') rfl (hwn _ rfl) ?_ (Below.refl _ _) rfl
          have rk : ∀ c, a'.eval (.const c) = c := fun _ => rfl
          generalize a'.eval = ρ at *
          go_simp
        · have p46 : val 46 = .bool true := hF.post 46 (by kernel_rfl)
          have r203 : a'.eval (.tmp 203) = .bool true := (hF.ev 203 46 rfl (by kernel_rfl) (of_decide_eq_true (by kernel_rfl))).trans p46
          have p49 : val 49 = .bool true := hF.post 49 (by kernel_rfl)
          have r206 : a'.eval (.tmp 206) = .bool true := (hF.ev 206 49 rfl (by kernel_rfl) (of_decide_eq_true (by kernel_rfl))).trans p49
          refine RK.owes_exec (v := .bool true) (w' := w') rfl (RK.wanted_any rfl) ?_ (Below.refl _ _) rfl
          have rk : ∀ c, a'.eval (.const c) = c := fun _ => rfl
          generalize a'.eval = ρ at *
          go_simp
        · have p50 : val 50 = .bool true := hF.post 50 (by kernel_rfl)
          have r207 : a'.eval (.tmp 207) = .bool true := (hF.ev 207 50 rfl (by kernel_rfl) (of_decide_eq_true (by kernel_rfl))).trans p50
          refine RK.owes_exec (v := .bool true) (w' := w') rfl (RK.wanted_any rfl) ?_ (Below.refl _ _) rfl
          have rk : ∀ c, a'.eval (.const c) = c := fun _ => rfl
          generalize a'.eval = ρ at *
          go_simp
      · have hz : val 51 = .bool true := hp 51 (of_decide_eq_true (by kernel_rfl))
        simp only [RK.slotsL, if_true, hz]
        clear hp
        go_wp2_with fail
        go_ret
        exact ⟨rfl, hw.below⟩
end M
end Go.Proofs.YtoacmingocmaaaaDoor

/- The examples, the limits, what is wrong first, and stays, nobody's reader. -/
import Derived.Test.YtaijnejbffnfpaaRows
import Derived.Test.YtaijnejbffnfpaaWB1
import Derived.Test.YtaijnejbffnfpaaWB15
import Derived.Test.YtaijnejbffnfpaaWB10
namespace Go.Proofs.Ytaijnejbffnfpaa
open Go.ChangeShapes Go.WideShapes Go.ChangeAt Go.RowKit
namespace WireNames
open M

set_option maxHeartbeats 16000000 in
set_option maxRecDepth 100000 in
theorem walk (W : World) : Calls Try.prog 3 #[] W fun e w' => e = .returned (.bool true) ∧ Below W.heap.size W w' := by
  go_enter Try.func3, Try.ntmps3
  go_upto_region 8 with (first
    | (go_at_call 10; (with_reducible refine (byte_nil _).mono ?_); rintro e w1 ⟨rfl, hb⟩; have HB1 := Lib.hid (hb); clear hb)
    | (go_at_call 11; (with_reducible refine (num_nil _).mono ?_); rintro e w2 ⟨rfl, hb⟩; have HB2 := Lib.hid (HB1.out.trans (hb.mono HB1.out.size)); clear hb)
    | (go_at_call 12; (with_reducible refine (int_nil _).mono ?_); rintro e w3 ⟨rfl, hb⟩; have HB3 := Lib.hid (HB2.out.trans (hb.mono HB2.out.size)); clear hb)
    | (go_at_call 13; (with_reducible refine (count_nil 9 _).mono ?_); rintro e w4 ⟨rfl, hb⟩; have HB4 := Lib.hid (HB3.out.trans (hb.mono HB3.out.size)); clear hb)
    | (go_at_call 14; (with_reducible refine (text_nil _).mono ?_); rintro e w5 ⟨rfl, hb⟩; have HB5 := Lib.hid (HB4.out.trans (hb.mono HB4.out.size)); clear hb)
    | (go_at_call 15; (with_reducible refine (list_nil _).mono ?_); rintro e w6 ⟨rfl, hb⟩; have HB6 := Lib.hid (HB5.out.trans (hb.mono HB5.out.size)); clear hb))
  clear HB1 HB2 HB3 HB4 HB5
  go_upto_region 10 with (first
    | (go_at_call 16; (with_reducible refine (awake_any _).mono ?_); rintro e w7 ⟨rfl, hb⟩; have HB7 := Lib.hid (HB6.out.trans (hb.mono HB6.out.size)); clear hb)
    | (go_at_call 17; (with_reducible refine (end_nil _).mono ?_); rintro e w8 ⟨rfl, rfl⟩)
    | (go_at_call 18; (with_reducible refine (wrong_nil _).mono ?_); rintro e w8 ⟨rfl, rfl⟩)
    | (go_at_call 19; (with_reducible refine (left_nil _).mono ?_); rintro e w8 ⟨rfl, rfl⟩))
  clear HB6
  go_wp2_with fail
  obtain ⟨wt, hwt⟩ : ∃ wt, w8.alloc (.cells #[.string ⟨#[]⟩, .int .u8 0, .int .i64 0, .int .i64 8, .string ⟨#[49, 50, 51, 52, 53, 54, 55]⟩, .int .u8 1, .int .i64 0, .int .i64 8, .string ⟨#[]⟩, .int .u8 2, .int .i64 0, .int .i64 8, .string ⟨#[0]⟩, .int .u8 3, .int .i64 0, .int .i64 8, .string ⟨#[0, 2, 97]⟩, .int .u8 3, .int .i64 0, .int .i64 8, .string ⟨#[8, 1]⟩, .int .u8 3, .int .i64 0, .int .i64 40, .string ⟨#[8, 0]⟩, .int .u8 3, .int .i64 0, .int .i64 8, .string ⟨#[0, 0]⟩, .int .u8 3, .int .i64 0, .int .i64 0, .string ⟨#[4, 1]⟩, .int .u8 4, .int .i64 0, .int .i64 40, .string ⟨#[0, 1, 49, 50, 51, 52, 53, 54, 55]⟩, .int .u8 4, .int .i64 0, .int .i64 8, .string ⟨#[0, 1]⟩, .int .u8 4, .int .i64 0, .int .i64 8, .string ⟨#[0]⟩, .int .u8 4, .int .i64 0, .int .i64 8, .string ⟨#[0, 0, 0, 0, 0, 0, 0, 5]⟩, .int .u8 5, .int .i64 4, .int .i64 4, .string ⟨#[0, 0, 0, 0, 0, 0, 0, 0]⟩, .int .u8 5, .int .i64 (-1), .int .i64 4, .string ⟨#[128, 0, 0, 0, 0, 0, 0, 5]⟩, .int .u8 5, .int .i64 9223372036854775807, .int .i64 4, .string ⟨#[0, 0, 0, 0, 0, 0, 5]⟩, .int .u8 5, .int .i64 9, .int .i64 8, .string ⟨#[0, 0, 0, 0, 0, 0, 0, 5]⟩, .int .u8 5, .int .i64 5, .int .i64 0] 41) = wt := ⟨_, rfl⟩
  have HT : Hid (∀ k, k < 17 → wt.rangeAt w8.heap.size (k * 4) [.string ⟨(tS.getD k []).toArray⟩, .int .u8 ((tK.getD k 0 : Nat) : Int), .int .i64 (tM.getD k 0), .int .i64 (tE.getD k 0)]) := by rw [← hwt]; exact Lib.hid (fun k hk => tab_at w8 _ k hk)
  have HBT : Hid (Below W.heap.size W wt) := by rw [← hwt]; exact Lib.hid (HB7.out.alloc HB7.out.size _)
  obtain ⟨D, hD⟩ : ∃ D, w8.heap.size = D := ⟨_, rfl⟩
  rw [hD] at HT ⊢
  rw [hwt]
  clear hwt hD HB7
  go_loopw [125] (fun s125 wx => ∃ k : Nat, k ≤ 17 ∧ s125 = .int .i64 (k : Int) ∧ Hid (Below wt.heap.size wt wx)) (fun s125 _ => 17 - (RowKit.intOf s125).toNat)
  case atStart => exact ⟨0, Nat.zero_le _, rfl, Lib.hid (Below.refl _ _)⟩
  case round =>
    obtain ⟨k, hk, rfl, HBX⟩ := hrel
    have hk0 : (0 : Int) ≤ (k : Int) := Int.natCast_nonneg _
    by_cases hlt : k < 17
    · have hk1 : (k : Int) < 17 := by omega
      have HR := Lib.hid (range_below (HT.out k hlt) HBX.out)
      have HOK := Lib.hid (tab_ok k hlt)
      have HBW := Lib.hid (HBT.out.trans (HBX.out.mono HBT.out.size))
      generalize tS.getD k [] = s at *
      generalize tK.getD k 0 = kd at *
      generalize tM.getD k 0 = mo at *
      generalize tE.getD k 0 = er at *
      have hs20 : s.length ≤ 20 := HOK.out.1
      have hmo := HOK.out.2.2.1
      have HO := fun w => open_any s (by omega) w
      have had := fun w => add_str s [] (by omega) (by simp) w
      simp only [List.append_nil] at had
      have hbox : ∀ u, Below (wr.alloc (.cells #[.string ⟨s.toArray⟩, .int .u8 (kd : Int), .int .i64 mo, .int .i64 er] 41)).heap.size (wr.alloc (.cells #[.string ⟨s.toArray⟩, .int .u8 (kd : Int), .int .i64 mo, .int .i64 er] 41)) u → u.heap[wr.heap.size]? = some (.cells #[.string ⟨s.toArray⟩, .int .u8 (kd : Int), .int .i64 mo, .int .i64 er] 41 (0, 0)) := fun u hu => (hu.block _ (by simp)).trans (heap_alloc_new wr _)
      have HBOX := Lib.hid hbox
      have HBb := Lib.hid (HBW.out.alloc HBW.out.size (.cells #[.string ⟨s.toArray⟩, .int .u8 (kd : Int), .int .i64 mo, .int .i64 er] 41))
      have hgbl : wr.heap.size < (wr.alloc (.cells #[.string ⟨s.toArray⟩, .int .u8 (kd : Int), .int .i64 mo, .int .i64 er] 41)).heap.size := by simp
      have HGL := Lib.hid hgbl
      clear hbox hgbl
      go_upto_region 13 with (refine wpList_load_mid rfl 41 _ rfl D (k * 4) rfl [.string ⟨s.toArray⟩, .int .u8 (kd : Int), .int .i64 mo, .int .i64 er] _ HR.out Try.underlying41 rfl (by kernel_rfl) ?_)
      obtain ⟨wb, hwb⟩ : ∃ wb, wr.alloc (.cells #[.string ⟨s.toArray⟩, .int .u8 (kd : Int), .int .i64 mo, .int .i64 er] 41) = wb := ⟨_, rfl⟩
      rw [hwb] at HBOX HBb HGL ⊢
      obtain ⟨gb, hgb⟩ : ∃ gb, wr.heap.size = gb := ⟨_, rfl⟩
      rw [hgb] at HBOX HGL ⊢
      have HBK := Lib.hid (show Below wt.heap.size wt wb by rw [← hwb]; exact HBX.out.alloc HBX.out.size _)
      clear hwb hgb HR HBX
      have hb0 : wb.cell? ⟨gb, 0, none⟩ = some (.string ⟨s.toArray⟩) := (cell_of_row wb gb 0 _ _ _ (HBOX.out wb (Below.refl _ _))).trans rfl
      go_upto_region 15 with (go_at_call 20; (with_reducible refine (HO _).mono ?_); rintro e w2 ⟨g, rfl, hg, hr, hb2⟩; have HN : Hid (NK W g gb #[.string ⟨s.toArray⟩, .int .u8 (kd : Int), .int .i64 mo, .int .i64 er] 41 s 0 w2) := Lib.hid ⟨⟨hr, HBb.out.trans (hb2.mono HBb.out.size), Nat.le_trans HBb.out.size hg⟩, HBOX.out w2 hb2, fun e => by have := HGL.out; omega⟩; have HTW := Lib.hid (HBK.out.trans (hb2.mono HBK.out.size)); have HGT : Hid (wt.heap.size ≤ g) := Lib.hid (Nat.le_trans HBK.out.size hg); clear hb2 hg hr)
      clear hb0 HO had HBOX HBb HGL HBK
      have hb1 : w2.cell? ⟨gb, 1, none⟩ = some (.int .u8 (kd : Int)) := (cell_of_row w2 gb 1 _ _ _ HN.out.box).trans rfl
      have hb2 : w2.cell? ⟨gb, 2, none⟩ = some (.int .i64 mo) := (cell_of_row w2 gb 2 _ _ _ HN.out.box).trans rfl
      by_cases h5 : kd = 5
      · have q5 : ((kd : Int) == 5) = true := by simp [h5]
        have HC := count_ask g s 0 mo hmo w2 HN.out.rg.rg
        rw [HOK.out.2.2.2.1 h5] at HC
        have HC := Lib.hid HC
        clear h5
        go_upto_region 18 with (go_at_call 13; (with_reducible refine HC.out.mono ?_); rintro e w3 ⟨rfl, hr3, ht3⟩; have HN3 := Lib.hid (HN.out.next hr3 ht3); have HT3 := Lib.hid (HTW.out.trans (ht3.below HGT.out HTW.out.size)); clear hr3 ht3)
        clear hb1 hb2 HN HTW
        have hL := fun n => InG.left HN3.out.rg n
        have hWr := fun n => InG.wrong HN3.out.rg n
        have hb3 : w3.cell? ⟨gb, 3, none⟩ = some (.int .i64 er) := (cell_of_row w3 gb 3 _ _ _ HN3.out.box).trans rfl
        go_quiet (first | (go_at_call 19; exact hL _) | (go_at_call 18; exact hWr _))
        clear hb3 hL hWr
        by_cases he : er = 0
        · subst he
          have HB : ∀ n, Calls Try.prog 10 #[.pointer (some ⟨g, 0, none⟩)] (w3.drewN n) fun e' w' => e' = .returned (.tuple #[.int .u8 0, .int .i64 8]) ∧ RAt WR g [] 8 w' ∧ Turn g (w3.drewN n) w' := fun n => by
            have h := byte_ask g [] 0 (w3.drewN n) (HN3.out.rg.rg.drewN n)
            rw [off_none] at h
            exact h
          go_upto_region 21 with (go_at_call 10; (with_reducible refine (HB _).mono ?_); rintro e w4 ⟨rfl, hr4, ht4⟩; have HN4 := Lib.hid (HN3.out.next hr4 (((Turn.refl g w3).drewN _).trans ht4)); have HT4 := Lib.hid (HT3.out.trans ((((Turn.refl g w3).drewN _).trans ht4).below HGT.out HT3.out.size)); clear hr4 ht4)
          have hb4 : w4.cell? ⟨gb, 3, none⟩ = some (.int .i64 0) := (cell_of_row w4 gb 3 _ _ _ HN4.out.box).trans rfl
          clear HB HN3 HT3
          go_quiet (fail)
          go_wp2_with fail
          go_roundw
          case rel => exact ⟨k + 1, by omega, by go_num, Lib.hid (Below.drawn HT4.out _)⟩
          case measure => simp [RowKit.intOf]; omega
        · have HB : ∀ n, Calls Try.prog 10 #[.pointer (some ⟨g, 0, none⟩)] (w3.drewN n) fun e' w' => e' = .returned (.tuple #[.int .u8 0, .int .i64 er]) ∧ RAt WR g [] er w' ∧ Turn g (w3.drewN n) w' := fun n => by
            have h := byte_ask g [] er (w3.drewN n) (HN3.out.rg.rg.drewN n)
            rw [off_none, if_neg he] at h
            exact h
          go_upto_region 21 with (go_at_call 10; (with_reducible refine (HB _).mono ?_); rintro e w4 ⟨rfl, hr4, ht4⟩; have HN4 := Lib.hid (HN3.out.next hr4 (((Turn.refl g w3).drewN _).trans ht4)); have HT4 := Lib.hid (HT3.out.trans ((((Turn.refl g w3).drewN _).trans ht4).below HGT.out HT3.out.size)); clear hr4 ht4)
          have hb4 : w4.cell? ⟨gb, 3, none⟩ = some (.int .i64 er) := (cell_of_row w4 gb 3 _ _ _ HN4.out.box).trans rfl
          have hE := fun n => InG.endN HN4.out.rg n
          clear HB HN3 HT3
          go_quiet (first | (go_at_call 17; exact hE _))
          go_wp2_with fail
          clear hE
          go_roundw
          case rel => exact ⟨k + 1, by omega, by go_num, Lib.hid (Below.drawn HT4.out _)⟩
          case measure => simp [RowKit.intOf]; omega
      · have g5 : ¬ (kd : Int) = 5 := by omega
        have HG : Hid (Calls Try.prog 21 #[.agg #[.int .u8 (kd : Int), .int .u64 0, .string ⟨#[]⟩, .slice none 0 0, .int .i64 0], .pointer (some ⟨g, 0, none⟩)] w2 fun e w' => ∃ (y : Th) (er : Int) (rest : List UInt8), e = .returned (.tuple #[.agg y.cells, .int .i64 er]) ∧ RAt WR g rest er w' ∧ Turn g w2 w' ∧ Rd w' y.ao y.len y.z ∧ GotS kd s y er rest) := Lib.hid (got_any ⟨kd, 0, [], none, 0, 0, fun _ => 0, 0⟩ HOK.out.2.1 g s w2 HN.out.rg.rg)
        go_upto_region 18 with (go_at_call 21; (with_reducible refine HG.out.mono ?_); rintro e w3 ⟨y, er2, rest, rfl, hr3, ht3, _, hS⟩; have HSS : Hid (GotS kd s y er2 rest) := Lib.hid hS; obtain ⟨her, rfl⟩ := got_row HOK.out h5 HSS.out; subst er2; have HN3 := Lib.hid (HN.out.next hr3 ht3); have HT3 := Lib.hid (HTW.out.trans (ht3.below HGT.out HTW.out.size)); clear hr3 ht3 hS HSS)
        clear hb1 hb2 HN HTW
        have hL := fun n => InG.left HN3.out.rg n
        have hWr := fun n => InG.wrong HN3.out.rg n
        have hb3 : w3.cell? ⟨gb, 3, none⟩ = some (.int .i64 er) := (cell_of_row w3 gb 3 _ _ _ HN3.out.box).trans rfl
        go_quiet (first | (go_at_call 19; exact hL _) | (go_at_call 18; exact hWr _))
        clear hb3 hL hWr
        by_cases he : er = 0
        · subst he
          have HB : ∀ n, Calls Try.prog 10 #[.pointer (some ⟨g, 0, none⟩)] (w3.drewN n) fun e' w' => e' = .returned (.tuple #[.int .u8 0, .int .i64 8]) ∧ RAt WR g [] 8 w' ∧ Turn g (w3.drewN n) w' := fun n => by
            have h := byte_ask g [] 0 (w3.drewN n) (HN3.out.rg.rg.drewN n)
            rw [off_none] at h
            exact h
          go_upto_region 21 with (go_at_call 10; (with_reducible refine (HB _).mono ?_); rintro e w4 ⟨rfl, hr4, ht4⟩; have HN4 := Lib.hid (HN3.out.next hr4 (((Turn.refl g w3).drewN _).trans ht4)); have HT4 := Lib.hid (HT3.out.trans ((((Turn.refl g w3).drewN _).trans ht4).below HGT.out HT3.out.size)); clear hr4 ht4)
          have hb4 : w4.cell? ⟨gb, 3, none⟩ = some (.int .i64 0) := (cell_of_row w4 gb 3 _ _ _ HN4.out.box).trans rfl
          clear HB HN3 HT3
          go_quiet (fail)
          go_wp2_with fail
          go_roundw
          case rel => exact ⟨k + 1, by omega, by go_num, Lib.hid (Below.drawn HT4.out _)⟩
          case measure => simp [RowKit.intOf]; omega
        · have HB : ∀ n, Calls Try.prog 10 #[.pointer (some ⟨g, 0, none⟩)] (w3.drewN n) fun e' w' => e' = .returned (.tuple #[.int .u8 0, .int .i64 er]) ∧ RAt WR g [] er w' ∧ Turn g (w3.drewN n) w' := fun n => by
            have h := byte_ask g [] er (w3.drewN n) (HN3.out.rg.rg.drewN n)
            rw [off_none, if_neg he] at h
            exact h
          go_upto_region 21 with (go_at_call 10; (with_reducible refine (HB _).mono ?_); rintro e w4 ⟨rfl, hr4, ht4⟩; have HN4 := Lib.hid (HN3.out.next hr4 (((Turn.refl g w3).drewN _).trans ht4)); have HT4 := Lib.hid (HT3.out.trans ((((Turn.refl g w3).drewN _).trans ht4).below HGT.out HT3.out.size)); clear hr4 ht4)
          have hb4 : w4.cell? ⟨gb, 3, none⟩ = some (.int .i64 er) := (cell_of_row w4 gb 3 _ _ _ HN4.out.box).trans rfl
          have hE := fun n => InG.endN HN4.out.rg n
          clear HB HN3 HT3
          go_quiet (first | (go_at_call 17; exact hE _))
          go_wp2_with fail
          clear hE
          go_roundw
          case rel => exact ⟨k + 1, by omega, by go_num, Lib.hid (Below.drawn HT4.out _)⟩
          case measure => simp [RowKit.intOf]; omega
    · have hk9 : ¬ ((k : Int) < 17) := by omega
      have HBE := Lib.hid (HBT.out.trans (HBX.out.mono HBT.out.size))
      clear HBX HT HBT hlt hk hk0
      obtain ⟨kk, hkk⟩ : ∃ kk, (k : Int) = kk := ⟨_, rfl⟩
      rw [hkk] at hk9 ⊢
      clear hkk
      generalize wr = w9 at *
      obtain ⟨z49, hl49, ht49⟩ := zeros_text 2049
      obtain ⟨z48, hl48, ht48⟩ := zeros_text 2048
      have hm49 : ∀ w : World, (Instr.makeSlice 49 (.int .i64 2049) (.int .i64 2049)).run Try.prog w = .ok (.slice (some ⟨w.heap.size, 0, none⟩) 2049 2049) (w.alloc (.cells (madeCells #[.int .u8 0] 2049) 5)) := fun w => run_made8 2049 (by omega) w
      have hm48 : ∀ w : World, (Instr.makeSlice 49 (.int .i64 2048) (.int .i64 2048)).run Try.prog w = .ok (.slice (some ⟨w.heap.size, 0, none⟩) 2048 2048) (w.alloc (.cells (madeCells #[.int .u8 0] 2048) 5)) := fun w => run_made8 2048 (by omega) w
      have hm25 : ∀ w : World, (Instr.makeSlice 35 (.int .i64 1025) (.int .i64 1025)).run Try.prog w = .ok (.slice (some ⟨w.heap.size, 0, none⟩) 1025 1025) (w.alloc (.cells (madeCells (Value.int .u64 0).cells (1025 * 1)) 26)) := fun w => run_made 1025 (by omega) w
      have hm24 : ∀ w : World, (Instr.makeSlice 35 (.int .i64 1024) (.int .i64 1024)).run Try.prog w = .ok (.slice (some ⟨w.heap.size, 0, none⟩) 1024 1024) (w.alloc (.cells (madeCells (Value.int .u64 0).cells (1024 * 1)) 26)) := fun w => run_made 1024 (by omega) w
      obtain ⟨b94, hb94, hL2⟩ : ∃ l : List UInt8, l.length = 8194 ∧ ∀ w : World, Calls Try.prog 23 #[.string ⟨#[]⟩, .slice (some ⟨w.heap.size, 0, none⟩) 1024 1024] (w.alloc (.cells (madeCells (Value.int .u64 0).cells (1024 * 1)) 26)) fun e w' => e = .returned (.tuple #[.string ⟨l.toArray⟩, .int .i64 0]) ∧ Below (w.alloc (.cells (madeCells (Value.int .u64 0).cells (1024 * 1)) 26)).heap.size (w.alloc (.cells (madeCells (Value.int .u64 0).cells (1024 * 1)) 26)) w' :=
        ⟨[] ++ MM.listB 1024 (fun _ => 0), by simp [MM.listB], fun w => list_yes [] _ 1024 1024 (fun _ => 0) (by simp) (by omega) _ (Mine.made w 1024).rd⟩
      obtain ⟨b50, hb50, hT2⟩ : ∃ l : List UInt8, l.length = 2050 ∧ RetB 22 #[.string ⟨#[]⟩, .string ⟨z48.toArray⟩] (.tuple #[.string ⟨l.toArray⟩, .int .i64 0]) := ⟨[] ++ MM.textB z48, by simp [MM.textB, hl48], text_yes [] z48 (by simp) (by omega)⟩
      have hT1 : RetB 22 #[.string ⟨#[115]⟩, .string ⟨z49.toArray⟩] (.tuple #[.string ⟨#[115]⟩, .int .i64 40]) := text_no [115] z49 (by simp) (by omega)
      have hL1 : ∀ ao, RetB 23 #[.string ⟨#[115]⟩, .slice ao 1025 1025] (.tuple #[.string ⟨#[115]⟩, .int .i64 40]) := fun ao => list_no [115] ao 1025 1025 (by simp) (by omega)
      obtain ⟨c49, hc49⟩ : ∃ c, madeCells #[Value.int .u8 0] 2049 = c := ⟨_, rfl⟩
      obtain ⟨c48, hc48⟩ : ∃ c, madeCells #[Value.int .u8 0] 2048 = c := ⟨_, rfl⟩
      obtain ⟨c25, hc25⟩ : ∃ c, madeCells (Value.int .u64 0).cells (1025 * 1) = c := ⟨_, rfl⟩
      obtain ⟨c24, hc24⟩ : ∃ c, madeCells (Value.int .u64 0).cells (1024 * 1) = c := ⟨_, rfl⟩
      rw [hc49] at hm49 ht49
      rw [hc48] at hm48 ht48
      rw [hc25] at hm25
      rw [hc24] at hm24 hL2
      clear hc49 hc48 hc25 hc24 hl49 hl48
      have hB0 : ∀ (w : World) (g : Nat), RAt WR g [7, 7] 0 w → Calls Try.prog 10 #[.pointer (some ⟨g, 0, none⟩)] w fun e' w' => e' = .returned (.tuple #[.int .u8 7, .int .i64 0]) ∧ RAt WR g [7] 0 w' ∧ Turn g w w' := fun w g h => byte_ask g [7, 7] 0 w h
      have HO := fun w => open_any [7, 7] (by simp) w
      have HT1 := Lib.hid hT1
      have HL1 := Lib.hid hL1
      have HT2 := Lib.hid hT2
      have HL2 := Lib.hid hL2
      have HBB := Lib.hid hB0
      clear hT1 hL1 hT2 hL2 hB0
      go_upto_region 30 with (first
        | (go_at_call 22; (with_reducible refine (HT1.out.at _).mono ?_); rintro e v1 ⟨rfl, hb⟩; have HV1 := Lib.hid (HBE.out.trans (((below_box w9 (.cells c49 5)).trans (hb.mono (by simp))).mono HBE.out.size)); clear hb)
        | (go_at_call 23; (with_reducible refine ((HL1.out _).at _).mono ?_); rintro e v2 ⟨rfl, hb⟩; have HV2 := Lib.hid (HV1.out.trans (((below_box v1 (.cells c25 26)).trans (hb.mono (by simp))).mono HV1.out.size)); clear hb)
        | (go_at_call 22; (with_reducible refine (HT2.out.at _).mono ?_); rintro e v3 ⟨rfl, hb⟩; have HV3 := Lib.hid (HV2.out.trans (((below_box v2 (.cells c48 5)).trans (hb.mono (by simp))).mono HV2.out.size)); clear hb)
        | (go_at_call 23; (with_reducible refine (HL2.out _).mono ?_); rintro e v4 ⟨rfl, hb⟩; have HV4 := Lib.hid (HV3.out.trans (((below_box v3 (.cells c24 26)).trans (hb.mono (by simp))).mono HV3.out.size)); clear hb)
        | (go_at_call 20; (with_reducible refine (HO _).mono ?_); rintro e v5 ⟨g, rfl, hg, hr, hb⟩; have HI5 : Hid (InG W g [7, 7] 0 v5) := Lib.hid ⟨hr, HV4.out.trans (hb.mono HV4.out.size), Nat.le_trans HV4.out.size hg⟩; clear hb hg hr)
        | (go_at_call 10; (with_reducible refine (HBB.out _ _ HI5.out.rg).mono ?_); rintro e v6 ⟨rfl, hr6, ht6⟩; have HI6 := Lib.hid (HI5.out.next hr6 ht6); clear hr6 ht6))
      clear hm49 hm48 hm25 hm24 ht49 ht48 HO HV1 HV2 HV3 HV4 HI5 HT1 HL1 HT2 HL2 HBB HBE
      have HL6 := Lib.hid (left_any g [7] 0 v6 HI6.out.rg)
      have HE6 := Lib.hid (end_some g [7] 0 v6 HI6.out.rg (by simp))
      go_wp2_with (first
        | (go_at_call 19; (with_reducible refine HL6.out.mono ?_); rintro e v7 ⟨rfl, rfl⟩)
        | (go_at_call 17; (with_reducible refine HE6.out.mono ?_); rintro e v8 ⟨rfl, hr8, ht8⟩; have HI8 := Lib.hid (HI6.out.next hr8 ht8); have HL8 := Lib.hid (left_any g [] 10 v8 hr8); have HW8 := Lib.hid (wrong_any g [] 10 v8 hr8); clear hr8 ht8)
        | (go_at_call 19; (with_reducible refine HL8.out.mono ?_); rintro e v9 ⟨rfl, rfl⟩)
        | (go_at_call 18; (with_reducible refine HW8.out.mono ?_); rintro e v9 ⟨rfl, rfl⟩))
      go_ret
      exact ⟨rfl, HI8.out.below⟩

set_option maxRecDepth 100000 in
theorem lifted (os : Os) (started : os.Started) (H : Type) (enc : TypeId × Value → H) :
    ReturnsInHanded {} Try.checked os 3 .any (Rows.wireNamesSpec.pre6 enc Try.prog Try.f3 Rows.wireNamesRow.domain false) (Rows.wireNamesSpec.post enc Try.prog Try.f3 false true false false) := by
  refine returnsInHanded_of_change (C := Try.checked) M.own started (by kernel_rfl) Try.func3
    (ChangeSpec.witness6 (enc := enc) (C := Try.checked) false ⟨#[], #[], []⟩ 8 (by kernel_rfl) (by kernel_rfl) (by kernel_rfl) (by kernel_rfl)) ?_
  intro W base args ds gs before hval0 hW _ _
  have hval : ∀ (j : Nat) t v, Try.f3.params[j]? = some t → args[j]? = some v → Value.okWide Try.prog W .any base t v := hval0
  have hW' := hW
  obtain ⟨p, q, hA0, hV, rfl, _, _⟩ := hW
  have hA : DataW.TrodAll enc Try.prog W 0 (fun _ => true) true Try.f3.params.toList args.toList ds p := hA0
  rw [Try.params3] at hA hval
  obtain ⟨rfl, rfl, rfl⟩ := trodAll_none hA
  obtain ⟨rfl, rfl⟩ := trodVars_none hV
  clear hA0 hval0
  simp only [List.append_nil] at hW'
  refine (walk  W ).mono fun e W' ⟨he, bel⟩ => ?_
  subst he
  exact ⟨_, rfl, _, _, _, [], _, [], hW', (trodAll_cons_mk (shut_bool Try.underlying4 _) trodAll_mk0), trodAll_mk0, rfl, bel.frame _, fun h => by cases h⟩

theorem holds : Rows.WireNamesSaid :=
  OpenClaim.holds_of_wide 3 Try.f3 rfl rfl rfl rfl rfl rfl rfl ⟨rfl, rfl, rfl, rfl, rfl⟩ rfl rfl rfl rfl rfl (by kernel_rfl) Try.func3 (by kernel_rfl)
    (of_decide_eq_true (by kernel_rfl)) (by unfold Func.isWrapper; first | (rw [if_pos (by decide +kernel)]; kernel_rfl) | (rw [if_neg (by decide +kernel)]; exact ⟨rfl, rfl⟩))
    (fun os started H enc _ => lifted os started H enc)

end WireNames

theorem wireNames_holds : Rows.WireNamesSaid := WireNames.holds
#print axioms wireNames_holds
end Go.Proofs.Ytaijnejbffnfpaa

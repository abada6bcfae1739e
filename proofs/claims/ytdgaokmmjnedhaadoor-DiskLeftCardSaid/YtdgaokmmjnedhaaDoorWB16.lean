/- The texts DskLeftW, one behind the other. -/
import Derived.Test.YtdgaokmmjnedhaaDoorWB15
import Derived.Test.YtdgaokmmjnedhaaDoorWB14
import Derived.Test.YtdgaokmmjnedhaaDoorWB12
/- The walk of DiskLeft. -/
namespace Go.Proofs.YtdgaokmmjnedhaaDoor
open Go Go.RowKit Go.Lib Go.Deep
namespace M
open MM
/-- What is so of each write that was accepted. -/
def Fine (ys : List Sp) : Prop := ∀ y ∈ ys, sec y.at_ = true ∧ y.s.length ≤ 512
theorem Fine.snoc {ys : List Sp} {y : Sp} (h : Fine ys) (h1 : sec y.at_ = true) (h2 : y.s.length ≤ 512) : Fine (ys ++ [y]) := fun z hz => by
  rcases List.mem_append.1 hz with hz | hz
  · exact h z hz
  · obtain rfl : z = y := by simpa using hz
    exact ⟨h1, h2⟩
/-- The row so far, the disks beside it. -/
structure Left (W wA : World) (B B1 n : Nat) (T0 : Dsk) (v : Value) (ys : List Sp) (N : Nat) (w : World) : Prop where
  row : RowS wA v ys w
  ds : DsG W [(B, N, behind T0 ys), (B1, n, T0)] (Gv v) w
  size : wA.heap.size ≤ w.heap.size
theorem cp1 {W w : World} {R : World → Prop} {B B1 N n : Nat} {T T0 : Dsk} (h : Ds W [(B, N, T), (B1, n, T0)] R w) : Calls Tryd.prog 21 #[ptr B] w fun e w' => ∃ B2, e = .returned (ptr B2) ∧ Ds W [(B, N, T), (B1, n, T0), (B2, N, T)] R w' := Ds.copy h (i := 0) rfl
theorem cp2 {W w : World} {R : World → Prop} {B B1 B2 N n : Nat} {T T0 : Dsk} (h : Ds W [(B, N, T), (B1, n, T0), (B2, N, T)] R w) : Calls Tryd.prog 21 #[ptr B] w fun e w' => ∃ B3, e = .returned (ptr B3) ∧ Ds W [(B, N, T), (B1, n, T0), (B2, N, T), (B3, N, T)] R w' := Ds.copy h (i := 0) rfl
theorem cp3 {W w : World} {R : World → Prop} {B B1 B2 B3 N n : Nat} {T T0 : Dsk} (h : Ds W [(B, N, T), (B1, n, T0), (B2, N, T), (B3, N, T)] R w) : Calls Tryd.prog 21 #[ptr B] w fun e w' => ∃ B4, e = .returned (ptr B4) ∧ Ds W [(B, N, T), (B1, n, T0), (B2, N, T), (B3, N, T), (B4, N, T)] R w' := Ds.copy h (i := 0) rfl
theorem cr1 {W w : World} {R : World → Prop} {B B1 B2 B3 B4 N n K : Nat} {T T0 : Dsk} (h : Ds W [(B, N, T), (B1, n, T0), (B2, N, T), (B3, N, T), (B4, N, T)] R w) (hN : 2 * N ≤ 1000000) (ao : Option Addr) (kc : Nat) (hk : ∀ u, R u → ValsAt u (.slice ao K kc) (List.replicate K (.bool true))) :
    Calls Tryd.prog 11 #[ptr B2, .slice ao K kc, .int .i64 0] w fun e w' => e = .returned (.tuple #[]) ∧ Ds W [(B, N, T), (B1, n, T0), (B2, N, T.crash (List.replicate K true) 0), (B3, N, T), (B4, N, T)] R w' := by
  have := Ds.crash h (i := 2) rfl hN (List.replicate K true) ao kc 0 fun u _ hr => bools_of (by rw [List.map_replicate]; exact hk u hr)
  rw [List.length_replicate] at this
  exact this
theorem cr2 {W w : World} {R : World → Prop} {B B1 B2 B3 B4 N n : Nat} {T T0 T2 : Dsk} (h : Ds W [(B, N, T), (B1, n, T0), (B2, N, T2), (B3, N, T), (B4, N, T)] R w) (hN : 2 * N ≤ 1000000) :
    Calls Tryd.prog 11 #[ptr B3, .slice none 0 0, .int .i64 0] w fun e w' => e = .returned (.tuple #[]) ∧ Ds W [(B, N, T), (B1, n, T0), (B2, N, T2), (B3, N, T.crash [] 0), (B4, N, T)] R w' := Ds.crash h (i := 3) rfl hN [] none 0 0 fun _ _ _ => fun _ _ hi => by simp at hi
theorem cr3 {W w : World} {R : World → Prop} {B B1 B2 B3 B4 N n : Nat} {T T0 T2 T3 : Dsk} (h : Ds W [(B, N, T), (B1, n, T0), (B2, N, T2), (B3, N, T3), (B4, N, T)] R w) (hN : 2 * N ≤ 1000000) (keep : List Bool) (ko : Option Addr) (kc : Nat) (x : Int) (hk : BoolsAt W ko keep) :
    Calls Tryd.prog 11 #[ptr B4, .slice ko keep.length kc, .int .i64 x] w fun e w' => e = .returned (.tuple #[]) ∧ Ds W [(B, N, T), (B1, n, T0), (B2, N, T2), (B3, N, T3), (B4, N, T.crash keep x)] R w' := Ds.crash h (i := 4) rfl hN keep ko kc x fun _ hu _ => hk.step hu
set_option maxHeartbeats 16000000 in
set_option maxRecDepth 100000 in
theorem left_near (ao : Option Addr) (n c : Nat) (f : Nat → Sp) (hn : n ≤ 9223372036854775807) (bo : Option Addr) (m d : Nat) (g : Nat → Sp) (hm : m ≤ 9223372036854775807) (ko : Option Addr) (keep : List Bool) (kc : Nat) (hk : keep.length ≤ 1000) (x : Int) (W : World) (hf : StepsAt W ao n f) (hs : StepsSm n f) (hg : StepsAt W bo m g) (hsg : StepsSm m g) (hko : BoolsAt W ko keep) :
    Calls Tryd.prog 7 #[.slice ao n c, .slice bo m d, .slice ko keep.length kc, .int .i64 x] W fun e w' => e = .returned (.bool true) ∧ Below W.heap.size W w' := by
  have HLG := Lib.hid (fun w (h : Below W.heap.size W w) => long_any ao n c f hn w (hf.step h) hs)
  have HLG2 := Lib.hid (fun w (h : Below W.heap.size W w) => long_any bo m d g hm w (hg.step h) hsg)
  have HF := Lib.hid hf
  have HG := Lib.hid hg
  have HKO := Lib.hid hko
  have HB := Lib.hid (Below.refl W.heap.size W)
  have hnl : ¬ (1000 : Int) < (keep.length : Int) := by omega
  clear hf hs hg hsg hko
  generalize hS : runS Dsk.new (fun i => (f i).st) n = S at *
  have HS := Lib.hid hS
  clear hS
  go_enter Tryd.func7, Tryd.ntmps7
  go_upto_region 7 with (first
    | (go_at_call 13; (with_reducible refine (works_any _).mono ?_); rintro e w1 ⟨rfl, h⟩; replace HB := Lib.hid (bnext HB.out h); clear h)
    | (go_at_call 24; (with_reducible refine (HLG.out _ HB.out).mono ?_); rintro e w2 ⟨r, rfl, hsm, h⟩; replace HB := Lib.hid (bnext HB.out h); have HSM := Lib.hid hsm; clear h hsm; cases r)
    | (go_at_call 24; (with_reducible refine (HLG2.out _ HB.out).mono ?_); rintro e w2 ⟨r, rfl, hsm, h⟩; replace HB := Lib.hid (bnext HB.out h); have HSM2 := Lib.hid hsm; clear h hsm; cases r)
    | (go_at_call 33; (with_reducible refine (after_any (Ds.start W HB.out) ao n c f (by have := few (HSM.out trivial); omega) HF.out).mono ?_); rintro e w1 ⟨B, rfl, h⟩; rw [HS.out] at h; have HD : Hid (Ds W [(B, n, S)] (fun _ => True) w1) := Lib.hid h; clear h)
    | (go_at_call 12; (with_reducible refine (Ds.boot HD.out (i := 0) rfl).mono ?_); rintro e w1 ⟨rfl, h⟩; replace HD : Hid (Ds W [(B, n, S.start)] (fun _ => True) w1) := Lib.hid h; clear h)
    | (go_at_call 15; (with_reducible refine (Ds.sync HD.out (i := 0) rfl (by have := few (HSM.out trivial); omega)).mono ?_); rintro e w1 ⟨rfl, h⟩; replace HD : Hid (Ds W [(B, n, S.start.sync.2)] (fun _ => True) w1) := Lib.hid h; clear h)
    | (go_at_call 21; (with_reducible refine (Ds.copy HD.out (i := 0) rfl).mono ?_); rintro e w1 ⟨B1, rfl, h⟩; replace HD : Hid (Ds W [(B, n, S.start.sync.2), (B1, n, S.start.sync.2)] (fun _ => True) w1) := Lib.hid h; clear h))
  · have hn2 := few (HSM.out trivial)
    have hm2 := few (HSM2.out trivial)
    obtain ⟨_, ht1, ht2, ht3, _⟩ := start_sync S
    generalize S.start.sync.2 = T0 at *
    have HT := Lib.hid (And.intro ht1 (And.intro ht2 ht3))
    clear HSM HSM2 HLG HLG2 HB HS HF ht1 ht2 ht3
    generalize w1 = wA at *
    have HA : Hid (Left W wA B B1 n T0 (.slice none 0 0) [] n wA) := Lib.hid ⟨⟨⟨rfl, .inl ⟨rfl, rfl⟩⟩⟩, (by rw [behind_nil HT.out.1]; exact HD.out.toG fun k hk => (by cases hk)), Nat.le_refl _⟩
    have HWA := Lib.hid HD.out.below
    clear HD
    go_wp2_with fail
    go_loopw [11, 12] (fun s11 s12 wx => ∃ (i : Nat) (ys : List Sp) (ro : Option Addr) (rc N : Nat), i ≤ m ∧ ys.length ≤ i ∧ N ≤ n + i ∧ s12 = .int .i64 (i : Int) ∧ s11 = .slice ro ys.length rc ∧ Hid (Fine ys) ∧ Hid (Left W wA B B1 n T0 (.slice ro ys.length rc) ys N wx)) (fun _ s12 _ => m - (RowKit.intOf s12).toNat)
    case atStart => exact ⟨0, [], none, 0, n, Nat.zero_le _, Nat.zero_le _, Nat.le_refl _, rfl, rfl, Lib.hid (fun y hy => by cases hy), HA⟩
    case round =>
      obtain ⟨i, ys, ro, rc, N, hi, hyi, hN, rfl, rfl, HFI, HI⟩ := hrel
      by_cases hlt : i < m
      · obtain ⟨hok, hkb, a, ha, hcl⟩ := HG.out i hlt
        subst ha
        obtain ⟨Bs, O, hadr, hr1⟩ := step_range hcl
        have HRG := Lib.hid (fun w (h : Below W.heap.size W w) => range_below hr1 h)
        have HSZ := Lib.hid (info_sp (g i))
        have hl9 := hok.s
        clear hcl hr1 hkb hok
        have HIN : Hid (∀ w, Below W.heap.size W w → InS2 ⟨Bs, O + 1, none⟩ (.int .i64 (g i).at_) ⟨Bs, O + 2, none⟩ (.string ⟨(g i).s.toArray⟩) w) := Lib.hid fun w h => ⟨HRG.out w h 1 _ rfl, HRG.out w h 2 _ rfl⟩
        have hk0 : (0 : Int) ≤ (i : Int) := Int.natCast_nonneg _
        have hk1 : (i : Int) < (m : Int) := by omega
        have HPU : Hid (∀ w, Left W wA B B1 n T0 (.slice ro ys.length rc) ys N w ∨ True → True) := Lib.hid fun _ _ => trivial
        clear HPU
        go_upto_region 11 with fail
        refine RK.region (InS2 ⟨Bs, O + 1, none⟩ (.int .i64 (g i).at_) ⟨Bs, O + 2, none⟩ (.string ⟨(g i).s.toArray⟩)) 13 (by kernel_rfl) ?_
        have hbd : Below wr.heap.size wr wr.drew := below_drewN wr 1
        have HL0 : Hid (Left W wA B B1 n T0 (.slice ro ys.length rc) ys N wr.drew) := Lib.hid ⟨HI.out.row.kept fun k hk => hbd.block k (HI.out.row.own.lt k hk).2, HI.out.ds.grow (Chg.of_below _ hbd) (fun k hk => Nat.le_trans HWA.out.size (HI.out.row.own.lt k hk).1) fun k hk => ⟨.inl hk, (HI.out.row.own.lt k hk).2⟩, HI.out.size⟩
        have HS0 := HIN.out wr.drew HL0.out.ds.below
        have HWR : Hid (∀ w, DsG W [(B, N, behind T0 ys), (B1, n, T0)] (Gv (.slice ro ys.length rc)) w → Calls Tryd.prog 14 #[ptr B, .int .i64 (g i).at_, .string ⟨(g i).s.toArray⟩] w fun e w' => e = .returned (.int .i64 (((behind T0 ys).write (g i).at_ (g i).s).1 : Int)) ∧ DsG W [(B, N + 1, ((behind T0 ys).write (g i).at_ (g i).s).2), (B1, n, T0)] (Gv (.slice ro ys.length rc)) w' ∧ (∀ k, Gv (.slice ro ys.length rc) k → w'.heap[k]? = w.heap[k]?) ∧ w.heap.size ≤ w'.heap.size) := Lib.hid fun w h => DsG.write h (i := 0) rfl (by omega) _ _
        refine RK.Any.take 0 54 (ptr B) rfl rfl (by kernel_rfl) (by kernel_rfl) (by kernel_rfl) (by kernel_rfl) (fun _ _ _ h => h) (by rfl) (fun W' hb => ?_) HS0 ?_
        · go_simp
        simp only [List.setIfInBounds_toArray, List.set_cons_zero, List.set_cons_succ]
        refine RK.Any.take 1 55 (.slice (some a) m d) rfl rfl (by kernel_rfl) (by kernel_rfl) (by kernel_rfl) (by kernel_rfl) (fun _ _ _ h => h) (by rfl) (fun W' hb => ?_) HS0 ?_
        · go_simp
        simp only [List.setIfInBounds_toArray, List.set_cons_zero, List.set_cons_succ]
        refine RK.Any.take 2 56 (.int .i64 (i : Int)) rfl rfl (by kernel_rfl) (by kernel_rfl) (by kernel_rfl) (by kernel_rfl) (fun _ _ _ h => h) (by rfl) (fun W' hb => ?_) HS0 ?_
        · go_simp
        simp only [List.setIfInBounds_toArray, List.set_cons_zero, List.set_cons_succ]
        refine RK.Any.take 3 57 (.pointer (some ⟨Bs, O, none⟩)) rfl rfl (by kernel_rfl) (by kernel_rfl) (by kernel_rfl) (by kernel_rfl) (fun _ _ _ h => h) (by rfl) (fun W' hb => ?_) HS0 ?_
        · go_simp
        simp only [List.setIfInBounds_toArray, List.set_cons_zero, List.set_cons_succ]
        refine RK.Any.take 4 58 (.pointer (some ⟨Bs, O + 1, none⟩)) rfl rfl (by kernel_rfl) (by kernel_rfl) (by kernel_rfl) (by kernel_rfl) (fun _ _ _ h => h) (by rfl) (fun W' hb => ?_) HS0 ?_
        · go_simp
        simp only [List.setIfInBounds_toArray, List.set_cons_zero, List.set_cons_succ]
        refine RK.Any.take 5 59 (.int .i64 (g i).at_) rfl rfl (by kernel_rfl) (by kernel_rfl) (by kernel_rfl) (by kernel_rfl) (fun _ _ _ h => h) (by rfl) (fun W' hb => ?_) HS0 ?_
        · have c := hb.c; go_simp
        simp only [List.setIfInBounds_toArray, List.set_cons_zero, List.set_cons_succ]
        refine RK.Any.take 6 60 (.slice (some a) m d) rfl rfl (by kernel_rfl) (by kernel_rfl) (by kernel_rfl) (by kernel_rfl) (fun _ _ _ h => h) (by rfl) (fun W' hb => ?_) HS0 ?_
        · go_simp
        simp only [List.setIfInBounds_toArray, List.set_cons_zero, List.set_cons_succ]
        refine RK.Any.take 7 61 (.int .i64 (i : Int)) rfl rfl (by kernel_rfl) (by kernel_rfl) (by kernel_rfl) (by kernel_rfl) (fun _ _ _ h => h) (by rfl) (fun W' hb => ?_) HS0 ?_
        · go_simp
        simp only [List.setIfInBounds_toArray, List.set_cons_zero, List.set_cons_succ]
        refine RK.Any.take 8 62 (.pointer (some ⟨Bs, O, none⟩)) rfl rfl (by kernel_rfl) (by kernel_rfl) (by kernel_rfl) (by kernel_rfl) (fun _ _ _ h => h) (by rfl) (fun W' hb => ?_) HS0 ?_
        · go_simp
        simp only [List.setIfInBounds_toArray, List.set_cons_zero, List.set_cons_succ]
        refine RK.Any.take 9 63 (.pointer (some ⟨Bs, O + 2, none⟩)) rfl rfl (by kernel_rfl) (by kernel_rfl) (by kernel_rfl) (by kernel_rfl) (fun _ _ _ h => h) (by rfl) (fun W' hb => ?_) HS0 ?_
        · go_simp
        simp only [List.setIfInBounds_toArray, List.set_cons_zero, List.set_cons_succ]
        refine RK.Any.take 10 64 (.string ⟨(g i).s.toArray⟩) rfl rfl (by kernel_rfl) (by kernel_rfl) (by kernel_rfl) (by kernel_rfl) (fun _ _ _ h => h) (by rfl) (fun W' hb => ?_) HS0 ?_
        · have c := hb.d; go_simp
        simp only [List.setIfInBounds_toArray, List.set_cons_zero, List.set_cons_succ]
        generalize wr.drew = w2 at *
        clear HI hbd
        by_cases hfine : sec (g i).at_ = true ∧ (g i).s.length ≤ 512
        · have hgood := behind_good HT.out.2.1 HT.out.2.2 (ys := ys) hfine.1 hfine.2
          refine RK.Any.call 11 65 14 #[ptr B, .int .i64 (g i).at_, .string ⟨(g i).s.toArray⟩] (by kernel_rfl) rfl rfl (by rfl) (by go_simp) (Calls.mono (HWR.out w2 HL0.out.ds) ?_)
          rintro e w3 ⟨he, hd3, hk3, hz3⟩
          rw [hgood] at he hd3
          simp only at he hd3
          subst he
          have HL3 : Hid (Left W wA B B1 n T0 (.slice ro ys.length rc) ys N w2 ∧ RowS wA (.slice ro ys.length rc) ys w3 ∧ DsG W [(B, N + 1, behind T0 (ys ++ [g i])), (B1, n, T0)] (Gv (.slice ro ys.length rc)) w3) := Lib.hid ⟨HL0.out, HL0.out.row.kept hk3, hd3⟩
          have hs3 : wA.heap.size ≤ w3.heap.size := Nat.le_trans HL0.out.size hz3
          have HS1 := HIN.out w3 hd3.below
          refine ⟨_, rfl, fun _ => HS1, ?_⟩
          simp only [List.setIfInBounds_toArray, List.set_cons_zero, List.set_cons_succ]
          clear hd3 hk3 hz3 hgood
          obtain ⟨ao', c', w6, hr, hrow, hds, hsz⟩ := HL3.out.2.1.push HL3.out.2.2 HWA.out.size hs3 (g i) (by omega) 36
          have HL6 : Hid (Left W wA B B1 n T0 (.slice ao' (ys.length + 1) c') (ys ++ [g i]) (N + 1) w6) := Lib.hid ⟨hrow, hds, hsz⟩
          have HFI2 : Hid (Fine (ys ++ [g i])) := Lib.hid (HFI.out.snoc hfine.1 hfine.2)
          have hLM := HRG.out w3 HL3.out.2.2.below
          clear hrow hds hsz HL3 HWR HL0 HS0
          refine RK.Any.exec 12 66 (.bool true) (w1 := w3) (by kernel_rfl) rfl rfl (by rfl) (by go_simp) HS1 ?_
          simp only [List.setIfInBounds_toArray, List.set_cons_zero, List.set_cons_succ]
          refine RK.Any.done (by kernel_rfl) ?_
          clear HS1
          go_upto_region 12 with fail
          go_wp2_with (first
            | (refine wpList_load_mid rfl 41 _ rfl Bs O rfl (g i).cells.toList _ hLM Tryd.underlying41 rfl HSZ.out ?_)
            | (at_builtin; refine Lib.wpList_append_run _ rfl _ _ _ _ rfl _ _ rfl rfl _ _ hr ?_))
          go_roundw
          case rel => exact ⟨i + 1, by omega, ys ++ [g i], by simp; omega, ao', c', N + 1, by omega, by omega, ⟨rfl, by simp, rfl⟩, HFI2, by rw [List.length_append]; exact HL6⟩
          case measure => simp [RowKit.intOf]; omega
        · obtain ⟨hE, hT2⟩ := behind_bad (y := g i) HT.out.2.1 (ys := ys) hfine
          have hE0 : ((((behind T0 ys).write (g i).at_ (g i).s).1 : Int) == 0) = false := by rw [beq_eq_false_iff_ne]; omega
          refine RK.Any.call 11 65 14 #[ptr B, .int .i64 (g i).at_, .string ⟨(g i).s.toArray⟩] (by kernel_rfl) rfl rfl (by rfl) (by go_simp) (Calls.mono (HWR.out w2 HL0.out.ds) ?_)
          rintro e w3 ⟨rfl, hd3, hk3, hz3⟩
          rw [hT2] at hd3
          have HL3 : Hid (Left W wA B B1 n T0 (.slice ro ys.length rc) ys (N + 1) w3) := Lib.hid ⟨HL0.out.row.kept hk3, hd3, Nat.le_trans HL0.out.size hz3⟩
          have HS1 := HIN.out w3 hd3.below
          refine ⟨_, rfl, fun _ => HS1, ?_⟩
          simp only [List.setIfInBounds_toArray, List.set_cons_zero, List.set_cons_succ]
          clear hd3 hk3 hz3 hE HWR HL0 HS0
          generalize (((behind T0 ys).write (g i).at_ (g i).s).1 : Int) = E at *
          refine RK.Any.exec 12 66 (.bool false) (w1 := w3) (by kernel_rfl) rfl rfl (by rfl) (by go_simp) HS1 ?_
          simp only [List.setIfInBounds_toArray, List.set_cons_zero, List.set_cons_succ]
          refine RK.Any.done (by kernel_rfl) ?_
          clear HS1
          go_wp2_with fail
          go_roundw
          case rel => exact ⟨i + 1, ys, ro, rc, N + 1, by omega, by omega, by omega, by go_num, rfl, HFI, HL3⟩
          case measure => simp [RowKit.intOf]; omega
      · obtain rfl : m = i := by omega
        have HD : Hid (Ds W [(B, N, behind T0 ys), (B1, n, T0)] (RowS wA (.slice ro ys.length rc) ys) wr) := Lib.hid (HI.out.ds.toDs fun u hu => HI.out.row.kept hu)
        have hN9 : 2 * N ≤ 1000000 := by omega
        have hK : ys.length ≤ 199 := by omega
        have HWH0 := Lib.hid (left_whole (T := T0) HT.out.2.1 ys)
        have HNO0 := Lib.hid (left_none (T := T0) ys)
        obtain ⟨t, hts⟩ := left_some (T := T0) ys keep x
        have HSM0 := Lib.hid hts
        clear HI hts
        generalize hTT : behind T0 ys = T at *
        clear hTT
        go_upto_region 14 with (first
          | (go_at_call 21; (with_reducible refine (cp1 HD.out).mono ?_); rintro e w5 ⟨B2, rfl, hh⟩; replace HD := Lib.hid hh; clear hh)
          | (go_at_call 21; (with_reducible refine (cp2 HD.out).mono ?_); rintro e w5 ⟨B3, rfl, hh⟩; replace HD := Lib.hid hh; clear hh)
          | (go_at_call 21; (with_reducible refine (cp3 HD.out).mono ?_); rintro e w5 ⟨B4, rfl, hh⟩; replace HD := Lib.hid hh; clear hh))
        generalize w5 = wB at *
        go_wp2_with fail
        go_loopw [16, 17] (fun s16 s17 wx => ∃ (i : Nat) (po : Option Addr) (pc : Nat), i ≤ ys.length ∧ s17 = .int .i64 (i : Int) ∧ s16 = .slice po i pc ∧ Hid (OwnE wB 4 (.slice po i pc) (List.replicate i (.bool true)) wx)) (fun _ s17 _ => ys.length - (RowKit.intOf s17).toNat)
        case atStart => exact ⟨0, none, 0, Nat.zero_le _, rfl, rfl, Lib.hid (OwnE.nil 4 (Below.refl _ _))⟩
        case round =>
          obtain ⟨i, po, pc, hi, rfl, rfl, HI⟩ := hrel
          by_cases hlt : i < ys.length
          · obtain ⟨ao', cq, w6, hr, ho⟩ := HI.out.pushBool true (by rw [List.length_replicate]; omega) 35
            rw [List.length_replicate] at hr ho
            rw [← List.replicate_succ'] at ho
            have HO6 := Lib.hid ho
            clear ho
            have hi1 : (i : Int) < (ys.length : Int) := by omega
            go_wp2_with (at_builtin; refine Lib.wpList_append_run _ rfl _ _ _ _ rfl _ _ rfl rfl _ _ hr ?_)
            go_roundw
            case rel => exact ⟨i + 1, ao', cq, by omega, by go_num, rfl, HO6⟩
            case measure => simp [RowKit.intOf]; omega
          · obtain rfl : i = ys.length := by omega
            have HR : Hid (Ds W [(B, N, T), (B1, n, T0), (B2, N, T), (B3, N, T), (B4, N, T)] (fun u => RowS wA (.slice ro ys.length rc) ys u ∧ ValsAt u (.slice po ys.length pc) (List.replicate ys.length (.bool true))) wr) := Lib.hid (HD.out.row HI.out)
            clear HI HD
            go_upto_region 22 with (first
              | (go_at_call 11; (with_reducible refine (cr1 HR.out hN9 _ _ fun _ hr => hr.2).mono ?_); rintro e w5 ⟨rfl, hh⟩; replace HR := Lib.hid hh; clear hh)
              | (go_at_call 11; (with_reducible refine (cr2 HR.out hN9).mono ?_); rintro e w5 ⟨rfl, hh⟩; replace HR := Lib.hid hh; clear hh)
              | (go_at_call 11; (with_reducible refine (cr3 HR.out hN9 keep _ _ _ HKO.out).mono ?_); rintro e w5 ⟨rfl, hh⟩; replace HR := Lib.hid hh; clear hh))
            have HD := Lib.hid (HR.out.weaken fun u hr => hr.1)
            have HDD : Hid ((T.crash (List.replicate ys.length true) 0).dead = true ∧ (T.crash [] 0).dead = true ∧ (T.crash keep x).dead = true ∧ (T.crash keep x).c = []) := Lib.hid ⟨rfl, rfl, rfl, rfl⟩
            have HWH := Lib.hid HWH0.out
            have HNO := Lib.hid HNO0.out
            have HSM3 : Hid (∀ k, sec k = true → t ≠ some k → (T.crash keep x).platter k = T0.platter k ∨ ∃ r z, r < ys.length ∧ ys[r]? = some z ∧ z.at_ = k ∧ (T.crash keep x).platter k = full z.s) := Lib.hid fun k h1 h2 => by
              rcases HSM0.out k h1 h2 with h | ⟨z, hz, h3, h4⟩
              · exact .inl h
              · obtain ⟨r, hr⟩ := List.mem_iff_getElem?.1 hz
                exact .inr ⟨r, z, (List.getElem?_eq_some_iff.1 hr).1, hr, h3, h4⟩
            clear HR HWH0 HNO0 HSM0
            generalize T.crash (List.replicate ys.length true) 0 = Wh at *
            generalize T.crash [] 0 = No at *
            generalize T.crash keep x = So at *
            go_wp2_with fail
            go_loopw [18, 19] (fun s18 s19 wx => ∃ (i : Nat) (tz : Int), i ≤ ys.length ∧ s19 = .int .i64 (i : Int) ∧ s18 = .int .i64 tz ∧ Hid (tz = -1 ∨ t = some tz) ∧ Hid (Ds W [(B, N, T), (B1, n, T0), (B2, N, Wh), (B3, N, No), (B4, N, So)] (RowS wA (.slice ro ys.length rc) ys) wx)) (fun _ s19 _ => ys.length - (RowKit.intOf s19).toNat)
            case atStart => exact ⟨0, -1, Nat.zero_le _, rfl, rfl, Lib.hid (.inl rfl), HD⟩
            case round =>
              obtain ⟨i, tz, hi, rfl, rfl, HTZ, HD⟩ := hrel
              by_cases hlt : i < ys.length
              · obtain ⟨dad, rfl⟩ := HD.out.rest.some (by omega)
                obtain ⟨y, hy⟩ : ∃ y, ys[i]? = some y := ⟨_, List.getElem?_eq_getElem hlt⟩
                obtain ⟨q, O, hady, hy1, hy2⟩ := HD.out.rest.cell hy
                have hsec : sec y.at_ = true := (HFI.out y (List.mem_iff_getElem?.2 ⟨i, hy⟩)).1
                clear hy hy2
                obtain ⟨at_, hat⟩ : ∃ at_, y.at_ = at_ := ⟨_, rfl⟩
                rw [hat] at hy1 hsec
                clear hat
                have hi1 : (i : Int) < (ys.length : Int) := by omega
                have HW1 := Lib.hid (HWH.out at_)
                have HN1 := Lib.hid (HNO.out at_)
                have HSO := Lib.hid (HSM3.out at_)
                obtain ⟨isv, hisv⟩ : ∃ v, So.platter at_ = v := ⟨_, rfl⟩
                obtain ⟨bv, hbv⟩ : ∃ v, T0.platter at_ = v := ⟨_, rfl⟩
                obtain ⟨rv, hrv⟩ : ∃ v, T.read at_ = v := ⟨_, rfl⟩
                rw [hrv] at HW1
                rw [hbv] at HN1
                rw [hisv, hbv] at HSO
                have HI1 := Lib.hid hisv
                have HB1 := Lib.hid hbv
                have HR1 := Lib.hid hrv
                clear hisv hbv hrv
                go_upto_region 31 with (first
                  | (go_at_call 17; (with_reducible refine (Ds.platter HD.out (i := 2) rfl at_).mono ?_); rintro e w5 ⟨he, hh⟩; rw [HW1.out] at he; subst he; replace HD := Lib.hid (HD.out.step hh); clear hh)
                  | (go_at_call 17; (with_reducible refine (Ds.platter HD.out (i := 3) rfl at_).mono ?_); rintro e w5 ⟨he, hh⟩; rw [HN1.out] at he; subst he; replace HD := Lib.hid (HD.out.step hh); clear hh)
                  | (go_at_call 17; (with_reducible refine (Ds.platter HD.out (i := 1) rfl at_).mono ?_); rintro e w5 ⟨he, hh⟩; rw [HB1.out] at he; subst he; replace HD := Lib.hid (HD.out.step hh); clear hh)
                  | (go_at_call 17; (with_reducible refine (Ds.platter HD.out (i := 4) rfl at_).mono ?_); rintro e w5 ⟨he, hh⟩; rw [HI1.out] at he; subst he; replace HD := Lib.hid (HD.out.step hh); clear hh)
                  | (go_at_call 16; (with_reducible refine (Ds.read HD.out (i := 0) rfl at_).mono ?_); rintro e w5 ⟨he, hh⟩; rw [HR1.out] at he; subst he; replace HD := Lib.hid (HD.out.step hh); clear hh))
                have HK0 : Hid ((isv = bv ∨ ∃ r z, r < 0 ∧ ys[r]? = some z ∧ z.at_ = at_ ∧ isv = full z.s) → (isv == bv) = true) := Lib.hid (by
                  rintro (h | ⟨r, z, h, _⟩)
                  · simp [h]
                  · omega)
                go_wp2_with fail
                go_loopw [22, 23] (fun s22 s23 wx => ∃ (k : Nat) (kn : Bool), k ≤ ys.length ∧ s23 = .int .i64 (k : Int) ∧ s22 = .bool kn ∧ Hid ((isv = bv ∨ ∃ r z, r < k ∧ ys[r]? = some z ∧ z.at_ = at_ ∧ isv = full z.s) → kn = true) ∧ Hid (Ds W [(B, N, T), (B1, n, T0), (B2, N, Wh), (B3, N, No), (B4, N, So)] (fun u => RowS wA (.slice (some dad) ys.length rc) ys u) wx)) (fun _ s23 _ => ys.length - (RowKit.intOf s23).toNat)
                case atStart => exact ⟨0, _, Nat.zero_le _, rfl, rfl, HK0, HD⟩
                case round =>
                  obtain ⟨k, kn, hk9, rfl, rfl, HKN, HD⟩ := hrel
                  by_cases hltk : k < ys.length
                  · obtain ⟨z, hz⟩ : ∃ z, ys[k]? = some z := ⟨_, List.getElem?_eq_getElem hltk⟩
                    obtain ⟨q, O, hadz, hz1, hz2⟩ := HD.out.rest.cell hz
                    have hzl : z.s.length ≤ 512 := (HFI.out z (List.mem_iff_getElem?.2 ⟨k, hz⟩)).2
                    have HZ := Lib.hid hz
                    clear hz
                    have hk0 : (0 : Int) ≤ (k : Int) := Int.natCast_nonneg _
                    have hk1 : (k : Int) < (ys.length : Int) := by omega
                    go_upto_region 34 with fail
                    refine RK.region (InS2 ⟨q, O + 1, none⟩ (.int .i64 z.at_) ⟨q, O + 2, none⟩ (.string ⟨z.s.toArray⟩)) 29 (by kernel_rfl) ?_
                    have HS0 : InS2 ⟨q, O + 1, none⟩ (.int .i64 z.at_) ⟨q, O + 2, none⟩ (.string ⟨z.s.toArray⟩) wr.drew := ⟨hz1, hz2⟩
                    have HD9 := Lib.hid (show Ds W _ _ wr.drew from HD.out.step (below_drewN wr 1))
                    clear hz1 hz2 HD
                    generalize wr.drew = w2 at *
                    cases kn with
                    | true =>
                      refine RK.Any.take 0 139 (.bool true) rfl rfl (by kernel_rfl) (by kernel_rfl) (by kernel_rfl) (by kernel_rfl) (fun _ _ _ h => h) (by rfl) (fun W' hb => ?_) HS0 ?_
                      · go_simp
                      simp only [List.setIfInBounds_toArray, List.set_cons_zero, List.set_cons_succ]
                      refine RK.Any.take 1 140 (.bool true) rfl rfl (by kernel_rfl) (by kernel_rfl) (by kernel_rfl) (by kernel_rfl) (fun _ _ _ h => h) (by rfl) (fun W' hb => ?_) HS0 ?_
                      · go_simp
                      simp only [List.setIfInBounds_toArray, List.set_cons_zero, List.set_cons_succ]
                      refine RK.Any.skip 2 141 rfl rfl (by kernel_rfl) (by kernel_rfl) (by kernel_rfl) (by kernel_rfl) (fun _ _ _ h => h) (by rfl) HS0 ?_
                      simp only [List.setIfInBounds_toArray, List.set_cons_zero, List.set_cons_succ]
                      refine RK.Any.skip 3 142 rfl rfl (by kernel_rfl) (by kernel_rfl) (by kernel_rfl) (by kernel_rfl) (fun _ _ _ h => h) (by rfl) HS0 ?_
                      simp only [List.setIfInBounds_toArray, List.set_cons_zero, List.set_cons_succ]
                      refine RK.Any.skip 4 143 rfl rfl (by kernel_rfl) (by kernel_rfl) (by kernel_rfl) (by kernel_rfl) (fun _ _ _ h => h) (by rfl) HS0 ?_
                      simp only [List.setIfInBounds_toArray, List.set_cons_zero, List.set_cons_succ]
                      refine RK.Any.skip 5 144 rfl rfl (by kernel_rfl) (by kernel_rfl) (by kernel_rfl) (by kernel_rfl) (fun _ _ _ h => h) (by rfl) HS0 ?_
                      simp only [List.setIfInBounds_toArray, List.set_cons_zero, List.set_cons_succ]
                      refine RK.Any.skip 6 145 rfl rfl (by kernel_rfl) (by kernel_rfl) (by kernel_rfl) (by kernel_rfl) (fun _ _ _ h => h) (by rfl) HS0 ?_
                      simp only [List.setIfInBounds_toArray, List.set_cons_zero, List.set_cons_succ]
                      refine RK.Any.skip 7 146 rfl rfl (by kernel_rfl) (by kernel_rfl) (by kernel_rfl) (by kernel_rfl) (fun _ _ _ h => h) (by rfl) HS0 ?_
                      simp only [List.setIfInBounds_toArray, List.set_cons_zero, List.set_cons_succ]
                      refine RK.Any.skip 8 147 rfl rfl (by kernel_rfl) (by kernel_rfl) (by kernel_rfl) (by kernel_rfl) (fun _ _ _ h => h) (by rfl) HS0 ?_
                      simp only [List.setIfInBounds_toArray, List.set_cons_zero, List.set_cons_succ]
                      refine RK.Any.skip 9 148 rfl rfl (by kernel_rfl) (by kernel_rfl) (by kernel_rfl) (by kernel_rfl) (fun _ _ _ h => h) (by rfl) HS0 ?_
                      simp only [List.setIfInBounds_toArray, List.set_cons_zero, List.set_cons_succ]
                      refine RK.Any.skip 10 149 rfl rfl (by kernel_rfl) (by kernel_rfl) (by kernel_rfl) (by kernel_rfl) (fun _ _ _ h => h) (by rfl) HS0 ?_
                      simp only [List.setIfInBounds_toArray, List.set_cons_zero, List.set_cons_succ]
                      refine RK.Any.skip 11 150 rfl rfl (by kernel_rfl) (by kernel_rfl) (by kernel_rfl) (by kernel_rfl) (fun _ _ _ h => h) (by rfl) HS0 ?_
                      simp only [List.setIfInBounds_toArray, List.set_cons_zero, List.set_cons_succ]
                      refine RK.Any.skip 12 151 rfl rfl (by kernel_rfl) (by kernel_rfl) (by kernel_rfl) (by kernel_rfl) (fun _ _ _ h => h) (by rfl) HS0 ?_
                      simp only [List.setIfInBounds_toArray, List.set_cons_zero, List.set_cons_succ]
                      refine RK.Any.skip 13 152 rfl rfl (by kernel_rfl) (by kernel_rfl) (by kernel_rfl) (by kernel_rfl) (fun _ _ _ h => h) (by rfl) HS0 ?_
                      simp only [List.setIfInBounds_toArray, List.set_cons_zero, List.set_cons_succ]
                      refine RK.Any.skip 14 153 rfl rfl (by kernel_rfl) (by kernel_rfl) (by kernel_rfl) (by kernel_rfl) (fun _ _ _ h => h) (by rfl) HS0 ?_
                      simp only [List.setIfInBounds_toArray, List.set_cons_zero, List.set_cons_succ]
                      refine RK.Any.skip 15 154 rfl rfl (by kernel_rfl) (by kernel_rfl) (by kernel_rfl) (by kernel_rfl) (fun _ _ _ h => h) (by rfl) HS0 ?_
                      simp only [List.setIfInBounds_toArray, List.set_cons_zero, List.set_cons_succ]
                      refine RK.Any.skip 16 155 rfl rfl (by kernel_rfl) (by kernel_rfl) (by kernel_rfl) (by kernel_rfl) (fun _ _ _ h => h) (by rfl) HS0 ?_
                      simp only [List.setIfInBounds_toArray, List.set_cons_zero, List.set_cons_succ]
                      refine RK.Any.skip 17 156 rfl rfl (by kernel_rfl) (by kernel_rfl) (by kernel_rfl) (by kernel_rfl) (fun _ _ _ h => h) (by rfl) HS0 ?_
                      simp only [List.setIfInBounds_toArray, List.set_cons_zero, List.set_cons_succ]
                      refine RK.Any.skip 18 157 rfl rfl (by kernel_rfl) (by kernel_rfl) (by kernel_rfl) (by kernel_rfl) (fun _ _ _ h => h) (by rfl) HS0 ?_
                      simp only [List.setIfInBounds_toArray, List.set_cons_zero, List.set_cons_succ]
                      refine RK.Any.skip 19 158 rfl rfl (by kernel_rfl) (by kernel_rfl) (by kernel_rfl) (by kernel_rfl) (fun _ _ _ h => h) (by rfl) HS0 ?_
                      simp only [List.setIfInBounds_toArray, List.set_cons_zero, List.set_cons_succ]
                      refine RK.Any.skip 20 159 rfl rfl (by kernel_rfl) (by kernel_rfl) (by kernel_rfl) (by kernel_rfl) (fun _ _ _ h => h) (by rfl) HS0 ?_
                      simp only [List.setIfInBounds_toArray, List.set_cons_zero, List.set_cons_succ]
                      refine RK.Any.skip 21 160 rfl rfl (by kernel_rfl) (by kernel_rfl) (by kernel_rfl) (by kernel_rfl) (fun _ _ _ h => h) (by rfl) HS0 ?_
                      simp only [List.setIfInBounds_toArray, List.set_cons_zero, List.set_cons_succ]
                      refine RK.Any.skip 22 161 rfl rfl (by kernel_rfl) (by kernel_rfl) (by kernel_rfl) (by kernel_rfl) (fun _ _ _ h => h) (by rfl) HS0 ?_
                      simp only [List.setIfInBounds_toArray, List.set_cons_zero, List.set_cons_succ]
                      refine RK.Any.skip 23 162 rfl rfl (by kernel_rfl) (by kernel_rfl) (by kernel_rfl) (by kernel_rfl) (fun _ _ _ h => h) (by rfl) HS0 ?_
                      simp only [List.setIfInBounds_toArray, List.set_cons_zero, List.set_cons_succ]
                      refine RK.Any.skip 24 163 rfl rfl (by kernel_rfl) (by kernel_rfl) (by kernel_rfl) (by kernel_rfl) (fun _ _ _ h => h) (by rfl) HS0 ?_
                      simp only [List.setIfInBounds_toArray, List.set_cons_zero, List.set_cons_succ]
                      refine RK.Any.skip 25 164 rfl rfl (by kernel_rfl) (by kernel_rfl) (by kernel_rfl) (by kernel_rfl) (fun _ _ _ h => h) (by rfl) HS0 ?_
                      simp only [List.setIfInBounds_toArray, List.set_cons_zero, List.set_cons_succ]
                      refine RK.Any.skip 26 165 rfl rfl (by kernel_rfl) (by kernel_rfl) (by kernel_rfl) (by kernel_rfl) (fun _ _ _ h => h) (by rfl) HS0 ?_
                      simp only [List.setIfInBounds_toArray, List.set_cons_zero, List.set_cons_succ]
                      refine RK.Any.exec 27 166 (.bool true) (w1 := w2) (by kernel_rfl) rfl rfl (by rfl) (by go_simp) HS0 ?_
                      simp only [List.setIfInBounds_toArray, List.set_cons_zero, List.set_cons_succ]
                      refine RK.Any.exec 28 22 (.bool true) (w1 := w2) (by kernel_rfl) rfl rfl (by rfl) (by go_simp) HS0 ?_
                      simp only [List.setIfInBounds_toArray, List.set_cons_zero, List.set_cons_succ]
                      refine RK.Any.done (by kernel_rfl) ?_
                      go_wp2_with fail
                      go_roundw
                      case rel => exact ⟨k + 1, true, by omega, by go_num, rfl, Lib.hid fun _ => rfl, HD9⟩
                      case measure => simp [RowKit.intOf]; omega
                    | false =>
                      have hkno : ¬ (isv = bv ∨ ∃ r z, r < k ∧ ys[r]? = some z ∧ z.at_ = at_ ∧ isv = full z.s) := fun h => by cases HKN.out h
                      have HKX : Hid (¬ (z.at_ = at_ ∧ isv = full z.s) → ¬ (isv = bv ∨ ∃ r z, r < k + 1 ∧ ys[r]? = some z ∧ z.at_ = at_ ∧ isv = full z.s)) := Lib.hid fun hP h => by
                        rcases h with h | ⟨r, y, h1, h2, h3, h4⟩
                        · exact hkno (.inl h)
                        · by_cases e : r = k
                          · subst e
                            obtain rfl : z = y := Option.some.inj (HZ.out.symm.trans h2)
                            exact hP ⟨h3, h4⟩
                          · exact hkno (.inr ⟨r, y, by omega, h2, h3, h4⟩)
                      clear hkno HKN
                      by_cases hat : z.at_ = at_
                      · obtain ⟨e5, he5⟩ : ∃ e5, 512 - z.s.length = e5 := ⟨_, rfl⟩
                        have hsub : (512 : Int) - (z.s.length : Int) = (e5 : Int) := by omega
                        have hw5 : IntKind.i64.wrap (e5 : Int) = (e5 : Int) := by simp [IntKind.wrap, IntKind.bits, IntKind.signed]; omega
                        have hzr := zr_any e5 (by omega)
                        have lz := zr_len e5
                        have hcat : (⟨z.s.toArray⟩ : ByteArray) ++ ⟨(zr e5).toArray⟩ = ⟨(full z.s).toArray⟩ := by rw [ByteArray.mk_append_mk]; unfold full zr; rw [he5]; first | done | simp
                        have hadd : ¬ 9223372036854775807 < z.s.length + e5 := by omega
                        obtain ⟨ft, hft⟩ : ∃ ft, full z.s = ft := ⟨_, rfl⟩
                        rw [hft] at hcat
                        have HFT := Lib.hid hft
                        clear hft
                        have HAT := Lib.hid hat
                        refine RK.Any.take 0 139 (.bool false) rfl rfl (by kernel_rfl) (by kernel_rfl) (by kernel_rfl) (by kernel_rfl) (fun _ _ _ h => h) (by rfl) (fun W' hb => ?_) HS0 ?_
                        · go_simp
                        simp only [List.setIfInBounds_toArray, List.set_cons_zero, List.set_cons_succ]
                        refine RK.Any.take 1 140 (.bool false) rfl rfl (by kernel_rfl) (by kernel_rfl) (by kernel_rfl) (by kernel_rfl) (fun _ _ _ h => h) (by rfl) (fun W' hb => ?_) HS0 ?_
                        · go_simp
                        simp only [List.setIfInBounds_toArray, List.set_cons_zero, List.set_cons_succ]
                        refine RK.Any.take 2 141 (.slice (some dad) ys.length rc) rfl rfl (by kernel_rfl) (by kernel_rfl) (by kernel_rfl) (by kernel_rfl) (fun _ _ _ h => h) (by rfl) (fun W' hb => ?_) HS0 ?_
                        · go_simp
                        simp only [List.setIfInBounds_toArray, List.set_cons_zero, List.set_cons_succ]
                        refine RK.Any.take 3 142 (.int .i64 (k : Int)) rfl rfl (by kernel_rfl) (by kernel_rfl) (by kernel_rfl) (by kernel_rfl) (fun _ _ _ h => h) (by rfl) (fun W' hb => ?_) HS0 ?_
                        · go_simp
                        simp only [List.setIfInBounds_toArray, List.set_cons_zero, List.set_cons_succ]
                        refine RK.Any.take 4 143 (.pointer (some ⟨q, O, none⟩)) rfl rfl (by kernel_rfl) (by kernel_rfl) (by kernel_rfl) (by kernel_rfl) (fun _ _ _ h => h) (by rfl) (fun W' hb => ?_) HS0 ?_
                        · go_simp
                        simp only [List.setIfInBounds_toArray, List.set_cons_zero, List.set_cons_succ]
                        refine RK.Any.take 5 144 (.pointer (some ⟨q, O + 1, none⟩)) rfl rfl (by kernel_rfl) (by kernel_rfl) (by kernel_rfl) (by kernel_rfl) (fun _ _ _ h => h) (by rfl) (fun W' hb => ?_) HS0 ?_
                        · go_simp
                        simp only [List.setIfInBounds_toArray, List.set_cons_zero, List.set_cons_succ]
                        refine RK.Any.take 6 145 (.int .i64 z.at_) rfl rfl (by kernel_rfl) (by kernel_rfl) (by kernel_rfl) (by kernel_rfl) (fun _ _ _ h => h) (by rfl) (fun W' hb => ?_) HS0 ?_
                        · have c := hb.c; go_simp
                        simp only [List.setIfInBounds_toArray, List.set_cons_zero, List.set_cons_succ]
                        refine RK.Any.take 7 146 (.int .i64 at_) rfl rfl (by kernel_rfl) (by kernel_rfl) (by kernel_rfl) (by kernel_rfl) (fun _ _ _ h => h) (by rfl) (fun W' hb => ?_) HS0 ?_
                        · go_simp
                        simp only [List.setIfInBounds_toArray, List.set_cons_zero, List.set_cons_succ]
                        refine RK.Any.take 8 147 (.bool true) rfl rfl (by kernel_rfl) (by kernel_rfl) (by kernel_rfl) (by kernel_rfl) (fun _ _ _ h => h) (by rfl) (fun W' hb => ?_) HS0 ?_
                        · go_simp
                        simp only [List.setIfInBounds_toArray, List.set_cons_zero, List.set_cons_succ]
                        refine RK.Any.take 9 148 (.bool true) rfl rfl (by kernel_rfl) (by kernel_rfl) (by kernel_rfl) (by kernel_rfl) (fun _ _ _ h => h) (by rfl) (fun W' hb => ?_) HS0 ?_
                        · go_simp
                        simp only [List.setIfInBounds_toArray, List.set_cons_zero, List.set_cons_succ]
                        refine RK.Any.take 10 149 (.string ⟨isv.toArray⟩) rfl rfl (by kernel_rfl) (by kernel_rfl) (by kernel_rfl) (by kernel_rfl) (fun _ _ _ h => h) (by rfl) (fun W' hb => ?_) HS0 ?_
                        · go_simp
                        simp only [List.setIfInBounds_toArray, List.set_cons_zero, List.set_cons_succ]
                        refine RK.Any.take 11 150 (.slice (some dad) ys.length rc) rfl rfl (by kernel_rfl) (by kernel_rfl) (by kernel_rfl) (by kernel_rfl) (fun _ _ _ h => h) (by rfl) (fun W' hb => ?_) HS0 ?_
                        · go_simp
                        simp only [List.setIfInBounds_toArray, List.set_cons_zero, List.set_cons_succ]
                        refine RK.Any.take 12 151 (.int .i64 (k : Int)) rfl rfl (by kernel_rfl) (by kernel_rfl) (by kernel_rfl) (by kernel_rfl) (fun _ _ _ h => h) (by rfl) (fun W' hb => ?_) HS0 ?_
                        · go_simp
                        simp only [List.setIfInBounds_toArray, List.set_cons_zero, List.set_cons_succ]
                        refine RK.Any.take 13 152 (.pointer (some ⟨q, O, none⟩)) rfl rfl (by kernel_rfl) (by kernel_rfl) (by kernel_rfl) (by kernel_rfl) (fun _ _ _ h => h) (by rfl) (fun W' hb => ?_) HS0 ?_
                        · go_simp
                        simp only [List.setIfInBounds_toArray, List.set_cons_zero, List.set_cons_succ]
                        refine RK.Any.take 14 153 (.pointer (some ⟨q, O + 2, none⟩)) rfl rfl (by kernel_rfl) (by kernel_rfl) (by kernel_rfl) (by kernel_rfl) (fun _ _ _ h => h) (by rfl) (fun W' hb => ?_) HS0 ?_
                        · go_simp
                        simp only [List.setIfInBounds_toArray, List.set_cons_zero, List.set_cons_succ]
                        refine RK.Any.take 15 154 (.string ⟨z.s.toArray⟩) rfl rfl (by kernel_rfl) (by kernel_rfl) (by kernel_rfl) (by kernel_rfl) (fun _ _ _ h => h) (by rfl) (fun W' hb => ?_) HS0 ?_
                        · have c := hb.d; go_simp
                        simp only [List.setIfInBounds_toArray, List.set_cons_zero, List.set_cons_succ]
                        refine RK.Any.take 16 155 (.slice (some dad) ys.length rc) rfl rfl (by kernel_rfl) (by kernel_rfl) (by kernel_rfl) (by kernel_rfl) (fun _ _ _ h => h) (by rfl) (fun W' hb => ?_) HS0 ?_
                        · go_simp
                        simp only [List.setIfInBounds_toArray, List.set_cons_zero, List.set_cons_succ]
                        refine RK.Any.take 17 156 (.int .i64 (k : Int)) rfl rfl (by kernel_rfl) (by kernel_rfl) (by kernel_rfl) (by kernel_rfl) (fun _ _ _ h => h) (by rfl) (fun W' hb => ?_) HS0 ?_
                        · go_simp
                        simp only [List.setIfInBounds_toArray, List.set_cons_zero, List.set_cons_succ]
                        refine RK.Any.take 18 157 (.pointer (some ⟨q, O, none⟩)) rfl rfl (by kernel_rfl) (by kernel_rfl) (by kernel_rfl) (by kernel_rfl) (fun _ _ _ h => h) (by rfl) (fun W' hb => ?_) HS0 ?_
                        · go_simp
                        simp only [List.setIfInBounds_toArray, List.set_cons_zero, List.set_cons_succ]
                        refine RK.Any.take 19 158 (.pointer (some ⟨q, O + 2, none⟩)) rfl rfl (by kernel_rfl) (by kernel_rfl) (by kernel_rfl) (by kernel_rfl) (fun _ _ _ h => h) (by rfl) (fun W' hb => ?_) HS0 ?_
                        · go_simp
                        simp only [List.setIfInBounds_toArray, List.set_cons_zero, List.set_cons_succ]
                        refine RK.Any.take 20 159 (.string ⟨z.s.toArray⟩) rfl rfl (by kernel_rfl) (by kernel_rfl) (by kernel_rfl) (by kernel_rfl) (fun _ _ _ h => h) (by rfl) (fun W' hb => ?_) HS0 ?_
                        · have c := hb.d; go_simp
                        simp only [List.setIfInBounds_toArray, List.set_cons_zero, List.set_cons_succ]
                        refine RK.Any.take 21 160 (.int .i64 (z.s.length : Int)) rfl rfl (by kernel_rfl) (by kernel_rfl) (by kernel_rfl) (by kernel_rfl) (fun _ _ _ h => h) (by rfl) (fun W' hb => ?_) HS0 ?_
                        · go_simp
                        simp only [List.setIfInBounds_toArray, List.set_cons_zero, List.set_cons_succ]
                        refine RK.Any.take 22 161 (.int .i64 (e5 : Int)) rfl rfl (by kernel_rfl) (by kernel_rfl) (by kernel_rfl) (by kernel_rfl) (fun _ _ _ h => h) (by rfl) (fun W' hb => ?_) HS0 ?_
                        · go_simp
                        simp only [List.setIfInBounds_toArray, List.set_cons_zero, List.set_cons_succ]
                        refine RK.Any.call 23 162 23 #[.int .i64 (e5 : Int)] (by kernel_rfl) rfl rfl (by rfl) (by go_simp) (Calls.mono (hzr.at w2) ?_)
                        rintro e w3 ⟨rfl, hb3⟩
                        have HS1 := HS0.up hb3
                        refine ⟨_, rfl, fun _ => HS1, ?_⟩
                        simp only [List.setIfInBounds_toArray, List.set_cons_zero, List.set_cons_succ]
                        have HD8 := Lib.hid (HD9.out.step hb3)
                        clear hb3
                        refine RK.Any.exec 24 163 (.string ⟨ft.toArray⟩) (w1 := w3) (by kernel_rfl) rfl rfl (by rfl) (by go_simp) HS1 ?_
                        simp only [List.setIfInBounds_toArray, List.set_cons_zero, List.set_cons_succ]
                        by_cases hft2 : isv = ft
                        · subst hft2
                          refine RK.Any.exec 25 164 (.bool true) (w1 := w3) (by kernel_rfl) rfl rfl (by rfl) (by go_simp) HS1 ?_
                          simp only [List.setIfInBounds_toArray, List.set_cons_zero, List.set_cons_succ]
                          refine RK.Any.exec 26 165 (.bool true) (w1 := w3) (by kernel_rfl) rfl rfl (by rfl) (by go_simp) HS1 ?_
                          simp only [List.setIfInBounds_toArray, List.set_cons_zero, List.set_cons_succ]
                          refine RK.Any.exec 27 166 (.bool true) (w1 := w3) (by kernel_rfl) rfl rfl (by rfl) (by go_simp) HS1 ?_
                          simp only [List.setIfInBounds_toArray, List.set_cons_zero, List.set_cons_succ]
                          refine RK.Any.exec 28 22 (.bool true) (w1 := w3) (by kernel_rfl) rfl rfl (by rfl) (by go_simp) HS1 ?_
                          simp only [List.setIfInBounds_toArray, List.set_cons_zero, List.set_cons_succ]
                          refine RK.Any.done (by kernel_rfl) ?_
                          go_wp2_with fail
                          go_roundw
                          case rel => exact ⟨k + 1, true, by omega, by go_num, rfl, Lib.hid fun _ => rfl, HD8⟩
                          case measure => simp [RowKit.intOf]; omega
                        · refine RK.Any.exec 25 164 (.bool false) (w1 := w3) (by kernel_rfl) rfl rfl (by rfl) (by go_simp) HS1 ?_
                          simp only [List.setIfInBounds_toArray, List.set_cons_zero, List.set_cons_succ]
                          refine RK.Any.exec 26 165 (.bool false) (w1 := w3) (by kernel_rfl) rfl rfl (by rfl) (by go_simp) HS1 ?_
                          simp only [List.setIfInBounds_toArray, List.set_cons_zero, List.set_cons_succ]
                          refine RK.Any.exec 27 166 (.bool false) (w1 := w3) (by kernel_rfl) rfl rfl (by rfl) (by go_simp) HS1 ?_
                          simp only [List.setIfInBounds_toArray, List.set_cons_zero, List.set_cons_succ]
                          refine RK.Any.exec 28 22 (.bool false) (w1 := w3) (by kernel_rfl) rfl rfl (by rfl) (by go_simp) HS1 ?_
                          simp only [List.setIfInBounds_toArray, List.set_cons_zero, List.set_cons_succ]
                          refine RK.Any.done (by kernel_rfl) ?_
                          go_wp2_with fail
                          go_roundw
                          case rel => exact ⟨k + 1, false, by omega, by go_num, rfl, Lib.hid fun h => absurd h (HKX.out fun h => hft2 (h.2.trans HFT.out)), HD8⟩
                          case measure => simp [RowKit.intOf]; omega
                      · refine RK.Any.take 0 139 (.bool false) rfl rfl (by kernel_rfl) (by kernel_rfl) (by kernel_rfl) (by kernel_rfl) (fun _ _ _ h => h) (by rfl) (fun W' hb => ?_) HS0 ?_
                        · go_simp
                        simp only [List.setIfInBounds_toArray, List.set_cons_zero, List.set_cons_succ]
                        refine RK.Any.take 1 140 (.bool false) rfl rfl (by kernel_rfl) (by kernel_rfl) (by kernel_rfl) (by kernel_rfl) (fun _ _ _ h => h) (by rfl) (fun W' hb => ?_) HS0 ?_
                        · go_simp
                        simp only [List.setIfInBounds_toArray, List.set_cons_zero, List.set_cons_succ]
                        refine RK.Any.take 2 141 (.slice (some dad) ys.length rc) rfl rfl (by kernel_rfl) (by kernel_rfl) (by kernel_rfl) (by kernel_rfl) (fun _ _ _ h => h) (by rfl) (fun W' hb => ?_) HS0 ?_
                        · go_simp
                        simp only [List.setIfInBounds_toArray, List.set_cons_zero, List.set_cons_succ]
                        refine RK.Any.take 3 142 (.int .i64 (k : Int)) rfl rfl (by kernel_rfl) (by kernel_rfl) (by kernel_rfl) (by kernel_rfl) (fun _ _ _ h => h) (by rfl) (fun W' hb => ?_) HS0 ?_
                        · go_simp
                        simp only [List.setIfInBounds_toArray, List.set_cons_zero, List.set_cons_succ]
                        refine RK.Any.take 4 143 (.pointer (some ⟨q, O, none⟩)) rfl rfl (by kernel_rfl) (by kernel_rfl) (by kernel_rfl) (by kernel_rfl) (fun _ _ _ h => h) (by rfl) (fun W' hb => ?_) HS0 ?_
                        · go_simp
                        simp only [List.setIfInBounds_toArray, List.set_cons_zero, List.set_cons_succ]
                        refine RK.Any.take 5 144 (.pointer (some ⟨q, O + 1, none⟩)) rfl rfl (by kernel_rfl) (by kernel_rfl) (by kernel_rfl) (by kernel_rfl) (fun _ _ _ h => h) (by rfl) (fun W' hb => ?_) HS0 ?_
                        · go_simp
                        simp only [List.setIfInBounds_toArray, List.set_cons_zero, List.set_cons_succ]
                        refine RK.Any.take 6 145 (.int .i64 z.at_) rfl rfl (by kernel_rfl) (by kernel_rfl) (by kernel_rfl) (by kernel_rfl) (fun _ _ _ h => h) (by rfl) (fun W' hb => ?_) HS0 ?_
                        · have c := hb.c; go_simp
                        simp only [List.setIfInBounds_toArray, List.set_cons_zero, List.set_cons_succ]
                        refine RK.Any.take 7 146 (.int .i64 at_) rfl rfl (by kernel_rfl) (by kernel_rfl) (by kernel_rfl) (by kernel_rfl) (fun _ _ _ h => h) (by rfl) (fun W' hb => ?_) HS0 ?_
                        · go_simp
                        simp only [List.setIfInBounds_toArray, List.set_cons_zero, List.set_cons_succ]
                        refine RK.Any.take 8 147 (.bool false) rfl rfl (by kernel_rfl) (by kernel_rfl) (by kernel_rfl) (by kernel_rfl) (fun _ _ _ h => h) (by rfl) (fun W' hb => ?_) HS0 ?_
                        · go_simp
                        simp only [List.setIfInBounds_toArray, List.set_cons_zero, List.set_cons_succ]
                        refine RK.Any.take 9 148 (.bool false) rfl rfl (by kernel_rfl) (by kernel_rfl) (by kernel_rfl) (by kernel_rfl) (fun _ _ _ h => h) (by rfl) (fun W' hb => ?_) HS0 ?_
                        · go_simp
                        simp only [List.setIfInBounds_toArray, List.set_cons_zero, List.set_cons_succ]
                        refine RK.Any.skip 10 149 rfl rfl (by kernel_rfl) (by kernel_rfl) (by kernel_rfl) (by kernel_rfl) (fun _ _ _ h => h) (by rfl) HS0 ?_
                        simp only [List.setIfInBounds_toArray, List.set_cons_zero, List.set_cons_succ]
                        refine RK.Any.skip 11 150 rfl rfl (by kernel_rfl) (by kernel_rfl) (by kernel_rfl) (by kernel_rfl) (fun _ _ _ h => h) (by rfl) HS0 ?_
                        simp only [List.setIfInBounds_toArray, List.set_cons_zero, List.set_cons_succ]
                        refine RK.Any.skip 12 151 rfl rfl (by kernel_rfl) (by kernel_rfl) (by kernel_rfl) (by kernel_rfl) (fun _ _ _ h => h) (by rfl) HS0 ?_
                        simp only [List.setIfInBounds_toArray, List.set_cons_zero, List.set_cons_succ]
                        refine RK.Any.skip 13 152 rfl rfl (by kernel_rfl) (by kernel_rfl) (by kernel_rfl) (by kernel_rfl) (fun _ _ _ h => h) (by rfl) HS0 ?_
                        simp only [List.setIfInBounds_toArray, List.set_cons_zero, List.set_cons_succ]
                        refine RK.Any.skip 14 153 rfl rfl (by kernel_rfl) (by kernel_rfl) (by kernel_rfl) (by kernel_rfl) (fun _ _ _ h => h) (by rfl) HS0 ?_
                        simp only [List.setIfInBounds_toArray, List.set_cons_zero, List.set_cons_succ]
                        refine RK.Any.skip 15 154 rfl rfl (by kernel_rfl) (by kernel_rfl) (by kernel_rfl) (by kernel_rfl) (fun _ _ _ h => h) (by rfl) HS0 ?_
                        simp only [List.setIfInBounds_toArray, List.set_cons_zero, List.set_cons_succ]
                        refine RK.Any.skip 16 155 rfl rfl (by kernel_rfl) (by kernel_rfl) (by kernel_rfl) (by kernel_rfl) (fun _ _ _ h => h) (by rfl) HS0 ?_
                        simp only [List.setIfInBounds_toArray, List.set_cons_zero, List.set_cons_succ]
                        refine RK.Any.skip 17 156 rfl rfl (by kernel_rfl) (by kernel_rfl) (by kernel_rfl) (by kernel_rfl) (fun _ _ _ h => h) (by rfl) HS0 ?_
                        simp only [List.setIfInBounds_toArray, List.set_cons_zero, List.set_cons_succ]
                        refine RK.Any.skip 18 157 rfl rfl (by kernel_rfl) (by kernel_rfl) (by kernel_rfl) (by kernel_rfl) (fun _ _ _ h => h) (by rfl) HS0 ?_
                        simp only [List.setIfInBounds_toArray, List.set_cons_zero, List.set_cons_succ]
                        refine RK.Any.skip 19 158 rfl rfl (by kernel_rfl) (by kernel_rfl) (by kernel_rfl) (by kernel_rfl) (fun _ _ _ h => h) (by rfl) HS0 ?_
                        simp only [List.setIfInBounds_toArray, List.set_cons_zero, List.set_cons_succ]
                        refine RK.Any.skip 20 159 rfl rfl (by kernel_rfl) (by kernel_rfl) (by kernel_rfl) (by kernel_rfl) (fun _ _ _ h => h) (by rfl) HS0 ?_
                        simp only [List.setIfInBounds_toArray, List.set_cons_zero, List.set_cons_succ]
                        refine RK.Any.skip 21 160 rfl rfl (by kernel_rfl) (by kernel_rfl) (by kernel_rfl) (by kernel_rfl) (fun _ _ _ h => h) (by rfl) HS0 ?_
                        simp only [List.setIfInBounds_toArray, List.set_cons_zero, List.set_cons_succ]
                        refine RK.Any.skip 22 161 rfl rfl (by kernel_rfl) (by kernel_rfl) (by kernel_rfl) (by kernel_rfl) (fun _ _ _ h => h) (by rfl) HS0 ?_
                        simp only [List.setIfInBounds_toArray, List.set_cons_zero, List.set_cons_succ]
                        refine RK.Any.skip 23 162 rfl rfl (by kernel_rfl) (by kernel_rfl) (by kernel_rfl) (by kernel_rfl) (fun _ _ _ h => h) (by rfl) HS0 ?_
                        simp only [List.setIfInBounds_toArray, List.set_cons_zero, List.set_cons_succ]
                        refine RK.Any.skip 24 163 rfl rfl (by kernel_rfl) (by kernel_rfl) (by kernel_rfl) (by kernel_rfl) (fun _ _ _ h => h) (by rfl) HS0 ?_
                        simp only [List.setIfInBounds_toArray, List.set_cons_zero, List.set_cons_succ]
                        refine RK.Any.skip 25 164 rfl rfl (by kernel_rfl) (by kernel_rfl) (by kernel_rfl) (by kernel_rfl) (fun _ _ _ h => h) (by rfl) HS0 ?_
                        simp only [List.setIfInBounds_toArray, List.set_cons_zero, List.set_cons_succ]
                        refine RK.Any.exec 26 165 (.bool false) (w1 := w2) (by kernel_rfl) rfl rfl (by rfl) (by go_simp) HS0 ?_
                        simp only [List.setIfInBounds_toArray, List.set_cons_zero, List.set_cons_succ]
                        refine RK.Any.exec 27 166 (.bool false) (w1 := w2) (by kernel_rfl) rfl rfl (by rfl) (by go_simp) HS0 ?_
                        simp only [List.setIfInBounds_toArray, List.set_cons_zero, List.set_cons_succ]
                        refine RK.Any.exec 28 22 (.bool false) (w1 := w2) (by kernel_rfl) rfl rfl (by rfl) (by go_simp) HS0 ?_
                        simp only [List.setIfInBounds_toArray, List.set_cons_zero, List.set_cons_succ]
                        refine RK.Any.done (by kernel_rfl) ?_
                        go_wp2_with fail
                        go_roundw
                        case rel => exact ⟨k + 1, false, by omega, by go_num, rfl, Lib.hid fun h => absurd h (HKX.out fun h => hat h.1), HD9⟩
                        case measure => simp [RowKit.intOf]; omega
                  · obtain rfl : k = ys.length := by omega
                    have HKE : kn = false → t = some at_ := fun e => by
                      by_cases ht : t = some at_
                      · exact ht
                      · exfalso
                        have := HKN.out (HSO.out hsec ht)
                        rw [e] at this
                        cases this
                    cases kn with
                    | true =>
                      clear HKE
                      go_wp2_with fail
                      go_roundw
                      case rel => exact ⟨i + 1, tz, by omega, by go_num, rfl, HTZ, HD⟩
                      case measure => simp [RowKit.intOf]; omega
                    | false =>
                      have ht := HKE rfl
                      have HT9 : Hid (at_ = -1 ∨ t = some at_) := Lib.hid (.inr ht)
                      have h0 : 0 ≤ at_ := (sec_yes.1 hsec).1
                      by_cases htz : tz = -1
                      · subst htz
                        clear HKE ht
                        go_wp2_with fail
                        go_roundw
                        case rel => exact ⟨i + 1, at_, by omega, by go_num, rfl, HT9, HD⟩
                        case measure => simp [RowKit.intOf]; omega
                      · obtain rfl : tz = at_ := by
                          rcases HTZ.out with h | h
                          · exact absurd h htz
                          · rw [ht] at h
                            exact (Option.some.inj h).symm
                        clear HKE ht htz
                        go_wp2_with fail
                        go_roundw
                        case rel => exact ⟨i + 1, tz, by omega, by go_num, rfl, HT9, HD⟩
                        case measure => simp [RowKit.intOf]; omega
              · obtain rfl : i = ys.length := by omega
                have hd1 : Wh.dead = true := HDD.out.1
                have hd2 : No.dead = true := HDD.out.2.1
                have hd3 : So.dead = true := HDD.out.2.2.1
                have hd4 : ((So.c.length : Nat) : Int) = 0 := by rw [HDD.out.2.2.2]; rfl
                go_wp2_with (first
                  | (go_at_call 20; (first | with_reducible refine (Ds.dead2 HD.out (i := 2) rfl).mono ?_ | with_reducible refine (Ds.dead2 HD.out (i := 3) rfl).mono ?_ | with_reducible refine (Ds.dead2 HD.out (i := 4) rfl).mono ?_); rintro e w5 ⟨he, hh⟩; (first | rw [hd1] at he | rw [hd2] at he | rw [hd3] at he); subst he; replace HD := Lib.hid hh; clear hh)
                  | (go_at_call 18; (with_reducible refine (Ds.waits2 HD.out (i := 4) rfl).mono ?_); rintro e w5 ⟨he, hh⟩; rw [hd4] at he; subst he; replace HD := Lib.hid hh; clear hh))
                all_goals
                  go_ret
                  exact ⟨rfl, HD.out.below⟩
  all_goals
    go_ret
    exact ⟨rfl, HB.out⟩
set_option maxHeartbeats 4000000 in
set_option maxRecDepth 100000 in
theorem left_far (ao : Option Addr) (n c : Nat) (f : Nat → Sp) (hn : n ≤ 9223372036854775807) (bo : Option Addr) (m d : Nat) (g : Nat → Sp) (hm : m ≤ 9223372036854775807) (ko : Option Addr) (kl kc : Nat) (hk : ¬ kl ≤ 1000) (x : Int) (W : World) (hf : StepsAt W ao n f) (hs : StepsSm n f) (hg : StepsAt W bo m g) (hsg : StepsSm m g) :
    Calls Tryd.prog 7 #[.slice ao n c, .slice bo m d, .slice ko kl kc, .int .i64 x] W fun e w' => e = .returned (.bool true) ∧ Below W.heap.size W w' := by
  have HLG := Lib.hid (fun w (h : Below W.heap.size W w) => long_any ao n c f hn w (hf.step h) hs)
  have HLG2 := Lib.hid (fun w (h : Below W.heap.size W w) => long_any bo m d g hm w (hg.step h) hsg)
  have HB := Lib.hid (Below.refl W.heap.size W)
  have hnl : (1000 : Int) < (kl : Int) := by omega
  clear hf hs hg hsg
  go_enter Tryd.func7, Tryd.ntmps7
  go_wp2_with (first
      | (go_at_call 13; (with_reducible refine (works_any _).mono ?_); rintro e w1 ⟨rfl, h⟩; replace HB := Lib.hid (bnext HB.out h); clear h)
      | (go_at_call 24; (with_reducible refine (HLG.out _ HB.out).mono ?_); rintro e w2 ⟨r, rfl, hsm, h⟩; replace HB := Lib.hid (bnext HB.out h); have HSM := Lib.hid hsm; clear h hsm; cases r)
      | (go_at_call 24; (with_reducible refine (HLG2.out _ HB.out).mono ?_); rintro e w2 ⟨r, rfl, hsm, h⟩; replace HB := Lib.hid (bnext HB.out h); have HSM2 := Lib.hid hsm; clear h hsm; cases r))
  all_goals
    go_ret
    exact ⟨rfl, HB.out⟩
theorem walkDiskLeft (v v2 v3 : Value) (x : Int) (W : World) (hv : Stp W v) (hv2 : Stp W v2) (hb : BoolsIn W v3) :
    Calls Tryd.prog 7 #[v, v2, v3, .int .i64 x] W fun e w' => e = .returned (.bool true) ∧ Below W.heap.size W w' := by
  obtain ⟨ao, n, c, f, rfl, hn, hf, hs⟩ := hv
  obtain ⟨bo, m, d, g, rfl, hm, hg, hsg⟩ := hv2
  obtain ⟨ko, kc, keep, rfl, hk, hko⟩ := hb
  by_cases h : keep.length ≤ 1000
  · exact left_near ao n c f hn bo m d g hm ko keep kc h x W hf hs hg hsg hko
  · exact left_far ao n c f hn bo m d g hm ko keep.length kc h x W hf hs hg hsg
end M
end Go.Proofs.YtdgaokmmjnedhaaDoor

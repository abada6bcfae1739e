/- The texts DskLaw4, DskFuseW, one behind the other. -/
import Derived.Test.YtdgaokmmjnedhaaDoorWB9
/- The sectors that steps name; is one of them far away? */ -/
namespace Go.Proofs.YtdgaokmmjnedhaaDoor
open Go Go.RowKit Go.Lib Go.Deep
namespace M
open MM
section
variable {W w : World} {L : Dl} {R : World → Prop} {i B N : Nat} {s : Dsk}
theorem Ds.dead2 (h : Ds W L R w) (hi : L[i]? = some (B, N, s)) : Calls Tryd.prog 20 #[ptr B] w fun e w' => e = .returned (.bool s.dead) ∧ Ds W L R w' := (Ds.dead h hi).mono fun _ _ ⟨a, b⟩ => ⟨a, b ▸ h⟩
theorem Ds.waits2 (h : Ds W L R w) (hi : L[i]? = some (B, N, s)) : Calls Tryd.prog 18 #[ptr B] w fun e w' => e = .returned (.int .i64 (s.c.length : Int)) ∧ Ds W L R w' := (Ds.waits h hi).mono fun _ _ ⟨a, b⟩ => ⟨a, b ▸ h⟩
end
/-- The sectors. -/
def secsTo (f : Nat → Sp) (i : Nat) : List Int := [0, 1, 65535] ++ (List.range i).map fun j => (f j).at_
theorem secsTo_len (f : Nat → Sp) (i : Nat) : (secsTo f i).length = i + 3 := by simp [secsTo]
theorem secsTo_succ (f : Nat → Sp) (i : Nat) : secsTo f (i + 1) = secsTo f i ++ [(f i).at_] := by simp [secsTo, List.range_succ]
theorem OwnE.lit3 (w : World) (a b c : Int) : OwnE w 3 (.slice (some ⟨w.heap.size, 0, none⟩) 3 3) (ints [a, b, c]) (w.alloc (.cells #[.int .i64 a, .int .i64 b, .int .i64 c] 3)) :=
  ⟨⟨rfl, .inr ⟨w.heap.size, 3, #[.int .i64 a, .int .i64 b, .int .i64 c], rfl, Nat.le_refl _, heap_alloc_new w _, Nat.le_refl _, by decide, rfl, rfl⟩⟩, below_box w _⟩
/-- A step's sector, as it lies. -/
theorem at_cell {W w : World} {ao : Option Addr} {n i : Nat} {f : Nat → Sp} (hf : StepsAt W ao n f) (hi : i < n) (hb : Below W.heap.size W w) : ∃ a B O, ao = some a ∧ a.add (i * 5) = ⟨B, O, none⟩ ∧ B < W.heap.size ∧ w.cell? ⟨B, O + 1, none⟩ = some (.int .i64 (f i).at_) ∧ w.cell? ⟨B, O, none⟩ = some (.int .u8 ((f i).k : Int)) := by
  obtain ⟨_, _, a, ha, hcl⟩ := hf i hi
  obtain ⟨B, O, hadr, hr1⟩ := step_range hcl
  have hr0 := range_below hr1 hb
  exact ⟨a, B, O, ha, hadr, World.block_lt_of_cell? W _ (hr1 0 _ rfl), hr0 1 _ rfl, hr0 0 _ rfl⟩
set_option maxRecDepth 100000 in
set_option maxHeartbeats 4000000 in
theorem sectors_any {W w : World} (hb : Below W.heap.size W w) (ao : Option Addr) (n c : Nat) (f : Nat → Sp) (hn : n ≤ 400000) (hf : StepsAt W ao n f) :
    Calls Tryd.prog 34 #[.slice ao n c] w fun e w' => ∃ v, e = .returned v ∧ (∃ a l k, v = .slice a l k) ∧ OwnE w 3 v (ints (secsTo f n)) w' := by
  have HF := Lib.hid hf
  have HB := Lib.hid hb
  have H0 : Hid (OwnE w 3 (.slice (some ⟨w.heap.size, 0, none⟩) (0 + 3) 3) (ints (secsTo f 0)) (w.alloc (.cells #[.int .i64 0, .int .i64 1, .int .i64 65535] 3))) := Lib.hid (OwnE.lit3 w 0 1 65535)
  clear hf hb
  go_enter Tryd.func34, Tryd.ntmps34
  go_wp2_with fail
  go_loopw [3, 4] (fun s3 s4 wx => ∃ (i : Nat) (bo : Option Addr) (c' : Nat), i ≤ n ∧ s4 = .int .i64 (i : Int) ∧ s3 = .slice bo (i + 3) c' ∧ Hid (OwnE w 3 (.slice bo (i + 3) c') (ints (secsTo f i)) wx)) (fun _ s4 _ => n - (RowKit.intOf s4).toNat)
  case atStart => exact ⟨0, _, 3, Nat.zero_le _, rfl, rfl, H0⟩
  case round =>
    obtain ⟨i, bo, c', hi, rfl, rfl, HI⟩ := hrel
    by_cases hlt : i < n
    · obtain ⟨a, B, O, rfl, hadr, _, hc1, _⟩ := at_cell HF.out hlt (HB.out.trans (HI.out.below.mono HB.out.size))
      have hbx := below_box wr (.cells #[.int .i64 (f i).at_] 3)
      obtain ⟨ao', cq, w5, hr, hown5, _⟩ := HI.out.pushInt (f i).at_ (by rw [ints_len, secsTo_len]; omega) 31
      rw [ints_len, secsTo_len] at hr hown5
      rw [ints_snoc, ← secsTo_succ] at hown5
      rw [show i + 3 + 1 = i + 1 + 3 by omega] at hr hown5
      have HO5 := Lib.hid hown5
      generalize (f i).at_ = x at *
      clear hbx hown5
      go_wp2_with (at_builtin; refine Lib.wpList_append_run _ rfl _ _ _ _ rfl _ _ rfl rfl _ _ hr ?_)
      go_roundw
      case rel => exact ⟨i + 1, ao', cq, by omega, by go_num, rfl, HO5⟩
      case measure => simp [RowKit.intOf]; omega
    · obtain rfl : i = n := by omega
      go_wp2_with fail
      go_ret
      exact ⟨_, rfl, ⟨_, _, _, rfl⟩, HI.out⟩
set_option maxRecDepth 100000 in
set_option maxHeartbeats 4000000 in
theorem far_any {W w : World} (hb : Below W.heap.size W w) (ao : Option Addr) (n c : Nat) (f : Nat → Sp) (hn : n ≤ 400000) (hf : StepsAt W ao n f) :
    Calls Tryd.prog 25 #[.slice ao n c] w fun e w' => (∃ r : Bool, e = .returned (.bool r)) ∧ Below w.heap.size w w' := by
  have HF := Lib.hid hf
  have HB := Lib.hid hb
  clear hf hb
  go_enter Tryd.func25, Tryd.ntmps25
  go_wp2_with fail
  go_loopw [3] (fun s3 wx => ∃ i : Nat, i ≤ n ∧ s3 = .int .i64 (i : Int) ∧ Hid (Below w.heap.size w wx)) (fun s3 _ => n - (RowKit.intOf s3).toNat)
  case atStart => exact ⟨0, Nat.zero_le _, rfl, Lib.hid (Below.refl _ _)⟩
  case round =>
    obtain ⟨i, hi, rfl, HI⟩ := hrel
    by_cases hlt : i < n
    · obtain ⟨a, B, O, rfl, hadr, _, hc1, _⟩ := at_cell HF.out hlt (HB.out.trans (HI.out.mono HB.out.size))
      generalize (f i).at_ = x at *
      by_cases h1 : 200 < x
      · by_cases h2 : x < 65536
        · go_wp2_with fail
          go_ret
          exact ⟨⟨_, rfl⟩, HI.out⟩
        · go_wp2_with fail
          go_roundw
          case rel => exact ⟨i + 1, by omega, by go_num, HI⟩
          case measure => simp [RowKit.intOf]; omega
      · go_wp2_with fail
        go_roundw
        case rel => exact ⟨i + 1, by omega, by go_num, HI⟩
        case measure => simp [RowKit.intOf]; omega
    · obtain rfl : i = n := by omega
      go_wp2_with fail
      go_ret
      exact ⟨⟨_, rfl⟩, HI.out⟩
end M
end Go.Proofs.YtdgaokmmjnedhaaDoor
/- The walk of DiskFuse. -/
namespace Go.Proofs.YtdgaokmmjnedhaaDoor
namespace MM
theorem fuse_no {T : Dsk} {x : St} (hd : T.dead = false) (hk : x.k = 1 ∨ x.k = 0 ∧ sec x.at_ = true ∧ x.s.length ≤ 512) (hf : T.fuse = some 0) : (T.step x).1 = 42 ∧ (T.step x).2 = T.died := by
  unfold Dsk.step
  rcases hk with h | ⟨h, h1, h2⟩
  · rw [if_neg (by omega), if_pos h]
    unfold Dsk.sync
    rw [if_neg (by simp [hd]), if_pos hf]
    exact ⟨rfl, rfl⟩
  · rw [if_pos h]
    unfold Dsk.write
    rw [if_neg (by simp [hd]), if_neg (by simp [h1]), if_neg (by omega), if_pos hf]
    exact ⟨rfl, rfl⟩
theorem fuse_yes {T : Dsk} {x : St} {r : Nat} (hd : T.dead = false) (hk : x.k = 1 ∨ x.k = 0 ∧ sec x.at_ = true ∧ x.s.length ≤ 512) (hf : T.fuse = some (r + 1)) : (T.step x).1 = 0 ∧ (T.step x).2.dead = false ∧ (T.step x).2.fuse = some r := by
  unfold Dsk.step
  rcases hk with h | ⟨h, h1, h2⟩
  · rw [if_neg (by omega), if_pos h]
    unfold Dsk.sync
    rw [if_neg (by simp [hd]), if_neg (by simp [hf])]
    exact ⟨rfl, hd, by simp [Dsk.burnt, hf]⟩
  · rw [if_pos h]
    unfold Dsk.write
    rw [if_neg (by simp [hd]), if_neg (by simp [h1]), if_neg (by omega), if_neg (by simp [hf])]
    exact ⟨rfl, hd, by simp [Dsk.burnt, hf]⟩
theorem not_fine {T : Dsk} {x : St} (hd : T.dead = false) (hk : x.k = 0) (h : ¬ (sec x.at_ = true ∧ x.s.length ≤ 512)) : ((T.step x).1 = 1 ∨ (T.step x).1 = 10) ∧ (T.step x).2 = T := by
  unfold Dsk.step
  rw [if_pos hk]
  unfold Dsk.write
  rw [if_neg (by simp [hd])]
  by_cases h1 : sec x.at_ = false
  · rw [if_pos h1]; exact ⟨.inl rfl, rfl⟩
  · rw [if_neg h1, if_pos (by
      have h2 : sec x.at_ = true := by simpa using h1
      have h3 : ¬ x.s.length ≤ 512 := fun e => h ⟨h2, e⟩
      omega)]
    exact ⟨.inr rfl, rfl⟩
theorem on_write {T : Dsk} (hd : T.dead = false) (hf : T.fuse = none) : (T.write 0 [111, 110]).1 = 0 ∧ (T.write 0 [111, 110]).2.read 0 = 111 :: 110 :: zr 510 := by
  have h : (T.write 0 [111, 110]).1 = 0 := by
    unfold Dsk.write
    rw [if_neg (by simp [hd]), if_neg (by decide), if_neg (by decide), if_neg (by simp [hf])]
  exact ⟨h, (write_read h).1.trans rfl⟩
end MM
open Go Go.RowKit Go.Lib Go.Deep
namespace M
open MM
abbrev zSp : Array Value := #[.int .u8 0, .int .i64 0, .string ⟨#[]⟩, .int .i64 0, .slice none 0 0]
theorem sp_one (t : Sp) : (t.cells : Array Value).all (·.oneCell') = true := by simp [Value.oneCell']
theorem boxed_at (w : World) (cs : Array Value) : ((w.alloc (.cells zSp 41)).setRow w.heap.size cs).heap[w.heap.size]? = some (.cells cs 41 (0, 0)) :=
  setRow_heap _ _ _ _ _ _ (heap_alloc_new w _)
theorem boxed_below (w : World) (cs : Array Value) : Below w.heap.size w ((w.alloc (.cells zSp 41)).setRow w.heap.size cs) := by
  have h := below_box w (.cells zSp 41)
  exact ⟨h.os, h.tape, h.output, by simp [World.setRow], fun k hk => (setRow_other _ _ _ _ (by omega)).trans (h.block k hk)⟩
theorem row_range {w : World} {b : Nat} {cs : Array Value} {t : TypeId} (h : w.heap[b]? = some (.cells cs t (0, 0))) : w.rangeAt b 0 cs.toList := fun j v hj => by
  rw [Nat.zero_add, cell_of_row _ b j _ _ _ h, ← hj, Array.getElem?_toList]
theorem info_step : (Tryd.prog.info? 41).map (fun i => (i.zero, i.size)) = some (some (.agg #[.int .u8 0, .int .i64 0, .string ⟨#[]⟩, .int .i64 0, .slice none 0 0]), 5) := by kernel_rfl
set_option maxHeartbeats 8000000 in
set_option maxRecDepth 100000 in
theorem walkDiskFuse (v : Value) (x : Int) (v2 : Value) (W : World) (hv : Stp W v) (hv2 : Stp W v2) :
    Calls Tryd.prog 8 #[v, .int .i64 x, v2] W fun e w' => e = .returned (.bool true) ∧ Below W.heap.size W w' := by
  obtain ⟨ao, n, c, f, rfl, hn, hf, hs⟩ := hv
  obtain ⟨bo, m, d, g, rfl, hm, hg, hsg⟩ := hv2
  have HLG := Lib.hid (fun w (h : Below W.heap.size W w) => long_any ao n c f hn w (hf.step h) hs)
  have HLG2 := Lib.hid (fun w (h : Below W.heap.size W w) => long_any bo m d g hm w (hg.step h) hsg)
  have HF := Lib.hid hf
  have HG := Lib.hid hg
  have HB := Lib.hid (Below.refl W.heap.size W)
  clear hf hs hg hsg
  obtain ⟨q, hq, hqe⟩ : ∃ q : Nat, q < 100 ∧ wrap64 ((IntKind.u64.wrap x).tmod 100) = (q : Int) := by
    have h1 : 0 ≤ IntKind.u64.wrap x := by simp only [IntKind.wrap, IntKind.bits, IntKind.signed]; simp; omega
    rw [Int.tmod_eq_emod_of_nonneg h1]
    refine ⟨(IntKind.u64.wrap x % 100).toNat, by omega, ?_⟩
    unfold wrap64
    omega
  generalize hS : runS Dsk.new (fun i => (f i).st) n = S at *
  have HS := Lib.hid hS
  clear hS
  go_enter Tryd.func8, Tryd.ntmps8
  go_wp2_with (first
      | (go_at_call 13; (with_reducible refine (works_any _).mono ?_); rintro e w1 ⟨rfl, h⟩; replace HB := Lib.hid (bnext HB.out h); clear h)
      | (go_at_call 24; (with_reducible refine (HLG.out _ HB.out).mono ?_); rintro e w2 ⟨r, rfl, hsm, h⟩; replace HB := Lib.hid (bnext HB.out h); have HSM := Lib.hid hsm; clear h hsm; cases r)
      | (go_at_call 24; (with_reducible refine (HLG2.out _ HB.out).mono ?_); rintro e w2 ⟨r, rfl, hsm, h⟩; replace HB := Lib.hid (bnext HB.out h); have HSM2 := Lib.hid hsm; clear h hsm; cases r)
      | (go_at_call 33; (with_reducible refine (after_any (Ds.start W HB.out) ao n c f (by have := few (HSM.out trivial); omega) HF.out).mono ?_); rintro e w1 ⟨B, rfl, h⟩; rw [HS.out] at h; have HD : Hid (Ds W [(B, n, S)] (fun _ => True) w1) := Lib.hid h; clear h)
      | (go_at_call 12; (with_reducible refine (Ds.boot HD.out (i := 0) rfl).mono ?_); rintro e w1 ⟨rfl, h⟩; replace HD : Hid (Ds W [(B, n, S.start)] (fun _ => True) w1) := Lib.hid h; clear h)
      | (go_at_call 10; (with_reducible refine (Ds.fuse HD.out (i := 0) rfl (q : Int) (by omega)).mono ?_); rintro e w1 ⟨rfl, h⟩; replace HD : Hid (Ds W [(B, n, S.start.setFuse (q : Int))] (fun _ => True) w1) := Lib.hid h; clear h))
  · have hT0 : Hid ((S.start.setFuse (q : Int)).dead = false ∧ (S.start.setFuse (q : Int)).fuse = some (q - 0)) := Lib.hid ⟨rfl, by simp [Dsk.setFuse]⟩
    generalize S.start.setFuse (q : Int) = T0 at *
    have hn2 := few (HSM.out trivial)
    have hm2 := few (HSM2.out trivial)
    clear HSM HSM2 HLG HLG2 HB HS HF
    go_loopw [8, 9] (fun s8 s9 wx => ∃ (i j N : Nat) (T : Dsk), i ≤ m ∧ j ≤ q ∧ N ≤ n + i ∧ s9 = .int .i64 (i : Int) ∧ s8 = .int .i64 (j : Int) ∧ Hid (T.dead = false ∧ T.fuse = some (q - j)) ∧ Hid (Ds W [(B, N, T)] (fun _ => True) wx)) (fun _ s9 _ => m - (RowKit.intOf s9).toNat)
    case atStart => exact ⟨0, 0, n, T0, Nat.zero_le _, Nat.zero_le _, Nat.le_refl _, rfl, rfl, hT0, HD⟩
    case round =>
      obtain ⟨i, j, N, T, hi, hj, hN, rfl, rfl, HT, HD⟩ := hrel
      by_cases hlt : i < m
      · obtain ⟨hok, hkb, a, ha, hcl⟩ := HG.out i hlt
        subst ha
        obtain ⟨Bs, O, hadr, hr1⟩ := step_range hcl
        have HRG := Lib.hid (range_below hr1 HD.out.below)
        have HSZ := Lib.hid (info_sp (g i))
        have HONE := Lib.hid (sp_one (g i))
        have HBX := Lib.hid (fun w => heap_alloc_new w (.cells (g i).cells 41))
        have HBB := Lib.hid (fun w => below_box w (.cells (g i).cells 41))
        have HKB := Lib.hid hkb
        have HOK := Lib.hid hok
        clear hcl hr1 hkb hok
        generalize wr = w0 at *
        go_upto_region 12 with (first
          | (refine wpList_load_mid rfl 41 _ rfl Bs O rfl (g i).cells.toList _ HRG.out Tryd.underlying41 rfl HSZ.out ?_)
          | (refine wpList_store_row rfl 41 _ _ rfl w0.heap.size (g i).cells rfl rfl 41 zSp (heap_alloc_new w0 _) info_step rfl HONE.out ?_))
        have HX := Lib.hid (row_range (HBX.out w0))
        have HD3 := Lib.hid (HD.out.step (HBB.out w0))
        clear HRG HBX HBB HONE HD
        generalize w0.alloc (.cells (g i).cells 41) = w3 at *
        generalize w0.heap.size = b1 at *
        have HDO : Hid (∀ w, Ds W [(B, N, T)] (fun _ => True) w → Calls Tryd.prog 27 #[.agg (g i).cells, ptr B] w fun e w' => e = .returned (.int .i64 ((T.step (g i).st).1 : Int)) ∧ Ds W [(B, N + 1, (T.step (g i).st).2)] (fun _ => True) w') :=
          Lib.hid fun w h => Ds.does h (i := 0) rfl (by omega) (g i) HOK.out fun u hu _ => HKB.out.step hu
        have HFN : Hid (((g i).k = 1 ∨ (g i).k = 0 ∧ sec (g i).at_ = true ∧ (g i).s.length ≤ 512) → (j < q → ((T.step (g i).st).1 : Int) = 0 ∧ (T.step (g i).st).2.dead = false ∧ (T.step (g i).st).2.fuse = some (q - (j + 1))) ∧ (¬ j < q → ((T.step (g i).st).1 : Int) = 42 ∧ (T.step (g i).st).2 = T.died)) :=
          Lib.hid fun h => ⟨fun hjq => by
            obtain ⟨h1, h2, h3⟩ := fuse_yes (x := (g i).st) (r := q - (j + 1)) HT.out.1 h (by rw [HT.out.2]; congr 1; omega)
            exact ⟨by rw [h1]; rfl, h2, h3⟩, fun hjq => by
            obtain ⟨h1, h2⟩ := fuse_no (x := (g i).st) HT.out.1 h (by rw [HT.out.2]; congr 1; omega)
            exact ⟨by rw [h1]; rfl, h2⟩⟩
        have HNF : Hid ((g i).k = 0 → ¬ (sec (g i).at_ = true ∧ (g i).s.length ≤ 512) → (((T.step (g i).st).1 : Int) = 1 ∨ ((T.step (g i).st).1 : Int) = 10) ∧ (T.step (g i).st).2 = T) :=
          Lib.hid fun h0 h => by
            obtain ⟨h1, h2⟩ := not_fine (x := (g i).st) HT.out.1 h0 h
            exact ⟨h1.imp (fun e => by rw [e]; rfl) fun e => by rw [e]; rfl, h2⟩
        generalize ((T.step (g i).st).1 : Int) = E at *
        generalize (T.step (g i).st).2 = T2 at *
        have hL512 := HOK.out.s
        clear HOK HKB
        generalize g i = y at *
        obtain ⟨yk, yat, ys, yn, yko, ykc, ykeep⟩ := y
        simp only at HFN HNF hL512
        have c0 : w3.cell? ⟨b1, 0, none⟩ = some (.int .u8 (yk : Int)) := HX.out 0 _ rfl
        have c1 : w3.cell? ⟨b1, 1, none⟩ = some (.int .i64 yat) := HX.out 1 _ rfl
        have c2 : w3.cell? ⟨b1, 2, none⟩ = some (.string ⟨ys.toArray⟩) := HX.out 2 _ rfl
        have HY : Hid ((Tryd.prog.info? 41).map (·.size) = some (Sp.cells ⟨yk, yat, ys, yn, yko, ykc, ykeep⟩).toList.length) := HSZ
        clear HSZ
        by_cases h2k : 1 < yk
        · have h2k' : (1 : Int) < (yk : Int) := by omega
          go_wp2_with fail
          go_roundw
          case rel => exact ⟨i + 1, j, N, T, by omega, hj, by omega, by go_num, rfl, HT, HD3⟩
          case measure => simp [RowKit.intOf]; omega
        have h2k' : ¬ (1 : Int) < (yk : Int) := by omega
        by_cases h1k : yk = 1
        · subst h1k
          have HDL : Hid (∀ w, Ds W [(B, N, T)] (fun _ => True) w → Calls Tryd.prog 27 #[.agg #[.int .u8 1, .int .i64 yat, .string ⟨ys.toArray⟩, .int .i64 yn, .slice yko ykeep.length ykc], ptr B] w fun e w' => e = .returned (.int .i64 E) ∧ Ds W [(B, N + 1, T2)] (fun _ => True) w') := HDO
          obtain ⟨hyes, hno⟩ := HFN.out (.inl rfl)
          clear HFN HNF
          by_cases hjq : j < q
          · have hjq' : (j : Int) < (q : Int) := by omega
            obtain ⟨rfl, hdd, hff⟩ := hyes hjq
            have HT4 : Hid (T2.dead = false ∧ T2.fuse = some (q - (j + 1))) := Lib.hid ⟨hdd, hff⟩
            clear hyes hno hff
            go_upto_region 14 with fail
            go_wp2_with (first
            | (refine wpList_load_mid rfl 41 _ rfl b1 0 rfl (Sp.cells ⟨1, yat, ys, yn, yko, ykc, ykeep⟩).toList _ HX.out Tryd.underlying41 rfl HY.out ?_)
            | (go_at_call 27; (first | with_reducible refine (HDL.out _ HD3.out).mono ?_ | with_reducible refine (HDO.out _ HD3.out).mono ?_); rintro e w4 ⟨rfl, h⟩; have HD4 := Lib.hid h; clear h)
            | (go_at_call 20; (with_reducible refine (Ds.dead2 HD4.out (i := 0) rfl).mono ?_); rintro e w5 ⟨he, h⟩; rw [hdd] at he; subst he; replace HD4 := Lib.hid h; clear h)
            | (go_at_call 12; (with_reducible refine (Ds.boot HD4.out (i := 0) rfl).mono ?_); rintro e w5 ⟨rfl, h⟩; have HD6 : Hid (Ds W [(B, N + 1, T.died.start)] (fun _ => True) w5) := Lib.hid h; clear h)
            | (go_at_call 14; (with_reducible refine (HWO.out _ HD6.out).mono ?_); rintro e w5 ⟨rfl, h⟩; have HD7 := Lib.hid h; clear h)
            | (go_at_call 16; (with_reducible refine (Ds.read HD7.out (i := 0) rfl 0).mono ?_); rintro e w5 ⟨he, h⟩; rw [HRO.out] at he; subst he; have HD8 := Lib.hid (HD7.out.step h); clear h))
            go_roundw
            case rel => exact ⟨i + 1, j + 1, N + 1, T2, by omega, by omega, by omega, by go_num, by go_num, HT4, HD4⟩
            case measure => simp [RowKit.intOf]; omega
          · have hjq' : ¬ (j : Int) < (q : Int) := by omega
            obtain ⟨rfl, rfl⟩ := hno hjq
            have hdd : T.died.dead = true := rfl
            obtain ⟨ho1, ho2⟩ := on_write (T := T.died.start) rfl rfl
            have HWO : Hid (∀ w, Ds W [(B, N + 1, T.died.start)] (fun _ => True) w → Calls Tryd.prog 14 #[ptr B, .int .i64 0, .string ⟨#[111, 110]⟩] w fun e w' => e = .returned (.int .i64 0) ∧ Ds W [(B, N + 1 + 1, (T.died.start.write 0 [111, 110]).2)] (fun _ => True) w') :=
              Lib.hid fun w h => (Ds.write h (i := 0) rfl (by omega) 0 [111, 110]).mono fun e w' ⟨a, b⟩ => ⟨by rw [a, ho1]; rfl, b⟩
            have HRO := Lib.hid ho2
            have l510 : (zr 510).length = 510 := zr_len _
            have hx2 : (⟨(111 :: 110 :: zr 510).toArray⟩ : ByteArray).extract 0 2 = ⟨#[111, 110]⟩ := by rw [ByteArray.extract_mk]; simp
            clear hyes hno ho1 ho2
            generalize (T.died.start.write 0 [111, 110]).2 = T3 at *
            go_upto_region 14 with fail
            go_wp2_with (first
            | (refine wpList_load_mid rfl 41 _ rfl b1 0 rfl (Sp.cells ⟨1, yat, ys, yn, yko, ykc, ykeep⟩).toList _ HX.out Tryd.underlying41 rfl HY.out ?_)
            | (go_at_call 27; (first | with_reducible refine (HDL.out _ HD3.out).mono ?_ | with_reducible refine (HDO.out _ HD3.out).mono ?_); rintro e w4 ⟨rfl, h⟩; have HD4 := Lib.hid h; clear h)
            | (go_at_call 20; (with_reducible refine (Ds.dead2 HD4.out (i := 0) rfl).mono ?_); rintro e w5 ⟨he, h⟩; rw [hdd] at he; subst he; replace HD4 := Lib.hid h; clear h)
            | (go_at_call 12; (with_reducible refine (Ds.boot HD4.out (i := 0) rfl).mono ?_); rintro e w5 ⟨rfl, h⟩; have HD6 : Hid (Ds W [(B, N + 1, T.died.start)] (fun _ => True) w5) := Lib.hid h; clear h)
            | (go_at_call 14; (with_reducible refine (HWO.out _ HD6.out).mono ?_); rintro e w5 ⟨rfl, h⟩; have HD7 := Lib.hid h; clear h)
            | (go_at_call 16; (with_reducible refine (Ds.read HD7.out (i := 0) rfl 0).mono ?_); rintro e w5 ⟨he, h⟩; rw [HRO.out] at he; subst he; have HD8 := Lib.hid (HD7.out.step h); clear h))
            go_ret
            exact ⟨rfl, HD8.out.below⟩
        obtain rfl : yk = 0 := by omega
        have HDL : Hid (∀ w, Ds W [(B, N, T)] (fun _ => True) w → Calls Tryd.prog 27 #[.agg #[.int .u8 0, .int .i64 yat, .string ⟨ys.toArray⟩, .int .i64 yn, .slice yko ykeep.length ykc], ptr B] w fun e w' => e = .returned (.int .i64 E) ∧ Ds W [(B, N + 1, T2)] (fun _ => True) w') := HDO
        by_cases ha0 : 0 ≤ yat
        · by_cases ha1 : yat < 65536
          · by_cases hl5 : ys.length ≤ 512
            · have hl5' : (ys.length : Int) ≤ 512 := by omega
              obtain ⟨hyes, hno⟩ := HFN.out (.inr ⟨rfl, sec_yes.2 ⟨ha0, ha1⟩, hl5⟩)
              clear HFN HNF
              by_cases hjq : j < q
              · have hjq' : (j : Int) < (q : Int) := by omega
                obtain ⟨rfl, hdd, hff⟩ := hyes hjq
                have HT4 : Hid (T2.dead = false ∧ T2.fuse = some (q - (j + 1))) := Lib.hid ⟨hdd, hff⟩
                clear hyes hno hff
                go_upto_region 14 with fail
                go_wp2_with (first
            | (refine wpList_load_mid rfl 41 _ rfl b1 0 rfl (Sp.cells ⟨0, yat, ys, yn, yko, ykc, ykeep⟩).toList _ HX.out Tryd.underlying41 rfl HY.out ?_)
            | (go_at_call 27; (first | with_reducible refine (HDL.out _ HD3.out).mono ?_ | with_reducible refine (HDO.out _ HD3.out).mono ?_); rintro e w4 ⟨rfl, h⟩; have HD4 := Lib.hid h; clear h)
            | (go_at_call 20; (with_reducible refine (Ds.dead2 HD4.out (i := 0) rfl).mono ?_); rintro e w5 ⟨he, h⟩; rw [hdd] at he; subst he; replace HD4 := Lib.hid h; clear h)
            | (go_at_call 12; (with_reducible refine (Ds.boot HD4.out (i := 0) rfl).mono ?_); rintro e w5 ⟨rfl, h⟩; have HD6 : Hid (Ds W [(B, N + 1, T.died.start)] (fun _ => True) w5) := Lib.hid h; clear h)
            | (go_at_call 14; (with_reducible refine (HWO.out _ HD6.out).mono ?_); rintro e w5 ⟨rfl, h⟩; have HD7 := Lib.hid h; clear h)
            | (go_at_call 16; (with_reducible refine (Ds.read HD7.out (i := 0) rfl 0).mono ?_); rintro e w5 ⟨he, h⟩; rw [HRO.out] at he; subst he; have HD8 := Lib.hid (HD7.out.step h); clear h))
                go_roundw
                case rel => exact ⟨i + 1, j + 1, N + 1, T2, by omega, by omega, by omega, by go_num, by go_num, HT4, HD4⟩
                case measure => simp [RowKit.intOf]; omega
              · have hjq' : ¬ (j : Int) < (q : Int) := by omega
                obtain ⟨rfl, rfl⟩ := hno hjq
                have hdd : T.died.dead = true := rfl
                obtain ⟨ho1, ho2⟩ := on_write (T := T.died.start) rfl rfl
                have HWO : Hid (∀ w, Ds W [(B, N + 1, T.died.start)] (fun _ => True) w → Calls Tryd.prog 14 #[ptr B, .int .i64 0, .string ⟨#[111, 110]⟩] w fun e w' => e = .returned (.int .i64 0) ∧ Ds W [(B, N + 1 + 1, (T.died.start.write 0 [111, 110]).2)] (fun _ => True) w') :=
                  Lib.hid fun w h => (Ds.write h (i := 0) rfl (by omega) 0 [111, 110]).mono fun e w' ⟨a, b⟩ => ⟨by rw [a, ho1]; rfl, b⟩
                have HRO := Lib.hid ho2
                have l510 : (zr 510).length = 510 := zr_len _
                have hx2 : (⟨(111 :: 110 :: zr 510).toArray⟩ : ByteArray).extract 0 2 = ⟨#[111, 110]⟩ := by rw [ByteArray.extract_mk]; simp
                clear hyes hno ho1 ho2
                generalize (T.died.start.write 0 [111, 110]).2 = T3 at *
                go_upto_region 14 with fail
                go_wp2_with (first
            | (refine wpList_load_mid rfl 41 _ rfl b1 0 rfl (Sp.cells ⟨0, yat, ys, yn, yko, ykc, ykeep⟩).toList _ HX.out Tryd.underlying41 rfl HY.out ?_)
            | (go_at_call 27; (first | with_reducible refine (HDL.out _ HD3.out).mono ?_ | with_reducible refine (HDO.out _ HD3.out).mono ?_); rintro e w4 ⟨rfl, h⟩; have HD4 := Lib.hid h; clear h)
            | (go_at_call 20; (with_reducible refine (Ds.dead2 HD4.out (i := 0) rfl).mono ?_); rintro e w5 ⟨he, h⟩; rw [hdd] at he; subst he; replace HD4 := Lib.hid h; clear h)
            | (go_at_call 12; (with_reducible refine (Ds.boot HD4.out (i := 0) rfl).mono ?_); rintro e w5 ⟨rfl, h⟩; have HD6 : Hid (Ds W [(B, N + 1, T.died.start)] (fun _ => True) w5) := Lib.hid h; clear h)
            | (go_at_call 14; (with_reducible refine (HWO.out _ HD6.out).mono ?_); rintro e w5 ⟨rfl, h⟩; have HD7 := Lib.hid h; clear h)
            | (go_at_call 16; (with_reducible refine (Ds.read HD7.out (i := 0) rfl 0).mono ?_); rintro e w5 ⟨he, h⟩; rw [HRO.out] at he; subst he; have HD8 := Lib.hid (HD7.out.step h); clear h))
                go_ret
                exact ⟨rfl, HD8.out.below⟩
            · have hl5' : ¬ (ys.length : Int) ≤ 512 := by omega
              obtain ⟨hE, rfl⟩ := HNF.out rfl (fun h => hl5 h.2)
              have hdd := HT.out.1
              have hE0 : (E == 0) = false := by rw [beq_eq_false_iff_ne]; omega
              have hE42 : (E == 42) = false := by rw [beq_eq_false_iff_ne]; omega
              clear HFN HNF hE
              go_upto_region 14 with fail
              go_wp2_with (first
            | (refine wpList_load_mid rfl 41 _ rfl b1 0 rfl (Sp.cells ⟨0, yat, ys, yn, yko, ykc, ykeep⟩).toList _ HX.out Tryd.underlying41 rfl HY.out ?_)
            | (go_at_call 27; (first | with_reducible refine (HDL.out _ HD3.out).mono ?_ | with_reducible refine (HDO.out _ HD3.out).mono ?_); rintro e w4 ⟨rfl, h⟩; have HD4 := Lib.hid h; clear h)
            | (go_at_call 20; (with_reducible refine (Ds.dead2 HD4.out (i := 0) rfl).mono ?_); rintro e w5 ⟨he, h⟩; rw [hdd] at he; subst he; replace HD4 := Lib.hid h; clear h)
            | (go_at_call 12; (with_reducible refine (Ds.boot HD4.out (i := 0) rfl).mono ?_); rintro e w5 ⟨rfl, h⟩; have HD6 : Hid (Ds W [(B, N + 1, T.died.start)] (fun _ => True) w5) := Lib.hid h; clear h)
            | (go_at_call 14; (with_reducible refine (HWO.out _ HD6.out).mono ?_); rintro e w5 ⟨rfl, h⟩; have HD7 := Lib.hid h; clear h)
            | (go_at_call 16; (with_reducible refine (Ds.read HD7.out (i := 0) rfl 0).mono ?_); rintro e w5 ⟨he, h⟩; rw [HRO.out] at he; subst he; have HD8 := Lib.hid (HD7.out.step h); clear h))
              go_roundw
              case rel => exact ⟨i + 1, j, N + 1, T2, by omega, hj, by omega, by go_num, rfl, HT, HD4⟩
              case measure => simp [RowKit.intOf]; omega
          · have hs0 : ¬ (sec yat = true) := by rw [sec_yes]; omega
            obtain ⟨hE, rfl⟩ := HNF.out rfl (fun h => hs0 h.1)
            have hdd := HT.out.1
            have hE0 : (E == 0) = false := by rw [beq_eq_false_iff_ne]; omega
            have hE42 : (E == 42) = false := by rw [beq_eq_false_iff_ne]; omega
            clear HFN HNF hE
            go_upto_region 14 with fail
            go_wp2_with (first
            | (refine wpList_load_mid rfl 41 _ rfl b1 0 rfl (Sp.cells ⟨0, yat, ys, yn, yko, ykc, ykeep⟩).toList _ HX.out Tryd.underlying41 rfl HY.out ?_)
            | (go_at_call 27; (first | with_reducible refine (HDL.out _ HD3.out).mono ?_ | with_reducible refine (HDO.out _ HD3.out).mono ?_); rintro e w4 ⟨rfl, h⟩; have HD4 := Lib.hid h; clear h)
            | (go_at_call 20; (with_reducible refine (Ds.dead2 HD4.out (i := 0) rfl).mono ?_); rintro e w5 ⟨he, h⟩; rw [hdd] at he; subst he; replace HD4 := Lib.hid h; clear h)
            | (go_at_call 12; (with_reducible refine (Ds.boot HD4.out (i := 0) rfl).mono ?_); rintro e w5 ⟨rfl, h⟩; have HD6 : Hid (Ds W [(B, N + 1, T.died.start)] (fun _ => True) w5) := Lib.hid h; clear h)
            | (go_at_call 14; (with_reducible refine (HWO.out _ HD6.out).mono ?_); rintro e w5 ⟨rfl, h⟩; have HD7 := Lib.hid h; clear h)
            | (go_at_call 16; (with_reducible refine (Ds.read HD7.out (i := 0) rfl 0).mono ?_); rintro e w5 ⟨he, h⟩; rw [HRO.out] at he; subst he; have HD8 := Lib.hid (HD7.out.step h); clear h))
            go_roundw
            case rel => exact ⟨i + 1, j, N + 1, T2, by omega, hj, by omega, by go_num, rfl, HT, HD4⟩
            case measure => simp [RowKit.intOf]; omega
        · have hs0 : ¬ (sec yat = true) := by rw [sec_yes]; omega
          obtain ⟨hE, rfl⟩ := HNF.out rfl (fun h => hs0 h.1)
          have hdd := HT.out.1
          have hE0 : (E == 0) = false := by rw [beq_eq_false_iff_ne]; omega
          have hE42 : (E == 42) = false := by rw [beq_eq_false_iff_ne]; omega
          clear HFN HNF hE
          go_upto_region 14 with fail
          go_wp2_with (first
            | (refine wpList_load_mid rfl 41 _ rfl b1 0 rfl (Sp.cells ⟨0, yat, ys, yn, yko, ykc, ykeep⟩).toList _ HX.out Tryd.underlying41 rfl HY.out ?_)
            | (go_at_call 27; (first | with_reducible refine (HDL.out _ HD3.out).mono ?_ | with_reducible refine (HDO.out _ HD3.out).mono ?_); rintro e w4 ⟨rfl, h⟩; have HD4 := Lib.hid h; clear h)
            | (go_at_call 20; (with_reducible refine (Ds.dead2 HD4.out (i := 0) rfl).mono ?_); rintro e w5 ⟨he, h⟩; rw [hdd] at he; subst he; replace HD4 := Lib.hid h; clear h)
            | (go_at_call 12; (with_reducible refine (Ds.boot HD4.out (i := 0) rfl).mono ?_); rintro e w5 ⟨rfl, h⟩; have HD6 : Hid (Ds W [(B, N + 1, T.died.start)] (fun _ => True) w5) := Lib.hid h; clear h)
            | (go_at_call 14; (with_reducible refine (HWO.out _ HD6.out).mono ?_); rintro e w5 ⟨rfl, h⟩; have HD7 := Lib.hid h; clear h)
            | (go_at_call 16; (with_reducible refine (Ds.read HD7.out (i := 0) rfl 0).mono ?_); rintro e w5 ⟨he, h⟩; rw [HRO.out] at he; subst he; have HD8 := Lib.hid (HD7.out.step h); clear h))
          go_roundw
          case rel => exact ⟨i + 1, j, N + 1, T2, by omega, hj, by omega, by go_num, rfl, HT, HD4⟩
          case measure => simp [RowKit.intOf]; omega
      · obtain rfl : i = m := by omega
        have hjq' : (j : Int) ≤ (q : Int) := by omega
        go_wp2_with fail
        go_ret
        exact ⟨rfl, HD.out.below⟩
  · go_ret
    exact ⟨rfl, HB.out⟩
  · go_ret
    exact ⟨rfl, HB.out⟩
end M
end Go.Proofs.YtdgaokmmjnedhaaDoor

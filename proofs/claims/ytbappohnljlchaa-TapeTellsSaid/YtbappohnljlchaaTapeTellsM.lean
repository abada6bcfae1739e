/- Whatever is drawn, one behind the other or several at once, is the document's; the row that was handed in may be written over, and the one that is told. -/
import Derived.Test.YtbappohnljlchaaRows
import Derived.Test.YtbappohnljlchaaWB1
import Derived.Test.YtbappohnljlchaaWB8
namespace Go.Proofs.Ytbappohnljlchaa
open Go.ChangeShapes Go.WideShapes Go.ChangeAt Go.RowKit
namespace TapeTells
open M

open MM Go.Lib
set_option maxHeartbeats 16000000 in
set_option maxRecDepth 100000 in
theorem walkHere (ao : Option Addr) (n c : Nat) (z : Nat → Nat) (s : Nat) (bo : Option Addr) (m d : Nat) (y : Nat → Nat) (x : Int) (hn : n ≤ 500) (hm : m ≤ 500) (hz : ∀ k, z k < 18446744073709551616) (hy : ∀ k, y k < 18446744073709551616) (hs : s < 18446744073709551616) (W : World) (hr : Rd W ao n z) (h0 : ao = none → n = 0 ∧ c = 0) (hl : Rd W bo m y) :
    Calls Try.prog 4 #[.slice ao n c, .int .u64 (s : Int), .slice bo m d, .int .i64 x] W fun e w' => e = .returned (.bool true) ∧ Below W.heap.size W w' := by
  have n5 : ¬ (500 : Int) < (n : Int) := by omega
  have m5 : ¬ (500 : Int) < (m : Int) := by omega
  obtain ⟨co, cc, W2, hrun, hcp⟩ := copied_run W ao c (lst n z) (by rw [lst_len]; omega) (src_of hr h0)
  rw [lst_len] at hrun
  have HIR : Hid (0 < n → ∃ G off, co = some ⟨G, off, none⟩ ∧ W.heap.size ≤ G ∧ G < W2.heap.size ∧ IR G off n W2) := Lib.hid fun h => by
    have := hcp.ir (by rw [lst_len]; exact h)
    rwa [lst_len] at this
  have HO1 : Hid (Calls Try.prog 16 #[.slice co n cc, .int .u64 (s : Int)] W2 fun e w' => ∃ B, e = .returned (ptr B) ∧ TS W W2.heap.size w'.heap.size [(true, B, Tp.of (lst n z) s)] w' ∧ Below W2.heap.size W2 w') := Lib.hid (by
    have h1 := of_any W2 co cc s (lst n z) (by rw [lst_len]; omega) ⟨hcp.row.rd, hcp.absent⟩ (Tp.Ok.of (lst_lt hz) hs)
    rw [lst_len] at h1
    exact h1.mono fun _ _ ⟨B, a, b⟩ => ⟨B, a, (TS.start hcp.below).addP b, b.2⟩)
  have HO2 : Hid (∀ L lo hi w, TS W lo hi L w → Calls Try.prog 17 #[.slice ao n c, .int .u64 (s : Int)] w fun e w' => ∃ B, e = .returned (ptr B) ∧ TS W lo w'.heap.size (L ++ [(false, B, Tp.of (lst n z) s)]) w' ∧ Below w.heap.size w w') := Lib.hid fun L lo hi w h => (rof_in w ao n c s z (by omega) hz (hr.below h.below) h0 hs).mono fun _ _ ⟨B, a, b⟩ => ⟨B, a, h.addQ b, b.2⟩
  have HO3 : Hid (∀ L lo hi w, TS W lo hi L w → Calls Try.prog 15 #[.int .u64 (s : Int)] w fun e w' => ∃ B, e = .returned (ptr B) ∧ TS W lo w'.heap.size (L ++ [(true, B, Tp.new s)]) w' ∧ Below w.heap.size w w') := Lib.hid fun L lo hi w h => (new_any w s (Tp.Ok.new hs)).mono fun _ _ ⟨B, a, b⟩ => ⟨B, a, h.addP b, b.2⟩
  have HO4 : Hid (∀ L lo hi w, TS W lo hi L w → Calls Try.prog 18 #[.int .u64 (s : Int)] w fun e w' => ∃ B, e = .returned (ptr B) ∧ TS W lo w'.heap.size (L ++ [(false, B, Tp.new s)]) w' ∧ Below w.heap.size w w') := Lib.hid fun L lo hi w h => (rnew_any w s (Tp.Ok.new hs)).mono fun _ _ ⟨B, a, b⟩ => ⟨B, a, h.addQ b, b.2⟩
  have HL := Lib.hid (fun w (hb : Below W.heap.size W w) => hl.below hb)
  have HY := Lib.hid hy
  have HF : Hid ((Tp.of (lst n z) s).fs.length ≤ 1000) := Lib.hid (by show (lst n z).length ≤ 1000; rw [lst_len]; omega)
  have HN : Hid ((Tp.of (lst n z) s).n = 0) := Lib.hid rfl
  have HNA : Hid ((Tp.new s).n = 0) := Lib.hid rfl
  generalize Tp.of (lst n z) s = t at *
  generalize Tp.new s = a at *
  have HM5 := Lib.hid hm
  clear hr h0 hl hz hy hs hcp
  go_enter Try.func4, Try.ntmps4
  go_wp2_with (first
    | (at_builtin; refine Lib.wpList_append_run _ rfl _ _ _ _ rfl _ _ rfl rfl _ _ hrun ?_)
    | (go_at_call 16; (with_reducible refine (HO1.out).mono ?_); rintro e w1 ⟨B, rfl, h, hb⟩; have HD1 := Lib.hid h; have HB1 := Lib.hid hb; clear h hb)
    | (go_at_call 17; (with_reducible refine (HO2.out _ _ _ _ HD1.out).mono ?_); rintro e w2 ⟨X, rfl, h, hb⟩; have HD2 := Lib.hid h; have HB2 := Lib.hid hb; clear h hb)
    | (go_at_call 15; (with_reducible refine (HO3.out _ _ _ _ HD2.out).mono ?_); rintro e w3 ⟨A, rfl, h, hb⟩; have HD3 := Lib.hid h; have HB3 := Lib.hid hb; clear h hb)
    | (go_at_call 18; (with_reducible refine (HO4.out _ _ _ _ HD3.out).mono ?_); rintro e w4 ⟨Y, rfl, h, hb⟩; have HD4 := Lib.hid h; have HB4 := Lib.hid hb; clear h hb))
  obtain ⟨lo, hlo⟩ : ∃ lo, W2.heap.size = lo := ⟨_, rfl⟩
  obtain ⟨hi, hhi⟩ : ∃ hi, w4.heap.size = hi := ⟨_, rfl⟩
  have HD5 : Hid (TS W lo hi [(true, B, t), (false, X, t), (true, A, a), (false, Y, a)] w4) := Lib.hid (by rw [← hlo, ← hhi]; exact HD4.out)
  have HIR5 : Hid (0 < n → ∃ G off, co = some ⟨G, off, none⟩ ∧ W.heap.size ≤ G ∧ G < lo ∧ IR G off n w4) := Lib.hid fun h => by
    obtain ⟨G, off, e, a1, a2, a3⟩ := HIR.out h
    exact ⟨G, off, e, a1, by rw [← hlo]; exact a2, (((a3.step HB1.out).step HB2.out).step HB3.out).step HB4.out⟩
  clear hlo hhi HD1 HD2 HD3 HD4 HB1 HB2 HB3 HB4 HIR HO1 HO2 HO3 HO4 hrun
  go_loopw [14] (fun s14 wx => ∃ j : Nat, j ≤ n ∧ s14 = .int .i64 (j : Int) ∧ Hid (TS W lo hi [(true, B, t), (false, X, t), (true, A, a), (false, Y, a)] wx) ∧ Hid (0 < n → ∃ G off, co = some ⟨G, off, none⟩ ∧ W.heap.size ≤ G ∧ G < lo ∧ IR G off n wx)) (fun s14 _ => n - (RowKit.intOf s14).toNat)
  case atStart => exact ⟨0, Nat.zero_le _, rfl, HD5, HIR5⟩
  case round =>
    clear HD5 HIR5
    obtain ⟨j, hj, rfl, HD, HI⟩ := hrel
    rename_i wr
    by_cases hlt : j < n
    · have hk0 : (0 : Int) ≤ (j : Int) := Int.natCast_nonneg _
      have hk1 : (j : Int) < (n : Int) := by omega
      obtain ⟨G, off, rfl, b1, b2, b3⟩ := HI.out (by omega)
      obtain ⟨v0, hc⟩ := b3.cell hlt
      have hf := b3.free (off + j)
      have HD2 := Lib.hid (HD.out.free ((Turn.refl G wr).set (off + j) (.int .u64 5)) (.inl b2) b1)
      have HI2 : Hid (0 < n → ∃ G' off', some (⟨G, off, none⟩ : Addr) = some ⟨G', off', none⟩ ∧ W.heap.size ≤ G' ∧ G' < lo ∧ IR G' off' n (wr.setCell ⟨G, off + j, none⟩ (.int .u64 5))) := Lib.hid fun _ => ⟨G, off, rfl, b1, b2, b3.set _ _⟩
      clear b3 HD HI
      go_wp2_with fail
      go_roundw
      case rel => exact ⟨j + 1, by omega, by go_num, HD2, HI2⟩
      case measure => simp [RowKit.intOf]; omega
    · clear HI
      go_wp2_with fail
      go_loopw [15] (fun s15 wx => ∃ k : Nat, k ≤ m ∧ s15 = .int .i64 (k : Int) ∧ Hid (TS W lo hi [(true, B, t.run y k), (false, X, t.run y k), (true, A, a.run y k), (false, Y, a.run y k)] wx)) (fun s15 _ => m - (RowKit.intOf s15).toNat)
      case atStart => exact ⟨0, Nat.zero_le _, rfl, HD⟩
      case round =>
        clear HD
        obtain ⟨k, hk, rfl, HD⟩ := hrel
        by_cases hlt2 : k < m
        · have hk0 : (0 : Int) ≤ (k : Int) := Int.natCast_nonneg _
          have hk1 : (k : Int) < (m : Int) := by omega
          obtain ⟨bd, rfl, hc⟩ := (HL.out wr HD.out.below).at_ hlt2
          have HC : Hid (∀ w, Below W.heap.size W w → w.cell? (bd.add k) = some (.int .u64 ((y k : Nat) : Int))) := Lib.hid fun w hb => by
            obtain ⟨ad', e, h⟩ := (HL.out w hb).at_ hlt2
            cases e
            exact h
          have hqk := HY.out k
          have hnt : (t.run y k).n = k := by rw [Tp.run_n, HN.out]; omega
          have hna : (a.run y k).n = k := by rw [Tp.run_n, HNA.out]; omega
          have HNX : Hid ((t.run y (k + 1)) = (t.run y k).next (y k)) := Lib.hid rfl
          have HNY : Hid ((a.run y (k + 1)) = (a.run y k).next (y k)) := Lib.hid rfl
          have hnt1 : (t.run y (k + 1)).n = k + 1 := by rw [Tp.run_n, HN.out]; omega
          have hna1 : (a.run y (k + 1)).n = k + 1 := by rw [Tp.run_n, HNA.out]; omega
          generalize y k = q at *
          obtain ⟨tk1, htk1⟩ : ∃ tk1, t.run y (k + 1) = tk1 := ⟨_, rfl⟩
          obtain ⟨ak1, hak1⟩ : ∃ ak1, a.run y (k + 1) = ak1 := ⟨_, rfl⟩
          rw [htk1] at HNX hnt1
          rw [hak1] at HNY hna1
          have HTK := Lib.hid htk1
          have HAK := Lib.hid hak1
          clear htk1 hak1
          generalize t.run y k = tk at *
          generalize a.run y k = ak at *
          generalize hk11 : k + 1 = k1 at *
          have hb1 : tk.n < 4611686018427387904 := by rw [hnt]; omega
          have hb2 : ak.n < 4611686018427387904 := by rw [hna]; omega
          have HX1 : Hid (∀ w, TS W lo hi [(true, B, tk), (false, X, tk), (true, A, ak), (false, Y, ak)] w → Calls Try.prog 11 #[ptr B, .int .u64 (q : Int)] w fun e w' => e = .returned (.int .u64 ((tk.val q : Nat) : Int)) ∧ TS W lo hi [(true, B, tk1), (false, X, tk), (true, A, ak), (false, Y, ak)] w') := Lib.hid fun w h => (h.next (i := 0) rfl q hqk hb1).mono fun _ _ ⟨x1, x2, _⟩ => ⟨x1, by rw [← HNX.out] at x2; exact x2⟩
          have HX2 : Hid (∀ w, TS W lo hi [(true, B, tk1), (false, X, tk), (true, A, ak), (false, Y, ak)] w → Calls Try.prog 19 #[ptr X, .int .u64 (q : Int)] w fun e w' => e = .returned (.int .u64 ((tk.val q : Nat) : Int)) ∧ TS W lo hi [(true, B, tk1), (false, X, tk1), (true, A, ak), (false, Y, ak)] w') := Lib.hid fun w h => (h.rnext (i := 1) rfl q hqk hb1).mono fun _ _ ⟨x1, x2, _⟩ => ⟨x1, by rw [← HNX.out] at x2; exact x2⟩
          have HX3 : Hid (∀ w, TS W lo hi [(true, B, tk1), (false, X, tk1), (true, A, ak), (false, Y, ak)] w → Calls Try.prog 11 #[ptr A, .int .u64 (q : Int)] w fun e w' => e = .returned (.int .u64 ((ak.val q : Nat) : Int)) ∧ TS W lo hi [(true, B, tk1), (false, X, tk1), (true, A, ak1), (false, Y, ak)] w') := Lib.hid fun w h => (h.next (i := 2) rfl q hqk hb2).mono fun _ _ ⟨x1, x2, _⟩ => ⟨x1, by rw [← HNY.out] at x2; exact x2⟩
          have HX4 : Hid (∀ w, TS W lo hi [(true, B, tk1), (false, X, tk1), (true, A, ak1), (false, Y, ak)] w → Calls Try.prog 19 #[ptr Y, .int .u64 (q : Int)] w fun e w' => e = .returned (.int .u64 ((ak.val q : Nat) : Int)) ∧ TS W lo hi [(true, B, tk1), (false, X, tk1), (true, A, ak1), (false, Y, ak1)] w') := Lib.hid fun w h => (h.rnext (i := 3) rfl q hqk hb2).mono fun _ _ ⟨x1, x2, _⟩ => ⟨x1, by rw [← HNY.out] at x2; exact x2⟩
          have HA1 : Hid (∀ w, TS W lo hi [(true, B, tk1), (false, X, tk1), (true, A, ak1), (false, Y, ak1)] w → Calls Try.prog 13 #[ptr B] w fun e w' => e = .returned (.int .i64 (k1 : Int)) ∧ w' = w) := Lib.hid fun w h => h.atn (i := 0) rfl k1 hnt1
          have HA2 : Hid (∀ w, TS W lo hi [(true, B, tk1), (false, X, tk1), (true, A, ak1), (false, Y, ak1)] w → Calls Try.prog 13 #[ptr A] w fun e w' => e = .returned (.int .i64 (k1 : Int)) ∧ w' = w) := Lib.hid fun w h => h.atn (i := 2) rfl k1 hna1
          have HC1 : Hid (∀ w, TS W lo hi [(true, B, tk1), (false, X, tk1), (true, A, ak1), (false, Y, ak1)] w → w.cell? ⟨X, 2, none⟩ = some (.int .i64 (k1 : Int))) := Lib.hid fun w h => by
            have := h.cntAt (i := 1) rfl
            rwa [hnt1] at this
          have HC2 : Hid (∀ w, TS W lo hi [(true, B, tk1), (false, X, tk1), (true, A, ak1), (false, Y, ak1)] w → w.cell? ⟨Y, 2, none⟩ = some (.int .i64 (k1 : Int))) := Lib.hid fun w h => by
            have := h.cntAt (i := 3) rfl
            rwa [hna1] at this
          have HK := Lib.hid hk11
          generalize tk.val q = tv at *
          generalize ak.val q = av at *
          clear hqk hnt hna hnt1 hna1 hb1 hb2 hc hk11 HNX HNY
          go_upto_region 13 with fail
          refine RK.region (fun u => u.cell? (bd.add k) = some (.int .u64 (q : Int))) 46 (by kernel_rfl) ?_
          have HDW : Hid (TS W lo hi [(true, B, tk), (false, X, tk), (true, A, ak), (false, Y, ak)] wr.drew) := Lib.hid (HD.out.step (below_drewN wr 1))
          have HS0 := HC.out wr.drew HDW.out.below
          generalize wr.drew = we at *
          refine RK.Any.take 0 55 (ptr B) rfl rfl (by kernel_rfl) (by kernel_rfl) (by kernel_rfl) (by kernel_rfl) (fun _ _ _ h => h) (by rfl) (fun W' hb => ?_) HS0 ?_
          · go_simp
          try simp only [List.setIfInBounds_toArray, List.set_cons_zero, List.set_cons_succ]
          refine RK.Any.take 1 56 (.slice (some bd) m d) rfl rfl (by kernel_rfl) (by kernel_rfl) (by kernel_rfl) (by kernel_rfl) (fun _ _ _ h => h) (by rfl) (fun W' hb => ?_) HS0 ?_
          · go_simp
          try simp only [List.setIfInBounds_toArray, List.set_cons_zero, List.set_cons_succ]
          refine RK.Any.take 2 57 (.int .i64 (k : Int)) rfl rfl (by kernel_rfl) (by kernel_rfl) (by kernel_rfl) (by kernel_rfl) (fun _ _ _ h => h) (by rfl) (fun W' hb => ?_) HS0 ?_
          · go_simp
          try simp only [List.setIfInBounds_toArray, List.set_cons_zero, List.set_cons_succ]
          refine RK.Any.take 3 58 (.pointer (some (bd.add k))) rfl rfl (by kernel_rfl) (by kernel_rfl) (by kernel_rfl) (by kernel_rfl) (fun _ _ _ h => h) (by rfl) (fun W' hb => ?_) HS0 ?_
          · go_simp
          try simp only [List.setIfInBounds_toArray, List.set_cons_zero, List.set_cons_succ]
          refine RK.Any.take 4 59 (.int .u64 (q : Int)) rfl rfl (by kernel_rfl) (by kernel_rfl) (by kernel_rfl) (by kernel_rfl) (fun _ _ _ h => h) (by rfl) (fun W' hb => ?_) HS0 ?_
          · go_simp
          try simp only [List.setIfInBounds_toArray, List.set_cons_zero, List.set_cons_succ]
          refine RK.Any.take 6 61 (ptr X) rfl rfl (by kernel_rfl) (by kernel_rfl) (by kernel_rfl) (by kernel_rfl) (fun _ _ _ h => h) (by rfl) (fun W' hb => ?_) HS0 ?_
          · go_simp
          try simp only [List.setIfInBounds_toArray, List.set_cons_zero, List.set_cons_succ]
          refine RK.Any.take 7 62 (.slice (some bd) m d) rfl rfl (by kernel_rfl) (by kernel_rfl) (by kernel_rfl) (by kernel_rfl) (fun _ _ _ h => h) (by rfl) (fun W' hb => ?_) HS0 ?_
          · go_simp
          try simp only [List.setIfInBounds_toArray, List.set_cons_zero, List.set_cons_succ]
          refine RK.Any.take 8 63 (.int .i64 (k : Int)) rfl rfl (by kernel_rfl) (by kernel_rfl) (by kernel_rfl) (by kernel_rfl) (fun _ _ _ h => h) (by rfl) (fun W' hb => ?_) HS0 ?_
          · go_simp
          try simp only [List.setIfInBounds_toArray, List.set_cons_zero, List.set_cons_succ]
          refine RK.Any.take 9 64 (.pointer (some (bd.add k))) rfl rfl (by kernel_rfl) (by kernel_rfl) (by kernel_rfl) (by kernel_rfl) (fun _ _ _ h => h) (by rfl) (fun W' hb => ?_) HS0 ?_
          · go_simp
          try simp only [List.setIfInBounds_toArray, List.set_cons_zero, List.set_cons_succ]
          refine RK.Any.take 10 65 (.int .u64 (q : Int)) rfl rfl (by kernel_rfl) (by kernel_rfl) (by kernel_rfl) (by kernel_rfl) (fun _ _ _ h => h) (by rfl) (fun W' hb => ?_) HS0 ?_
          · go_simp
          try simp only [List.setIfInBounds_toArray, List.set_cons_zero, List.set_cons_succ]
          refine RK.Any.call 5 60 11 #[ptr B, .int .u64 (q : Int)] (by kernel_rfl) rfl rfl (by rfl) (by go_simp) (Calls.mono ((HX1.out _ HDW.out)) ?_)
          rintro e wf1 ⟨rfl, h⟩
          have HD1 := Lib.hid h
          clear h
          have HS1 := HC.out wf1 HD1.out.below
          refine ⟨_, rfl, fun _ => HS1, ?_⟩
          try simp only [List.setIfInBounds_toArray, List.set_cons_zero, List.set_cons_succ]
          refine RK.Any.call 11 66 19 #[ptr X, .int .u64 (q : Int)] (by kernel_rfl) rfl rfl (by rfl) (by go_simp) (Calls.mono ((HX2.out _ HD1.out)) ?_)
          rintro e wf2 ⟨rfl, h⟩
          have HD2 := Lib.hid h
          clear h
          have HS2 := HC.out wf2 HD2.out.below
          refine ⟨_, rfl, fun _ => HS2, ?_⟩
          try simp only [List.setIfInBounds_toArray, List.set_cons_zero, List.set_cons_succ]
          refine RK.Any.take 12 67 (.bool false) rfl rfl (by kernel_rfl) (by kernel_rfl) (by kernel_rfl) (by kernel_rfl) (fun _ _ _ h => h) (by rfl) (fun W' hb => ?_) HS2 ?_
          · go_simp
          try simp only [List.setIfInBounds_toArray, List.set_cons_zero, List.set_cons_succ]
          refine RK.Any.take 13 68 (.bool false) rfl rfl (by kernel_rfl) (by kernel_rfl) (by kernel_rfl) (by kernel_rfl) (fun _ _ _ h => h) (by rfl) (fun W' hb => ?_) HS2 ?_
          · go_simp
          try simp only [List.setIfInBounds_toArray, List.set_cons_zero, List.set_cons_succ]
          refine RK.Any.take 14 69 (ptr A) rfl rfl (by kernel_rfl) (by kernel_rfl) (by kernel_rfl) (by kernel_rfl) (fun _ _ _ h => h) (by rfl) (fun W' hb => ?_) HS2 ?_
          · go_simp
          try simp only [List.setIfInBounds_toArray, List.set_cons_zero, List.set_cons_succ]
          refine RK.Any.take 15 70 (.slice (some bd) m d) rfl rfl (by kernel_rfl) (by kernel_rfl) (by kernel_rfl) (by kernel_rfl) (fun _ _ _ h => h) (by rfl) (fun W' hb => ?_) HS2 ?_
          · go_simp
          try simp only [List.setIfInBounds_toArray, List.set_cons_zero, List.set_cons_succ]
          refine RK.Any.take 16 71 (.int .i64 (k : Int)) rfl rfl (by kernel_rfl) (by kernel_rfl) (by kernel_rfl) (by kernel_rfl) (fun _ _ _ h => h) (by rfl) (fun W' hb => ?_) HS2 ?_
          · go_simp
          try simp only [List.setIfInBounds_toArray, List.set_cons_zero, List.set_cons_succ]
          refine RK.Any.take 17 72 (.pointer (some (bd.add k))) rfl rfl (by kernel_rfl) (by kernel_rfl) (by kernel_rfl) (by kernel_rfl) (fun _ _ _ h => h) (by rfl) (fun W' hb => ?_) HS2 ?_
          · go_simp
          try simp only [List.setIfInBounds_toArray, List.set_cons_zero, List.set_cons_succ]
          refine RK.Any.take 18 73 (.int .u64 (q : Int)) rfl rfl (by kernel_rfl) (by kernel_rfl) (by kernel_rfl) (by kernel_rfl) (fun _ _ _ h => h) (by rfl) (fun W' hb => ?_) HS2 ?_
          · go_simp
          try simp only [List.setIfInBounds_toArray, List.set_cons_zero, List.set_cons_succ]
          refine RK.Any.take 20 75 (ptr Y) rfl rfl (by kernel_rfl) (by kernel_rfl) (by kernel_rfl) (by kernel_rfl) (fun _ _ _ h => h) (by rfl) (fun W' hb => ?_) HS2 ?_
          · go_simp
          try simp only [List.setIfInBounds_toArray, List.set_cons_zero, List.set_cons_succ]
          refine RK.Any.take 21 76 (.slice (some bd) m d) rfl rfl (by kernel_rfl) (by kernel_rfl) (by kernel_rfl) (by kernel_rfl) (fun _ _ _ h => h) (by rfl) (fun W' hb => ?_) HS2 ?_
          · go_simp
          try simp only [List.setIfInBounds_toArray, List.set_cons_zero, List.set_cons_succ]
          refine RK.Any.take 22 77 (.int .i64 (k : Int)) rfl rfl (by kernel_rfl) (by kernel_rfl) (by kernel_rfl) (by kernel_rfl) (fun _ _ _ h => h) (by rfl) (fun W' hb => ?_) HS2 ?_
          · go_simp
          try simp only [List.setIfInBounds_toArray, List.set_cons_zero, List.set_cons_succ]
          refine RK.Any.take 23 78 (.pointer (some (bd.add k))) rfl rfl (by kernel_rfl) (by kernel_rfl) (by kernel_rfl) (by kernel_rfl) (fun _ _ _ h => h) (by rfl) (fun W' hb => ?_) HS2 ?_
          · go_simp
          try simp only [List.setIfInBounds_toArray, List.set_cons_zero, List.set_cons_succ]
          refine RK.Any.take 24 79 (.int .u64 (q : Int)) rfl rfl (by kernel_rfl) (by kernel_rfl) (by kernel_rfl) (by kernel_rfl) (fun _ _ _ h => h) (by rfl) (fun W' hb => ?_) HS2 ?_
          · go_simp
          try simp only [List.setIfInBounds_toArray, List.set_cons_zero, List.set_cons_succ]
          refine RK.Any.call 19 74 11 #[ptr A, .int .u64 (q : Int)] (by kernel_rfl) rfl rfl (by rfl) (by go_simp) (Calls.mono ((HX3.out _ HD2.out)) ?_)
          rintro e wf3 ⟨rfl, h⟩
          have HD3 := Lib.hid h
          clear h
          have HS3 := HC.out wf3 HD3.out.below
          refine ⟨_, rfl, fun _ => HS3, ?_⟩
          try simp only [List.setIfInBounds_toArray, List.set_cons_zero, List.set_cons_succ]
          refine RK.Any.call 25 80 19 #[ptr Y, .int .u64 (q : Int)] (by kernel_rfl) rfl rfl (by rfl) (by go_simp) (Calls.mono ((HX4.out _ HD3.out)) ?_)
          rintro e wf4 ⟨rfl, h⟩
          have HD4 := Lib.hid h
          clear h
          have HS4 := HC.out wf4 HD4.out.below
          refine ⟨_, rfl, fun _ => HS4, ?_⟩
          try simp only [List.setIfInBounds_toArray, List.set_cons_zero, List.set_cons_succ]
          refine RK.Any.take 26 81 (.bool false) rfl rfl (by kernel_rfl) (by kernel_rfl) (by kernel_rfl) (by kernel_rfl) (fun _ _ _ h => h) (by rfl) (fun W' hb => ?_) HS4 ?_
          · go_simp
          try simp only [List.setIfInBounds_toArray, List.set_cons_zero, List.set_cons_succ]
          refine RK.Any.take 27 82 (.bool false) rfl rfl (by kernel_rfl) (by kernel_rfl) (by kernel_rfl) (by kernel_rfl) (fun _ _ _ h => h) (by rfl) (fun W' hb => ?_) HS4 ?_
          · go_simp
          try simp only [List.setIfInBounds_toArray, List.set_cons_zero, List.set_cons_succ]
          refine RK.Any.take 28 83 (.bool false) rfl rfl (by kernel_rfl) (by kernel_rfl) (by kernel_rfl) (by kernel_rfl) (fun _ _ _ h => h) (by rfl) (fun W' hb => ?_) HS4 ?_
          · go_simp
          try simp only [List.setIfInBounds_toArray, List.set_cons_zero, List.set_cons_succ]
          refine RK.Any.weaken (S2 := fun u => u.cell? (bd.add k) = some (.int .u64 (q : Int)) ∧ u.cell? ⟨X, 2, none⟩ = some (.int .i64 (k1 : Int)) ∧ u.cell? ⟨Y, 2, none⟩ = some (.int .i64 (k1 : Int))) (fun _ h => h.1) _ _ _ _ ?_
          have HS5 := And.intro HS4 (And.intro (HC1.out wf4 HD4.out) (HC2.out wf4 HD4.out))
          refine RK.Any.take 29 84 (ptr B) rfl rfl (by kernel_rfl) (by kernel_rfl) (by kernel_rfl) (by kernel_rfl) (fun _ _ _ h => h) (by rfl) (fun W' hb => ?_) HS5 ?_
          · obtain ⟨h3, h4, h5⟩ := hb; go_simp
          try simp only [List.setIfInBounds_toArray, List.set_cons_zero, List.set_cons_succ]
          refine RK.Any.take 31 86 (ptr X) rfl rfl (by kernel_rfl) (by kernel_rfl) (by kernel_rfl) (by kernel_rfl) (fun _ _ _ h => h) (by rfl) (fun W' hb => ?_) HS5 ?_
          · obtain ⟨h3, h4, h5⟩ := hb; go_simp
          try simp only [List.setIfInBounds_toArray, List.set_cons_zero, List.set_cons_succ]
          refine RK.Any.take 32 87 (ptr X) rfl rfl (by kernel_rfl) (by kernel_rfl) (by kernel_rfl) (by kernel_rfl) (fun _ _ _ h => h) (by rfl) (fun W' hb => ?_) HS5 ?_
          · obtain ⟨h3, h4, h5⟩ := hb; go_simp
          try simp only [List.setIfInBounds_toArray, List.set_cons_zero, List.set_cons_succ]
          refine RK.Any.take 33 88 (.pointer (some ⟨X, 2, none⟩)) rfl rfl (by kernel_rfl) (by kernel_rfl) (by kernel_rfl) (by kernel_rfl) (fun _ _ _ h => h) (by rfl) (fun W' hb => ?_) HS5 ?_
          · obtain ⟨h3, h4, h5⟩ := hb; go_simp
          try simp only [List.setIfInBounds_toArray, List.set_cons_zero, List.set_cons_succ]
          refine RK.Any.take 34 89 (.int .i64 (k1 : Int)) rfl rfl (by kernel_rfl) (by kernel_rfl) (by kernel_rfl) (by kernel_rfl) (fun _ _ _ h => h) (by rfl) (fun W' hb => ?_) HS5 ?_
          · obtain ⟨h3, h4, h5⟩ := hb; go_simp
          try simp only [List.setIfInBounds_toArray, List.set_cons_zero, List.set_cons_succ]
          refine RK.Any.call 30 85 13 #[ptr B] (by kernel_rfl) rfl rfl (by rfl) (by go_simp) (Calls.mono ((HA1.out _ HD4.out)) ?_)
          rintro e wz ⟨rfl, rfl⟩
          refine ⟨_, rfl, fun _ => HS5, ?_⟩
          try simp only [List.setIfInBounds_toArray, List.set_cons_zero, List.set_cons_succ]
          refine RK.Any.take 35 90 (.bool false) rfl rfl (by kernel_rfl) (by kernel_rfl) (by kernel_rfl) (by kernel_rfl) (fun _ _ _ h => h) (by rfl) (fun W' hb => ?_) HS5 ?_
          · obtain ⟨h3, h4, h5⟩ := hb; go_simp
          try simp only [List.setIfInBounds_toArray, List.set_cons_zero, List.set_cons_succ]
          refine RK.Any.take 36 91 (.bool false) rfl rfl (by kernel_rfl) (by kernel_rfl) (by kernel_rfl) (by kernel_rfl) (fun _ _ _ h => h) (by rfl) (fun W' hb => ?_) HS5 ?_
          · obtain ⟨h3, h4, h5⟩ := hb; go_simp
          try simp only [List.setIfInBounds_toArray, List.set_cons_zero, List.set_cons_succ]
          refine RK.Any.take 37 92 (.bool false) rfl rfl (by kernel_rfl) (by kernel_rfl) (by kernel_rfl) (by kernel_rfl) (fun _ _ _ h => h) (by rfl) (fun W' hb => ?_) HS5 ?_
          · obtain ⟨h3, h4, h5⟩ := hb; go_simp
          try simp only [List.setIfInBounds_toArray, List.set_cons_zero, List.set_cons_succ]
          refine RK.Any.take 38 93 (ptr A) rfl rfl (by kernel_rfl) (by kernel_rfl) (by kernel_rfl) (by kernel_rfl) (fun _ _ _ h => h) (by rfl) (fun W' hb => ?_) HS5 ?_
          · obtain ⟨h3, h4, h5⟩ := hb; go_simp
          try simp only [List.setIfInBounds_toArray, List.set_cons_zero, List.set_cons_succ]
          refine RK.Any.take 40 95 (ptr Y) rfl rfl (by kernel_rfl) (by kernel_rfl) (by kernel_rfl) (by kernel_rfl) (fun _ _ _ h => h) (by rfl) (fun W' hb => ?_) HS5 ?_
          · obtain ⟨h3, h4, h5⟩ := hb; go_simp
          try simp only [List.setIfInBounds_toArray, List.set_cons_zero, List.set_cons_succ]
          refine RK.Any.take 41 96 (ptr Y) rfl rfl (by kernel_rfl) (by kernel_rfl) (by kernel_rfl) (by kernel_rfl) (fun _ _ _ h => h) (by rfl) (fun W' hb => ?_) HS5 ?_
          · obtain ⟨h3, h4, h5⟩ := hb; go_simp
          try simp only [List.setIfInBounds_toArray, List.set_cons_zero, List.set_cons_succ]
          refine RK.Any.take 42 97 (.pointer (some ⟨Y, 2, none⟩)) rfl rfl (by kernel_rfl) (by kernel_rfl) (by kernel_rfl) (by kernel_rfl) (fun _ _ _ h => h) (by rfl) (fun W' hb => ?_) HS5 ?_
          · obtain ⟨h3, h4, h5⟩ := hb; go_simp
          try simp only [List.setIfInBounds_toArray, List.set_cons_zero, List.set_cons_succ]
          refine RK.Any.take 43 98 (.int .i64 (k1 : Int)) rfl rfl (by kernel_rfl) (by kernel_rfl) (by kernel_rfl) (by kernel_rfl) (fun _ _ _ h => h) (by rfl) (fun W' hb => ?_) HS5 ?_
          · obtain ⟨h3, h4, h5⟩ := hb; go_simp
          try simp only [List.setIfInBounds_toArray, List.set_cons_zero, List.set_cons_succ]
          refine RK.Any.call 39 94 13 #[ptr A] (by kernel_rfl) rfl rfl (by rfl) (by go_simp) (Calls.mono ((HA2.out _ HD4.out)) ?_)
          rintro e wz ⟨rfl, rfl⟩
          refine ⟨_, rfl, fun _ => HS5, ?_⟩
          try simp only [List.setIfInBounds_toArray, List.set_cons_zero, List.set_cons_succ]
          refine RK.Any.take 44 99 (.bool false) rfl rfl (by kernel_rfl) (by kernel_rfl) (by kernel_rfl) (by kernel_rfl) (fun _ _ _ h => h) (by rfl) (fun W' hb => ?_) HS5 ?_
          · obtain ⟨h3, h4, h5⟩ := hb; go_simp
          try simp only [List.setIfInBounds_toArray, List.set_cons_zero, List.set_cons_succ]
          refine RK.Any.take 45 100 (.bool false) rfl rfl (by kernel_rfl) (by kernel_rfl) (by kernel_rfl) (by kernel_rfl) (fun _ _ _ h => h) (by rfl) (fun W' hb => ?_) HS5 ?_
          · obtain ⟨h3, h4, h5⟩ := hb; go_simp
          try simp only [List.setIfInBounds_toArray, List.set_cons_zero, List.set_cons_succ]
          refine RK.Any.done (by kernel_rfl) ?_
          clear HS0 HS2 HS4 HS5 HS1 HS3 HD1 HD2 HD3 HDW HX1 HX2 HX3 HX4 HA1 HA2 HC HC1 HC2
          go_wp2_with fail
          go_roundw
          case rel => exact ⟨k1, by have := HK.out; omega, by rw [← HK.out]; go_num, by rw [HTK.out, HAK.out]; exact HD4⟩
          case measure => simp [RowKit.intOf]; omega
        · obtain rfl : k = m := by omega
          rename_i hk9
          have HM1 : Hid ((t.run y k).n = k) := Lib.hid (by rw [Tp.run_n, HN.out]; omega)
          have HF1 : Hid ((t.run y k).fs.length ≤ 1000) := Lib.hid (Nat.le_trans (fs_run t y k) HF.out)
          generalize t.run y k = t1 at *
          generalize a.run y k = a1 at *
          by_cases hk0 : k = 0
          · have g1 : ¬ (0 : Int) < (k : Int) := by omega
            have g2 : ¬ 0 < k := by omega
            obtain ⟨Q, hQv⟩ : ∃ Q : Nat, Q = 10 := ⟨_, rfl⟩
            have HQQ : Hid (Q < 18446744073709551616) := Lib.hid (by rw [hQv]; decide)
            have hQi : (10 : Int) = (Q : Int) := by rw [hQv]; rfl
            go_upto_region 18 with fail
            rw [hQi]
            clear hQi hQv g1 g2
            have hQ : Q < 18446744073709551616 := HQQ.out
            obtain ⟨N, hNN⟩ : ∃ N, cnt x = N := ⟨_, rfl⟩
            have HNL : Hid (N ≤ 9223372036854775807) := Lib.hid (by rw [← hNN]; exact Nat.le_trans (cnt_le x) (by decide))
            have hN1 : N ≤ 1024 := by rw [← hNN]; exact cnt_le x
            have hm1 : t1.n = k := HM1.out
            have hm5 : k ≤ 500 := HM5.out
            have HDR0 := HD.out.drawsZ (i := 0) rfl x Q hQ (by rw [hm1]; omega)
            have HRD0 := fun oo w (h : TS W lo hi [(true, B, t1.run (allq Q) (cnt x)), (false, X, t1), (true, A, a1), (false, Y, a1)] w) (ho : OutAt hi w oo (cnt x) (t1.get (allq Q))) => h.rdrawsZ (i := 1) rfl x Q hQ (by rw [hm1]; omega) ho
            obtain ⟨t2, ht2⟩ : ∃ t2, t1.run (allq Q) (cnt x) = t2 := ⟨_, rfl⟩
            have hn2 : t2.n = k + N := by rw [← ht2, Tp.run_n, hm1, hNN]
            have hf2 : t2.fs.length ≤ 1000 := by rw [← ht2]; exact Nat.le_trans (fs_run _ _ _) HF1.out
            rw [ht2] at HDR0
            simp only [ht2] at HRD0
            rw [hNN] at HDR0
            simp only [hNN] at HRD0
            have HDR := Lib.hid HDR0
            have HRD := Lib.hid HRD0
            clear HDR0 HRD0 ht2 hNN
            obtain ⟨mN, hmN⟩ : ∃ mN, k + N = mN := ⟨_, rfl⟩
            rw [hmN] at hn2
            have HC5 : Hid (∀ w, TS W lo hi [(true, B, t2), (false, X, t2), (true, A, a1), (false, Y, a1)] w → w.cell? ⟨X, 2, none⟩ = some (.int .i64 (mN : Int))) := Lib.hid fun w h => by
              have := h.cntAt (i := 1) rfl
              rwa [hn2] at this
            have HA5 : Hid (∀ w, TS W lo hi [(true, B, t2), (false, X, t2), (true, A, a1), (false, Y, a1)] w → Calls Try.prog 13 #[ptr B] w fun e w' => e = .returned (.int .i64 (mN : Int)) ∧ w' = w) := Lib.hid fun w h => h.atn (i := 0) rfl mN hn2
            obtain ⟨t3, ht3⟩ : ∃ t3, t2.next Q = t3 := ⟨_, rfl⟩
            obtain ⟨m3, hm3⟩ : ∃ m3, mN + 1 = m3 := ⟨_, rfl⟩
            have hn3 : t3.n = m3 := by rw [← ht3, Tp.next_n, hn2, hm3]
            have hf3 : t3.fs.length ≤ 1000 := by rw [← ht3]; exact Nat.le_trans (fs_next _ _) hf2
            have hb2 : t2.n < 4611686018427387904 := by rw [hn2, ← hmN]; omega
            have hb3 : t3.n < 4611686018427387904 := by rw [hn3, ← hm3, ← hmN]; omega
            have HY1 : Hid (∀ w, Tz W [(true, B, t2), (false, X, t2), (true, A, a1), (false, Y, a1)] w → Calls Try.prog 11 #[ptr B, .int .u64 (Q : Int)] w fun e w' => e = .returned (.int .u64 ((t2.val Q : Nat) : Int)) ∧ Tz W [(true, B, t3), (false, X, t2), (true, A, a1), (false, Y, a1)] w') := Lib.hid fun w h => by
              have := h.next (i := 0) rfl Q hQ hb2
              rw [ht3] at this
              exact this
            have HY2 : Hid (∀ w, Tz W [(true, B, t3), (false, X, t2), (true, A, a1), (false, Y, a1)] w → Calls Try.prog 19 #[ptr X, .int .u64 (Q : Int)] w fun e w' => e = .returned (.int .u64 ((t2.val Q : Nat) : Int)) ∧ Tz W [(true, B, t3), (false, X, t3), (true, A, a1), (false, Y, a1)] w') := Lib.hid fun w h => by
              have := h.rnext (i := 1) rfl Q hQ hb2
              rw [ht3] at this
              exact this
            have HY3 := Lib.hid (fun w (h : Tz W [(true, B, t3), (false, X, t3), (true, A, a1), (false, Y, a1)] w) => h.copy (i := 0) rfl hf3)
            have HY4 : Hid (∀ C1 w, Tz W ([(true, B, t3), (false, X, t3), (true, A, a1), (false, Y, a1)] ++ [(true, C1, t3)]) w → Calls Try.prog 11 #[ptr C1, .int .u64 0] w fun e w' => e = .returned (.int .u64 ((t3.val 0 : Nat) : Int)) ∧ Tz W ([(true, B, t3), (false, X, t3), (true, A, a1), (false, Y, a1)] ++ [(true, C1, t3.next 0)]) w') := Lib.hid fun C1 w h => h.next (i := 4) rfl 0 (by decide) hb3
            have HY5 := Lib.hid (fun C1 w (h : Tz W ([(true, B, t3), (false, X, t3), (true, A, a1), (false, Y, a1)] ++ [(true, C1, t3.next 0)]) w) => h.rcopy (i := 1) rfl hf3)
            have HY6 : Hid (∀ C1 C2 w, Tz W ([(true, B, t3), (false, X, t3), (true, A, a1), (false, Y, a1)] ++ [(true, C1, t3.next 0)] ++ [(false, C2, t3)]) w → Calls Try.prog 19 #[ptr C2, .int .u64 0] w fun e w' => e = .returned (.int .u64 ((t3.val 0 : Nat) : Int)) ∧ Below W.heap.size W w' ∧ w'.cell? ⟨X, 2, none⟩ = some (.int .i64 (m3 : Int)) ∧ Calls Try.prog 13 #[ptr B] w' fun e2 w2 => e2 = .returned (.int .i64 (m3 : Int)) ∧ w2 = w') := Lib.hid fun C1 C2 w h => (h.rnext (i := 5) rfl 0 (by decide) hb3).mono fun _ _ ⟨a, b⟩ => ⟨a, b.below, by
              have := b.cntAt (i := 1) rfl
              rwa [hn3] at this, by
              have := b.at_ (i := 0) rfl
              rwa [hn3] at this⟩
            generalize t2.val Q = vQ at *
            generalize t3.val 0 = v0 at *
            clear hQ hn2 hf2 hmN ht3 hm3 hn3 hf3 hb2 hb3 hm1 hm5 hN1
            go_upto_region 19 with (go_at_call 12; (with_reducible refine (HDR.out).mono ?_); rintro e wd ⟨oo, oc, rfl, h1, h2⟩; have HOU := Lib.hid h1; have HD2 : Hid (TS W lo hi [(true, B, t2), (false, X, t1), (true, A, a1), (false, Y, a1)] wd) := Lib.hid h2; clear h1 h2)
            refine RK.region (fun _ => True) 16 (by kernel_rfl) ?_
            have HDW : Hid (TS W lo hi [(true, B, t2), (false, X, t1), (true, A, a1), (false, Y, a1)] wd.drew) := Lib.hid (HD2.out.step (below_drewN wd 1))
            have HOW : Hid (OutAt hi wd.drew oo N (t1.get (allq Q))) := Lib.hid (HOU.out.step (below_drewN wd 1))
            generalize wd.drew = we at *
            refine RK.Any.take 0 111 (.slice oo N oc) rfl rfl (by kernel_rfl) (by kernel_rfl) (by kernel_rfl) (by kernel_rfl) (fun _ _ _ h => h) (by rfl) (fun W' hb => ?_) trivial ?_
            · go_simp
            try simp only [List.setIfInBounds_toArray, List.set_cons_zero, List.set_cons_succ]
            refine RK.Any.take 1 112 (ptr X) rfl rfl (by kernel_rfl) (by kernel_rfl) (by kernel_rfl) (by kernel_rfl) (fun _ _ _ h => h) (by rfl) (fun W' hb => ?_) trivial ?_
            · go_simp
            try simp only [List.setIfInBounds_toArray, List.set_cons_zero, List.set_cons_succ]
            refine RK.Any.take 2 113 (.int .i64 x) rfl rfl (by kernel_rfl) (by kernel_rfl) (by kernel_rfl) (by kernel_rfl) (fun _ _ _ h => h) (by rfl) (fun W' hb => ?_) trivial ?_
            · go_simp
            try simp only [List.setIfInBounds_toArray, List.set_cons_zero, List.set_cons_succ]
            refine RK.Any.take 3 114 (.int .u64 (Q : Int)) rfl rfl (by kernel_rfl) (by kernel_rfl) (by kernel_rfl) (by kernel_rfl) (fun _ _ _ h => h) (by rfl) (fun W' hb => ?_) trivial ?_
            · go_simp
            try simp only [List.setIfInBounds_toArray, List.set_cons_zero, List.set_cons_succ]
            refine RK.Any.call 4 115 21 #[ptr X, .int .i64 x, .int .u64 (Q : Int)] (by kernel_rfl) rfl rfl (by rfl) (by go_simp) (Calls.mono ((HRD.out _ _ HDW.out HOW.out)) ?_)
            rintro e wf1 ⟨ro, rc, rfl, h1, h2, h3⟩
            have HRD1 := Lib.hid h1
            have HD3 : Hid (TS W lo hi [(true, B, t2), (false, X, t2), (true, A, a1), (false, Y, a1)] wf1) := Lib.hid h2
            have HO3 := Lib.hid h3
            clear h1 h2 h3
            refine ⟨_, rfl, fun _ => trivial, ?_⟩
            try simp only [List.setIfInBounds_toArray, List.set_cons_zero, List.set_cons_succ]
            refine RK.Any.call 5 116 20 #[.slice oo N oc, .slice ro N rc] (by kernel_rfl) rfl rfl (by rfl) (by go_simp) (Calls.mono ((nums_any _ _ N _ _ _ HNL.out wf1 HO3.out.rd HRD1.out)) ?_)
            rintro e wf2 ⟨rfl, nd, rfl⟩
            have HD4 : Hid (TS W lo hi [(true, B, t2), (false, X, t2), (true, A, a1), (false, Y, a1)] (wf1.drewN nd)) := Lib.hid (HD3.out.drewN nd)
            have HO4 := Lib.hid (HO3.out.step (below_drewN wf1 nd))
            generalize wf1.drewN nd = wg at *
            refine ⟨_, rfl, fun _ => trivial, ?_⟩
            try simp only [List.setIfInBounds_toArray, List.set_cons_zero, List.set_cons_succ]
            refine RK.Any.take 6 117 (.bool false) rfl rfl (by kernel_rfl) (by kernel_rfl) (by kernel_rfl) (by kernel_rfl) (fun _ _ _ h => h) (by rfl) (fun W' hb => ?_) trivial ?_
            · go_simp
            try simp only [List.setIfInBounds_toArray, List.set_cons_zero, List.set_cons_succ]
            refine RK.Any.take 7 118 (.bool false) rfl rfl (by kernel_rfl) (by kernel_rfl) (by kernel_rfl) (by kernel_rfl) (fun _ _ _ h => h) (by rfl) (fun W' hb => ?_) trivial ?_
            · go_simp
            try simp only [List.setIfInBounds_toArray, List.set_cons_zero, List.set_cons_succ]
            refine RK.Any.weaken (S2 := fun u => u.cell? ⟨X, 2, none⟩ = some (.int .i64 (mN : Int))) (fun _ _ => trivial) _ _ _ _ ?_
            have HS5 := HC5.out wg HD4.out
            refine RK.Any.take 8 119 (ptr B) rfl rfl (by kernel_rfl) (by kernel_rfl) (by kernel_rfl) (by kernel_rfl) (fun _ _ _ h => h) (by rfl) (fun W' hb => ?_) HS5 ?_
            · go_simp
            try simp only [List.setIfInBounds_toArray, List.set_cons_zero, List.set_cons_succ]
            refine RK.Any.take 10 121 (ptr X) rfl rfl (by kernel_rfl) (by kernel_rfl) (by kernel_rfl) (by kernel_rfl) (fun _ _ _ h => h) (by rfl) (fun W' hb => ?_) HS5 ?_
            · go_simp
            try simp only [List.setIfInBounds_toArray, List.set_cons_zero, List.set_cons_succ]
            refine RK.Any.take 11 122 (ptr X) rfl rfl (by kernel_rfl) (by kernel_rfl) (by kernel_rfl) (by kernel_rfl) (fun _ _ _ h => h) (by rfl) (fun W' hb => ?_) HS5 ?_
            · go_simp
            try simp only [List.setIfInBounds_toArray, List.set_cons_zero, List.set_cons_succ]
            refine RK.Any.take 12 123 (.pointer (some ⟨X, 2, none⟩)) rfl rfl (by kernel_rfl) (by kernel_rfl) (by kernel_rfl) (by kernel_rfl) (fun _ _ _ h => h) (by rfl) (fun W' hb => ?_) HS5 ?_
            · go_simp
            try simp only [List.setIfInBounds_toArray, List.set_cons_zero, List.set_cons_succ]
            refine RK.Any.take 13 124 (.int .i64 (mN : Int)) rfl rfl (by kernel_rfl) (by kernel_rfl) (by kernel_rfl) (by kernel_rfl) (fun _ _ _ h => h) (by rfl) (fun W' hb => ?_) HS5 ?_
            · go_simp
            try simp only [List.setIfInBounds_toArray, List.set_cons_zero, List.set_cons_succ]
            refine RK.Any.call 9 120 13 #[ptr B] (by kernel_rfl) rfl rfl (by rfl) (by go_simp) (Calls.mono ((HA5.out _ HD4.out)) ?_)
            rintro e wz ⟨rfl, rfl⟩
            refine ⟨_, rfl, fun _ => HS5, ?_⟩
            try simp only [List.setIfInBounds_toArray, List.set_cons_zero, List.set_cons_succ]
            refine RK.Any.take 14 125 (.bool false) rfl rfl (by kernel_rfl) (by kernel_rfl) (by kernel_rfl) (by kernel_rfl) (fun _ _ _ h => h) (by rfl) (fun W' hb => ?_) HS5 ?_
            · go_simp
            try simp only [List.setIfInBounds_toArray, List.set_cons_zero, List.set_cons_succ]
            refine RK.Any.take 15 126 (.bool false) rfl rfl (by kernel_rfl) (by kernel_rfl) (by kernel_rfl) (by kernel_rfl) (fun _ _ _ h => h) (by rfl) (fun W' hb => ?_) HS5 ?_
            · go_simp
            try simp only [List.setIfInBounds_toArray, List.set_cons_zero, List.set_cons_succ]
            refine RK.Any.done (by kernel_rfl) ?_
            clear HS5 HDW HOW HRD1 HD3 HO3 HD2 HOU HDR HRD HC5 HA5
            go_wp2_with fail
            go_loopw [18] (fun s18 wx => ∃ i2 : Nat, i2 ≤ N ∧ s18 = .int .i64 (i2 : Int) ∧ Hid (TS W lo hi [(true, B, t2), (false, X, t2), (true, A, a1), (false, Y, a1)] wx) ∧ Hid (∃ zz, OutAt hi wx oo N zz)) (fun s18 _ => N - (RowKit.intOf s18).toNat)
            case atStart => exact ⟨0, Nat.zero_le _, rfl, HD4, Lib.hid ⟨_, HO4.out⟩⟩
            case round =>
              clear HD4 HO4 HD
              obtain ⟨i2, hi2, rfl, HD, HO⟩ := hrel
              by_cases hlt3 : i2 < N
              · have hk0 : (0 : Int) ≤ (i2 : Int) := Int.natCast_nonneg _
                have hk1 : (i2 : Int) < (N : Int) := by omega
                obtain ⟨zz, hz⟩ := HO.out
                have hN9 := HNL.out
                obtain ⟨R, rfl, hR, hnm⟩ := hz (by omega)
                have hc := hnm.cell hlt3
                have hf := hnm.free i2
                have HO2 : Hid (OutAt hi (wr.setCell ⟨R, i2, none⟩ (.int .u64 ((5 : Nat) : Int))) (some ⟨R, 0, none⟩) N (fun i => if i = i2 then 5 else zz i)) := Lib.hid fun _ => ⟨R, rfl, hR, hnm.set i2 5 fun _ _ => rfl⟩
                have HD2 := Lib.hid (HD.out.free ((Turn.refl R wr).set i2 (.int .u64 ((5 : Nat) : Int))) (.inr hR) (Nat.le_trans HD.out.low (Nat.le_trans HD.out.mid hR)))
                clear hnm hz HD HO
                go_wp2_with fail
                go_roundw
                case rel => exact ⟨i2 + 1, by omega, by go_num, HD2, Lib.hid ⟨_, HO2.out⟩⟩
                case measure => simp [RowKit.intOf]; omega
              · obtain rfl : i2 = N := by omega
                clear HO
                go_upto_region 25 with fail
                refine RK.region (fun _ => True) 26 (by kernel_rfl) ?_
                have HDW : Hid (Tz W [(true, B, t2), (false, X, t2), (true, A, a1), (false, Y, a1)] (World.drew _)) := Lib.hid ((Tz.of_TS HD.out).step (below_drewN _ 1))
                generalize World.drew _ = we at *
                refine RK.Any.take 0 136 (ptr B) rfl rfl (by kernel_rfl) (by kernel_rfl) (by kernel_rfl) (by kernel_rfl) (fun _ _ _ h => h) (by rfl) (fun W' hb => ?_) trivial ?_
                · go_simp
                try simp only [List.setIfInBounds_toArray, List.set_cons_zero, List.set_cons_succ]
                refine RK.Any.take 1 137 (.int .u64 (Q : Int)) rfl rfl (by kernel_rfl) (by kernel_rfl) (by kernel_rfl) (by kernel_rfl) (fun _ _ _ h => h) (by rfl) (fun W' hb => ?_) trivial ?_
                · go_simp
                try simp only [List.setIfInBounds_toArray, List.set_cons_zero, List.set_cons_succ]
                refine RK.Any.take 3 139 (ptr X) rfl rfl (by kernel_rfl) (by kernel_rfl) (by kernel_rfl) (by kernel_rfl) (fun _ _ _ h => h) (by rfl) (fun W' hb => ?_) trivial ?_
                · go_simp
                try simp only [List.setIfInBounds_toArray, List.set_cons_zero, List.set_cons_succ]
                refine RK.Any.take 4 140 (.int .u64 (Q : Int)) rfl rfl (by kernel_rfl) (by kernel_rfl) (by kernel_rfl) (by kernel_rfl) (fun _ _ _ h => h) (by rfl) (fun W' hb => ?_) trivial ?_
                · go_simp
                try simp only [List.setIfInBounds_toArray, List.set_cons_zero, List.set_cons_succ]
                refine RK.Any.call 2 138 11 #[ptr B, .int .u64 (Q : Int)] (by kernel_rfl) rfl rfl (by rfl) (by go_simp) (Calls.mono ((HY1.out _ HDW.out)) ?_)
                rintro e wg5 ⟨rfl, h⟩
                have HD5 : Hid (Tz W [(true, B, t3), (false, X, t2), (true, A, a1), (false, Y, a1)] wg5) := Lib.hid h
                clear h
                refine ⟨_, rfl, fun _ => trivial, ?_⟩
                try simp only [List.setIfInBounds_toArray, List.set_cons_zero, List.set_cons_succ]
                refine RK.Any.call 5 141 19 #[ptr X, .int .u64 (Q : Int)] (by kernel_rfl) rfl rfl (by rfl) (by go_simp) (Calls.mono ((HY2.out _ HD5.out)) ?_)
                rintro e wg6 ⟨rfl, h⟩
                have HD6 : Hid (Tz W [(true, B, t3), (false, X, t3), (true, A, a1), (false, Y, a1)] wg6) := Lib.hid h
                clear h
                refine ⟨_, rfl, fun _ => trivial, ?_⟩
                try simp only [List.setIfInBounds_toArray, List.set_cons_zero, List.set_cons_succ]
                refine RK.Any.take 6 142 (.bool true) rfl rfl (by kernel_rfl) (by kernel_rfl) (by kernel_rfl) (by kernel_rfl) (fun _ _ _ h => h) (by rfl) (fun W' hb => ?_) trivial ?_
                · go_simp
                try simp only [List.setIfInBounds_toArray, List.set_cons_zero, List.set_cons_succ]
                refine RK.Any.take 7 143 (.bool true) rfl rfl (by kernel_rfl) (by kernel_rfl) (by kernel_rfl) (by kernel_rfl) (fun _ _ _ h => h) (by rfl) (fun W' hb => ?_) trivial ?_
                · go_simp
                try simp only [List.setIfInBounds_toArray, List.set_cons_zero, List.set_cons_succ]
                refine RK.Any.take 8 144 (ptr B) rfl rfl (by kernel_rfl) (by kernel_rfl) (by kernel_rfl) (by kernel_rfl) (fun _ _ _ h => h) (by rfl) (fun W' hb => ?_) trivial ?_
                · go_simp
                try simp only [List.setIfInBounds_toArray, List.set_cons_zero, List.set_cons_succ]
                refine RK.Any.take 11 147 (ptr X) rfl rfl (by kernel_rfl) (by kernel_rfl) (by kernel_rfl) (by kernel_rfl) (fun _ _ _ h => h) (by rfl) (fun W' hb => ?_) trivial ?_
                · go_simp
                try simp only [List.setIfInBounds_toArray, List.set_cons_zero, List.set_cons_succ]
                refine RK.Any.call 9 145 14 #[ptr B] (by kernel_rfl) rfl rfl (by rfl) (by go_simp) (Calls.mono ((HY3.out _ HD6.out)) ?_)
                rintro e wg7 ⟨C1, rfl, h, _⟩
                have HD7 : Hid (Tz W ([(true, B, t3), (false, X, t3), (true, A, a1), (false, Y, a1)] ++ [(true, C1, t3)]) wg7) := Lib.hid h
                clear h
                refine ⟨_, rfl, fun _ => trivial, ?_⟩
                try simp only [List.setIfInBounds_toArray, List.set_cons_zero, List.set_cons_succ]
                refine RK.Any.call 10 146 11 #[ptr C1, .int .u64 0] (by kernel_rfl) rfl rfl (by rfl) (by go_simp) (Calls.mono ((HY4.out _ _ HD7.out)) ?_)
                rintro e wg8 ⟨rfl, h⟩
                have HD8 : Hid (Tz W ([(true, B, t3), (false, X, t3), (true, A, a1), (false, Y, a1)] ++ [(true, C1, t3.next 0)]) wg8) := Lib.hid h
                clear h
                refine ⟨_, rfl, fun _ => trivial, ?_⟩
                try simp only [List.setIfInBounds_toArray, List.set_cons_zero, List.set_cons_succ]
                refine RK.Any.call 12 148 22 #[ptr X] (by kernel_rfl) rfl rfl (by rfl) (by go_simp) (Calls.mono ((HY5.out _ _ HD8.out)) ?_)
                rintro e wg9 ⟨C2, rfl, h, _⟩
                have HD9 : Hid (Tz W ([(true, B, t3), (false, X, t3), (true, A, a1), (false, Y, a1)] ++ [(true, C1, t3.next 0)] ++ [(false, C2, t3)]) wg9) := Lib.hid h
                clear h
                refine ⟨_, rfl, fun _ => trivial, ?_⟩
                try simp only [List.setIfInBounds_toArray, List.set_cons_zero, List.set_cons_succ]
                refine RK.Any.call 13 149 19 #[ptr C2, .int .u64 0] (by kernel_rfl) rfl rfl (by rfl) (by go_simp) (Calls.mono ((HY6.out _ _ _ HD9.out)) ?_)
                rintro e wh ⟨rfl, h1, h2, h3⟩
                refine ⟨_, rfl, fun _ => trivial, ?_⟩
                try simp only [List.setIfInBounds_toArray, List.set_cons_zero, List.set_cons_succ]
                refine RK.Any.take 14 150 (.bool true) rfl rfl (by kernel_rfl) (by kernel_rfl) (by kernel_rfl) (by kernel_rfl) (fun _ _ _ h => h) (by rfl) (fun W' hb => ?_) trivial ?_
                · go_simp
                try simp only [List.setIfInBounds_toArray, List.set_cons_zero, List.set_cons_succ]
                refine RK.Any.take 15 151 (.bool true) rfl rfl (by kernel_rfl) (by kernel_rfl) (by kernel_rfl) (by kernel_rfl) (fun _ _ _ h => h) (by rfl) (fun W' hb => ?_) trivial ?_
                · go_simp
                try simp only [List.setIfInBounds_toArray, List.set_cons_zero, List.set_cons_succ]
                refine RK.Any.take 16 152 (.bool true) rfl rfl (by kernel_rfl) (by kernel_rfl) (by kernel_rfl) (by kernel_rfl) (fun _ _ _ h => h) (by rfl) (fun W' hb => ?_) trivial ?_
                · go_simp
                try simp only [List.setIfInBounds_toArray, List.set_cons_zero, List.set_cons_succ]
                refine RK.Any.weaken (S2 := fun u => u.cell? ⟨X, 2, none⟩ = some (.int .i64 (m3 : Int))) (fun _ _ => trivial) _ _ _ _ ?_
                refine RK.Any.take 17 153 (ptr B) rfl rfl (by kernel_rfl) (by kernel_rfl) (by kernel_rfl) (by kernel_rfl) (fun _ _ _ h => h) (by rfl) (fun W' hb => ?_) h2 ?_
                · go_simp
                try simp only [List.setIfInBounds_toArray, List.set_cons_zero, List.set_cons_succ]
                refine RK.Any.take 19 155 (ptr X) rfl rfl (by kernel_rfl) (by kernel_rfl) (by kernel_rfl) (by kernel_rfl) (fun _ _ _ h => h) (by rfl) (fun W' hb => ?_) h2 ?_
                · go_simp
                try simp only [List.setIfInBounds_toArray, List.set_cons_zero, List.set_cons_succ]
                refine RK.Any.take 20 156 (ptr X) rfl rfl (by kernel_rfl) (by kernel_rfl) (by kernel_rfl) (by kernel_rfl) (fun _ _ _ h => h) (by rfl) (fun W' hb => ?_) h2 ?_
                · go_simp
                try simp only [List.setIfInBounds_toArray, List.set_cons_zero, List.set_cons_succ]
                refine RK.Any.take 21 157 (.pointer (some ⟨X, 2, none⟩)) rfl rfl (by kernel_rfl) (by kernel_rfl) (by kernel_rfl) (by kernel_rfl) (fun _ _ _ h => h) (by rfl) (fun W' hb => ?_) h2 ?_
                · go_simp
                try simp only [List.setIfInBounds_toArray, List.set_cons_zero, List.set_cons_succ]
                refine RK.Any.take 22 158 (.int .i64 (m3 : Int)) rfl rfl (by kernel_rfl) (by kernel_rfl) (by kernel_rfl) (by kernel_rfl) (fun _ _ _ h => h) (by rfl) (fun W' hb => ?_) h2 ?_
                · go_simp
                try simp only [List.setIfInBounds_toArray, List.set_cons_zero, List.set_cons_succ]
                refine RK.Any.call 18 154 13 #[ptr B] (by kernel_rfl) rfl rfl (by rfl) (by go_simp) (Calls.mono (h3) ?_)
                rintro e wz ⟨rfl, rfl⟩
                refine ⟨_, rfl, fun _ => h2, ?_⟩
                try simp only [List.setIfInBounds_toArray, List.set_cons_zero, List.set_cons_succ]
                refine RK.Any.take 23 159 (.bool true) rfl rfl (by kernel_rfl) (by kernel_rfl) (by kernel_rfl) (by kernel_rfl) (fun _ _ _ h => h) (by rfl) (fun W' hb => ?_) h2 ?_
                · go_simp
                try simp only [List.setIfInBounds_toArray, List.set_cons_zero, List.set_cons_succ]
                refine RK.Any.take 24 160 (.bool true) rfl rfl (by kernel_rfl) (by kernel_rfl) (by kernel_rfl) (by kernel_rfl) (fun _ _ _ h => h) (by rfl) (fun W' hb => ?_) h2 ?_
                · go_simp
                try simp only [List.setIfInBounds_toArray, List.set_cons_zero, List.set_cons_succ]
                refine RK.Any.take 25 8 (.bool true) rfl rfl (by kernel_rfl) (by kernel_rfl) (by kernel_rfl) (by kernel_rfl) (fun _ _ _ h => h) (by rfl) (fun W' hb => ?_) h2 ?_
                · go_simp
                try simp only [List.setIfInBounds_toArray, List.set_cons_zero, List.set_cons_succ]
                refine RK.Any.done (by kernel_rfl) ?_
                clear HD5 HD6 HD7 HD8 HD9 HDW
                go_wp2_with fail
                go_ret
                exact ⟨rfl, h1⟩
          · have g1 : (0 : Int) < (k : Int) := by omega
            have g2 : 0 < k := by omega
            obtain ⟨bd, rfl, hc⟩ := (HL.out wr HD.out.below).at_ g2
            have HQQ : Hid (y 0 < 18446744073709551616) := Lib.hid (HY.out 0)
            generalize y 0 = Q at *
            have hc9 : wr.cell? bd = some (.int .u64 (Q : Int)) := by
              have e9 : bd.add ((0 : Nat) : Nat) = bd := by unfold Addr.add; rw [if_pos rfl]
              rw [← e9]
              exact hc
            go_upto_region 18 with fail
            clear hc hc9 g1 g2
            have hQ : Q < 18446744073709551616 := HQQ.out
            obtain ⟨N, hNN⟩ : ∃ N, cnt x = N := ⟨_, rfl⟩
            have HNL : Hid (N ≤ 9223372036854775807) := Lib.hid (by rw [← hNN]; exact Nat.le_trans (cnt_le x) (by decide))
            have hN1 : N ≤ 1024 := by rw [← hNN]; exact cnt_le x
            have hm1 : t1.n = k := HM1.out
            have hm5 : k ≤ 500 := HM5.out
            have HDR0 := HD.out.drawsZ (i := 0) rfl x Q hQ (by rw [hm1]; omega)
            have HRD0 := fun oo w (h : TS W lo hi [(true, B, t1.run (allq Q) (cnt x)), (false, X, t1), (true, A, a1), (false, Y, a1)] w) (ho : OutAt hi w oo (cnt x) (t1.get (allq Q))) => h.rdrawsZ (i := 1) rfl x Q hQ (by rw [hm1]; omega) ho
            obtain ⟨t2, ht2⟩ : ∃ t2, t1.run (allq Q) (cnt x) = t2 := ⟨_, rfl⟩
            have hn2 : t2.n = k + N := by rw [← ht2, Tp.run_n, hm1, hNN]
            have hf2 : t2.fs.length ≤ 1000 := by rw [← ht2]; exact Nat.le_trans (fs_run _ _ _) HF1.out
            rw [ht2] at HDR0
            simp only [ht2] at HRD0
            rw [hNN] at HDR0
            simp only [hNN] at HRD0
            have HDR := Lib.hid HDR0
            have HRD := Lib.hid HRD0
            clear HDR0 HRD0 ht2 hNN
            obtain ⟨mN, hmN⟩ : ∃ mN, k + N = mN := ⟨_, rfl⟩
            rw [hmN] at hn2
            have HC5 : Hid (∀ w, TS W lo hi [(true, B, t2), (false, X, t2), (true, A, a1), (false, Y, a1)] w → w.cell? ⟨X, 2, none⟩ = some (.int .i64 (mN : Int))) := Lib.hid fun w h => by
              have := h.cntAt (i := 1) rfl
              rwa [hn2] at this
            have HA5 : Hid (∀ w, TS W lo hi [(true, B, t2), (false, X, t2), (true, A, a1), (false, Y, a1)] w → Calls Try.prog 13 #[ptr B] w fun e w' => e = .returned (.int .i64 (mN : Int)) ∧ w' = w) := Lib.hid fun w h => h.atn (i := 0) rfl mN hn2
            obtain ⟨t3, ht3⟩ : ∃ t3, t2.next Q = t3 := ⟨_, rfl⟩
            obtain ⟨m3, hm3⟩ : ∃ m3, mN + 1 = m3 := ⟨_, rfl⟩
            have hn3 : t3.n = m3 := by rw [← ht3, Tp.next_n, hn2, hm3]
            have hf3 : t3.fs.length ≤ 1000 := by rw [← ht3]; exact Nat.le_trans (fs_next _ _) hf2
            have hb2 : t2.n < 4611686018427387904 := by rw [hn2, ← hmN]; omega
            have hb3 : t3.n < 4611686018427387904 := by rw [hn3, ← hm3, ← hmN]; omega
            have HY1 : Hid (∀ w, Tz W [(true, B, t2), (false, X, t2), (true, A, a1), (false, Y, a1)] w → Calls Try.prog 11 #[ptr B, .int .u64 (Q : Int)] w fun e w' => e = .returned (.int .u64 ((t2.val Q : Nat) : Int)) ∧ Tz W [(true, B, t3), (false, X, t2), (true, A, a1), (false, Y, a1)] w') := Lib.hid fun w h => by
              have := h.next (i := 0) rfl Q hQ hb2
              rw [ht3] at this
              exact this
            have HY2 : Hid (∀ w, Tz W [(true, B, t3), (false, X, t2), (true, A, a1), (false, Y, a1)] w → Calls Try.prog 19 #[ptr X, .int .u64 (Q : Int)] w fun e w' => e = .returned (.int .u64 ((t2.val Q : Nat) : Int)) ∧ Tz W [(true, B, t3), (false, X, t3), (true, A, a1), (false, Y, a1)] w') := Lib.hid fun w h => by
              have := h.rnext (i := 1) rfl Q hQ hb2
              rw [ht3] at this
              exact this
            have HY3 := Lib.hid (fun w (h : Tz W [(true, B, t3), (false, X, t3), (true, A, a1), (false, Y, a1)] w) => h.copy (i := 0) rfl hf3)
            have HY4 : Hid (∀ C1 w, Tz W ([(true, B, t3), (false, X, t3), (true, A, a1), (false, Y, a1)] ++ [(true, C1, t3)]) w → Calls Try.prog 11 #[ptr C1, .int .u64 0] w fun e w' => e = .returned (.int .u64 ((t3.val 0 : Nat) : Int)) ∧ Tz W ([(true, B, t3), (false, X, t3), (true, A, a1), (false, Y, a1)] ++ [(true, C1, t3.next 0)]) w') := Lib.hid fun C1 w h => h.next (i := 4) rfl 0 (by decide) hb3
            have HY5 := Lib.hid (fun C1 w (h : Tz W ([(true, B, t3), (false, X, t3), (true, A, a1), (false, Y, a1)] ++ [(true, C1, t3.next 0)]) w) => h.rcopy (i := 1) rfl hf3)
            have HY6 : Hid (∀ C1 C2 w, Tz W ([(true, B, t3), (false, X, t3), (true, A, a1), (false, Y, a1)] ++ [(true, C1, t3.next 0)] ++ [(false, C2, t3)]) w → Calls Try.prog 19 #[ptr C2, .int .u64 0] w fun e w' => e = .returned (.int .u64 ((t3.val 0 : Nat) : Int)) ∧ Below W.heap.size W w' ∧ w'.cell? ⟨X, 2, none⟩ = some (.int .i64 (m3 : Int)) ∧ Calls Try.prog 13 #[ptr B] w' fun e2 w2 => e2 = .returned (.int .i64 (m3 : Int)) ∧ w2 = w') := Lib.hid fun C1 C2 w h => (h.rnext (i := 5) rfl 0 (by decide) hb3).mono fun _ _ ⟨a, b⟩ => ⟨a, b.below, by
              have := b.cntAt (i := 1) rfl
              rwa [hn3] at this, by
              have := b.at_ (i := 0) rfl
              rwa [hn3] at this⟩
            generalize t2.val Q = vQ at *
            generalize t3.val 0 = v0 at *
            clear hQ hn2 hf2 hmN ht3 hm3 hn3 hf3 hb2 hb3 hm1 hm5 hN1
            go_upto_region 19 with (go_at_call 12; (with_reducible refine (HDR.out).mono ?_); rintro e wd ⟨oo, oc, rfl, h1, h2⟩; have HOU := Lib.hid h1; have HD2 : Hid (TS W lo hi [(true, B, t2), (false, X, t1), (true, A, a1), (false, Y, a1)] wd) := Lib.hid h2; clear h1 h2)
            refine RK.region (fun _ => True) 16 (by kernel_rfl) ?_
            have HDW : Hid (TS W lo hi [(true, B, t2), (false, X, t1), (true, A, a1), (false, Y, a1)] wd.drew) := Lib.hid (HD2.out.step (below_drewN wd 1))
            have HOW : Hid (OutAt hi wd.drew oo N (t1.get (allq Q))) := Lib.hid (HOU.out.step (below_drewN wd 1))
            generalize wd.drew = we at *
            refine RK.Any.take 0 111 (.slice oo N oc) rfl rfl (by kernel_rfl) (by kernel_rfl) (by kernel_rfl) (by kernel_rfl) (fun _ _ _ h => h) (by rfl) (fun W' hb => ?_) trivial ?_
            · go_simp
            try simp only [List.setIfInBounds_toArray, List.set_cons_zero, List.set_cons_succ]
            refine RK.Any.take 1 112 (ptr X) rfl rfl (by kernel_rfl) (by kernel_rfl) (by kernel_rfl) (by kernel_rfl) (fun _ _ _ h => h) (by rfl) (fun W' hb => ?_) trivial ?_
            · go_simp
            try simp only [List.setIfInBounds_toArray, List.set_cons_zero, List.set_cons_succ]
            refine RK.Any.take 2 113 (.int .i64 x) rfl rfl (by kernel_rfl) (by kernel_rfl) (by kernel_rfl) (by kernel_rfl) (fun _ _ _ h => h) (by rfl) (fun W' hb => ?_) trivial ?_
            · go_simp
            try simp only [List.setIfInBounds_toArray, List.set_cons_zero, List.set_cons_succ]
            refine RK.Any.take 3 114 (.int .u64 (Q : Int)) rfl rfl (by kernel_rfl) (by kernel_rfl) (by kernel_rfl) (by kernel_rfl) (fun _ _ _ h => h) (by rfl) (fun W' hb => ?_) trivial ?_
            · go_simp
            try simp only [List.setIfInBounds_toArray, List.set_cons_zero, List.set_cons_succ]
            refine RK.Any.call 4 115 21 #[ptr X, .int .i64 x, .int .u64 (Q : Int)] (by kernel_rfl) rfl rfl (by rfl) (by go_simp) (Calls.mono ((HRD.out _ _ HDW.out HOW.out)) ?_)
            rintro e wf1 ⟨ro, rc, rfl, h1, h2, h3⟩
            have HRD1 := Lib.hid h1
            have HD3 : Hid (TS W lo hi [(true, B, t2), (false, X, t2), (true, A, a1), (false, Y, a1)] wf1) := Lib.hid h2
            have HO3 := Lib.hid h3
            clear h1 h2 h3
            refine ⟨_, rfl, fun _ => trivial, ?_⟩
            try simp only [List.setIfInBounds_toArray, List.set_cons_zero, List.set_cons_succ]
            refine RK.Any.call 5 116 20 #[.slice oo N oc, .slice ro N rc] (by kernel_rfl) rfl rfl (by rfl) (by go_simp) (Calls.mono ((nums_any _ _ N _ _ _ HNL.out wf1 HO3.out.rd HRD1.out)) ?_)
            rintro e wf2 ⟨rfl, nd, rfl⟩
            have HD4 : Hid (TS W lo hi [(true, B, t2), (false, X, t2), (true, A, a1), (false, Y, a1)] (wf1.drewN nd)) := Lib.hid (HD3.out.drewN nd)
            have HO4 := Lib.hid (HO3.out.step (below_drewN wf1 nd))
            generalize wf1.drewN nd = wg at *
            refine ⟨_, rfl, fun _ => trivial, ?_⟩
            try simp only [List.setIfInBounds_toArray, List.set_cons_zero, List.set_cons_succ]
            refine RK.Any.take 6 117 (.bool false) rfl rfl (by kernel_rfl) (by kernel_rfl) (by kernel_rfl) (by kernel_rfl) (fun _ _ _ h => h) (by rfl) (fun W' hb => ?_) trivial ?_
            · go_simp
            try simp only [List.setIfInBounds_toArray, List.set_cons_zero, List.set_cons_succ]
            refine RK.Any.take 7 118 (.bool false) rfl rfl (by kernel_rfl) (by kernel_rfl) (by kernel_rfl) (by kernel_rfl) (fun _ _ _ h => h) (by rfl) (fun W' hb => ?_) trivial ?_
            · go_simp
            try simp only [List.setIfInBounds_toArray, List.set_cons_zero, List.set_cons_succ]
            refine RK.Any.weaken (S2 := fun u => u.cell? ⟨X, 2, none⟩ = some (.int .i64 (mN : Int))) (fun _ _ => trivial) _ _ _ _ ?_
            have HS5 := HC5.out wg HD4.out
            refine RK.Any.take 8 119 (ptr B) rfl rfl (by kernel_rfl) (by kernel_rfl) (by kernel_rfl) (by kernel_rfl) (fun _ _ _ h => h) (by rfl) (fun W' hb => ?_) HS5 ?_
            · go_simp
            try simp only [List.setIfInBounds_toArray, List.set_cons_zero, List.set_cons_succ]
            refine RK.Any.take 10 121 (ptr X) rfl rfl (by kernel_rfl) (by kernel_rfl) (by kernel_rfl) (by kernel_rfl) (fun _ _ _ h => h) (by rfl) (fun W' hb => ?_) HS5 ?_
            · go_simp
            try simp only [List.setIfInBounds_toArray, List.set_cons_zero, List.set_cons_succ]
            refine RK.Any.take 11 122 (ptr X) rfl rfl (by kernel_rfl) (by kernel_rfl) (by kernel_rfl) (by kernel_rfl) (fun _ _ _ h => h) (by rfl) (fun W' hb => ?_) HS5 ?_
            · go_simp
            try simp only [List.setIfInBounds_toArray, List.set_cons_zero, List.set_cons_succ]
            refine RK.Any.take 12 123 (.pointer (some ⟨X, 2, none⟩)) rfl rfl (by kernel_rfl) (by kernel_rfl) (by kernel_rfl) (by kernel_rfl) (fun _ _ _ h => h) (by rfl) (fun W' hb => ?_) HS5 ?_
            · go_simp
            try simp only [List.setIfInBounds_toArray, List.set_cons_zero, List.set_cons_succ]
            refine RK.Any.take 13 124 (.int .i64 (mN : Int)) rfl rfl (by kernel_rfl) (by kernel_rfl) (by kernel_rfl) (by kernel_rfl) (fun _ _ _ h => h) (by rfl) (fun W' hb => ?_) HS5 ?_
            · go_simp
            try simp only [List.setIfInBounds_toArray, List.set_cons_zero, List.set_cons_succ]
            refine RK.Any.call 9 120 13 #[ptr B] (by kernel_rfl) rfl rfl (by rfl) (by go_simp) (Calls.mono ((HA5.out _ HD4.out)) ?_)
            rintro e wz ⟨rfl, rfl⟩
            refine ⟨_, rfl, fun _ => HS5, ?_⟩
            try simp only [List.setIfInBounds_toArray, List.set_cons_zero, List.set_cons_succ]
            refine RK.Any.take 14 125 (.bool false) rfl rfl (by kernel_rfl) (by kernel_rfl) (by kernel_rfl) (by kernel_rfl) (fun _ _ _ h => h) (by rfl) (fun W' hb => ?_) HS5 ?_
            · go_simp
            try simp only [List.setIfInBounds_toArray, List.set_cons_zero, List.set_cons_succ]
            refine RK.Any.take 15 126 (.bool false) rfl rfl (by kernel_rfl) (by kernel_rfl) (by kernel_rfl) (by kernel_rfl) (fun _ _ _ h => h) (by rfl) (fun W' hb => ?_) HS5 ?_
            · go_simp
            try simp only [List.setIfInBounds_toArray, List.set_cons_zero, List.set_cons_succ]
            refine RK.Any.done (by kernel_rfl) ?_
            clear HS5 HDW HOW HRD1 HD3 HO3 HD2 HOU HDR HRD HC5 HA5
            go_wp2_with fail
            go_loopw [18] (fun s18 wx => ∃ i2 : Nat, i2 ≤ N ∧ s18 = .int .i64 (i2 : Int) ∧ Hid (TS W lo hi [(true, B, t2), (false, X, t2), (true, A, a1), (false, Y, a1)] wx) ∧ Hid (∃ zz, OutAt hi wx oo N zz)) (fun s18 _ => N - (RowKit.intOf s18).toNat)
            case atStart => exact ⟨0, Nat.zero_le _, rfl, HD4, Lib.hid ⟨_, HO4.out⟩⟩
            case round =>
              clear HD4 HO4 HD
              obtain ⟨i2, hi2, rfl, HD, HO⟩ := hrel
              by_cases hlt3 : i2 < N
              · have hk0 : (0 : Int) ≤ (i2 : Int) := Int.natCast_nonneg _
                have hk1 : (i2 : Int) < (N : Int) := by omega
                obtain ⟨zz, hz⟩ := HO.out
                have hN9 := HNL.out
                obtain ⟨R, rfl, hR, hnm⟩ := hz (by omega)
                have hc := hnm.cell hlt3
                have hf := hnm.free i2
                have HO2 : Hid (OutAt hi (wr.setCell ⟨R, i2, none⟩ (.int .u64 ((5 : Nat) : Int))) (some ⟨R, 0, none⟩) N (fun i => if i = i2 then 5 else zz i)) := Lib.hid fun _ => ⟨R, rfl, hR, hnm.set i2 5 fun _ _ => rfl⟩
                have HD2 := Lib.hid (HD.out.free ((Turn.refl R wr).set i2 (.int .u64 ((5 : Nat) : Int))) (.inr hR) (Nat.le_trans HD.out.low (Nat.le_trans HD.out.mid hR)))
                clear hnm hz HD HO
                go_wp2_with fail
                go_roundw
                case rel => exact ⟨i2 + 1, by omega, by go_num, HD2, Lib.hid ⟨_, HO2.out⟩⟩
                case measure => simp [RowKit.intOf]; omega
              · obtain rfl : i2 = N := by omega
                clear HO
                go_upto_region 25 with fail
                refine RK.region (fun _ => True) 26 (by kernel_rfl) ?_
                have HDW : Hid (Tz W [(true, B, t2), (false, X, t2), (true, A, a1), (false, Y, a1)] (World.drew _)) := Lib.hid ((Tz.of_TS HD.out).step (below_drewN _ 1))
                generalize World.drew _ = we at *
                refine RK.Any.take 0 136 (ptr B) rfl rfl (by kernel_rfl) (by kernel_rfl) (by kernel_rfl) (by kernel_rfl) (fun _ _ _ h => h) (by rfl) (fun W' hb => ?_) trivial ?_
                · go_simp
                try simp only [List.setIfInBounds_toArray, List.set_cons_zero, List.set_cons_succ]
                refine RK.Any.take 1 137 (.int .u64 (Q : Int)) rfl rfl (by kernel_rfl) (by kernel_rfl) (by kernel_rfl) (by kernel_rfl) (fun _ _ _ h => h) (by rfl) (fun W' hb => ?_) trivial ?_
                · go_simp
                try simp only [List.setIfInBounds_toArray, List.set_cons_zero, List.set_cons_succ]
                refine RK.Any.take 3 139 (ptr X) rfl rfl (by kernel_rfl) (by kernel_rfl) (by kernel_rfl) (by kernel_rfl) (fun _ _ _ h => h) (by rfl) (fun W' hb => ?_) trivial ?_
                · go_simp
                try simp only [List.setIfInBounds_toArray, List.set_cons_zero, List.set_cons_succ]
                refine RK.Any.take 4 140 (.int .u64 (Q : Int)) rfl rfl (by kernel_rfl) (by kernel_rfl) (by kernel_rfl) (by kernel_rfl) (fun _ _ _ h => h) (by rfl) (fun W' hb => ?_) trivial ?_
                · go_simp
                try simp only [List.setIfInBounds_toArray, List.set_cons_zero, List.set_cons_succ]
                refine RK.Any.call 2 138 11 #[ptr B, .int .u64 (Q : Int)] (by kernel_rfl) rfl rfl (by rfl) (by go_simp) (Calls.mono ((HY1.out _ HDW.out)) ?_)
                rintro e wg5 ⟨rfl, h⟩
                have HD5 : Hid (Tz W [(true, B, t3), (false, X, t2), (true, A, a1), (false, Y, a1)] wg5) := Lib.hid h
                clear h
                refine ⟨_, rfl, fun _ => trivial, ?_⟩
                try simp only [List.setIfInBounds_toArray, List.set_cons_zero, List.set_cons_succ]
                refine RK.Any.call 5 141 19 #[ptr X, .int .u64 (Q : Int)] (by kernel_rfl) rfl rfl (by rfl) (by go_simp) (Calls.mono ((HY2.out _ HD5.out)) ?_)
                rintro e wg6 ⟨rfl, h⟩
                have HD6 : Hid (Tz W [(true, B, t3), (false, X, t3), (true, A, a1), (false, Y, a1)] wg6) := Lib.hid h
                clear h
                refine ⟨_, rfl, fun _ => trivial, ?_⟩
                try simp only [List.setIfInBounds_toArray, List.set_cons_zero, List.set_cons_succ]
                refine RK.Any.take 6 142 (.bool true) rfl rfl (by kernel_rfl) (by kernel_rfl) (by kernel_rfl) (by kernel_rfl) (fun _ _ _ h => h) (by rfl) (fun W' hb => ?_) trivial ?_
                · go_simp
                try simp only [List.setIfInBounds_toArray, List.set_cons_zero, List.set_cons_succ]
                refine RK.Any.take 7 143 (.bool true) rfl rfl (by kernel_rfl) (by kernel_rfl) (by kernel_rfl) (by kernel_rfl) (fun _ _ _ h => h) (by rfl) (fun W' hb => ?_) trivial ?_
                · go_simp
                try simp only [List.setIfInBounds_toArray, List.set_cons_zero, List.set_cons_succ]
                refine RK.Any.take 8 144 (ptr B) rfl rfl (by kernel_rfl) (by kernel_rfl) (by kernel_rfl) (by kernel_rfl) (fun _ _ _ h => h) (by rfl) (fun W' hb => ?_) trivial ?_
                · go_simp
                try simp only [List.setIfInBounds_toArray, List.set_cons_zero, List.set_cons_succ]
                refine RK.Any.take 11 147 (ptr X) rfl rfl (by kernel_rfl) (by kernel_rfl) (by kernel_rfl) (by kernel_rfl) (fun _ _ _ h => h) (by rfl) (fun W' hb => ?_) trivial ?_
                · go_simp
                try simp only [List.setIfInBounds_toArray, List.set_cons_zero, List.set_cons_succ]
                refine RK.Any.call 9 145 14 #[ptr B] (by kernel_rfl) rfl rfl (by rfl) (by go_simp) (Calls.mono ((HY3.out _ HD6.out)) ?_)
                rintro e wg7 ⟨C1, rfl, h, _⟩
                have HD7 : Hid (Tz W ([(true, B, t3), (false, X, t3), (true, A, a1), (false, Y, a1)] ++ [(true, C1, t3)]) wg7) := Lib.hid h
                clear h
                refine ⟨_, rfl, fun _ => trivial, ?_⟩
                try simp only [List.setIfInBounds_toArray, List.set_cons_zero, List.set_cons_succ]
                refine RK.Any.call 10 146 11 #[ptr C1, .int .u64 0] (by kernel_rfl) rfl rfl (by rfl) (by go_simp) (Calls.mono ((HY4.out _ _ HD7.out)) ?_)
                rintro e wg8 ⟨rfl, h⟩
                have HD8 : Hid (Tz W ([(true, B, t3), (false, X, t3), (true, A, a1), (false, Y, a1)] ++ [(true, C1, t3.next 0)]) wg8) := Lib.hid h
                clear h
                refine ⟨_, rfl, fun _ => trivial, ?_⟩
                try simp only [List.setIfInBounds_toArray, List.set_cons_zero, List.set_cons_succ]
                refine RK.Any.call 12 148 22 #[ptr X] (by kernel_rfl) rfl rfl (by rfl) (by go_simp) (Calls.mono ((HY5.out _ _ HD8.out)) ?_)
                rintro e wg9 ⟨C2, rfl, h, _⟩
                have HD9 : Hid (Tz W ([(true, B, t3), (false, X, t3), (true, A, a1), (false, Y, a1)] ++ [(true, C1, t3.next 0)] ++ [(false, C2, t3)]) wg9) := Lib.hid h
                clear h
                refine ⟨_, rfl, fun _ => trivial, ?_⟩
                try simp only [List.setIfInBounds_toArray, List.set_cons_zero, List.set_cons_succ]
                refine RK.Any.call 13 149 19 #[ptr C2, .int .u64 0] (by kernel_rfl) rfl rfl (by rfl) (by go_simp) (Calls.mono ((HY6.out _ _ _ HD9.out)) ?_)
                rintro e wh ⟨rfl, h1, h2, h3⟩
                refine ⟨_, rfl, fun _ => trivial, ?_⟩
                try simp only [List.setIfInBounds_toArray, List.set_cons_zero, List.set_cons_succ]
                refine RK.Any.take 14 150 (.bool true) rfl rfl (by kernel_rfl) (by kernel_rfl) (by kernel_rfl) (by kernel_rfl) (fun _ _ _ h => h) (by rfl) (fun W' hb => ?_) trivial ?_
                · go_simp
                try simp only [List.setIfInBounds_toArray, List.set_cons_zero, List.set_cons_succ]
                refine RK.Any.take 15 151 (.bool true) rfl rfl (by kernel_rfl) (by kernel_rfl) (by kernel_rfl) (by kernel_rfl) (fun _ _ _ h => h) (by rfl) (fun W' hb => ?_) trivial ?_
                · go_simp
                try simp only [List.setIfInBounds_toArray, List.set_cons_zero, List.set_cons_succ]
                refine RK.Any.take 16 152 (.bool true) rfl rfl (by kernel_rfl) (by kernel_rfl) (by kernel_rfl) (by kernel_rfl) (fun _ _ _ h => h) (by rfl) (fun W' hb => ?_) trivial ?_
                · go_simp
                try simp only [List.setIfInBounds_toArray, List.set_cons_zero, List.set_cons_succ]
                refine RK.Any.weaken (S2 := fun u => u.cell? ⟨X, 2, none⟩ = some (.int .i64 (m3 : Int))) (fun _ _ => trivial) _ _ _ _ ?_
                refine RK.Any.take 17 153 (ptr B) rfl rfl (by kernel_rfl) (by kernel_rfl) (by kernel_rfl) (by kernel_rfl) (fun _ _ _ h => h) (by rfl) (fun W' hb => ?_) h2 ?_
                · go_simp
                try simp only [List.setIfInBounds_toArray, List.set_cons_zero, List.set_cons_succ]
                refine RK.Any.take 19 155 (ptr X) rfl rfl (by kernel_rfl) (by kernel_rfl) (by kernel_rfl) (by kernel_rfl) (fun _ _ _ h => h) (by rfl) (fun W' hb => ?_) h2 ?_
                · go_simp
                try simp only [List.setIfInBounds_toArray, List.set_cons_zero, List.set_cons_succ]
                refine RK.Any.take 20 156 (ptr X) rfl rfl (by kernel_rfl) (by kernel_rfl) (by kernel_rfl) (by kernel_rfl) (fun _ _ _ h => h) (by rfl) (fun W' hb => ?_) h2 ?_
                · go_simp
                try simp only [List.setIfInBounds_toArray, List.set_cons_zero, List.set_cons_succ]
                refine RK.Any.take 21 157 (.pointer (some ⟨X, 2, none⟩)) rfl rfl (by kernel_rfl) (by kernel_rfl) (by kernel_rfl) (by kernel_rfl) (fun _ _ _ h => h) (by rfl) (fun W' hb => ?_) h2 ?_
                · go_simp
                try simp only [List.setIfInBounds_toArray, List.set_cons_zero, List.set_cons_succ]
                refine RK.Any.take 22 158 (.int .i64 (m3 : Int)) rfl rfl (by kernel_rfl) (by kernel_rfl) (by kernel_rfl) (by kernel_rfl) (fun _ _ _ h => h) (by rfl) (fun W' hb => ?_) h2 ?_
                · go_simp
                try simp only [List.setIfInBounds_toArray, List.set_cons_zero, List.set_cons_succ]
                refine RK.Any.call 18 154 13 #[ptr B] (by kernel_rfl) rfl rfl (by rfl) (by go_simp) (Calls.mono (h3) ?_)
                rintro e wz ⟨rfl, rfl⟩
                refine ⟨_, rfl, fun _ => h2, ?_⟩
                try simp only [List.setIfInBounds_toArray, List.set_cons_zero, List.set_cons_succ]
                refine RK.Any.take 23 159 (.bool true) rfl rfl (by kernel_rfl) (by kernel_rfl) (by kernel_rfl) (by kernel_rfl) (fun _ _ _ h => h) (by rfl) (fun W' hb => ?_) h2 ?_
                · go_simp
                try simp only [List.setIfInBounds_toArray, List.set_cons_zero, List.set_cons_succ]
                refine RK.Any.take 24 160 (.bool true) rfl rfl (by kernel_rfl) (by kernel_rfl) (by kernel_rfl) (by kernel_rfl) (fun _ _ _ h => h) (by rfl) (fun W' hb => ?_) h2 ?_
                · go_simp
                try simp only [List.setIfInBounds_toArray, List.set_cons_zero, List.set_cons_succ]
                refine RK.Any.take 25 8 (.bool true) rfl rfl (by kernel_rfl) (by kernel_rfl) (by kernel_rfl) (by kernel_rfl) (fun _ _ _ h => h) (by rfl) (fun W' hb => ?_) h2 ?_
                · go_simp
                try simp only [List.setIfInBounds_toArray, List.set_cons_zero, List.set_cons_succ]
                refine RK.Any.done (by kernel_rfl) ?_
                clear HD5 HD6 HD7 HD8 HD9 HDW
                go_wp2_with fail
                go_ret
                exact ⟨rfl, h1⟩
theorem walkOut (ao : Option Addr) (n c s : Nat) (bo : Option Addr) (m d : Nat) (x : Int) (h : 500 < n ∨ (n ≤ 500 ∧ 500 < m)) (W : World) :
    Calls Try.prog 4 #[.slice ao n c, .int .u64 (s : Int), .slice bo m d, .int .i64 x] W fun e w' => e = .returned (.bool true) ∧ Below W.heap.size W w' := by
  rcases h with h | ⟨h1, h⟩
  · have g : (500 : Int) < (n : Int) := by omega
    go_enter Try.func4, Try.ntmps4
    go_wp2_with fail
    go_ret
    exact ⟨rfl, Below.refl _ _⟩
  · have g1 : ¬ (500 : Int) < (n : Int) := by omega
    have g : (500 : Int) < (m : Int) := by omega
    go_enter Try.func4, Try.ntmps4
    go_wp2_with fail
    go_ret
    exact ⟨rfl, Below.refl _ _⟩
theorem walk (v : Value) (s : Nat) (u : Value) (x : Int) (hs : s < 18446744073709551616) (W : World) (hv : NumsIn W v) (hu : NumsIn W u) :
    Calls Try.prog 4 #[v, .int .u64 (s : Int), u, .int .i64 x] W fun e w' => e = .returned (.bool true) ∧ Below W.heap.size W w' := by
  obtain ⟨ao, n, c, z, rfl, _, _, hz, hr, h0⟩ := hv
  obtain ⟨bo, m, d, y, rfl, _, _, hy, hl, _⟩ := hu
  by_cases h1 : 500 < n
  · exact walkOut ao n c s bo m d x (.inl h1) W
  by_cases h2 : 500 < m
  · exact walkOut ao n c s bo m d x (.inr ⟨by omega, h2⟩) W
  exact walkHere ao n c z s bo m d y x (by omega) (by omega) hz hy hs W hr h0 hl

set_option maxRecDepth 100000 in
theorem lifted (os : Os) (started : os.Started) (H : Type) (enc : TypeId × Value → H) :
    ReturnsInHanded {} Try.checked os 4 .any (Rows.tapeTellsSpec.pre6 enc Try.prog Try.f4 Rows.tapeTellsRow.domain false) (Rows.tapeTellsSpec.post enc Try.prog Try.f4 false true false false) := by
  refine returnsInHanded_of_change (C := Try.checked) M.own started (by kernel_rfl) Try.func4
    (ChangeSpec.witness6 (enc := enc) (C := Try.checked) false ⟨#[], #[.slice none 0 0, .int .u64 0, .slice none 0 0, .int .i64 0], []⟩ 8 (by kernel_rfl) (by kernel_rfl) (by kernel_rfl) (by kernel_rfl)) ?_
  intro W base args ds gs before hval0 hW _ _
  have hval : ∀ (j : Nat) t v, Try.f4.params[j]? = some t → args[j]? = some v → Value.okWide Try.prog W .any base t v := hval0
  have hW' := hW
  obtain ⟨p, q, hA0, hV, rfl, _, _⟩ := hW
  have hA : DataW.TrodAll enc Try.prog W 0 (fun _ => true) true Try.f4.params.toList args.toList ds p := hA0
  rw [Try.params4] at hA hval
  obtain ⟨v0, vs0, d0, ds0, p0, q0, hargs, rfl, rfl, h0, r0⟩ := trodAll_cons hA
  obtain ⟨v1, vs1, d1, ds1, p1, q1, rfl, rfl, rfl, h1, r1⟩ := trodAll_cons r0
  obtain ⟨v2, vs2, d2, ds2, p2, q2, rfl, rfl, rfl, h2, r2⟩ := trodAll_cons r1
  obtain ⟨v3, vs3, d3, ds3, p3, q3, rfl, rfl, rfl, h3, r3⟩ := trodAll_cons r2
  obtain ⟨rfl, rfl, rfl⟩ := trodAll_nil r3
  obtain rfl : args = #[v0, v1, v2, v3] := by cases args; simp_all
  obtain ⟨rfl, rfl⟩ := trodVars_none hV
  have k0 := h0
  have lt0 : ∀ x ∈ p0, x.block < W.heap.size := by obtain ⟨m, hm⟩ := k0; exact DataW.trod_lt m _ _ _ hm
  have ns0 := M.open_nums (hval 0 26 v0 rfl rfl) h0
  have k1 := h1
  have lt1 : ∀ x ∈ p1, x.block < W.heap.size := by obtain ⟨m, hm⟩ := k1; exact DataW.trod_lt m _ _ _ hm
  obtain ⟨x1, rfl, rfl, rfl, w1⟩ := open_int Try.underlying24 (hval 1 24 v1 rfl rfl) h1
  obtain ⟨lo1, hi1⟩ := M.u64_bounds w1
  obtain ⟨a1, rfl⟩ : ∃ a : Nat, x1 = a := ⟨x1.toNat, by omega⟩
  have k2 := h2
  have lt2 : ∀ x ∈ p2, x.block < W.heap.size := by obtain ⟨m, hm⟩ := k2; exact DataW.trod_lt m _ _ _ hm
  have ns2 := M.open_nums (hval 2 26 v2 rfl rfl) h2
  have k3 := h3
  have lt3 : ∀ x ∈ p3, x.block < W.heap.size := by obtain ⟨m, hm⟩ := k3; exact DataW.trod_lt m _ _ _ hm
  obtain ⟨x3, rfl, rfl, rfl, w3⟩ := open_int Try.underlying3 (hval 3 3 v3 rfl rfl) h3
  clear hA0 hval0
  simp only [List.append_nil] at hW'
  refine (walk v0 a1 v2 x3 (by omega) W ns0 ns2).mono fun e W' ⟨he, bel⟩ => ?_
  subst he
  exact ⟨_, rfl, _, _, _, [], _, [], hW', (trodAll_cons_mk (shut_bool Try.underlying4 _) trodAll_mk0), (trodAll_cons_mk (Below.trod M.laidOut (by kernel_rfl) (of_decide_eq_true (by kernel_rfl)) k0 bel lt0) (trodAll_cons_mk (Below.trod M.laidOut (by kernel_rfl) (of_decide_eq_true (by kernel_rfl)) k1 bel lt1) (trodAll_cons_mk (Below.trod M.laidOut (by kernel_rfl) (of_decide_eq_true (by kernel_rfl)) k2 bel lt2) (trodAll_cons_mk (Below.trod M.laidOut (by kernel_rfl) (of_decide_eq_true (by kernel_rfl)) k3 bel lt3) trodAll_mk0)))), rfl, bel.frame _, fun h => by cases h⟩

theorem holds : Rows.TapeTellsSaid :=
  OpenClaim.holds_of_wide 4 Try.f4 rfl rfl rfl rfl rfl rfl rfl ⟨rfl, rfl, rfl, rfl, rfl⟩ rfl rfl rfl rfl rfl (by kernel_rfl) Try.func4 (by kernel_rfl)
    (of_decide_eq_true (by kernel_rfl)) (by unfold Func.isWrapper; first | (rw [if_pos (by decide +kernel)]; kernel_rfl) | (rw [if_neg (by decide +kernel)]; exact ⟨rfl, rfl⟩))
    (fun os started H enc _ => lifted os started H enc)

end TapeTells

theorem tapeTells_holds : Rows.TapeTellsSaid := TapeTells.holds
#print axioms tapeTells_holds
end Go.Proofs.Ytbappohnljlchaa

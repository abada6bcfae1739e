/- The walk of the products, as the program has them. -/
import Derived.Test.YtdblijpoelcghaaFixW7
namespace Go.Proofs.Ytdblijpoelcghaa
open Go Go.RowKit Go.Lib
namespace M
attribute [local go_sem] Oper.semAt_some
theorem load_boxp {w : World} {g : Nat} {p : Pm} (h : Box w g p) {o : Oper} {ev : Operand → Value} {x : Operand} (ho : o.op = .load 31 x) (hx : ev x = .pointer (some ⟨g, 0, none⟩)) : (execOp ev o).run Try.prog w = .ok (.value (.agg p.cells)) w := by
  unfold execOp
  simp only [ho, hx, Instr.loadAt, Instr.sureAddr, Sem.run_bind, Sem.run_pure, Result.andThen_ok, run_loadVar_row w g 31 31 p.cells (0, 0) _ h Try.underlying31 rfl info_pm]
set_option maxRecDepth 100000 in
set_option maxHeartbeats 8000000 in
theorem dot_fit (p : Pm) (lo : Option Addr) (ln lc : Nat) (l : Nat → Nat) (ao : Option Addr) (n c : Nat) (x : Nat → Int) (hl : ∀ j, l j < 18446744073709551616) (hx : ∀ j, -9223372036854775808 ≤ x j ∧ x j ≤ 9223372036854775807) (hf : MM.Fit p) (W : World) (hrl : Rd W lo ln l) (hr : IRow W ao n c x) :
    Calls Try.prog 19 #[.agg p.cells, .slice lo ln lc, .slice ao n c] W fun e w' => ∃ B, e = .returned (.slice (some ⟨B, 0, none⟩) p.K.toNat p.K.toNat) ∧ Mine W B p.K.toNat (MM.dotZ p ln l n x) w' := by
  obtain ⟨W1, hW1⟩ : ∃ W1, W.alloc (.cells p.cells 31) = W1 := ⟨_, rfl⟩
  obtain ⟨g, hg⟩ : ∃ g, W.heap.size = g := ⟨_, rfl⟩
  have HB1 : Hid (Below W.heap.size W W1) := Lib.hid (by rw [← hW1]; exact below_box W _)
  have HB0 : Hid (Box W1 g p) := Lib.hid (by rw [← hW1, ← hg]; exact Box.new W p)
  have HI : Hid (InP W1 g p W1) := Lib.hid ⟨HB0.out, Below.refl _ _⟩
  have HR : Hid (IRow W1 ao n c x) := Lib.hid (hr.below HB1.out)
  have HRL : Hid (Rd W1 lo ln l) := Lib.hid (hrl.below HB1.out)
  have HL := Lib.hid hl
  have HU := usable_any p
  rw [decide_eq_true hf] at HU
  obtain ⟨d, hd⟩ : ∃ d : Nat, p.D = (d : Int) := ⟨p.D.toNat, by have := hf.2.2.1; omega⟩
  have hd4 : d ≤ 4 := by have := hf.2.2.2.1; omega
  have hdN : p.D.toNat = d := by omega
  obtain ⟨kk, hkk⟩ : ∃ kk : Nat, p.K = (kk : Int) := ⟨p.K.toNat, by have := hf.1; omega⟩
  have hkk2 : kk ≤ 2 := by have := hf.2.1; omega
  have hkN : p.K.toNat = kk := by omega
  obtain ⟨N, hN⟩ : ∃ N, d + 1 = N := ⟨_, rfl⟩
  have HROW := Lib.hid (fun (u : World) (h : IRow u ao n c x) => row_fit p ao n c x hx hf u h)
  rw [hdN, hN] at HROW
  obtain ⟨z, hz⟩ : ∃ z, MM.dotZ p ln l n x = z := ⟨_, rfl⟩
  have HZ : Hid (∀ k, z k = MM.dotP p.Q d ln l (MM.rowZ p n x) k N) := Lib.hid fun k => by rw [← hz, ← hN, ← hdN]; rfl
  have HRZ : Hid (∀ j, MM.rowZ p n x j < 18446744073709551616) := Lib.hid fun j => by
    unfold MM.rowZ
    split
    · split
      · exact MM.numU_lt _ _
      · omega
    · exact MM.numU_lt _ _
  rw [hkN, hz]
  generalize MM.rowZ p n x = r at *
  have HD := Lib.hid hd
  have HKK := Lib.hid hkk
  clear hr hrl hl hf hz hx hd hkk
  go_enter Try.func19, Try.ntmps19
  go_upto_region 3 with (first
    | (refine load_pm ?_ _ rfl g rfl p HI.out.box ?_; first | rfl | (simp [Region.wanted, yielded]; done))
    | (go_at_call 37; (with_reducible refine (HU.at _).mono ?_); rintro e w1 ⟨rfl, hb⟩; replace HI := Lib.hid (HI.out.step hb); clear hb))
  have hbw := HI.out.below
  refine RK.cut (fun a a' u => ∃ B B2, (B ≠ B2 ∧ Mine W1 B kk (fun _ => 0) u ∧ Mine W1 B2 N r u) ∧ a' = { a with tmps := (((((((a.tmps.setIfInBounds 16 (.pointer (some ⟨g, 7, none⟩))).setIfInBounds 17 (.int .i64 (kk : Int))).setIfInBounds 19 (.agg p.cells)).setIfInBounds 20 (.slice ao n c)).setIfInBounds 18 (.slice (some ⟨B, 0, none⟩) kk kk)).setIfInBounds 21 (.slice (some ⟨B2, 0, none⟩) N N)).setIfInBounds 7 (.slice (some ⟨B, 0, none⟩) kk kk)).setIfInBounds 8 (.slice (some ⟨B2, 0, none⟩) N N) }) (RK.region (Below W1.heap.size W1) 100 (by kernel_rfl) ?_) ?_
  · have HS0 : Below W1.heap.size W1 w1.drew := hbw.trans (below_drewN' w1 1 _)
    refine RK.Any.take 0 16 (.pointer (some ⟨g, 7, none⟩)) rfl rfl (by kernel_rfl) (by kernel_rfl) (by kernel_rfl) (by kernel_rfl) (fun _ _ _ h => by cases h.1) (by rfl) (fun W' hb => ?_) HS0 ?_
    · go_simp
    simp only [List.setIfInBounds_toArray, List.set_cons_zero, List.set_cons_succ]
    refine RK.Any.take 1 17 (.int .i64 (kk : Int)) rfl rfl (by kernel_rfl) (by kernel_rfl) (by kernel_rfl) (by kernel_rfl) (fun _ _ _ h => by cases h.1) (by rfl) (fun W' hb => ?_) HS0 ?_
    · have cc := InP.cK ⟨HB0.out.below hb, hb⟩ HKK.out; go_simp
    simp only [List.setIfInBounds_toArray, List.set_cons_zero, List.set_cons_succ]
    refine RK.Any.take 3 19 (.agg p.cells) rfl rfl (by kernel_rfl) (by kernel_rfl) (by kernel_rfl) (by kernel_rfl) (fun _ _ _ h => by cases h.1) (by rfl) (fun W' hb => ?_) HS0 ?_
    · exact load_boxp (HB0.out.below hb) rfl rfl
    simp only [List.setIfInBounds_toArray, List.set_cons_zero, List.set_cons_succ]
    refine RK.Any.take 4 20 (.slice ao n c) rfl rfl (by kernel_rfl) (by kernel_rfl) (by kernel_rfl) (by kernel_rfl) (fun _ _ _ h => by cases h.1) (by rfl) (fun W' hb => ?_) HS0 ?_
    · go_simp
    simp only [List.setIfInBounds_toArray, List.set_cons_zero, List.set_cons_succ]
    generalize w1.drew = w0 at *
    have hmk := fun u => run_made kk (by omega) u
    have hMk := fun u => Mine.made u kk
    generalize Obj.cells (madeCells (Value.int .u64 0).cells (kk * 1)) 23 = An at hmk hMk
    refine RK.Any.each [2, 5] (by kernel_rfl) (by simp) fun y hy => ?_
    simp only [List.mem_cons, List.not_mem_nil, or_false] at hy
    rcases hy with rfl | rfl
    · have hmk0 := hmk w0
      refine RK.wpOp_exec (t := 18) (v := .slice (some ⟨w0.heap.size, 0, none⟩) kk kk) (w1 := w0.alloc An) rfl rfl (by rfl) (by go_simp) ?_
      have HS1 : Below W1.heap.size W1 (w0.alloc An) := HS0.trans ((below_box _ _).mono HS0.size)
      refine ⟨fun _ => HS1, ?_⟩
      simp only [List.setIfInBounds_toArray, List.set_cons_zero, List.set_cons_succ]
      refine RK.Any.call 5 21 18 #[.agg p.cells, .slice ao n c] (by kernel_rfl) rfl rfl (by rfl) (by go_simp) (Calls.mono (HROW.out _ (HR.out.below HS1)) ?_)
      rintro e w2 ⟨B2, rfl, hm2⟩
      have hs2 := hm2.low
      rw [World.size_alloc] at hs2
      have HS2 : Below W1.heap.size W1 w2 := HS1.trans (hm2.below.mono HS1.size)
      have hm1 := ((hMk w0).step hm2.below).base HS0
      refine ⟨_, rfl, fun _ => HS2, ?_⟩
      simp only [List.setIfInBounds_toArray, List.set_cons_zero, List.set_cons_succ]
      refine RK.Any.take 6 7 (.slice (some ⟨w0.heap.size, 0, none⟩) kk kk) rfl rfl (by kernel_rfl) (by kernel_rfl) (by kernel_rfl) (by kernel_rfl) (fun _ _ _ h => by cases h.1) (by rfl) (fun W' hb => ?_) HS2 ?_
      · go_simp
      simp only [List.setIfInBounds_toArray, List.set_cons_zero, List.set_cons_succ]
      refine RK.Any.take 7 8 (.slice (some ⟨B2, 0, none⟩) N N) rfl rfl (by kernel_rfl) (by kernel_rfl) (by kernel_rfl) (by kernel_rfl) (fun _ _ _ h => by cases h.1) (by rfl) (fun W' hb => ?_) HS2 ?_
      · go_simp
      simp only [List.setIfInBounds_toArray, List.set_cons_zero, List.set_cons_succ]
      refine RK.Any.done (by kernel_rfl) ?_
      exact ⟨rfl, w0.heap.size, B2, ⟨by omega, hm1, hm2.base HS1⟩, rfl⟩
    · refine RK.wpOp_call (t := 21) (g := 18) (args := #[.agg p.cells, .slice ao n c]) rfl rfl (by rfl) (by go_simp) (Calls.mono (HROW.out _ (HR.out.below HS0)) ?_)
      rintro e w2 ⟨B2, rfl, hm2⟩
      have hl2 := hm2.lt
      have HS2 : Below W1.heap.size W1 w2 := HS0.trans (hm2.below.mono HS0.size)
      refine ⟨_, rfl, fun _ => HS2, ?_⟩
      simp only [List.setIfInBounds_toArray, List.set_cons_zero, List.set_cons_succ]
      have hmk0 := hmk w2
      have hm1 := (hMk w2).base HS2
      have hm3 := (hm2.step (below_box w2 An)).base HS0
      refine RK.Any.exec 2 18 (.slice (some ⟨w2.heap.size, 0, none⟩) kk kk) (w1 := w2.alloc An) (by kernel_rfl) rfl rfl (by rfl) (by go_simp) hm1.below ?_
      simp only [List.setIfInBounds_toArray, List.set_cons_zero, List.set_cons_succ]
      refine RK.Any.take 6 7 (.slice (some ⟨w2.heap.size, 0, none⟩) kk kk) rfl rfl (by kernel_rfl) (by kernel_rfl) (by kernel_rfl) (by kernel_rfl) (fun _ _ _ h => by cases h.1) (by rfl) (fun W' hb => ?_) hm1.below ?_
      · go_simp
      simp only [List.setIfInBounds_toArray, List.set_cons_zero, List.set_cons_succ]
      refine RK.Any.take 7 8 (.slice (some ⟨B2, 0, none⟩) N N) rfl rfl (by kernel_rfl) (by kernel_rfl) (by kernel_rfl) (by kernel_rfl) (fun _ _ _ h => by cases h.1) (by rfl) (fun W' hb => ?_) hm1.below ?_
      · go_simp
      simp only [List.setIfInBounds_toArray, List.set_cons_zero, List.set_cons_succ]
      refine RK.Any.done (by kernel_rfl) ?_
      exact ⟨rfl, w2.heap.size, B2, ⟨by omega, hm1, hm3⟩, rfl⟩
  rintro a1 W7 ⟨B, B2, ⟨hBB, hm1, hm2⟩, rfl⟩
  simp only [List.setIfInBounds_toArray, List.set_cons_zero, List.set_cons_succ]
  have HM10 := Lib.hid hm1
  have HM20 := Lib.hid hm2
  have HBB := Lib.hid hBB
  clear hm1 hm2 hBB HI hbw HROW HU
  go_wp2_with fail
  go_loopw [24] (fun s24 wx => ∃ k : Nat, k ≤ kk ∧ s24 = .int .i64 (k : Int) ∧ Hid (∃ y, Mine W1 B kk y wx ∧ (∀ j, j < k → y j = z j) ∧ ∀ j, k ≤ j → y j = 0) ∧ Hid (Mine W1 B2 N r wx)) (fun s24 _ => kk - (RowKit.intOf s24).toNat)
  case atStart => exact ⟨0, Nat.zero_le _, rfl, Lib.hid ⟨_, HM10.out, fun j h => absurd h (by omega), fun _ _ => rfl⟩, HM20⟩
  case round =>
    clear HM10 HM20
    obtain ⟨k, hk, rfl, HM, HM2⟩ := hrel
    by_cases hlt : k < kk
    · obtain ⟨a, ha⟩ : ∃ a, k * N = a := ⟨_, rfl⟩
      have ha10 : a ≤ 10 := by rw [← ha]; exact Nat.le_trans (Nat.mul_le_mul (show k ≤ 2 by omega) (show N ≤ 5 by omega)) (by omega)
      have hwa : IntKind.i64.wrap ((k : Int) * (N : Int)) = (a : Int) := by rw [show (k : Int) * (N : Int) = ((a : Nat) : Int) by rw [← ha]; rfl, IntWalk.i64_in _ (by omega)]
      have HA := Lib.hid ha
      have HAD := Lib.hid (adder_any lo ln lc a p.Q wr)
      have hq : wr.cell? ⟨g, 1, none⟩ = some (.int .u64 (p.Q : Int)) := InP.cQ ⟨HB0.out.below HM2.out.below, HM2.out.below⟩
      have hk0 : (0 : Int) ≤ (k : Int) := Int.natCast_nonneg _
      clear ha
      obtain ⟨wo, hwo⟩ : ∃ wo : World, wo = wr := ⟨_, rfl⟩
      subst hwo
      go_wp2_with (go_at_call 39; (with_reducible refine HAD.out.mono ?_); rintro e w2 ⟨a0, a1, a2, rfl, hh, h0, h1, h2, hb⟩)
      have hbl := HM2.out.below.size
      have HH := Lib.hid hh
      have HM2 := Lib.hid (HM2.out.step hb)
      have HN0 : Hid (∃ y, Mine W1 B kk y w2 ∧ (∀ j, j < k → y j = z j) ∧ (∀ j, k + 1 ≤ j → y j = 0) ∧ y k = MM.dotP p.Q d ln l r k 0) := by
        obtain ⟨y, hy, h3, h4⟩ := HM.out
        exact Lib.hid ⟨y, hy.step hb, h3, fun j hj => h4 j (by omega), h4 k (Nat.le_refl _)⟩
      have hB : B < wo.heap.size := by obtain ⟨y, hy, _⟩ := HM.out; exact hy.lt
      have hn0 : a0 ≠ B := by omega
      have hn1 : a1 ≠ B := by omega
      have hn2 : a2 ≠ B := by omega
      clear HM HAD hh hb h0 h1 h2 hq hbl
      go_loopw [37] (fun s37 wx => ∃ i : Nat, i ≤ N ∧ s37 = .int .i64 (i : Int) ∧ Hid (∃ y, Mine W1 B kk y wx ∧ (∀ j, j < k → y j = z j) ∧ (∀ j, k + 1 ≤ j → y j = 0) ∧ y k = MM.dotP p.Q d ln l r k i) ∧ Hid (Kept B w2 wx)) (fun s37 _ => N - (RowKit.intOf s37).toNat)
      case atStart => exact ⟨0, Nat.zero_le _, rfl, HN0, Lib.hid (Kept.refl _ _)⟩
      case round =>
        clear HN0
        obtain ⟨i, hi, rfl, HM, HK⟩ := hrel
        obtain ⟨y, hy, h3, h4, h5⟩ := HM.out
        have HMR := HM2.out.kept HK.out (fun e => HBB.out e.symm) hy.below
        by_cases hli : i < N
        · have hcr := HMR.cell hli
          have hcl := hy.cell hlt
          have hfr := hy.free k
          rw [h5] at hcl
          have HRL1 := HRL.out.below hy.below
          have HC := add1_any a0 a1 a2 lo ln lc a p.Q (MM.dotP p.Q d ln l r k i) i (r i) l HL.out (HRZ.out i) (by omega) (by omega) wr (HH.out.kept HK.out hn0 hn1 hn2) HRL1
          have HE : (if a + i < ln then MM.addU (MM.dotP p.Q d ln l r k i) (MM.mulU (l (a + i)) (r i) p.Q) p.Q else MM.dotP p.Q d ln l r k i) = MM.dotP p.Q d ln l r k (i + 1) := by
            rw [MM.dotP, hN, HA.out]
          rw [HE] at HC
          have HN : Hid (∀ nd, ∃ y', Mine W1 B kk y' ((wr.drewN nd).setCell ⟨B, k, none⟩ (.int .u64 ((MM.dotP p.Q d ln l r k (i + 1) : Nat) : Int))) ∧ (∀ j, j < k → y' j = z j) ∧ (∀ j, k + 1 ≤ j → y' j = 0) ∧ y' k = MM.dotP p.Q d ln l r k (i + 1)) := by
            have H3 := Lib.hid h3
            have H4 := Lib.hid h4
            exact Lib.hid fun nd => ⟨fun j => if j = k then MM.dotP p.Q d ln l r k (i + 1) else y j, (hy.drewN nd).set k _ (fun _ _ => rfl), fun j hj => (if_neg (show ¬ j = k by omega)).trans (H3.out j hj), fun j hj => (if_neg (show ¬ j = k by omega)).trans (H4.out j hj), if_pos rfl⟩
          have HKN : Hid (∀ nd, Kept B w2 ((wr.drewN nd).setCell ⟨B, k, none⟩ (.int .u64 ((MM.dotP p.Q d ln l r k (i + 1) : Nat) : Int)))) := Lib.hid fun nd => (HK.out.drewN nd).setCell k _
          have HCC := Lib.hid HC
          have hi0 : (0 : Int) ≤ (i : Int) := Int.natCast_nonneg _
          have hiI : (i : Int) < (N : Int) := by omega
          have hk0 : (0 : Int) ≤ (k : Int) := Int.natCast_nonneg _
          have hkI : (k : Int) < (kk : Int) := by omega
          clear hy h3 h4 h5 HMR HM HRL1 HC HE
          generalize hs1 : MM.dotP p.Q d ln l r k (i + 1) = s1 at *
          have HS1 := Lib.hid hs1
          clear hs1
          generalize MM.dotP p.Q d ln l r k i = s0 at *
          generalize r i = ri at *
          go_wp2_with (go_at_call 49; (with_reducible refine HCC.out.mono ?_); rintro e w' ⟨rfl, nd, rfl⟩)
          go_roundw
          case rel => exact ⟨i + 1, by omega, by go_num, Lib.hid (by rw [HS1.out]; exact HN.out nd), Lib.hid (HKN.out nd)⟩
          case measure => simp [RowKit.intOf]; omega
        · obtain rfl : i = N := by omega
          have HN : Hid (∃ y, Mine W1 B kk y wr ∧ (∀ j, j < k + 1 → y j = z j) ∧ ∀ j, k + 1 ≤ j → y j = 0) := Lib.hid ⟨y, hy, fun j hj => by
            by_cases e : j = k
            · subst e; rw [h5, HZ.out]
            · exact h3 j (by omega), h4⟩
          have HM3 := Lib.hid HMR
          clear hy h3 h4 h5 HMR HM HK
          go_wp2_with fail
          go_roundw
          case rel => exact ⟨k + 1, by omega, by go_num, HN, HM3⟩
          case measure => simp [RowKit.intOf]; omega
    · obtain rfl : k = kk := by omega
      go_wp2_with fail
      go_ret
      obtain ⟨y, hy, h3, _⟩ := HM.out
      exact ⟨B, rfl, (hy.congr h3).base HB1.out⟩
theorem dot_any (p : Pm) (lo : Option Addr) (ln lc : Nat) (l : Nat → Nat) (ao : Option Addr) (n c : Nat) (x : Nat → Int) (hl : ∀ j, l j < 18446744073709551616) (hx : ∀ j, -9223372036854775808 ≤ x j ∧ x j ≤ 9223372036854775807) (W : World) (hrl : Rd W lo ln l) (hr : IRow W ao n c x) :
    Calls Try.prog 19 #[.agg p.cells, .slice lo ln lc, .slice ao n c] W fun e w' => ∃ v, e = .returned v ∧ NewU W.heap.size w' v (MM.dotN p) (MM.dotZ p ln l n x) ∧ Below W.heap.size W w' := by
  by_cases hf : MM.Fit p
  · refine (dot_fit p lo ln lc l ao n c x hl hx hf W hrl hr).mono ?_
    rintro e w' ⟨B, rfl, hm⟩
    have e1 : MM.dotN p = p.K.toNat := if_pos hf
    rw [e1]
    exact ⟨_, rfl, hm.newU, hm.below⟩
  · have e1 : MM.dotN p = 0 := if_neg hf
    have HI : Hid (InP W W.heap.size p (W.alloc (.cells p.cells 31))) := Lib.hid (InP.new W p)
    have HU := usable_any p
    rw [decide_eq_false hf] at HU
    rw [e1]
    clear hr hf hx hl hrl
    go_enter Try.func19, Try.ntmps19
    go_wp2_with (first
      | (refine load_pm ?_ _ rfl W.heap.size rfl p HI.out.box ?_; first | rfl | (simp [Region.wanted, yielded]; done))
      | (go_at_call 37; (with_reducible refine (HU.at _).mono ?_); rintro e w1 ⟨rfl, hb⟩; replace HI := Lib.hid (HI.out.step hb); clear hb))
    go_ret
    exact ⟨_, rfl, .inl ⟨rfl, rfl⟩, HI.out.below⟩
end M
end Go.Proofs.Ytdblijpoelcghaa

/- What the statements of layer 6 do themselves: whether a list of lists is large, and copies of lists of lists. -/
import Derived.Test.YtccpdjjgpkkkbaaBivR2
import Derived.Test.YtccpdjjgpkkkbaaRegK
namespace Go.Proofs.Ytccpdjjgpkkkbaa
open Go
namespace RK
/-- Number i alone may come, and makes a value and a world. -/
theorem Any.exec {P : Program} {md : Region.Mode} {ops : Array Oper} {Q : Exit → Act → World → Prop} {S : World → Prop} {st : Nat} {s : Array Bool} {a : Act} {w w1 : World} {f : Nat} (i t : Nat) {o : Oper} (v : Value) (hr : Region.ready md ops s = [i]) (hi : ops[i]? = some o) (hd : o.dst = some t) (hw : Region.wanted o (yielded ops a.tmps) = true)
    (he : (execOp a.eval o).run P w = .ok (.value v) w1) (hS : S w1) (h : Any P md ops Q S st f (s.setIfInBounds i true) { a with tmps := a.tmps.setIfInBounds t v } w1) : Any P md ops Q S st (f + 1) s a w :=
  ⟨fun e => (by rw [hr] at e; cases e), fun j hj => by
    rw [hr] at hj
    obtain rfl : j = i := by simpa using hj
    unfold wpOp
    simp only [hi, hw, if_true]
    refine .inl ?_
    unfold Oper.wp
    rw [he, Oper.upon_value, hd]
    exact ⟨fun _ => hS, h⟩⟩
theorem exec_append {P : Program} {o : Oper} {a : Act} {w w' : World} {v' : Value} (s x : Operand) (t tn : TypeId) (ho : o.op = .call { callee := .builtin .append, args := #[s, x], argTypes := #[t, tn] }) (vs vx : Value) (hs : a.eval s = vs) (hx : a.eval x = vx)
    (hr : (Builtin.append_ #[t, tn] o.type #[vs, vx]).run P w = .ok v' w') : (execOp a.eval o).run P w = .ok (.value v') w' := by
  unfold execOp
  simp only [ho, resolve, invoke, builtin, Sem.run_bind, Sem.run_pure, Result.andThen_ok, List.map_toArray, List.map_cons, List.map_nil, hs, hx, hr]
end RK
open Go.RowKit Go.Lib
namespace M
set_option maxRecDepth 100000 in
set_option maxHeartbeats 8000000 in
theorem own_any (ao : Option Addr) (cap m : Nat) (L : Nat → Nat) (F : Nat → Nat → Nat) (hm : m ≤ 1000) (hl : ∀ i, i < m → L i ≤ 1000) (W : World) (hr : Mat W ao m L F) :
    Calls Try.prog 15 #[.slice ao m cap] W fun e w' => ∃ v, e = .returned v ∧ OwnR W W.heap.size v m L F w' := by
  have HR := Lib.hid hr
  have HL := Lib.hid hl
  clear hr hl
  go_enter Try.func15, Try.ntmps15
  go_wp2_with fail
  go_loopw [3, 4] (fun s3 s4 wx => ∃ k : Nat, k ≤ m ∧ s4 = .int .i64 (k : Int) ∧ Hid (OwnR W W.heap.size s3 k L F wx)) (fun _ s4 _ => m - (RowKit.intOf s4).toNat)
  case atStart => exact ⟨0, Nat.zero_le _, rfl, Lib.hid (OwnR.start W _ _)⟩
  case round =>
    obtain ⟨k, hk, rfl, HJ⟩ := hrel
    by_cases hlt : k < m
    · obtain ⟨ad, bo, c, rfl, hc0, hs⟩ := HR.out k hlt
      have HC := Lib.hid (fun (u : World) (hb : Below W.heap.size W u) => (hb.cell (World.block_lt_of_cell? W _ hc0)).trans hc0)
      have HSS := Lib.hid (fun (u : World) (hb : Below W.heap.size W u) => hs.below hb)
      have hlk := HL.out k hlt
      have hkI : (k : Int) < (m : Int) := by omega
      have hk0 : (0 : Int) ≤ (k : Int) := Int.natCast_nonneg _
      obtain ⟨ao3, c3, rfl, _⟩ := HJ.out.mat
      obtain ⟨lk, hlkE⟩ : ∃ lk, L k = lk := ⟨_, rfl⟩
      rw [hlkE] at HC HSS hlk
      have HLK := Lib.hid hlkE
      have hw1 : IntKind.i64.wrap ((lk : Int) + 3) = ((lk + 3 : Nat) : Int) := by rw [IntWalk.i64_in _ (by omega)]; rfl
      clear hs hc0 hlkE
      go_upto_region 5 with fail
      refine RK.region (Below W.heap.size W) 100 (by kernel_rfl) ?_
      have HS0 : Below W.heap.size W wr.drew := HJ.out.below.trans (below_drewN' wr 1 _)
      refine RK.Any.take 0 11 (.slice ao3 k c3) rfl rfl (by kernel_rfl) (by kernel_rfl) (by kernel_rfl) (by kernel_rfl) (fun _ _ _ h => h) (by rfl) (fun W' hb => ?_) HS0 ?_
      · go_simp
      simp only [List.setIfInBounds_toArray, List.set_cons_zero, List.set_cons_succ]
      refine RK.Any.take 1 12 (.slice (some ad) m cap) rfl rfl (by kernel_rfl) (by kernel_rfl) (by kernel_rfl) (by kernel_rfl) (fun _ _ _ h => h) (by rfl) (fun W' hb => ?_) HS0 ?_
      · go_simp
      simp only [List.setIfInBounds_toArray, List.set_cons_zero, List.set_cons_succ]
      refine RK.Any.take 2 13 (.int .i64 (k : Int)) rfl rfl (by kernel_rfl) (by kernel_rfl) (by kernel_rfl) (by kernel_rfl) (fun _ _ _ h => h) (by rfl) (fun W' hb => ?_) HS0 ?_
      · go_simp
      simp only [List.setIfInBounds_toArray, List.set_cons_zero, List.set_cons_succ]
      refine RK.Any.take 3 14 (.pointer (some (ad.add k))) rfl rfl (by kernel_rfl) (by kernel_rfl) (by kernel_rfl) (by kernel_rfl) (fun _ _ _ h => h) (by rfl) (fun W' hb => ?_) HS0 ?_
      · go_simp
      simp only [List.setIfInBounds_toArray, List.set_cons_zero, List.set_cons_succ]
      refine RK.Any.take 4 15 (.slice bo lk c) rfl rfl (by kernel_rfl) (by kernel_rfl) (by kernel_rfl) (by kernel_rfl) (fun _ _ _ h => h) (by rfl) (fun W' hb => ?_) HS0 ?_
      · have c := HC.out W' hb; go_simp
      simp only [List.setIfInBounds_toArray, List.set_cons_zero, List.set_cons_succ]
      refine RK.Any.take 5 16 (.int .i64 (lk : Int)) rfl rfl (by kernel_rfl) (by kernel_rfl) (by kernel_rfl) (by kernel_rfl) (fun _ _ _ h => h) (by rfl) (fun W' hb => ?_) HS0 ?_
      · go_simp
      simp only [List.setIfInBounds_toArray, List.set_cons_zero, List.set_cons_succ]
      refine RK.Any.take 6 17 (.int .i64 ((lk + 3 : Nat) : Int)) rfl rfl (by kernel_rfl) (by kernel_rfl) (by kernel_rfl) (by kernel_rfl) (fun _ _ _ h => h) (by rfl) (fun W' hb => ?_) HS0 ?_
      · go_simp
      simp only [List.setIfInBounds_toArray, List.set_cons_zero, List.set_cons_succ]
      refine RK.Any.take 8 19 (.slice (some ad) m cap) rfl rfl (by kernel_rfl) (by kernel_rfl) (by kernel_rfl) (by kernel_rfl) (fun _ _ _ h => h) (by rfl) (fun W' hb => ?_) HS0 ?_
      · go_simp
      simp only [List.setIfInBounds_toArray, List.set_cons_zero, List.set_cons_succ]
      refine RK.Any.take 9 20 (.int .i64 (k : Int)) rfl rfl (by kernel_rfl) (by kernel_rfl) (by kernel_rfl) (by kernel_rfl) (fun _ _ _ h => h) (by rfl) (fun W' hb => ?_) HS0 ?_
      · go_simp
      simp only [List.setIfInBounds_toArray, List.set_cons_zero, List.set_cons_succ]
      refine RK.Any.take 10 21 (.pointer (some (ad.add k))) rfl rfl (by kernel_rfl) (by kernel_rfl) (by kernel_rfl) (by kernel_rfl) (fun _ _ _ h => h) (by rfl) (fun W' hb => ?_) HS0 ?_
      · go_simp
      simp only [List.setIfInBounds_toArray, List.set_cons_zero, List.set_cons_succ]
      refine RK.Any.take 11 22 (.slice bo lk c) rfl rfl (by kernel_rfl) (by kernel_rfl) (by kernel_rfl) (by kernel_rfl) (fun _ _ _ h => h) (by rfl) (fun W' hb => ?_) HS0 ?_
      · have c := HC.out W' hb; go_simp
      simp only [List.setIfInBounds_toArray, List.set_cons_zero, List.set_cons_succ]
      have hJ0 := HJ.out.drewN 1
      change OwnR W W.heap.size (.slice ao3 k c3) k L F wr.drew at hJ0
      generalize wr.drew = w0 at *
      have hmk : (Instr.makeSlice 23 (.int .i64 0) (.int .i64 ((lk : Int) + 3))).run Try.prog w0 = _ := run_made_cap (lk + 3) (by omega) w0
      have ho1 := Own.made0 w0 (lk + 3) (by omega) (F k)
      obtain ⟨w1, hw1'⟩ : ∃ w1, w0.alloc (.cells (madeCells (Value.int .u64 0).cells ((lk + 3) * 1)) 22) = w1 := ⟨_, rfl⟩
      rw [hw1'] at hmk ho1
      have HS1 : Below W.heap.size W w1 := hJ0.below.trans (ho1.below.mono hJ0.below.size)
      refine RK.Any.exec 7 18 (.slice (some ⟨w0.heap.size, 0, none⟩) 0 (lk + 3)) (w1 := w1) (by kernel_rfl) rfl rfl (by rfl) (by go_simp) HS1 ?_
      simp only [List.setIfInBounds_toArray, List.set_cons_zero, List.set_cons_succ]
      obtain ⟨v2, w2, hr2, ho2⟩ := ho1.copy hlk (HSS.out _ HS1)
      have HS2 : Below W.heap.size W w2 := hJ0.below.trans (ho2.below.mono hJ0.below.size)
      have hro := (RowC.of_own ho2.own).mono hJ0.size
      obtain ⟨bo2, c2, rfl, _⟩ := hro.src
      have hro2 : RowC W.heap.size w2 (.slice bo2 lk c2) (L k) (F k) := by rw [HLK.out]; exact hro
      refine RK.Any.exec 12 23 (.slice bo2 lk c2) (w1 := w2) (by kernel_rfl) rfl rfl (by rfl) (RK.exec_append _ _ _ _ rfl _ _ rfl rfl hr2) HS2 ?_
      simp only [List.setIfInBounds_toArray, List.set_cons_zero, List.set_cons_succ]
      obtain ⟨v4, w4, hr4, ho4⟩ := (hJ0.step ho2.below).more 1 hro2 (by omega)
      have hb3 := below_box w2 (.cells #[.slice bo2 lk c2] 23)
      obtain ⟨w3, hw3⟩ : ∃ w3, w2.alloc (.cells #[.slice bo2 lk c2] 23) = w3 := ⟨_, rfl⟩
      rw [hw3] at hr4 hb3
      refine RK.Any.exec 13 24 (.slice (some ⟨w2.heap.size, 0, none⟩) 1 1) (w1 := w3) (by kernel_rfl) rfl rfl (by rfl) (by go_simp) (HS2.trans (hb3.mono HS2.size)) ?_
      simp only [List.setIfInBounds_toArray, List.set_cons_zero, List.set_cons_succ]
      refine RK.Any.exec 14 25 v4 (w1 := w4) (by kernel_rfl) rfl rfl (by rfl) (RK.exec_append _ _ _ _ rfl _ _ rfl rfl hr4) ho4.below ?_
      simp only [List.setIfInBounds_toArray, List.set_cons_zero, List.set_cons_succ]
      refine RK.Any.take 15 3 v4 rfl rfl (by kernel_rfl) (by kernel_rfl) (by kernel_rfl) (by kernel_rfl) (fun _ _ _ h => h) (by rfl) (fun W' hb => ?_) ho4.below ?_
      · go_simp
      simp only [List.setIfInBounds_toArray, List.set_cons_zero, List.set_cons_succ]
      refine RK.Any.done (by kernel_rfl) ?_
      have HO := Lib.hid ho4
      clear hmk ho1 hr2 ho2 hro hro2 hr4 ho4 hb3 hJ0 HS0 HS1 HS2 hw3 hw1' hw1
      go_wp2_with fail
      go_roundw
      case rel => exact ⟨k + 1, by omega, by go_num, HO⟩
      case measure => simp [RowKit.intOf]; omega
    · have hkI : ¬ (k : Int) < (m : Int) := by omega
      obtain rfl : k = m := by omega
      go_wp2_with fail
      go_ret
      exact ⟨_, rfl, HJ.out⟩
theorem Mine.other {w0 w : World} {B B' n k : Nat} {z : Nat → Nat} (h : Mine w0 B n z w) (hne : B ≠ B') (hlo : w0.heap.size ≤ B') (v : Value) : Mine w0 B n z (w.setCell ⟨B', k, none⟩ v) :=
  ⟨by obtain ⟨cs, h1, h2⟩ := h.block; exact ⟨cs, (Below.heap_setCell w ⟨B', k, none⟩ v B hne).trans h1, h2⟩, h.low, h.below.setCell (p := ⟨B', k, none⟩) hlo _⟩
theorem Mine.from {w0 w1 w : World} {B n : Nat} {z : Nat → Nat} (h : Mine w1 B n z w) (hb : Below w0.heap.size w0 w1) : Mine w0 B n z w := ⟨h.block, Nat.le_trans hb.size h.low, hb.trans (h.below.mono hb.size)⟩
/-- Whether one list of lists is large. -/
theorem large_no (ao : Option Addr) (cap m b : Nat) (L : Nat → Nat) (F : Nat → Nat → Nat) (hm : m ≤ 20) (hl : MM.widU L m ≤ 20) (W : World) (hb : W.cell? ⟨b, 0, none⟩ = some (.slice ao m cap)) (hr : Mat W ao m L F) :
    Calls Try.prog 14 #[.slice (some ⟨b, 0, none⟩) 1 1] W fun e w' => e = .returned (.bool false) ∧ W = w' := by
  have HW := wide_any ao cap m L F (by omega) (fun i h => Nat.le_trans (MM.le_widU h) (by omega)) W hr
  generalize MM.widU L m = N at *
  have h1 : ¬ (20 : Int) < (m : Int) := by omega
  have h2 : ¬ (20 : Int) < (N : Int) := by omega
  clear hr
  go_enter Try.func14, Try.ntmps14
  go_wp2_with fail
  refine wp_loop_rounds 2 ?_
  rw [rounds_succ]
  go_wp2_with (go_at_call 28; refine HW.mono ?_; rintro e w1 ⟨rfl, rfl⟩)
  rw [rounds_succ]
  go_wp2_with fail
  go_ret
  exact ⟨rfl, rfl⟩
theorem large_many (ao : Option Addr) (cap m b : Nat) (hm : 20 < m) (W : World) (hb : W.cell? ⟨b, 0, none⟩ = some (.slice ao m cap)) :
    Calls Try.prog 14 #[.slice (some ⟨b, 0, none⟩) 1 1] W fun e w' => e = .returned (.bool true) ∧ W = w' := by
  have h1 : (20 : Int) < (m : Int) := by omega
  go_enter Try.func14, Try.ntmps14
  go_wp2_with fail
  refine wp_loop_rounds 2 ?_
  rw [rounds_succ]
  go_wp2_with fail
  go_ret
  exact ⟨rfl, rfl⟩
theorem large_wide (ao : Option Addr) (cap m b : Nat) (L : Nat → Nat) (F : Nat → Nat → Nat) (hm : m ≤ 20) (hL : ∀ i, L i ≤ 9223372036854775807) (hl : 20 < MM.widU L m) (W : World) (hb : W.cell? ⟨b, 0, none⟩ = some (.slice ao m cap)) (hr : Mat W ao m L F) :
    Calls Try.prog 14 #[.slice (some ⟨b, 0, none⟩) 1 1] W fun e w' => e = .returned (.bool true) ∧ W = w' := by
  have HW := wide_any ao cap m L F (by omega) (fun i _ => hL i) W hr
  generalize MM.widU L m = N at *
  have h1 : ¬ (20 : Int) < (m : Int) := by omega
  have h2 : (20 : Int) < (N : Int) := by omega
  clear hr hL
  go_enter Try.func14, Try.ntmps14
  go_wp2_with fail
  refine wp_loop_rounds 2 ?_
  rw [rounds_succ]
  go_wp2_with (go_at_call 28; refine HW.mono ?_; rintro e w1 ⟨rfl, rfl⟩)
  all_goals (go_ret; exact ⟨rfl, rfl⟩)
end M
end Go.Proofs.Ytccpdjjgpkkkbaa

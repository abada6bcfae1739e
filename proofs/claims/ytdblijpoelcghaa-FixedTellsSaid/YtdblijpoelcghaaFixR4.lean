/- Are two rows, two models the same: the library's functions, the program's, the document's; a model is copied. -/
import Derived.Test.YtdblijpoelcghaaFixR1
import Derived.Test.YtdblijpoelcghaaRegX
namespace Go.Proofs.Ytdblijpoelcghaa
open Go Go.RowKit Go.Lib
namespace M
attribute [local go_sem] Oper.semAt_some
set_option maxHeartbeats 2000000 in
theorem equal_any (ao bo : Option Addr) (n m ca cb : Nat) (y z : Nat → Int) (hn : n ≤ 9223372036854775807) (W : World) (ha : IRow W ao n ca y) (hb : IRow W bo m cb z) :
    Calls Try.prog 41 #[.slice ao n ca, .slice bo m cb] W fun e w' => e = .returned (.bool (decide (MM.eqR n m y z))) ∧ ∃ d, w' = W.drewN d := by
  have HF : Hid (¬ MM.eqR n m y z → decide (MM.eqR n m y z) = false) := Lib.hid fun h => decide_eq_false h
  have HT : Hid (MM.eqR n m y z → decide (MM.eqR n m y z) = true) := Lib.hid fun h => decide_eq_true h
  generalize decide (MM.eqR n m y z) = ans at *
  by_cases hnm : n = m
  · subst hnm
    have HA := Lib.hid ha
    have HB := Lib.hid hb
    clear ha hb
    go_enter Try.func41, Try.ntmps41
    go_wp2_with fail
    go_loopw [13] (fun s13 wx => ∃ k m : Nat, k ≤ n ∧ s13 = .int .i64 (k : Int) ∧ wx = W.drewN m ∧ Hid (∀ j, j < k → y j = z j)) (fun s13 _ => n - (RowKit.intOf s13).toNat)
    case atStart => exact ⟨0, 0, Nat.zero_le _, rfl, rfl, Lib.hid fun j h => absurd h (by omega)⟩
    case round =>
      obtain ⟨k, m, hk, rfl, rfl, HJ⟩ := hrel
      by_cases hlt : k < n
      · obtain ⟨ad, rfl, hc⟩ := HA.out.at_ hlt
        obtain ⟨bd, rfl, hd⟩ := HB.out.at_ hlt
        have HE : Hid (y k = z k → ∀ j, j < k + 1 → y j = z j) := Lib.hid fun e j hj => by
          by_cases h : j = k
          · subst h; exact e
          · exact HJ.out j (by omega)
        have HNE : Hid (y k ≠ z k → ans = false) := Lib.hid fun e => HF.out fun h => e (h.2 k hlt)
        go_upto_region 6 with fail
        generalize hwr : W.drewN m = wr
        have hcell : wr.cell? (ad.add k) = some (.int .i64 (y k)) := by rw [← hwr]; exact hc
        have hdell : wr.cell? (bd.add k) = some (.int .i64 (z k)) := by rw [← hwr]; exact hd
        have HWR := Lib.hid hwr
        clear hwr hc hd
        generalize y k = yk at *
        generalize z k = zk at *
        have hk0 : (0 : Int) ≤ (k : Int) := Int.natCast_nonneg _
        have hk1 : (k : Int) < (n : Int) := by omega
        by_cases he : yk = zk
        · have HN := Lib.hid (HE.out he)
          subst he
          clear HE HNE
          go_quiet (fail)
          go_wp2_with fail
          go_roundw
          case rel => exact ⟨k + 1, _, by omega, by go_num, by rw [← HWR.out]; exact World.drewN_drewN _ _ _, HN⟩
          case measure => simp [RowKit.intOf]; omega
        · have HZ := Lib.hid (HNE.out he)
          have heI : (yk != zk) = true := by simp; exact he
          clear HE HNE
          go_quiet (fail)
          go_wp2_with fail
          go_ret
          exact ⟨by rw [HZ.out]; rfl, _, by rw [← HWR.out]; exact World.drewN_drewN _ _ _⟩
      · obtain hkn : k = n := by omega
        rw [hkn] at HJ
        subst hkn
        have HZ := Lib.hid (HT.out ⟨by first | trivial | rfl, HJ.out⟩)
        go_wp2_with fail
        go_ret
        exact ⟨by rw [HZ.out]; rfl, _, rfl⟩
  · have HZ := Lib.hid (HF.out fun h => hnm h.1)
    have hI : ((n : Int) != (m : Int)) = true := by simp; omega
    clear HF HT ha hb
    go_enter Try.func41, Try.ntmps41
    go_wp2_with fail
    go_ret
    exact ⟨by rw [HZ.out]; rfl, 0, rfl⟩
/-- Rows of whole numbers that two slices read are the same. -/
def eqG (m n : Nat) (L L' : Nat → Nat) (F F' : Nat → Nat → Int) : Prop := m = n ∧ ∀ i, i < m → MM.eqR (L i) (L' i) (F i) (F' i)
instance (m n : Nat) (L L' : Nat → Nat) (F F' : Nat → Nat → Int) : Decidable (eqG m n L L' F F') := by unfold eqG; infer_instance
set_option maxRecDepth 100000 in
set_option maxHeartbeats 4000000 in
theorem equalfunc_any (ao bo : Option Addr) (m n ca cb : Nat) (L L' : Nat → Nat) (F F' : Nat → Nat → Int) (hL : ∀ i, L i ≤ 9223372036854775807) (hm : m ≤ 9223372036854775807) (W : World) (ha : IMat W ao m L F) (hb : IMat W bo n L' F') :
    Calls Try.prog 40 #[.slice ao m ca, .slice bo n cb, .func (.func 41) #[] #[]] W fun e w' => e = .returned (.bool (decide (eqG m n L L' F F'))) ∧ ∃ d, w' = W.drewN d := by
  have HF : Hid (¬ eqG m n L L' F F' → decide (eqG m n L L' F F') = false) := Lib.hid fun h => decide_eq_false h
  have HT : Hid (eqG m n L L' F F' → decide (eqG m n L L' F F') = true) := Lib.hid fun h => decide_eq_true h
  generalize decide (eqG m n L L' F F') = ans at *
  by_cases hnm : m = n
  · subst hnm
    have HA := Lib.hid ha
    have HB := Lib.hid hb
    have HL := Lib.hid hL
    clear ha hb hL
    go_enter Try.func40, Try.ntmps40
    go_wp2_with fail
    go_loopw [17] (fun s17 wx => ∃ k d : Nat, k ≤ m ∧ s17 = .int .i64 (k : Int) ∧ wx = W.drewN d ∧ Hid (∀ j, j < k → MM.eqR (L j) (L' j) (F j) (F' j))) (fun s17 _ => m - (RowKit.intOf s17).toNat)
    case atStart => exact ⟨0, 0, Nat.zero_le _, rfl, rfl, Lib.hid fun j h => absurd h (by omega)⟩
    case round =>
      obtain ⟨k, d, hk, rfl, rfl, HJ⟩ := hrel
      have hk0 : (0 : Int) ≤ (k : Int) := Int.natCast_nonneg _
      by_cases hlt : k < m
      · have hkI : (k : Int) < (m : Int) := by omega
        obtain ⟨ad, ro, rc, rfl, hc, hr⟩ := HA.out k hlt
        obtain ⟨bd, so, sc, rfl, hd, hs⟩ := HB.out k hlt
        have HE := Lib.hid (fun u (h1 : IRow u ro (L k) rc (F k)) (h2 : IRow u so (L' k) sc (F' k)) => equal_any ro so (L k) (L' k) rc sc (F k) (F' k) (HL.out k) u h1 h2)
        have HN : Hid (MM.eqR (L k) (L' k) (F k) (F' k) → ∀ j, j < k + 1 → MM.eqR (L j) (L' j) (F j) (F' j)) := Lib.hid fun h j hj => by
          by_cases e : j = k
          · subst e; exact h
          · exact HJ.out j (by omega)
        have HNN : Hid (¬ MM.eqR (L k) (L' k) (F k) (F' k) → ans = false) := Lib.hid fun h => HF.out fun hq => h (hq.2 k hlt)
        generalize hwr : W.drewN d = wr
        have c1 : wr.cell? (ad.add k) = some (.slice ro (L k) rc) := by rw [← hwr]; exact hc
        have c2 : wr.cell? (bd.add k) = some (.slice so (L' k) sc) := by rw [← hwr]; exact hd
        have HR1 : Hid (IRow wr ro (L k) rc (F k)) := Lib.hid (by rw [← hwr]; exact hr.below (below_drewN' W d _))
        have HR2 : Hid (IRow wr so (L' k) sc (F' k)) := Lib.hid (by rw [← hwr]; exact hs.below (below_drewN' W d _))
        have HWR := Lib.hid hwr
        clear hwr hc hd hr hs
        by_cases hq : MM.eqR (L k) (L' k) (F k) (F' k)
        · rw [decide_eq_true hq] at HE
          have HN2 := Lib.hid (HN.out hq)
          clear HN HNN hq
          generalize L k = lk at *
          generalize L' k = lk' at *
          go_wp2_with (go_at_call 41; (with_reducible refine (HE.out _ HR1.out HR2.out).mono ?_); rintro e w' ⟨rfl, nd, rfl⟩)
          go_roundw
          case rel => exact ⟨k + 1, _, by omega, by go_num, by rw [← HWR.out]; exact World.drewN_drewN _ _ _, HN2⟩
          case measure => simp [RowKit.intOf]; omega
        · rw [decide_eq_false hq] at HE
          have HZ := Lib.hid (HNN.out hq)
          clear HN HNN hq
          generalize L k = lk at *
          generalize L' k = lk' at *
          go_wp2_with (go_at_call 41; (with_reducible refine (HE.out _ HR1.out HR2.out).mono ?_); rintro e w' ⟨rfl, nd, rfl⟩)
          go_ret
          exact ⟨by rw [HZ.out]; rfl, _, by rw [← HWR.out]; exact World.drewN_drewN _ _ _⟩
      · have hkI : ¬ (k : Int) < (m : Int) := by omega
        have hkm : k = m := by omega
        rw [hkm] at HJ
        have HZ := Lib.hid (HT.out ⟨by first | trivial | rfl, HJ.out⟩)
        go_wp2_with fail
        go_ret
        exact ⟨by rw [HZ.out]; rfl, _, rfl⟩
  · have HZ := Lib.hid (HF.out fun h => hnm h.1)
    have hI : ((m : Int) != (n : Int)) = true := by simp; omega
    clear HF HT ha hb
    go_enter Try.func40, Try.ntmps40
    go_wp2_with fail
    go_ret
    exact ⟨by rw [HZ.out]; rfl, 0, rfl⟩
/-- Two models in their boxes. -/
structure In2 (w0 : World) (h k : Nat) (v : MoV) (o : MM.Mo) (u : MoV) (q : MM.Mo) (w : World) : Prop where
  mod : BoxM w h v o
  mat : MoAt w v o
  mod2 : BoxM w k u q
  mat2 : MoAt w u q
  below : Below w0.heap.size w0 w
theorem In2.step {w0 w w' : World} {h k : Nat} {v u : MoV} {o q : MM.Mo} (i : In2 w0 h k v o u q w) (hb : Below w.heap.size w w') : In2 w0 h k v o u q w' :=
  ⟨i.mod.below hb, i.mat.below hb, i.mod2.below hb, i.mat2.below hb, i.below.trans (hb.mono i.below.size)⟩
theorem In2.new (w : World) (v u : MoV) (o q : MM.Mo) (h1 : MoAt w v o) (h2 : MoAt w u q) : In2 w w.heap.size (w.heap.size + 1) v o u q ((w.alloc (.cells (v.cells o) 36)).alloc (.cells (u.cells q) 36)) := by
  have b1 := below_box w (.cells (v.cells o) 36)
  have n1 := BoxM.new w v o
  have s1 := World.size_alloc w (.cells (v.cells o) 36)
  generalize w.alloc (.cells (v.cells o) 36) = W at *
  have hb := below_box W (.cells (u.cells q) 36)
  have hn := BoxM.new W u q
  rw [s1] at hn
  exact ⟨n1.below hb, (h1.below b1).below hb, hn, (h2.below b1).below hb, b1.trans (hb.mono b1.size)⟩
set_option maxRecDepth 100000 in
set_option maxHeartbeats 4000000 in
theorem same_any (v u : MoV) (o q : MM.Mo) (ok : MoOk o) (W : World) (h1 : MoAt W v o) (h2 : MoAt W u q) :
    Calls Try.prog 21 #[.agg (v.cells o), .agg (u.cells q)] W fun e w' => e = .returned (.bool (decide (MM.eqM o q))) ∧ Below W.heap.size W w' := by
  have hI0 := In2.new W v u o q h1 h2
  have HI := Lib.hid hI0
  obtain ⟨wo, wc, bo, bc⟩ := v
  obtain ⟨wo', wc', bo', bc'⟩ := u
  have HG : Hid (∀ (w : World) (_ : MoAt w ⟨wo, wc, bo, bc⟩ o) (_ : MoAt w ⟨wo', wc', bo', bc'⟩ q), Calls Try.prog 40 #[.slice wo o.m wc, .slice wo' q.m wc', .func (.func 41) #[] #[]] w fun e w' => e = .returned (.bool (decide (eqG o.m q.m o.L q.L o.F q.F))) ∧ Below w.heap.size w w') := Lib.hid fun w a b => (equalfunc_any wo wo' o.m q.m wc wc' o.L q.L o.F q.F ok.L ok.m w a.mat b.mat).mono fun e w' ⟨he, d, hd⟩ => ⟨he, by rw [hd]; exact below_drewN' _ _ _⟩
  have HE : Hid (∀ (w : World) (_ : MoAt w ⟨wo, wc, bo, bc⟩ o) (_ : MoAt w ⟨wo', wc', bo', bc'⟩ q), Calls Try.prog 41 #[.slice bo o.n bc, .slice bo' q.n bc'] w fun e w' => e = .returned (.bool (decide (MM.eqR o.n q.n o.b q.b))) ∧ Below w.heap.size w w') := Lib.hid fun w a b => (equal_any bo bo' o.n q.n bc bc' o.b q.b ok.n w a.bias b.bias).mono fun e w' ⟨he, d, hd⟩ => ⟨he, by rw [hd]; exact below_drewN' _ _ _⟩
  have HA : Hid (decide (MM.eqM o q) = (decide (eqG o.m q.m o.L q.L o.F q.F) && decide (MM.eqR o.n q.n o.b q.b))) := Lib.hid (by
    rw [← Bool.decide_and]
    exact decide_eq_decide.2 Iff.rfl)
  have c0 := HI.out.mod.cell 0
  have c1 := HI.out.mod.cell 1
  have d0 := HI.out.mod2.cell 0
  have d1 := HI.out.mod2.cell 1
  generalize decide (MM.eqM o q) = ans at *
  generalize decide (eqG o.m q.m o.L q.L o.F q.F) = x1 at *
  generalize decide (MM.eqR o.n q.n o.b q.b) = x2 at *
  clear hI0 h1 h2 ok
  cases x1 with
  | true =>
    go_enter Try.func21, Try.ntmps21
    go_wp2_with (first
      | (go_at_call 40; (with_reducible refine (HG.out _ HI.out.mat HI.out.mat2).mono ?_); rintro e w1 ⟨rfl, hb⟩; replace HI := Lib.hid (HI.out.step hb); have c1 := HI.out.mod.cell 1; have d1 := HI.out.mod2.cell 1; clear hb)
      | (go_at_call 41; (with_reducible refine (HE.out _ HI.out.mat HI.out.mat2).mono ?_); rintro e w1 ⟨rfl, hb⟩; replace HI := Lib.hid (HI.out.step hb); clear hb))
    go_ret
    exact ⟨by rw [HA.out]; rfl, HI.out.below⟩
  | false =>
    go_enter Try.func21, Try.ntmps21
    go_wp2_with (first
      | (go_at_call 40; (with_reducible refine (HG.out _ HI.out.mat HI.out.mat2).mono ?_); rintro e w1 ⟨rfl, hb⟩; replace HI := Lib.hid (HI.out.step hb); clear hb))
    go_ret
    exact ⟨by rw [HA.out]; rfl, HI.out.below⟩
end M
end Go.Proofs.Ytdblijpoelcghaa

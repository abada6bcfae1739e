/- The document's own: are two models the same. -/
import Derived.Test.YtdblijpoelcghaaFixR4
namespace Go.Proofs.Ytdblijpoelcghaa
open Go Go.RowKit Go.Lib
namespace M
set_option maxRecDepth 100000 in
set_option maxHeartbeats 8000000 in
theorem rsame_any (v u : MoV) (o q : MM.Mo) (ok : MoOk o) (W : World) (h1 : MoAt W v o) (h2 : MoAt W u q) :
    Calls Try.prog 33 #[.agg (v.cells o), .agg (u.cells q)] W fun e w' => e = .returned (.bool (decide (MM.eqM o q))) ∧ Below W.heap.size W w' := by
  have hI0 := In2.new W v u o q h1 h2
  have HI := Lib.hid hI0
  obtain ⟨wo, wc, bo, bc⟩ := v
  obtain ⟨wo', wc', bo', bc'⟩ := u
  have HE : Hid (∀ (w : World) (_ : MoAt w ⟨wo, wc, bo, bc⟩ o) (_ : MoAt w ⟨wo', wc', bo', bc'⟩ q), Calls Try.prog 29 #[.slice bo o.n bc, .slice bo' q.n bc'] w fun e w' => e = .returned (.bool (decide (MM.eqR o.n q.n o.b q.b))) ∧ Below w.heap.size w w') := Lib.hid fun w a b => (ints_any bo bo' o.n q.n bc bc' o.b q.b ok.n w a.bias b.bias).mono fun e w' ⟨he, d, hd⟩ => ⟨he, by rw [hd]; exact below_drewN' _ _ _⟩
  have HX := Lib.hid (fun (k : Nat) (ro so : Option Addr) (rc sc : Nat) w (a : IRow w ro (o.L k) rc (o.F k)) (b : IRow w so (q.L k) sc (q.F k)) => ints_any ro so (o.L k) (q.L k) rc sc (o.F k) (q.F k) (ok.L k) w a b)
  have c0 := HI.out.mod.cell 0
  have c1 := HI.out.mod.cell 1
  have d0 := HI.out.mod2.cell 0
  have d1 := HI.out.mod2.cell 1
  have hmb : o.m ≤ 9223372036854775807 := ok.m
  clear hI0 h1 h2
  by_cases hm : o.m = q.m
  · have HA : Hid ((∀ i, i < o.m → MM.eqR (o.L i) (q.L i) (o.F i) (q.F i)) → decide (MM.eqM o q) = decide (MM.eqR o.n q.n o.b q.b)) := Lib.hid fun h => decide_eq_decide.2 ⟨fun a => a.2, fun a => ⟨⟨hm, h⟩, a⟩⟩
    have HN : Hid (∀ i, i < o.m → ¬ MM.eqR (o.L i) (q.L i) (o.F i) (q.F i) → decide (MM.eqM o q) = false) := Lib.hid fun i hi h => decide_eq_false fun a => h (a.1.2 i hi)
    have hmI : ((o.m : Int) != (q.m : Int)) = false := by simp; omega
    have HM := Lib.hid hm
    have c0' : _ = some (Value.slice wo o.m wc) := c0
    have d0' : _ = some (Value.slice wo' q.m wc') := d0
    rw [← hm] at d0' hmI
    clear hm c0 d0
    generalize decide (MM.eqM o q) = ans at *
    generalize decide (MM.eqR o.n q.n o.b q.b) = x2 at *
    have w1 := HI.out.below
    clear ok
    go_enter Try.func33, Try.ntmps33
    go_upto_region 3 with fail
    generalize hw3 : World.alloc _ _ = w3 at *
    clear hw3
    go_wp2_with fail
    go_loopw [5] (fun s5 wx => ∃ k dd : Nat, k ≤ o.m ∧ s5 = .int .i64 (k : Int) ∧ wx = w3.drewN dd ∧ Hid (∀ i, i < k → MM.eqR (o.L i) (q.L i) (o.F i) (q.F i))) (fun s5 _ => o.m - (RowKit.intOf s5).toNat)
    case atStart => exact ⟨0, 0, Nat.zero_le _, rfl, rfl, Lib.hid fun i hi => absurd hi (by omega)⟩
    case round =>
      obtain ⟨k, dd, hk, rfl, rfl, HJ⟩ := hrel
      have hk0 : (0 : Int) ≤ (k : Int) := Int.natCast_nonneg _
      by_cases hlt : k < o.m
      · have hkI : (k : Int) < (o.m : Int) := by omega
        obtain ⟨ad, ro, rc, hwo, hc, hs⟩ := HI.out.mat.mat k hlt
        have hwo' : wo = some ad := hwo
        subst hwo'
        obtain ⟨bd, so, sc, hbo, hcb, hs2⟩ := HI.out.mat2.mat k (by have := HM.out; omega)
        have hbo' : wo' = some bd := hbo
        subst hbo'
        have HXK := Lib.hid (fun w a b => HX.out k ro so rc sc w a b)
        have HNN := Lib.hid (fun h => HN.out k hlt h)
        have HNEXT : Hid (MM.eqR (o.L k) (q.L k) (o.F k) (q.F k) → ∀ i, i < k + 1 → MM.eqR (o.L i) (q.L i) (o.F i) (q.F i)) := Lib.hid fun h i hi => by
          by_cases e : i = k
          · subst e; exact h
          · exact HJ.out i (by omega)
        go_upto_region 6 with fail
        generalize hwr : w3.drewN dd = wr
        have e0 : wr.cell? ⟨W.heap.size, 0, none⟩ = some (.slice (some ad) o.m wc) := by rw [← hwr]; exact c0'
        have f0 : wr.cell? ⟨W.heap.size + 1, 0, none⟩ = some (.slice (some bd) o.m wc') := by rw [← hwr]; exact d0'
        have hc : wr.cell? (ad.add k) = some (.slice ro (o.L k) rc) := by rw [← hwr]; exact hc
        have hcb : wr.cell? (bd.add k) = some (.slice so (q.L k) sc) := by rw [← hwr]; exact hcb
        have HR1 : Hid (IRow wr ro (o.L k) rc (o.F k)) := Lib.hid (by rw [← hwr]; exact hs.below (below_drewN' _ _ _))
        have HR2 : Hid (IRow wr so (q.L k) sc (q.F k)) := Lib.hid (by rw [← hwr]; exact hs2.below (below_drewN' _ _ _))
        have HWR := Lib.hid hwr
        clear hwr hs hs2 HX
        generalize o.L k = lk at *
        generalize q.L k = lq at *
        generalize o.F k = Fk at *
        generalize q.F k = Gk at *
        by_cases hq : MM.eqR lk lq Fk Gk
        · have HXK : Hid (∀ w (_ : IRow w ro lk rc Fk) (_ : IRow w so lq sc Gk), _) := HXK
          rw [decide_eq_true hq] at HXK
          have HN2 := Lib.hid (HNEXT.out hq)
          clear HNEXT HNN hq
          go_quiet ((go_at_call 29; with_reducible exact (Calls.quiet_of (HXK.out _ (HR1.out.below (below_drewN' _ _ _)) (HR2.out.below (below_drewN' _ _ _))))))
          go_wp2_with fail
          go_roundw
          case rel => exact ⟨k + 1, _, by omega, by go_num, by rw [← HWR.out]; exact World.drewN_drewN _ _ _, HN2⟩
          case measure => simp [RowKit.intOf]; omega
        · rw [decide_eq_false hq] at HXK
          have HZ := Lib.hid (HNN.out hq)
          clear HNEXT HNN hq
          go_quiet ((go_at_call 29; with_reducible exact (Calls.quiet_of (HXK.out _ (HR1.out.below (below_drewN' _ _ _)) (HR2.out.below (below_drewN' _ _ _))))))
          go_wp2_with fail
          go_ret
          refine ⟨by rw [HZ.out]; rfl, ?_⟩
          rw [← HWR.out]
          exact Below.drawn (Below.drawn HI.out.below _) _
      · have hkI : ¬ (k : Int) < (o.m : Int) := by omega
        have hkm : k = o.m := by omega
        rw [hkm] at HJ
        have HZ := Lib.hid (HA.out HJ.out)
        replace HI := Lib.hid (HI.out.step (below_drewN' _ dd _))
        go_wp2_with (go_at_call 29; (with_reducible refine (HE.out _ HI.out.mat HI.out.mat2).mono ?_); rintro e w1 ⟨rfl, hb⟩; replace HI := Lib.hid (HI.out.step hb); clear hb)
        go_ret
        exact ⟨by rw [HZ.out]; rfl, HI.out.below⟩
  · have HZ : Hid (decide (MM.eqM o q) = false) := Lib.hid (decide_eq_false fun a => hm a.1.1)
    have hmI : ((o.m : Int) != (q.m : Int)) = true := by simp; omega
    generalize decide (MM.eqM o q) = ans at *
    clear HX HE ok
    go_enter Try.func33, Try.ntmps33
    go_wp2_with fail
    go_ret
    exact ⟨by rw [HZ.out]; rfl, HI.out.below⟩
end M
end Go.Proofs.Ytdblijpoelcghaa

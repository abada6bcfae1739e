/- The document's own: may a query, a model be. -/
import Derived.Test.YtdblijpoelcghaaFixR1
namespace Go.Proofs.Ytdblijpoelcghaa
open Go Go.RowKit Go.Lib
namespace M
set_option maxHeartbeats 4000000 in
theorem rquery_any (p : Pm) (ao : Option Addr) (n c : Nat) (x : Nat → Int) (W : World) (hr : IRow W ao n c x) :
    Calls Try.prog 32 #[.agg p.cells, .slice ao n c] W fun e w' => e = .returned (.int .i64 (MM.qryE p n x)) ∧ Below W.heap.size W w' := by
  have HI : Hid (InP W W.heap.size p (W.alloc (.cells p.cells 31))) := Lib.hid (InP.new W p)
  have HR := Lib.hid hr
  have HU := rfit_any p
  clear hr
  by_cases hf : MM.Fit p
  · rw [decide_eq_true hf] at HU
    by_cases hd : (n : Int) = p.D
    · have hE : MM.qryE p n x = if MM.Wi p.X n x then 0 else 20 := if_pos ⟨hf, hd⟩
      have h20 : 0 ≤ p.X ∧ p.X ≤ 1048576 := ⟨hf.2.2.2.2.2.2.1, hf.2.2.2.2.2.2.2⟩
      have hn4 : n ≤ 4 := by have := hf.2.2.2.1; omega
      have HYES : Hid (MM.Wi p.X n x → MM.qryE p n x = 0) := Lib.hid fun h => by rw [hE, if_pos h]
      have HNO : Hid (¬ MM.Wi p.X n x → MM.qryE p n x = 20) := Lib.hid fun h => by rw [hE, if_neg h]
      have HW := Lib.hid (fun k => rwithin_any (x k) p.X h20)
      generalize MM.qryE p n x = ans at *
      clear hf hE h20
      go_enter Try.func32, Try.ntmps32
      go_wp2_with (first
        | (refine load_pm ?_ _ rfl W.heap.size rfl p HI.out.box ?_; first | rfl | (simp [Region.wanted, yielded]; done))
        | (go_at_call 42; (with_reducible refine (HU.at _).mono ?_); rintro e w1 ⟨rfl, hb⟩; replace HI := Lib.hid (HI.out.step hb); have k8 := HI.out.box.cell 8; clear hb))
      have HB := Lib.hid HI.out.below
      have k11 : w1.cell? ⟨W.heap.size, 11, none⟩ = some (.int .i64 p.X) := HI.out.box.cell 11
      have HR1 := Lib.hid (HR.out.below HI.out.below)
      clear HI k8 hd
      go_loopw [5] (fun s5 wx => ∃ k d : Nat, k ≤ n ∧ s5 = .int .i64 (k : Int) ∧ wx = w1.drewN d ∧ Hid (MM.Wi p.X k x)) (fun s5 _ => n - (RowKit.intOf s5).toNat)
      case atStart => exact ⟨0, 0, Nat.zero_le _, rfl, rfl, Lib.hid fun j h => absurd h (by omega)⟩
      case round =>
        obtain ⟨k, d, hk, rfl, rfl, HJ⟩ := hrel
        have hk0 : (0 : Int) ≤ (k : Int) := Int.natCast_nonneg _
        by_cases hlt : k < n
        · have hkI : (k : Int) < (n : Int) := by omega
          obtain ⟨ad, rfl, hc⟩ := HR1.out.at_ hlt
          have HX := HW.out k
          have HN : Hid ((-p.X ≤ x k ∧ x k ≤ p.X) → MM.Wi p.X (k + 1) x) := Lib.hid fun h j hj => by
            by_cases e : j = k
            · subst e; exact h
            · exact HJ.out j (by omega)
          have HNN : Hid (¬ (-p.X ≤ x k ∧ x k ≤ p.X) → ans = 20) := Lib.hid fun h => HNO.out fun hw => h (hw k hlt)
          go_upto_region 6 with fail
          generalize hwr : w1.drewN d = wr
          have c1 : wr.cell? (ad.add k) = some (.int .i64 (x k)) := by rw [← hwr]; exact hc
          have c2 : wr.cell? ⟨W.heap.size, 11, none⟩ = some (.int .i64 p.X) := by rw [← hwr]; exact k11
          have HWR := Lib.hid hwr
          clear hwr hc
          by_cases hw : -p.X ≤ x k ∧ x k ≤ p.X
          · rw [decide_eq_true hw] at HX
            have HN2 := Lib.hid (HN.out hw)
            clear HN HNN hw
            generalize x k = xk at *
            go_quiet ((go_at_call 45; with_reducible exact (HX).quiet))
            go_wp2_with fail
            go_roundw
            case rel => exact ⟨k + 1, _, by omega, by go_num, by rw [← HWR.out]; exact World.drewN_drewN _ _ _, HN2⟩
            case measure => simp [RowKit.intOf]; omega
          · rw [decide_eq_false hw] at HX
            have HZ := Lib.hid (HNN.out hw)
            clear HN HNN hw
            generalize x k = xk at *
            go_quiet ((go_at_call 45; with_reducible exact (HX).quiet))
            go_wp2_with fail
            go_ret
            refine ⟨by rw [HZ.out]; rfl, ?_⟩
            rw [← HWR.out]
            exact Below.drawn (Below.drawn HB.out _) _
        · have hkI : ¬ (k : Int) < (n : Int) := by omega
          have hkn : k = n := by omega
          rw [hkn] at HJ
          have HZ := Lib.hid (HYES.out HJ.out)
          go_wp2_with fail
          go_ret
          exact ⟨by rw [HZ.out]; rfl, Below.drawn HB.out _⟩
    · have hE : MM.qryE p n x = 4 := if_neg fun h => hd h.2
      rw [hE]
      clear hf hE
      go_enter Try.func32, Try.ntmps32
      go_wp2_with (first
        | (refine load_pm ?_ _ rfl W.heap.size rfl p HI.out.box ?_; first | rfl | (simp [Region.wanted, yielded]; done))
        | (go_at_call 42; (with_reducible refine (HU.at _).mono ?_); rintro e w1 ⟨rfl, hb⟩; replace HI := Lib.hid (HI.out.step hb); have k8 := HI.out.box.cell 8; clear hb))
      go_ret
      exact ⟨rfl, HI.out.below⟩
  · have hE : MM.qryE p n x = 4 := if_neg fun h => hf h.1
    rw [hE]
    rw [decide_eq_false hf] at HU
    clear hf hE
    go_enter Try.func32, Try.ntmps32
    go_wp2_with (first
      | (refine load_pm ?_ _ rfl W.heap.size rfl p HI.out.box ?_; first | rfl | (simp [Region.wanted, yielded]; done))
      | (go_at_call 42; (with_reducible refine (HU.at _).mono ?_); rintro e w1 ⟨rfl, hb⟩; replace HI := Lib.hid (HI.out.step hb); have k8 := HI.out.box.cell 8; clear hb))
    go_ret
    exact ⟨rfl, HI.out.below⟩
end M
end Go.Proofs.Ytdblijpoelcghaa

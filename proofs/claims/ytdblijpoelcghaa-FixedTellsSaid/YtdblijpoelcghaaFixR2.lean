/- Is a model more than a statement goes over. -/
import Derived.Test.YtdblijpoelcghaaFixW3
namespace Go.Proofs.Ytdblijpoelcghaa
open Go Go.RowKit Go.Lib
namespace MM
def Large (o : Mo) : Prop := 40 < o.m ∨ 40 < o.n ∨ ∃ i, i < o.m ∧ 40 < o.L i
instance (o : Mo) : Decidable (Large o) := by unfold Large; infer_instance
end MM
namespace M
set_option maxHeartbeats 4000000 in
theorem large_any (v : MoV) (o : MM.Mo) (ok : MoOk o) (W : World) (hr : MoAt W v o) :
    Calls Try.prog 25 #[.agg (v.cells o)] W fun e w' => e = .returned (.bool (decide (MM.Large o))) ∧ Below W.heap.size W w' := by
  obtain ⟨wo, wc, bo, bc⟩ := v
  have HBX := Lib.hid (BoxM.new W ⟨wo, wc, bo, bc⟩ o)
  have HB := Lib.hid (below_box W (.cells (MoV.cells ⟨wo, wc, bo, bc⟩ o) 36))
  have HR := Lib.hid (hr.below HB.out)
  have c0 := HBX.out.cell 0
  have c1 := HBX.out.cell 1
  have HOK := Lib.hid ok
  have HF : Hid (¬ MM.Large o → decide (MM.Large o) = false) := Lib.hid fun h => decide_eq_false h
  have HT : Hid (MM.Large o → decide (MM.Large o) = true) := Lib.hid fun h => decide_eq_true h
  generalize decide (MM.Large o) = ans at *
  clear hr ok
  by_cases hm : 40 < o.m
  · have HZ := Lib.hid (HT.out (.inl hm))
    have hmI : (40 : Int) < (o.m : Int) := by omega
    clear HF HT
    go_enter Try.func25, Try.ntmps25
    go_wp2_with fail
    go_ret
    exact ⟨by rw [HZ.out]; rfl, HB.out⟩
  · by_cases hn : 40 < o.n
    · have HZ := Lib.hid (HT.out (.inr (.inl hn)))
      have hnI : (40 : Int) < (o.n : Int) := by omega
      clear HF HT
      go_enter Try.func25, Try.ntmps25
      go_wp2_with fail
      go_ret
      exact ⟨by rw [HZ.out]; rfl, HB.out⟩
    · have hmI : ¬ (40 : Int) < (o.m : Int) := by omega
      have hnI : ¬ (40 : Int) < (o.n : Int) := by omega
      obtain ⟨W1, hW1⟩ : ∃ W1, W.alloc (.cells (MoV.cells ⟨wo, wc, bo, bc⟩ o) 36) = W1 := ⟨_, rfl⟩
      rw [hW1] at HB HR c0 c1
      clear HBX
      go_enter Try.func25, Try.ntmps25
      go_wp2_with fail
      go_loop [3] (fun s3 => ∃ k : Nat, k ≤ o.m ∧ s3 = .int .i64 (k : Int) ∧ Hid (∀ i, i < k → ¬ 40 < o.L i)) (fun s3 => o.m - (RowKit.intOf s3).toNat)
      case atStart => exact ⟨0, Nat.zero_le _, rfl, Lib.hid fun i hi => absurd hi (by omega)⟩
      case round =>
        obtain ⟨k, hk, rfl, HJ⟩ := hrel
        by_cases hlt : k < o.m
        · obtain ⟨ad, bo', c, hwo, hc, _⟩ := HR.out.mat k hlt
          have hwo' : wo = some ad := hwo
          subst hwo'
          have hk0 : (0 : Int) ≤ (k : Int) := Int.natCast_nonneg _
          have hkI : (k : Int) < (o.m : Int) := by omega
          by_cases hl : 40 < o.L k
          · have HZ := Lib.hid (HT.out (.inr (.inr ⟨k, hlt, hl⟩)))
            have hlI : (40 : Int) < (o.L k : Int) := by omega
            clear HF HT hwo
            go_wp2_with fail
            go_ret
            exact ⟨by rw [HZ.out]; rfl, HB.out⟩
          · have hlI : ¬ (40 : Int) < (o.L k : Int) := by omega
            have HN : Hid (∀ i, i < k + 1 → ¬ 40 < o.L i) := Lib.hid fun i hi => by
              by_cases e : i = k
              · subst e; exact hl
              · exact HJ.out i (by omega)
            clear hwo
            go_wp2_with fail
            go_round
            case rel => exact ⟨k + 1, by omega, by go_num, HN⟩
            case measure => simp [RowKit.intOf]; omega
        · obtain hkm : k = o.m := by omega
          have hkI : ¬ (k : Int) < (o.m : Int) := by omega
          have HZ := Lib.hid (HF.out fun h => by
            rcases h with h | h | ⟨i, h1, h2⟩
            · exact hm h
            · exact hn h
            · exact HJ.out i (by omega) h2)
          clear HF HT
          go_wp2_with fail
          go_ret
          exact ⟨by rw [HZ.out]; rfl, HB.out⟩
end M
end Go.Proofs.Ytdblijpoelcghaa

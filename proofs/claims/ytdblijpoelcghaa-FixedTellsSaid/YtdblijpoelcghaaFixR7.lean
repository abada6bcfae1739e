/- The document's own: a query's row. -/
import Derived.Test.YtdblijpoelcghaaFixR1
import Derived.Test.YtdblijpoelcghaaFixPush
import Derived.Test.YtdblijpoelcghaaFixW4
namespace Go.Proofs.Ytdblijpoelcghaa
open Go Go.RowKit Go.Lib
namespace MM
theorem numU_nil (q : Nat) : numU 0 q = 0 := by
  unfold numU
  split
  · simp
  · rfl
end MM
namespace M
set_option maxRecDepth 100000 in
set_option maxHeartbeats 8000000 in
theorem rrow_fit (p : Pm) (ao : Option Addr) (n c : Nat) (x : Nat → Int) (hx : ∀ j, -9223372036854775808 ≤ x j ∧ x j ≤ 9223372036854775807) (hf : MM.Fit p) (W : World) (hr : IRow W ao n c x) :
    Calls Try.prog 27 #[.agg p.cells, .slice ao n c] W fun e w' => ∃ v B, e = .returned v ∧ Own W B v (p.D.toNat + 1) (MM.rowZ p n x) w' := by
  obtain ⟨W1, hW1⟩ : ∃ W1, W.alloc (.cells p.cells 31) = W1 := ⟨_, rfl⟩
  obtain ⟨g, hg⟩ : ∃ g, W.heap.size = g := ⟨_, rfl⟩
  have HB1 : Hid (Below W.heap.size W W1) := Lib.hid (by rw [← hW1]; exact below_box W _)
  have HB0 : Hid (Box W1 g p) := Lib.hid (by rw [← hW1, ← hg]; exact Box.new W p)
  have HI : Hid (InP W1 g p W1) := Lib.hid ⟨by rw [← hW1, ← hg]; exact Box.new W p, Below.refl _ _⟩
  have HR : Hid (IRow W1 ao n c x) := Lib.hid (hr.below HB1.out)
  have HU := rfit_any p
  rw [decide_eq_true hf] at HU
  obtain ⟨d, hd⟩ : ∃ d : Nat, p.D = (d : Int) := ⟨p.D.toNat, by have := hf.2.2.1; omega⟩
  have hd4 : d ≤ 4 := by have := hf.2.2.2.1; omega
  have hdN : p.D.toNat = d := by omega
  obtain ⟨z, hz⟩ : ∃ z, MM.rowZ p n x = z := ⟨_, rfl⟩
  have HZ1 : Hid (∀ j, j < d → j < n → Ret 23 #[.int .i64 (x j), .int .u64 (p.Q : Int)] (.int .u64 ((z j : Nat) : Int))) := Lib.hid fun j h1 h2 => by
    rw [← hz]; unfold MM.rowZ; rw [hdN, if_pos h1, if_pos h2]; exact rnum_any _ _ (hx j)
  have HZ2 : Hid (∀ j, j < d → ¬ j < n → Ret 23 #[.int .i64 0, .int .u64 (p.Q : Int)] (.int .u64 ((z j : Nat) : Int))) := Lib.hid fun j h1 h2 => by
    have := rnum_any 0 p.Q (by omega)
    rw [MM.numU_nil] at this
    rw [← hz]; unfold MM.rowZ; rw [hdN, if_pos h1, if_neg h2]; exact this
  have HZ3 : Ret 23 #[.int .i64 1, .int .u64 (p.Q : Int)] (.int .u64 ((z d : Nat) : Int)) := by
    rw [← hz]; unfold MM.rowZ; rw [hdN, if_neg (by omega)]; exact rnum_any 1 _ (by omega)
  rw [hdN, hz]
  have hnc := HR.out.2.2
  clear hr hf hx hz
  go_enter Try.func27, Try.ntmps27
  go_upto_region 3 with (first
    | (refine load_pm ?_ _ rfl g rfl p HI.out.box ?_; first | rfl | (simp [Region.wanted, yielded]; done))
    | (go_at_call 42; (with_reducible refine (HU.at _).mono ?_); rintro e w1 ⟨rfl, hb⟩; replace HI := Lib.hid (HI.out.step hb); clear hb))
  have k8 := HI.out.cD hd
  have HO0 : Hid (Own W1 w1.heap.size (.slice none 0 0) 0 z w1) := Lib.hid ((Own.start w1 z).base HI.out.below)
  generalize w1.heap.size = B at *
  clear HI
  go_wp2_with fail
  go_loopw [5, 6] (fun s5 s6 wx => ∃ k : Nat, k ≤ d ∧ s6 = .int .i64 (k : Int) ∧ Hid (Own W1 B s5 k z wx)) (fun _ s6 _ => d - (RowKit.intOf s6).toNat)
  case atStart => exact ⟨0, Nat.zero_le _, rfl, HO0⟩
  case round =>
    clear HO0 k8
    obtain ⟨k, hk, rfl, HO⟩ := hrel
    have HI2 : Hid (InP W1 g p wr) := Lib.hid ⟨HB0.out.below HO.out.below, HO.out.below⟩
    have k8 := HI2.out.cD hd
    have hq := HI2.out.cQ
    have hk0 : (0 : Int) ≤ (k : Int) := Int.natCast_nonneg _
    by_cases hlt : k < d
    · have hkI : (k : Int) < (d : Int) := by omega
      by_cases hkn : k < n
      · have hknI : (k : Int) < (n : Int) := by omega
        obtain ⟨ad, rfl, hc⟩ := HR.out.at_ hkn
        have hc' := (HI2.out.below.cell (World.block_lt_of_cell? W1 _ hc)).trans hc
        have HN := HZ1.out k hlt hkn
        clear hc HZ3
        generalize x k = xk at *
        go_wp2_with (first
          | (go_at_call 23; (with_reducible refine (HN.at _).mono ?_); rintro e w' ⟨rfl, nd, rfl⟩; obtain ⟨v2, w2, hr2, ho2⟩ := (HO.out.drewN nd).push1 1 (by omega); have HO2 := Lib.hid ho2; clear ho2)
          | (at_builtin; refine Lib.wpList_append_run _ rfl _ _ _ _ rfl _ _ rfl rfl _ _ hr2 ?_))
        go_roundw
        case rel => exact ⟨k + 1, by omega, by go_num, HO2⟩
        case measure => simp [RowKit.intOf]; omega
      · have hknI : ¬ (k : Int) < (n : Int) := by omega
        have HN := HZ2.out k hlt hkn
        clear HZ3
        go_wp2_with (first
          | (go_at_call 23; (with_reducible refine (HN.at _).mono ?_); rintro e w' ⟨rfl, nd, rfl⟩; obtain ⟨v2, w2, hr2, ho2⟩ := (HO.out.drewN nd).push1 1 (by omega); have HO2 := Lib.hid ho2; clear ho2)
          | (at_builtin; refine Lib.wpList_append_run _ rfl _ _ _ _ rfl _ _ rfl rfl _ _ hr2 ?_))
        go_roundw
        case rel => exact ⟨k + 1, by omega, by go_num, HO2⟩
        case measure => simp [RowKit.intOf]; omega
    · obtain rfl : k = d := by omega
      have HN := HZ3
      go_wp2_with (first
        | (go_at_call 23; (with_reducible refine (HN.at _).mono ?_); rintro e w' ⟨rfl, nd, rfl⟩; obtain ⟨v2, w2, hr2, ho2⟩ := (HO.out.drewN nd).push1 1 (by omega); have HO2 := Lib.hid ho2; clear ho2)
        | (at_builtin; refine Lib.wpList_append_run _ rfl _ _ _ _ rfl _ _ rfl rfl _ _ hr2 ?_))
      go_ret
      exact ⟨_, B, rfl, HO2.out.base HB1.out⟩
set_option maxRecDepth 100000 in
theorem rrow_any (p : Pm) (ao : Option Addr) (n c : Nat) (x : Nat → Int) (hx : ∀ j, -9223372036854775808 ≤ x j ∧ x j ≤ 9223372036854775807) (W : World) (hr : IRow W ao n c x) :
    Calls Try.prog 27 #[.agg p.cells, .slice ao n c] W fun e w' => ∃ v, e = .returned v ∧ NewU W.heap.size w' v (MM.rowN p) (MM.rowZ p n x) ∧ Below W.heap.size W w' := by
  by_cases hf : MM.Fit p
  · refine (rrow_fit p ao n c x hx hf W hr).mono ?_
    rintro e w' ⟨v, B, rfl, hm⟩
    have e1 : MM.rowN p = p.D.toNat + 1 := if_pos hf
    rw [e1]
    exact ⟨_, rfl, hm.newU, hm.below⟩
  · have e1 : MM.rowN p = 0 := if_neg hf
    obtain ⟨g, hg⟩ : ∃ g, W.heap.size = g := ⟨_, rfl⟩
    have HI : Hid (InP W g p (W.alloc (.cells p.cells 31))) := Lib.hid (by rw [← hg]; exact InP.new W p)
    have HU := rfit_any p
    rw [decide_eq_false hf] at HU
    rw [e1]
    have HG := Lib.hid hg
    clear hr hf hx
    go_enter Try.func27, Try.ntmps27
    go_wp2_with (first
      | (refine load_pm ?_ _ rfl g rfl p HI.out.box ?_; first | rfl | (simp [Region.wanted, yielded]; done))
      | (go_at_call 42; (with_reducible refine (HU.at _).mono ?_); rintro e w1 ⟨rfl, hb⟩; replace HI := Lib.hid (HI.out.step hb); clear hb))
    go_ret
    exact ⟨_, rfl, .inl ⟨rfl, rfl⟩, HI.out.below⟩
end M
end Go.Proofs.Ytdblijpoelcghaa

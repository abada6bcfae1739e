/- The walks of a query's row, a model's secrets and the scores, as the program has them. -/
import Derived.Test.YtdblijpoelcghaaFixW3
import Derived.Test.YtdblijpoelcghaaFixPush
import Derived.Test.YtdblijpoelcghaaQuietTail
namespace Go.Proofs.Ytdblijpoelcghaa
open Go Go.RowKit Go.Lib
namespace M
attribute [local go_sem] Oper.semAt_some
theorem InP.cK {w0 w : World} {g : Nat} {p : Pm} {k : Nat} (h : InP w0 g p w) (e : p.K = (k : Int)) : w.cell? ⟨g, 7, none⟩ = some (.int .i64 (k : Int)) := by rw [← e]; exact h.box.cell 7
theorem InP.cD {w0 w : World} {g : Nat} {p : Pm} {d : Nat} (h : InP w0 g p w) (e : p.D = (d : Int)) : w.cell? ⟨g, 8, none⟩ = some (.int .i64 (d : Int)) := by rw [← e]; exact h.box.cell 8
theorem InP.cQ {w0 w : World} {g : Nat} {p : Pm} (h : InP w0 g p w) : w.cell? ⟨g, 1, none⟩ = some (.int .u64 (p.Q : Int)) := h.box.cell 1
set_option maxRecDepth 100000 in
set_option maxHeartbeats 8000000 in
theorem row_fit (p : Pm) (ao : Option Addr) (n c : Nat) (x : Nat → Int) (hx : ∀ j, -9223372036854775808 ≤ x j ∧ x j ≤ 9223372036854775807) (hf : MM.Fit p) (W : World) (hr : IRow W ao n c x) :
    Calls Try.prog 18 #[.agg p.cells, .slice ao n c] W fun e w' => ∃ B, e = .returned (.slice (some ⟨B, 0, none⟩) (p.D.toNat + 1) (p.D.toNat + 1)) ∧ Mine W B (p.D.toNat + 1) (MM.rowZ p n x) w' := by
  obtain ⟨W1, hW1⟩ : ∃ W1, W.alloc (.cells p.cells 31) = W1 := ⟨_, rfl⟩
  obtain ⟨g, hg⟩ : ∃ g, W.heap.size = g := ⟨_, rfl⟩
  have HB1 : Hid (Below W.heap.size W W1) := Lib.hid (by rw [← hW1]; exact below_box W _)
  have HB0 : Hid (Box W1 g p) := Lib.hid (by rw [← hW1, ← hg]; exact Box.new W p)
  have HI : Hid (InP W1 g p W1) := Lib.hid ⟨by rw [← hW1, ← hg]; exact Box.new W p, Below.refl _ _⟩
  have HR : Hid (IRow W1 ao n c x) := Lib.hid (hr.below HB1.out)
  have HU := usable_any p
  rw [decide_eq_true hf] at HU
  obtain ⟨d, hd⟩ : ∃ d : Nat, p.D = (d : Int) := ⟨p.D.toNat, by have := hf.2.2.1; omega⟩
  have hd4 : d ≤ 4 := by have := hf.2.2.2.1; omega
  have hdN : p.D.toNat = d := by omega
  obtain ⟨z, hz⟩ : ∃ z, MM.rowZ p n x = z := ⟨_, rfl⟩
  have HZ1 : Hid (∀ j, j < d → j < n → Ret 11 #[.int .i64 (x j), .int .u64 (p.Q : Int)] (.int .u64 ((z j : Nat) : Int))) := Lib.hid fun j h1 h2 => by
    rw [← hz]; unfold MM.rowZ; rw [hdN, if_pos h1, if_pos h2]; exact num_any _ _ (hx j)
  have HZ2 : Hid (∀ j, j < d → ¬ j < n → z j = 0) := Lib.hid fun j h1 h2 => by rw [← hz]; unfold MM.rowZ; rw [hdN, if_pos h1, if_neg h2]
  have HZ3 : Ret 11 #[.int .i64 1, .int .u64 (p.Q : Int)] (.int .u64 ((z d : Nat) : Int)) := by
    rw [← hz]; unfold MM.rowZ; rw [hdN, if_neg (by omega)]; exact num_any 1 _ (by omega)
  obtain ⟨N, hN⟩ : ∃ N, d + 1 = N := ⟨_, rfl⟩
  have hw1 : IntKind.i64.wrap ((d : Int) + 1) = (N : Int) := by rw [IntWalk.i64_in _ (by omega)]; omega
  rw [hdN, hz, hN]
  clear hr hf hx hz
  go_enter Try.func18, Try.ntmps18
  go_upto_region 3 with (first
    | (refine load_pm ?_ _ rfl g rfl p HI.out.box ?_; first | rfl | (simp [Region.wanted, yielded]; done))
    | (go_at_call 37; (with_reducible refine (HU.at _).mono ?_); rintro e w1 ⟨rfl, hb⟩; replace HI := Lib.hid (HI.out.step hb); clear hb))
  have k8 := HI.out.cD hd
  have HM0 : Hid (Mine W1 w1.heap.size N (fun _ => 0) (w1.alloc (.cells (madeCells (Value.int .u64 0).cells (N * 1)) 23))) := Lib.hid ((Mine.made w1 N).base HI.out.below)
  have HI2 := Lib.hid (HI.out.step (below_box w1 (.cells (madeCells (Value.int .u64 0).cells (N * 1)) 23)))
  have hmk := run_made N (by omega) w1
  generalize w1.alloc (.cells (madeCells (Value.int .u64 0).cells (N * 1)) 23) = W2 at *
  generalize w1.heap.size = B at *
  have k8b := HI2.out.cD hd
  obtain ⟨m, hm⟩ : ∃ m : Nat, min n d = m := ⟨_, rfl⟩
  have hmI : min (n : Int) (d : Int) = (m : Int) := by omega
  have hnc := HR.out.2.2
  have hmc : m ≤ c := by omega
  go_wp2_with fail
  clear hmk
  go_loopw [23] (fun s23 wx => ∃ k : Nat, k ≤ m ∧ s23 = .int .i64 (k : Int) ∧ Hid (Mine W1 B N (fun j => if j < k then z j else 0) wx)) (fun s23 _ => m - (RowKit.intOf s23).toNat)
  case atStart => exact ⟨0, Nat.zero_le _, rfl, Lib.hid (HM0.out.congr fun j _ => by simp)⟩
  case round =>
    clear HM0 HI2 k8 k8b
    obtain ⟨k, hk, rfl, HM⟩ := hrel
    have HI2 : Hid (InP W1 g p wr) := Lib.hid ⟨HB0.out.below HM.out.below, HM.out.below⟩
    by_cases hlt : k < m
    · obtain ⟨ad, rfl, hc⟩ := HR.out.at_ (k := k) (by omega)
      have hc' := (HI2.out.below.cell (World.block_lt_of_cell? W1 _ hc)).trans hc
      have HN := HZ1.out k (by omega) (by omega)
      have HS : Hid (∀ nd, Mine W1 B N (fun j => if j < k + 1 then z j else 0) ((wr.drewN nd).setCell ⟨B, k, none⟩ (.int .u64 ((z k : Nat) : Int)))) := Lib.hid fun nd => (HM.out.drewN nd).set k (z k) fun j _ => by
        by_cases e : j = k
        · subst e; rw [if_pos (by omega), if_pos rfl]
        · rw [if_neg e]
          by_cases h : j < k
          · rw [if_pos (by omega), if_pos h]
          · rw [if_neg (by omega), if_neg h]
      have hcl : wr.cell? ⟨B, k, none⟩ = some (.int .u64 ((0 : Nat) : Int)) := by
        have := HM.out.cell (k := k) (by omega)
        rwa [if_neg (by omega)] at this
      have hfr := HM.out.free k
      have hq := HI2.out.cQ
      have hk0 : (0 : Int) ≤ (k : Int) := Int.natCast_nonneg _
      have hk1 : (k : Int) < (N : Int) := by omega
      have hk2 : (k : Int) < (m : Int) := by omega
      clear hc
      generalize z k = zk at *
      generalize x k = xk at *
      go_wp2_with (go_at_call 11; (with_reducible refine (HN.at _).mono ?_); rintro e w' ⟨rfl, nd, rfl⟩)
      go_roundw
      case rel => exact ⟨k + 1, by omega, by go_num, Lib.hid (HS.out nd)⟩
      case measure => simp [RowKit.intOf]; omega
    · obtain rfl : k = m := by omega
      go_upto_region 9 with fail
      have HS : Hid (∀ nd, Mine W1 B N z ((wr.drewN nd).setCell ⟨B, d, none⟩ (.int .u64 ((z d : Nat) : Int)))) := Lib.hid fun nd => (HM.out.drewN nd).set d (z d) fun j hj => by
        by_cases e : j = d
        · subst e; rw [if_pos rfl]
        · rw [if_neg e]
          by_cases h : j < k
          · rw [if_pos h]
          · rw [if_neg h, HZ2.out j (by omega) (by omega)]
      obtain ⟨y0, hcl⟩ : ∃ y0 : Nat, wr.cell? ⟨B, d, none⟩ = some (.int .u64 ((y0 : Nat) : Int)) := ⟨_, HM.out.cell (k := d) (by omega)⟩
      have hfr := HM.out.free d
      have hq := HI2.out.cQ
      have hd8 := HI2.out.cD hd
      have hk0 : (0 : Int) ≤ (d : Int) := Int.natCast_nonneg _
      have hk1 : (d : Int) < (N : Int) := by omega
      generalize z d = zd at *
      refine QT.region 6 (by kernel_rfl) (by kernel_rfl) ?_
      simp only [List.take_succ_cons, List.take_zero, List.drop_succ_cons, List.drop_zero]
      repeat (quiet_step ((go_at_call 11; exact (HZ3).quiet)))
      refine wpQuiet_nil ?_
      intro nq
      go_wp2_with fail
      go_ret
      exact ⟨B, rfl, (HS.out nq).base HB1.out⟩
theorem row_any (p : Pm) (ao : Option Addr) (n c : Nat) (x : Nat → Int) (hx : ∀ j, -9223372036854775808 ≤ x j ∧ x j ≤ 9223372036854775807) (W : World) (hr : IRow W ao n c x) :
    Calls Try.prog 18 #[.agg p.cells, .slice ao n c] W fun e w' => ∃ v, e = .returned v ∧ NewU W.heap.size w' v (MM.rowN p) (MM.rowZ p n x) ∧ Below W.heap.size W w' := by
  by_cases hf : MM.Fit p
  · refine (row_fit p ao n c x hx hf W hr).mono ?_
    rintro e w' ⟨B, rfl, hm⟩
    have e1 : MM.rowN p = p.D.toNat + 1 := if_pos hf
    rw [e1]
    exact ⟨_, rfl, hm.newU, hm.below⟩
  · have e1 : MM.rowN p = 0 := if_neg hf
    have HI : Hid (InP W W.heap.size p (W.alloc (.cells p.cells 31))) := Lib.hid (InP.new W p)
    have HU := usable_any p
    rw [decide_eq_false hf] at HU
    rw [e1]
    clear hr hf hx
    go_enter Try.func18, Try.ntmps18
    go_wp2_with (first
      | (refine load_pm ?_ _ rfl W.heap.size rfl p HI.out.box ?_; first | rfl | (simp [Region.wanted, yielded]; done))
      | (go_at_call 37; (with_reducible refine (HU.at _).mono ?_); rintro e w1 ⟨rfl, hb⟩; replace HI := Lib.hid (HI.out.step hb); clear hb))
    go_ret
    exact ⟨_, rfl, .inl ⟨rfl, rfl⟩, HI.out.below⟩
end M
end Go.Proofs.Ytdblijpoelcghaa

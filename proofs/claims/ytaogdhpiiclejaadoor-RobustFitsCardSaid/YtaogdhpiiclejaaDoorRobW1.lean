/- The walks of the small functions: the items of a list that have the numbers of a set, and what is wrong with the arguments. -/
import Derived.Test.YtaogdhpiiclejaaDoorPolyW10
import Derived.Test.YtaogdhpiiclejaaDoorRobLoop
import Derived.Test.YtaogdhpiiclejaaDoorRobMath
import Derived.Test.YtaogdhpiiclejaaDoorModMath6
namespace Go.Proofs.YtaogdhpiiclejaaDoor
open Go Go.RowKit Go.Lib Go.Shelf
namespace M
attribute [local go_sem] Oper.semAt_some
/-- A set's numbers, as a slice holds them. -/
def SetIn (W : World) (ao : Option Addr) (s : List Nat) : Prop := ∃ (B : Nat) (cs : Array Value), ao = some ⟨B, 0, none⟩ ∧ W.heap[B]? = some (.cells cs 3 (0, 0)) ∧ ∀ k, k < s.length → cs[k]? = some (.int .i64 ((s.getD k 0 : Nat) : Int))
theorem SetIn.below {W W' : World} {ao : Option Addr} {s : List Nat} (h : SetIn W ao s) (hb : Below W.heap.size W W') : SetIn W' ao s := by
  obtain ⟨B, cs, e, h1, h2⟩ := h
  exact ⟨B, cs, e, (hb.block B (row_lt h1)).trans h1, h2⟩
theorem SetIn.holds {C : Nat} {W W' : World} {ao : Option Addr} {s : List Nat} (h : SetIn W ao s) (hb : RL.Holds C W W') : SetIn W' ao s := by
  obtain ⟨B, cs, e, h1, h2⟩ := h
  exact ⟨B, cs, e, hb.cells _ _ _ _ h1, h2⟩
theorem SetIn.cell {W : World} {ao : Option Addr} {s : List Nat} (h : SetIn W ao s) : ∃ ad, ao = some ad ∧ ∀ k, k < s.length → W.cell? (ad.add k) = some (.int .i64 ((s.getD k 0 : Nat) : Int)) := by
  obtain ⟨B, cs, rfl, h1, h2⟩ := h
  refine ⟨_, rfl, fun k hk => ?_⟩
  have e : Addr.add ⟨B, 0, none⟩ k = ⟨B, k, none⟩ := by simp [Addr.add]; exact fun h => h.symm
  rw [e, cell_of_row W B k _ _ _ h1]
  exact h2 k hk
set_option maxHeartbeats 4000000 in
theorem among_any (xo ao : Option Addr) (n cx c : Nat) (z : Nat → Nat) (s : List Nat) (hs : s.length ≤ 1000) (hb : ∀ x ∈ s, x < n) (w : World) (hr : Rd w xo n z) (hi : SetIn w ao s) :
    Calls Tryd.prog 15 #[.slice xo n cx, .slice ao s.length c] w fun e w' => e = .returned (.slice (some ⟨w.heap.size, 0, none⟩) s.length s.length) ∧ Mine w w.heap.size s.length (MM.pick z s) w' := by
  obtain ⟨m, hm⟩ : ∃ m, s.length = m := ⟨_, rfl⟩
  rw [hm] at hs ⊢
  have HM0 := Mine.made w m
  have hmk := run_made m (by omega) w
  obtain ⟨W4, hW4⟩ : ∃ W4, w.alloc (.cells (madeCells (Value.int .u64 0).cells (m * 1)) 23) = W4 := ⟨_, rfl⟩
  obtain ⟨B, hB⟩ : ∃ B, w.heap.size = B := ⟨_, rfl⟩
  rw [hW4] at HM0 hmk
  rw [hB] at HM0 hmk ⊢
  have HM4 := Lib.hid HM0
  have HR := Lib.hid hr
  have HI := Lib.hid hi
  have HB := Lib.hid hb
  clear hr hi hb HM0 hW4
  refine (callsIn_wide (n := 3)).1 ?_
  refine callsIn_of_wp Tryd.func15 rfl trivial ?_ rfl
  simp only [Tryd.ntmps15, List.size_toArray, List.length_cons, List.length_nil, Nat.reduceAdd, Nat.reduceSub, Array.replicate_succ, Array.replicate_zero, List.push_toArray, List.append_toArray, List.nil_append, List.cons_append]
  gi_wp2
  gi_loopw [13] (fun i wr => ∃ k : Nat, k ≤ m ∧ i = .int .i64 (k : Int) ∧ Hid (∃ y : Nat → Nat, Mine w B m y wr ∧ ∀ j, j < k → y j = MM.pick z s j))
    (fun i _ => m - (RowKit.intOf i).toNat)
  case atStart => exact ⟨0, Nat.zero_le _, rfl, Lib.hid ⟨_, HM4.out, fun j h => absurd h (by omega)⟩⟩
  case round =>
    clear HM4 hmk
    obtain ⟨k, hk, rfl, HY⟩ := hrel
    obtain ⟨y, hy, hyk⟩ := HY.out
    have HY2 := Lib.hid hyk
    have HYM := Lib.hid hy
    clear HY hyk
    by_cases hlt : k < m
    · obtain ⟨ad, rfl, hcs⟩ := (HI.out.below hy.below).cell
      have hck := hcs k (by omega)
      obtain ⟨x, hx⟩ : ∃ x, s.getD k 0 = x := ⟨_, rfl⟩
      have hxn : x < n := by
        rw [← hx, MM.getD_at (by omega)]; exact HB.out _ (List.getElem_mem _)
      rw [hx] at hck
      obtain ⟨xd, rfl, hcx⟩ := (HR.out.below hy.below).at_ hxn
      have hc2 := hy.cell hlt
      have hf2 := hy.free k
      have HX := Lib.hid hx
      clear hcs hy hx
      have hk0 : (0 : Int) ≤ (k : Int) := Int.natCast_nonneg _
      have hx0 : (0 : Int) ≤ (x : Int) := Int.natCast_nonneg _
      have hk1 : (k : Int) < (m : Int) := by omega
      have hx1 : (x : Int) < (n : Int) := by omega
      gi_wp2
      go_roundw
      case rel => exact ⟨k + 1, by omega, by go_num, Lib.hid ⟨_, HYM.out.set k (z x) (fun j _ => rfl), fun j hj => by
        by_cases e : j = k
        · subst e; simp only [if_true]; unfold MM.pick; rw [HX.out]
        · simp only [if_neg e]; exact HY2.out j (by omega)⟩⟩
      case measure => simp [RowKit.intOf]; omega
    · obtain rfl : k = m := by omega
      gi_wp2
      go_ret
      exact ⟨rfl, HYM.out.congr fun j hj => HY2.out j hj⟩
end M
end Go.Proofs.YtaogdhpiiclejaaDoor

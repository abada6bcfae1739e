/- What the laws of layer 2 ask of package group: the examples are as they are told; what valid parameters keep to. -/
import Derived.Test.YtmeaiindbkkkiaaDoorGrpW4
import Derived.Test.YtmeaiindbkkkiaaDoorWorks
import Derived.Test.YtmeaiindbkkkiaaDoorModMath6
namespace Go.Proofs.YtmeaiindbkkkiaaDoor
open Go Go.RowKit Go.Lib
namespace M
theorem may_sm : mayB sm = true := by decide +kernel
theorem row_49 {W : World} {b : Nat} {t : TypeId} (h : W.heap[b]? = some (.cells #[.int .u64 4, .int .u64 9] t (0, 0))) : Row W ⟨b, 0, none⟩ 2 (MM.two 4 9) := row_two 4 9 h
theorem is_sm (x : Nat) (r : Bool) (hx : x < 18446744073709551616) (h : isB sm x = r) : RetB 14 #[.agg sm.cells, .int .u64 (x : Int)] (.bool r) := h ▸ is_any sm x hx (by decide)
theorem power_to (p : Pm) (x e r : Nat) (hx : x < 18446744073709551616) (he : e < 18446744073709551616) (h : MM.powU x e p.P = r) : RetB 13 #[.agg p.cells, .int .u64 (x : Int), .int .u64 (e : Int)] (.int .u64 (r : Int)) := by
  rw [← h]; exact power_any p x e hx he
theorem commit_to (p : Pm) (s b r : Nat) (hs : s < 18446744073709551616) (hb : b < 18446744073709551616) (hG : p.G < 18446744073709551616) (hH : p.H < 18446744073709551616) (h : MM.comU p.P p.G p.H s b = r) :
    RetB 16 #[.agg p.cells, .agg (pair s b)] (.int .u64 (r : Int)) := by
  rw [← h]; exact commit_any p s b hs hb hG hH
theorem at_to (p : Pm) (a : Addr) (n cap i r : Nat) (z : Nat → Nat) (hz : ∀ k, k < n → z k < 18446744073709551616) (hi : i < 18446744073709551616) (hn : n ≤ 9223372036854775807) (h : MM.atN p.P p.Q i z n = r) (W : World) (hc : Row W a n z) :
    Calls Tryd.prog 17 #[.agg p.cells, .slice (some a) n cap, .int .u64 (i : Int)] W fun e w' => e = .returned (.int .u64 (r : Int)) ∧ Below W.heap.size W w' := by
  rw [← h]; exact at_any p a n cap i z hz hi hn W hc
theorem works_any : RetBL 10 #[] (.bool true) :=
  works_core (may_sm ▸ may_any sm (by decide) (by decide) (by decide) (by decide))
    (is_sm 2 true (by decide) (by decide +kernel)) (is_sm 5 false (by decide) (by decide +kernel)) (is_sm 0 false (by decide) (by decide +kernel)) (is_sm 24 false (by decide) (by decide +kernel))
    (fun W b h => times_two sm 4 9 13 (by decide) (by decide) (by decide +kernel) W b h)
    (power_to sm 4 3 18 (by decide) (by decide) (by decide +kernel))
    (commit_to sm 1 1 13 (by decide) (by decide) (by decide) (by decide) (by decide +kernel))
    (fun W b h => at_to sm ⟨b, 0, none⟩ 2 2 2 2 (MM.two 4 9) (fun k _ => two_lt (by decide) (by decide)) (by decide) (by decide) (by decide +kernel) W (row_49 h))

theorem may_cond {p : Pm} (h : mayB p = true) (k : Nat) (hk : k < 15) : condB p k = true := List.all_eq_true.1 h k (List.mem_range.2 hk)
theorem genB_pow {p : Pm} {x : Nat} (h : genB p x = true) : MM.powU x p.Q p.P = 1 := by
  simp [genB, isB] at h
  exact h.1.2
theorem grp_of {p : Pm} (h : mayB p = true) : MM.Grp p.P p.Q p.G p.H := by
  have h0 := primeOf_lt (may_cond h 0 (by decide))
  have h1 := primeOf_lt (may_cond h 1 (by decide))
  have gP : MM.Good p.P := ⟨by omega, h0.2⟩
  have o : 1 % p.P = 1 := Nat.mod_eq_of_lt (by omega)
  refine ⟨gP, ⟨by omega, h1.2⟩, by omega, by omega, ?_, ?_⟩
  · rw [o, ← genB_pow (may_cond h 3 (by decide)), MM.powU_of gP]
  · rw [o, ← genB_pow (may_cond h 4 (by decide)), MM.powU_of gP]
theorem may_yes {p : Pm} {b : Bool} (h : mayB p = b) (bP : p.P < 18446744073709551616) (bQ : p.Q < 18446744073709551616) (bG : p.G < 18446744073709551616) (bH : p.H < 18446744073709551616) :
    RetBL 12 #[.agg p.cells] (.bool b) := h ▸ may_any p bP bQ bG bH
end M
end Go.Proofs.YtmeaiindbkkkiaaDoor

/- The walks of group.At at whatever row, of the conditions' row and of group.May: what each answers. -/
import Derived.Test.YtmeaiindbkkkiaaDoorGrpW2
import Derived.Test.YtmeaiindbkkkiaaDoorGrpW3
namespace Go.Proofs.YtmeaiindbkkkiaaDoor
open Go Go.RowKit Go.Lib
namespace M
/-- The conditions' row: what each closure is. -/
abbrev condCells (g : Nat) : Array Value := #[.func (.func 30) #[] #[.pointer (some ⟨g, 0, none⟩)], .func (.func 32) #[] #[.pointer (some ⟨g, 0, none⟩)], .func (.func 33) #[] #[.pointer (some ⟨g, 0, none⟩)], .func (.func 34) #[] #[.pointer (some ⟨g, 0, none⟩)], .func (.func 36) #[] #[.pointer (some ⟨g, 0, none⟩)], .func (.func 37) #[] #[.pointer (some ⟨g, 0, none⟩)], .func (.func 39) #[] #[.pointer (some ⟨g, 0, none⟩)], .func (.func 40) #[] #[.pointer (some ⟨g, 0, none⟩)], .func (.func 41) #[] #[.pointer (some ⟨g, 0, none⟩)], .func (.func 42) #[] #[.pointer (some ⟨g, 0, none⟩)], .func (.func 43) #[] #[.pointer (some ⟨g, 0, none⟩)], .func (.func 44) #[] #[.pointer (some ⟨g, 0, none⟩)], .func (.func 45) #[] #[.pointer (some ⟨g, 0, none⟩)], .func (.func 47) #[] #[.pointer (some ⟨g, 0, none⟩)], .func (.func 48) #[] #[.pointer (some ⟨g, 0, none⟩)]]
theorem makes (fn : Fn) (first cap : Array Value) (w : World) : (Instr.makeFunc fn first cap).run Tryd.prog w = .ok (.func fn first cap) w := rfl
set_option maxHeartbeats 400000 in
theorem conds_any (p : Pm) (w : World) : Calls Tryd.prog 23 #[.agg p.cells] w fun e w' =>
    e = .returned (.slice (some ⟨w.heap.size + 1, 0, none⟩) 15 15) ∧ (w.alloc (.cells p.cells 25)).alloc (.cells (condCells w.heap.size) 22) = w' := by
  go_enter Tryd.func23, Tryd.ntmps23
  go_wp2_with fail
  go_ret
  exact ⟨rfl, rfl⟩

/-- The conditions, by their places. -/
def condB (p : Pm) : Nat → Bool
  | 0 => MM.primeOf p.P
  | 1 => MM.primeOf p.Q
  | 2 => (((p.P - 1 : Nat) : Int) % (p.Q : Int) == 0)
  | 3 => genB p p.G
  | 4 => genB p p.H
  | 5 => btw p.T 1 2
  | 6 => btw p.N (wrap64 (wrap64 (3 * p.T) + 1)) 7
  | 7 => decide (IntKind.u64.wrap p.N < (p.Q : Int))
  | 8 => btw p.Nodes p.N 8
  | 9 => btw p.K 1 2
  | 10 => btw p.D 1 4
  | 11 => btw p.R 1 p.D
  | 12 => btw p.M 1 1048576
  | 13 => btw p.X 1 1048576
  | 14 => decide (IntKind.u64.wrap (2 * IntKind.u64.wrap (wrap64 (wrap64 (wrap64 (p.D * p.M) * p.X) + p.M))) < (p.Q : Int))
  | _ => true
/-- Whether parameters are valid, as the program asks it. -/
def mayB (p : Pm) : Bool := (List.range 15).all (condB p)
theorem mayB_false {p : Pm} {k : Nat} (hk : k < 15) (h : condB p k = false) : mayB p = false := by
  cases hm : mayB p
  · rfl
  · have h1 := List.all_eq_true.1 hm k (List.mem_range.2 hk)
    rw [h] at h1; cases h1
theorem mayB_true {p : Pm} (h : ∀ k, k < 15 → condB p k = true) : mayB p = true := List.all_eq_true.2 fun k hk => h k (List.mem_range.1 hk)
theorem primeOf_lt {n : Nat} (h : MM.primeOf n = true) : 2 ≤ n ∧ n ≤ 2305843009213693952 := by
  unfold MM.primeOf MM.primeB at h
  by_cases h1 : n < 2 ∨ 2305843009213693952 < n
  · rw [if_pos h1] at h; cases h
  · omega

theorem cond_all (p : Pm) (bP : p.P < 18446744073709551616) (bQ : p.Q < 18446744073709551616) (bG : p.G < 18446744073709551616) (bH : p.H < 18446744073709551616) (k : Nat) (hk : k < 15) (hold : ∀ j, j < k → condB p j = true) :
    ∃ f : Nat, (∀ g, (condCells g)[k]? = some (.func (.func f) #[] #[.pointer (some ⟨g, 0, none⟩)])) ∧ RetG f p (condB p k) ∧ ∀ (args : Array Value) (w : World), (callFunc f args).run Tryd.prog w = .ok (.enter f args) w := by
  match k, hk with
  | 0, _ => exact ⟨30, fun _ => rfl, cond0 p, Tryd.call30⟩
  | 1, _ => exact ⟨32, fun _ => rfl, cond1 p, Tryd.call32⟩
  | 2, _ => exact ⟨33, fun _ => rfl, cond2 p (primeOf_lt (hold 0 (by omega))).1 (primeOf_lt (hold 1 (by omega))).1 bP, Tryd.call33⟩
  | 3, _ => exact ⟨34, fun _ => rfl, cond3 p bG bQ, Tryd.call34⟩
  | 4, _ => exact ⟨36, fun _ => rfl, cond4 p bH bQ, Tryd.call36⟩
  | 5, _ => exact ⟨37, fun _ => rfl, cond5 p, Tryd.call37⟩
  | 6, _ => exact ⟨39, fun _ => rfl, cond6 p, Tryd.call39⟩
  | 7, _ => exact ⟨40, fun _ => rfl, cond7 p, Tryd.call40⟩
  | 8, _ => exact ⟨41, fun _ => rfl, cond8 p, Tryd.call41⟩
  | 9, _ => exact ⟨42, fun _ => rfl, cond9 p, Tryd.call42⟩
  | 10, _ => exact ⟨43, fun _ => rfl, cond10 p, Tryd.call43⟩
  | 11, _ => exact ⟨44, fun _ => rfl, cond11 p, Tryd.call44⟩
  | 12, _ => exact ⟨45, fun _ => rfl, cond12 p, Tryd.call45⟩
  | 13, _ => exact ⟨47, fun _ => rfl, cond13 p, Tryd.call47⟩
  | 14, _ => exact ⟨48, fun _ => rfl, cond14 p, Tryd.call48⟩
  | k + 15, h => exact absurd h (by omega)

/-- Where the conditions' row lies, and the parameters' box: what the loop of May keeps. -/
structure MayAt (w0 : World) (g : Nat) (p : Pm) (w : World) : Prop where
  inn : In w0 g p w
  row : w.heap[g + 1]? = some (.cells (condCells g) 22 (0, 0))
theorem MayAt.step {w0 w w' : World} {g : Nat} {p : Pm} (h : MayAt w0 g p w) (hb : Below w.heap.size w w') : MayAt w0 g p w' :=
  ⟨h.inn.step hb, (hb.block _ (row_lt h.row)).trans h.row⟩
set_option maxHeartbeats 2000000 in
set_option maxRecDepth 100000 in
theorem may_any (p : Pm) (bP : p.P < 18446744073709551616) (bQ : p.Q < 18446744073709551616) (bG : p.G < 18446744073709551616) (bH : p.H < 18446744073709551616) :
    RetBL 12 #[.agg p.cells] (.bool (mayB p)) := by
  intro w hl
  have HI0 : Hid (In w w.heap.size p (w.alloc (.cells p.cells 25))) := Lib.hid (In.new w p hl)
  have HC := conds_any p
  have HCA := Lib.hid (cond_all p bP bQ bG bH)
  clear hl bP bQ bG bH
  go_enter Tryd.func12, Tryd.ntmps12
  go_upto_region 1 with fail
  generalize hg0 : w.heap.size = g0 at HI0 ⊢
  have HE := Lib.hid hg0
  clear hg0
  generalize w.alloc (.cells p.cells 25) = w1 at *
  have HM : Hid (MayAt w w1.heap.size p ((w1.alloc (.cells p.cells 25)).alloc (.cells (condCells w1.heap.size) 22))) := Lib.hid
    ⟨⟨(Box.new w1 p).below (below_box _ _), (HI0.out.alloc _).alloc _ |>.laid, ((HI0.out.alloc _).alloc _).below⟩, by have := heap_alloc_new (w1.alloc (.cells p.cells 25)) (.cells (condCells w1.heap.size) 22); simpa using this⟩
  go_upto_region 2 with (first | (refine wpList_row_if ?_ 25 _ rfl g0 rfl 25 p.cells (0, 0) _ HI0.out.box Tryd.underlying25 rfl (by kernel_rfl) ?_; first | rfl | (simp [Region.wanted, yielded]; done)) | (go_at_call 23; (with_reducible refine (HC _).mono ?_); rintro e w2 ⟨rfl, rfl⟩))
  generalize ((w1.alloc (.cells p.cells 25)).alloc (.cells (condCells w1.heap.size) 22)) = w2 at *
  generalize w1.heap.size = g at *
  go_loopw [8] (fun s8 wx => ∃ k : Nat, k ≤ 15 ∧ s8 = .int .i64 (k : Int) ∧ Hid (∀ j, j < k → condB p j = true) ∧ Hid (MayAt w g p wx)) (fun s8 _ => 15 - (RowKit.intOf s8).toNat)
  case atStart => exact ⟨0, by omega, rfl, Lib.hid (fun j h => absurd h (by omega)), HM⟩
  case round =>
    obtain ⟨k, hk, rfl, HO, HA⟩ := hrel
    rename_i wr
    clear HM HI0 HC
    by_cases hlt : k < 15
    · obtain ⟨f, hf, H, hen⟩ := HCA.out k hlt HO.out
      have hcell : wr.cell? ⟨g + 1, k, none⟩ = some (.func (.func f) #[] #[.pointer (some ⟨g, 0, none⟩)]) := (cell_of_row wr (g + 1) k _ _ _ HA.out.row).trans (hf g)
      clear hf HCA
      cases hcb : condB p k
      · rw [hcb] at H
        have HF := Lib.hid (mayB_false hlt hcb)
        clear hcb
        go_wp2_with fail
        (with_reducible refine (H.at HA.out.inn).mono ?_); rintro e w3 ⟨rfl, hb⟩; replace HA := Lib.hid (HA.out.step hb); clear hb
        go_wp2_with fail
        go_ret
        exact ⟨by rw [HF.out]; rfl, HE.out ▸ HA.out.inn.below⟩
      · rw [hcb] at H
        have HO2 : Hid (∀ j, j < k + 1 → condB p j = true) := Lib.hid fun j hj => by
          rcases Nat.lt_or_ge j k with h | h
          · exact HO.out j h
          · obtain rfl : j = k := by omega
            exact hcb
        clear hcb
        go_wp2_with fail
        (with_reducible refine (H.at HA.out.inn).mono ?_); rintro e w3 ⟨rfl, hb⟩; replace HA := Lib.hid (HA.out.step hb); clear hb
        go_wp2_with fail
        go_roundw
        case rel => exact ⟨k + 1, by omega, by go_num, HO2, HA⟩
        case measure => simp [RowKit.intOf]; omega
    · obtain rfl : k = 15 := by omega
      have HF := Lib.hid (mayB_true HO.out)
      clear hlt
      go_wp2_with fail
      go_ret
      exact ⟨by rw [HF.out]; rfl, HE.out ▸ HA.out.inn.below⟩

end M
end Go.Proofs.YtmeaiindbkkkiaaDoor

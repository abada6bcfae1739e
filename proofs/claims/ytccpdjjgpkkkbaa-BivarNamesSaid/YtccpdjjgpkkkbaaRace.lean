/- A drawn region in which two operations that make memory may come in either row: both ends in one word. -/
import Derived.Test.YtccpdjjgpkkkbaaBivB
namespace Go.Proofs.Ytccpdjjgpkkkbaa
open Go
namespace RK
theorem Any.race {P : Program} {md : Region.Mode} {ops : Array Oper} {Q : Exit → Act → World → Prop} {S : World → Prop} {st : Nat} {s : Array Bool} {a : Act} {w : World} {f : Nat} (i j ti tj : Nat) {oi oj : Oper} (R : Value → Value → World → Prop)
    (hr : Region.ready md ops s = [i, j]) (hr1 : Region.ready md ops (s.setIfInBounds i true) = [j]) (hr2 : Region.ready md ops (s.setIfInBounds j true) = [i]) (hi : ops[i]? = some oi) (hj : ops[j]? = some oj) (hdi : oi.dst = some ti) (hdj : oj.dst = some tj)
    (hwi : Region.wanted oi (yielded ops a.tmps) = true) (hwj : Region.wanted oj (yielded ops a.tmps) = true) (hij : i ≠ j) (hne : ti ≠ tj)
    (h1 : ∃ v1 v2 w1 w2, (execOp a.eval oi).run P w = .ok (.value v1) w1 ∧ (execOp (Act.eval { a with tmps := a.tmps.setIfInBounds ti v1 }) oj).run P w1 = .ok (.value v2) w2 ∧ R v1 v2 w2 ∧ Region.wanted oj (yielded ops (a.tmps.setIfInBounds ti v1)) = true ∧ S w1)
    (h2 : ∃ v1 v2 w1 w2, (execOp a.eval oj).run P w = .ok (.value v2) w1 ∧ (execOp (Act.eval { a with tmps := a.tmps.setIfInBounds tj v2 }) oi).run P w1 = .ok (.value v1) w2 ∧ R v1 v2 w2 ∧ Region.wanted oi (yielded ops (a.tmps.setIfInBounds tj v2)) = true ∧ S w1)
    (hS : ∀ v1 v2 W, R v1 v2 W → S W)
    (h : ∀ v1 v2 W, R v1 v2 W → Any P md ops Q S st f ((s.setIfInBounds i true).setIfInBounds j true) { a with tmps := (a.tmps.setIfInBounds ti v1).setIfInBounds tj v2 } W) : Any P md ops Q S st (f + 1 + 1) s a w := by
  refine Any.each [i, j] hr (by simp) fun x hx => ?_
  simp only [List.mem_cons, List.not_mem_nil, or_false] at hx
  rcases hx with rfl | rfl
  · obtain ⟨v1, v2, w1, w2, e1, e2, hR, hw, hs⟩ := h1
    exact wpOp_exec hi hdi hwi e1 ⟨fun _ => hs, Any.exec j tj v2 hr1 hj hdj hw e2 (hS _ _ _ hR) (h v1 v2 w2 hR)⟩
  · obtain ⟨v1, v2, w1, w2, e1, e2, hR, hw, hs⟩ := h2
    have h3 := h v1 v2 w2 hR
    rw [Array.setIfInBounds_comm _ _ hij, Array.setIfInBounds_comm _ _ hne] at h3
    exact wpOp_exec hj hdj hwj e1 ⟨fun _ => hs, Any.exec i ti v1 hr2 hi hdi hw e2 (hS _ _ _ hR) h3⟩
end RK
end Go.Proofs.Ytccpdjjgpkkkbaa

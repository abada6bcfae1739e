/- The marks that ranges over a function leave with a call: what they are, and that a call leaves through them. -/
import Derived.Test.YtaogdhpiiclejaaDoorPolyW5
import Derived.Test.YtaogdhpiiclejaaDoorPolyW6
namespace Go.Proofs.YtaogdhpiiclejaaDoor
open Go Go.RowKit Go.Lib Go.Shelf
namespace M
def mark (D : Nat) : Deferred := { target := .collected D, args := #[] }
structure Marks (Ds : List Nat) (w : World) : Prop where
  nodup : Ds.Nodup
  at_ : ∀ D, D ∈ Ds → w.heap[D]? = some (.deferred (some []))
theorem Marks.nil (w : World) : Marks [] w := ⟨List.nodup_nil, fun _ h => by cases h⟩
theorem Marks.lt {Ds : List Nat} {w : World} (h : Marks Ds w) {D : Nat} (hD : D ∈ Ds) : D < w.heap.size := row_lt (h.at_ D hD)
theorem Marks.below {Ds : List Nat} {w w' : World} (h : Marks Ds w) (hb : Below w.heap.size w w') : Marks Ds w' := ⟨h.nodup, fun D hD => (hb.block D (h.lt hD)).trans (h.at_ D hD)⟩
theorem Marks.drewN {Ds : List Nat} {w : World} (h : Marks Ds w) (n : Nat) : Marks Ds (w.drewN n) := ⟨h.nodup, h.at_⟩
theorem Marks.keepS {S : Nat → Prop} {Ds : List Nat} {w w' : World} (h : Marks Ds w) (hk : KeepS S w w') (hS : ∀ D, D ∈ Ds → S D) : Marks Ds w' := ⟨h.nodup, fun D hD => (hk.same D (hS D hD)).trans (h.at_ D hD)⟩
theorem Marks.cons {Ds : List Nat} {w : World} (h : Marks Ds w) {D : Nat} (hD : w.heap[D]? = some (.deferred (some []))) (hne : D ∉ Ds) : Marks (D :: Ds) w :=
  ⟨List.nodup_cons.2 ⟨hne, h.nodup⟩, fun E hE => by
    rcases List.mem_cons.1 hE with rfl | h'
    · exact hD
    · exact h.at_ E h'⟩
theorem Marks.setCell {Ds : List Nat} {w : World} (h : Marks Ds w) {a : Addr} {v u : Value} (hc : w.cell? a = some u) : Marks Ds (w.setCell a v) :=
  ⟨h.nodup, fun D hD => (Below.heap_setCell w a v D (fun e => by
    have h1 := h.at_ D hD
    rw [e] at h1
    simp [World.cell?, h1] at hc)).trans (h.at_ D hD)⟩
/-- All cells are as they were. -/
def CellsAs (w w' : World) : Prop := ∀ (k : Nat) (cs : Array Value) (t : TypeId) (fr : Nat × Nat), w.heap[k]? = some (.cells cs t fr) → w'.heap[k]? = some (.cells cs t fr)
theorem leaves_marks {F : Fence} {n : Nat} {P : Program} {fn : Func} {tmps : Array Value} {R : Ending → World → Prop} {B : Nat} : ∀ (Ds : List Nat) (w : World), Marks Ds w → (∀ D, D ∈ Ds → B ≤ D) →
    (∀ w', Below B w w' → CellsAs w w' → LeavesInM F n P fn tmps R [] .returning w') → LeavesInM F n P fn tmps R (Ds.map mark) .returning w
  | [], w, _, _, h => h w (Below.refl _ _) (fun _ _ _ _ h => h)
  | D :: Ds, w, hm, hB, h => by
    refine ⟨by simp, .inl ⟨D, _, rfl, run_takeDeferred (hm.at_ D (by simp)), ?_⟩⟩
    have hne : D ∉ Ds := (List.nodup_cons.1 hm.nodup).1
    have hD := hm.lt (D := D) (by simp)
    have hb : Below B w (w.putObj D (.deferred none)) := (Below.refl B w).grown (grownBy_putObj' w D _) (by have := hB D (by simp); omega) (fun k e => by cases e; exact hB D (by simp))
    refine leaves_marks Ds _ ⟨(List.nodup_cons.1 hm.nodup).2, fun E hE => (World.putObj_heap_other (by intro e; subst e; exact hne hE)).trans (hm.at_ E (by simp [hE]))⟩ (fun E hE => hB E (by simp [hE])) ?_
    intro w' hb' hc'
    refine h w' (hb.trans hb') (fun k cs t fr hk => hc' k cs t fr ?_)
    refine (World.putObj_heap_other (fun e => ?_)).trans hk
    subst e
    rw [hm.at_ k (by simp)] at hk
    cases hk
end M
end Go.Proofs.YtaogdhpiiclejaaDoor

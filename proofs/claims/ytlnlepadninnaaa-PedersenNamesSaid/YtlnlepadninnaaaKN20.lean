/- The texts PedWord, one behind the other. -/
import Derived.Test.YtlnlepadninnaaaKN19
/- Words on values that read as given lists, for regions that draw their order. -/
namespace Go.Proofs.Ytlnlepadninnaaa
open Go Go.RowKit Go.Lib
namespace M
def IsR (l : List Nat) (v : Value) (w : World) : Prop := RdV w v l.length (MM.nl l)
def IsM (l : List (List Nat)) (v : Value) (w : World) : Prop := ∃ bo c, v = .slice bo l.length c ∧ Mat w bo l.length (MM.lenL l) (MM.nlR l)
def IsP (ls lt : List Nat) (v : Value) (w : World) : Prop := ∃ bo c, v = .slice bo ls.length c ∧ PairR w bo ls.length (MM.nl ls) (MM.nl lt)
theorem IsR.below {l : List Nat} {v : Value} {w w' : World} (h : IsR l v w) (hb : Below w.heap.size w w') : IsR l v w' := RdV.below h hb
theorem IsM.below {l : List (List Nat)} {v : Value} {w w' : World} (h : IsM l v w) (hb : Below w.heap.size w w') : IsM l v w' := let ⟨bo, c, e, h1⟩ := h; ⟨bo, c, e, h1.below hb⟩
theorem IsP.below {ls lt : List Nat} {v : Value} {w w' : World} (h : IsP ls lt v w) (hb : Below w.heap.size w w') : IsP ls lt v w' := let ⟨bo, c, e, h1⟩ := h; ⟨bo, c, e, h1.below hb⟩
def wR (l : List Nat) : RK.Word := ⟨IsR l, fun _ _ _ h hb => h.below hb⟩
def wM (l : List (List Nat)) : RK.Word := ⟨IsM l, fun _ _ _ h hb => h.below hb⟩
def wP (ls lt : List Nat) : RK.Word := ⟨IsP ls lt, fun _ _ _ h hb => h.below hb⟩
theorem isR_new (w : World) (l : List Nat) {cs : Array Value} {n : Nat} (hn : l.length = n) (hc : cs = (l.map fun x : Nat => Value.int .u64 ((x : Nat) : Int)).toArray) : IsR l (.slice (some ⟨w.heap.size, 0, none⟩) n n) (w.alloc (.cells cs 23)) := by
  subst hn hc
  refine ⟨_, _, rfl, fun _ => ⟨_, rfl, fun k hk => ?_⟩, fun h => by cases h⟩
  rw [add_zero', cell_of_row _ _ _ _ _ _ (heap_alloc_new w _)]
  simp [MM.nl, hk]
theorem isR_of {l : List Nat} {w : World} {B n : Nat} (h : Row w ⟨B, 0, none⟩ n (MM.nl l)) (hn : n = l.length) : IsR l (.slice (some ⟨B, 0, none⟩) n n) w := by
  subst hn
  exact ⟨_, _, rfl, row_rd' h, fun h => by cases h⟩
theorem isM_new (w : World) (rows : List (List Nat)) (vs : List Value) {n : Nat} (hn : rows.length = n) (hv : ∀ i, i < n → ∃ u, vs[i]? = some u ∧ IsR (rows.getD i []) u w) : IsM rows (.slice (some ⟨w.heap.size, 0, none⟩) n n) (w.alloc (.cells vs.toArray 27)) := by
  subst hn
  refine ⟨_, _, rfl, fun i hi => ?_⟩
  obtain ⟨u, h1, ao, c, rfl, h2⟩ := hv i hi
  refine ⟨_, ao, c, rfl, ?_, h2.below (below_box w _)⟩
  rw [add_zero', cell_of_row _ _ _ _ _ _ (heap_alloc_new w _), List.getElem?_toArray]
  exact h1
theorem isM2 (w : World) (a b : List Nat) {u v : Value} (h1 : IsR a u w) (h2 : IsR b v w) : IsM [a, b] (.slice (some ⟨w.heap.size, 0, none⟩) 2 2) (w.alloc (.cells #[u, v] 27)) :=
  isM_new w [a, b] [u, v] rfl fun i hi => by
    match i, hi with
    | 0, _ => exact ⟨_, rfl, h1⟩
    | 1, _ => exact ⟨_, rfl, h2⟩
theorem isP_new (w : World) (ls lt : List Nat) {cs : Array Value} {t : TypeId} {n : Nat} (hn : ls.length = n) (hc : ∀ k, k < n → cs[k * 2]? = some (.int .u64 ((MM.nl ls k : Nat) : Int)) ∧ cs[k * 2 + 1]? = some (.int .u64 ((MM.nl lt k : Nat) : Int))) : IsP ls lt (.slice (some ⟨w.heap.size, 0, none⟩) n n) (w.alloc (.cells cs t)) := by
  subst hn
  exact ⟨_, _, rfl, pair_row ls lt (heap_alloc_new w _) hc⟩
end M
end Go.Proofs.Ytlnlepadninnaaa

/- The texts WirNam, one behind the other. -/
import Derived.Test.YtaijnejbffnfpaaWB10
import Derived.Test.YtaijnejbffnfpaaWB6
import Derived.Test.YtaijnejbffnfpaaWB1
/- The table of WireNames; texts and rows of zeros. -/
namespace Go.Proofs.Ytaijnejbffnfpaa
open Go Go.RowKit Go.Lib
namespace M
abbrev tS : List (List UInt8) := [[], [49, 50, 51, 52, 53, 54, 55], [], [0], [0, 2, 97], [8, 1], [8, 0], [0, 0], [4, 1], [0, 1, 49, 50, 51, 52, 53, 54, 55], [0, 1], [0], [0, 0, 0, 0, 0, 0, 0, 5], [0, 0, 0, 0, 0, 0, 0, 0], [128, 0, 0, 0, 0, 0, 0, 5], [0, 0, 0, 0, 0, 0, 5], [0, 0, 0, 0, 0, 0, 0, 5]]
abbrev tK : List Nat := [0, 1, 2, 3, 3, 3, 3, 3, 4, 4, 4, 4, 5, 5, 5, 5, 5]
abbrev tM : List Int := [0, 0, 0, 0, 0, 0, 0, 0, 0, 0, 0, 0, 4, -1, 9223372036854775807, 9, 5]
abbrev tE : List Int := [8, 8, 8, 8, 8, 40, 8, 0, 40, 8, 8, 8, 4, 4, 4, 8, 0]
/-- What is told of a row of the table. -/
def RowOk (s : List UInt8) (k : Nat) (m e : Int) : Prop := s.length ≤ 20 ∧ k < 256 ∧ m ≤ 9223372036854775807 ∧ (k = 5 → (MM.rCount m s 0).2 = (e, [])) ∧ (k ≠ 5 → (MM.need k s).1 = e ∧ (e = 0 → (MM.need k s).2 = s.length))
instance (s : List UInt8) (k : Nat) (m e : Int) : Decidable (RowOk s k m e) := by unfold RowOk; infer_instance
theorem tab_ok : ∀ k, k < 17 → RowOk (tS.getD k []) (tK.getD k 0) (tM.getD k 0) (tE.getD k 0) := by decide +kernel
theorem tab_at (W : World) (T : TypeId) (k : Nat) (hk : k < 17) : (W.alloc (.cells #[.string ⟨#[]⟩, .int .u8 0, .int .i64 0, .int .i64 8, .string ⟨#[49, 50, 51, 52, 53, 54, 55]⟩, .int .u8 1, .int .i64 0, .int .i64 8, .string ⟨#[]⟩, .int .u8 2, .int .i64 0, .int .i64 8, .string ⟨#[0]⟩, .int .u8 3, .int .i64 0, .int .i64 8, .string ⟨#[0, 2, 97]⟩, .int .u8 3, .int .i64 0, .int .i64 8, .string ⟨#[8, 1]⟩, .int .u8 3, .int .i64 0, .int .i64 40, .string ⟨#[8, 0]⟩, .int .u8 3, .int .i64 0, .int .i64 8, .string ⟨#[0, 0]⟩, .int .u8 3, .int .i64 0, .int .i64 0, .string ⟨#[4, 1]⟩, .int .u8 4, .int .i64 0, .int .i64 40, .string ⟨#[0, 1, 49, 50, 51, 52, 53, 54, 55]⟩, .int .u8 4, .int .i64 0, .int .i64 8, .string ⟨#[0, 1]⟩, .int .u8 4, .int .i64 0, .int .i64 8, .string ⟨#[0]⟩, .int .u8 4, .int .i64 0, .int .i64 8, .string ⟨#[0, 0, 0, 0, 0, 0, 0, 5]⟩, .int .u8 5, .int .i64 4, .int .i64 4, .string ⟨#[0, 0, 0, 0, 0, 0, 0, 0]⟩, .int .u8 5, .int .i64 (-1), .int .i64 4, .string ⟨#[128, 0, 0, 0, 0, 0, 0, 5]⟩, .int .u8 5, .int .i64 9223372036854775807, .int .i64 4, .string ⟨#[0, 0, 0, 0, 0, 0, 5]⟩, .int .u8 5, .int .i64 9, .int .i64 8, .string ⟨#[0, 0, 0, 0, 0, 0, 0, 5]⟩, .int .u8 5, .int .i64 5, .int .i64 0] T)).rangeAt W.heap.size (k * 4) [.string ⟨(tS.getD k []).toArray⟩, .int .u8 ((tK.getD k 0 : Nat) : Int), .int .i64 (tM.getD k 0), .int .i64 (tE.getD k 0)] := by
  intro j v hv
  rw [cell_of_row _ _ _ _ _ _ (heap_alloc_new W _)]
  have h : k = 0 ∨ k = 1 ∨ k = 2 ∨ k = 3 ∨ k = 4 ∨ k = 5 ∨ k = 6 ∨ k = 7 ∨ k = 8 ∨ k = 9 ∨ k = 10 ∨ k = 11 ∨ k = 12 ∨ k = 13 ∨ k = 14 ∨ k = 15 ∨ k = 16 := by omega
  clear hk
  rcases h with rfl | rfl | rfl | rfl | rfl | rfl | rfl | rfl | rfl | rfl | rfl | rfl | rfl | rfl | rfl | rfl | rfl <;> (match j, hv with | 0, hv => exact hv | 1, hv => exact hv | 2, hv => exact hv | 3, hv => exact hv | j + 4, hv => cases hv)
theorem got_row {s : List UInt8} {k : Nat} {m e er : Int} {y : Th} {rest : List UInt8} (h : RowOk s k m e) (h5 : k ≠ 5) (hg : GotS k s y er rest) : er = e ∧ rest = [] := by
  obtain ⟨h1, h2⟩ := h.2.2.2.2 h5
  rcases hg.or with ⟨rfl, c, hc, _, hr, hn⟩ | ⟨_, hr, _, _, _, hn⟩
  · rw [hn] at h1 h2
    simp only at h1 h2
    refine ⟨h1, ?_⟩
    rw [hr, h2 h1.symm]; simp
  · exact ⟨hn.symm.trans h1, hr⟩
theorem off_none (e : Int) : MM.rOff 1 [] e = (0, (if e = 0 then 8 else e), []) := by
  unfold MM.rOff
  by_cases h : e = 0
  · subst h; simp
  · simp [h]
/-- The reader of a row of the table, and the row's own box. -/
structure NK (W : World) (g gb : Nat) (cs : Array Value) (T : TypeId) (s : List UInt8) (e : Int) (w : World) : Prop where
  rg : InG W g s e w
  box : w.heap[gb]? = some (.cells cs T (0, 0))
  ne : gb ≠ g
theorem NK.next {W w w1 : World} {g gb : Nat} {cs : Array Value} {T : TypeId} {s s' : List UInt8} {e e' : Int} (h : NK W g gb cs T s e w) (hr : RAt WR g s' e' w1) (ht : Turn g w w1) : NK W g gb cs T s' e' w1 :=
  ⟨h.rg.next hr ht, (ht.block gb (row_lt h.box) h.ne).trans h.box, h.ne⟩
theorem NK.drewN {W w : World} {g gb : Nat} {cs : Array Value} {T : TypeId} {s : List UInt8} {e : Int} (h : NK W g gb cs T s e w) (n : Nat) : NK W g gb cs T s e (w.drewN n) :=
  ⟨h.rg.step (Below.drawn (Below.refl _ _) n), h.box, h.ne⟩
theorem InG.left {W w : World} {g : Nat} {s : List UInt8} {e : Int} (h : InG W g s e w) (n : Nat) : Calls Try.prog 19 #[.pointer (some ⟨g, 0, none⟩)] (w.drewN n) fun e' w' => e' = .returned (.int .i64 (s.length : Int)) ∧ ∃ m, w' = w.drewN m :=
  (left_any g s e _ (h.rg.drewN n)).mono fun _ _ ⟨a, b⟩ => ⟨a, n, b⟩
theorem InG.wrong {W w : World} {g : Nat} {s : List UInt8} {e : Int} (h : InG W g s e w) (n : Nat) : Calls Try.prog 18 #[.pointer (some ⟨g, 0, none⟩)] (w.drewN n) fun e' w' => e' = .returned (.int .i64 e) ∧ ∃ m, w' = w.drewN m :=
  (wrong_any g s e _ (h.rg.drewN n)).mono fun _ _ ⟨a, b⟩ => ⟨a, n, b⟩
theorem InG.endN {W w : World} {g : Nat} {e : Int} (h : InG W g [] e w) (n : Nat) : Calls Try.prog 17 #[.pointer (some ⟨g, 0, none⟩)] (w.drewN n) fun e' w' => e' = .returned (.int .i64 e) ∧ ∃ m, w' = w.drewN m :=
  (end_none g e _ (h.rg.drewN n)).mono fun _ _ ⟨a, b⟩ => ⟨a, n, b⟩
/-- A text of zeros, out of a row that make laid. -/
theorem zeros_text (n : Nat) : ∃ l : List UInt8, l.length = n ∧ ∀ w : World, (convert 49 9 (.slice (some ⟨w.heap.size, 0, none⟩) n n)).run Try.prog (w.alloc (.cells (madeCells #[.int .u8 0] n) 5)) = .ok (.string ⟨l.toArray⟩) (w.alloc (.cells (madeCells #[.int .u8 0] n) 5)) :=
  ⟨List.replicate n 0, by simp, fun w => (MineB.made w n).text _ _ (by simp) (fun k hk => by simp [List.getD_eq_getElem?_getD, hk])⟩
end M
end Go.Proofs.Ytaijnejbffnfpaa

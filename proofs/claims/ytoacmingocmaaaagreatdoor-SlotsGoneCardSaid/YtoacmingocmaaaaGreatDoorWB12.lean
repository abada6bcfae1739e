/- The texts SltHead, WirMeth, SltW1, one behind the other. -/
import Derived.Test.YtoacmingocmaaaaGreatDoorWB10
import Derived.Test.YtoacmingocmaaaaGreatDoorWB11
import Derived.Test.YtoacmingocmaaaaGreatDoorWB7
import Derived.Test.YtoacmingocmaaaaGreatDoorWB3
import Derived.Laws.Tables
/- What a reader tells of a header. -/
namespace Go.Proofs.YtoacmingocmaaaaGreatDoor
namespace MM
theorem head_read {t : By} (hn : t.length = 512 ∨ t = []) {a1 a2 a3 : Nat} {e1 e2 e3 : Int} {r1 r2 r3 : By} (h1 : rCount 1099511627776 t 0 = (a1, e1, r1)) (h2 : rCount 16776704 r1 e1 = (a2, e2, r2)) (h3 : rCount 1099511627776 r2 e2 = (a3, e3, r3)) :
    (e3 = 0 → a1 = a3 → headOf t = (a1, a2)) ∧ (e3 = 0 → a1 ≠ a3 → headOf t = (0, 0)) ∧ (e3 ≠ 0 → headOf t = (0, 0)) := by
  have old : ∀ {m : Int} {s : By} {e : Int} {a : Nat} {e' : Int} {r : By}, e ≠ 0 → rCount m s e = (a, e', r) → e' ≠ 0 := fun he h => by
    rw [rCount_old he] at h; simp only [Prod.mk.injEq] at h; rw [← h.2.1]; exact he
  rcases hn with hn | rfl
  · have two : ∀ (m : Nat) (s : By), 8 ≤ s.length → (m < val (s.take 8) ∧ rCount (m : Int) s 0 = (0, 4, [])) ∨ (val (s.take 8) ≤ m ∧ rCount (m : Int) s 0 = (val (s.take 8), 0, s.drop 8)) := fun m s hs => by
      by_cases hm : m < val (s.take 8)
      · exact .inl ⟨hm, rCount_form hs (.inr (by omega))⟩
      · exact .inr ⟨by omega, rCount_good hs (by omega)⟩
    have neg : ¬ (24 ≤ t.length ∧ val (t.take 8) ≤ top ∧ val ((t.drop 8).take 8) ≤ most ∧ val ((t.drop 16).take 8) ≤ top ∧ val (t.take 8) = val ((t.drop 16).take 8)) → headOf t = (0, 0) := fun h => by unfold headOf; rw [if_neg h]
    rcases two 1099511627776 t (by omega) with ⟨m1, q1⟩ | ⟨m1, q1⟩
    · have q1 := q1.symm.trans h1
      simp only [Prod.mk.injEq] at q1
      have k2 := old (by rw [← q1.2.1]; decide) h2
      have k3 := old k2 h3
      exact ⟨fun h => absurd h k3, fun h => absurd h k3, fun _ => neg fun h => by have := h.2.1; unfold top at this; omega⟩
    have q1 := q1.symm.trans h1
    simp only [Prod.mk.injEq] at q1
    obtain ⟨qa, qe, qr⟩ := q1
    rw [← qe, ← qr] at h2
    rcases two 16776704 (t.drop 8) (by rw [List.length_drop]; omega) with ⟨m2, q2⟩ | ⟨m2, q2⟩
    · have q2 := q2.symm.trans h2
      simp only [Prod.mk.injEq] at q2
      have k3 := old (by rw [← q2.2.1]; decide) h3
      exact ⟨fun h => absurd h k3, fun h => absurd h k3, fun _ => neg fun h => by have := h.2.2.1; unfold most at this; omega⟩
    have q2 := q2.symm.trans h2
    simp only [Prod.mk.injEq] at q2
    obtain ⟨qb, qf, qs⟩ := q2
    rw [← qf, ← qs, List.drop_drop, show 8 + 8 = 16 from rfl] at h3
    rcases two 1099511627776 (t.drop 16) (by rw [List.length_drop]; omega) with ⟨m3, q3⟩ | ⟨m3, q3⟩
    · have q3 := q3.symm.trans h3
      simp only [Prod.mk.injEq] at q3
      have k3 : e3 ≠ 0 := by rw [← q3.2.1]; decide
      exact ⟨fun h => absurd h k3, fun h => absurd h k3, fun _ => neg fun h => by have := h.2.2.2.1; unfold top at this; omega⟩
    have q3 := q3.symm.trans h3
    simp only [Prod.mk.injEq] at q3
    obtain ⟨qc, qg, _⟩ := q3
    refine ⟨fun _ h => ?_, fun _ h => neg fun h2 => h (by rw [← qa, ← qc]; exact h2.2.2.2.2), fun h => absurd qg.symm h⟩
    unfold headOf
    rw [if_pos ⟨by omega, by unfold top; omega, by unfold most; omega, by unfold top; omega, by rw [qa, qc]; exact h⟩, qa, qb]
  · rw [rCount_short (by simp)] at h1
    simp only [Prod.mk.injEq] at h1
    have k2 := old (by rw [← h1.2.1]; decide) h2
    have k3 := old k2 h3
    exact ⟨fun h => absurd h k3, fun h => absurd h k3, fun _ => headOf_nil⟩
end MM
end Go.Proofs.YtoacmingocmaaaaGreatDoor
/- The reader's methods for a text and a count, and its end. -/
namespace Go.Proofs.YtoacmingocmaaaaGreatDoor
open Go Go.RowKit Go.Lib
namespace M
theorem cl_count_bad (c d g : Nat) (s : List UInt8) (w : World) (hc : w.cell? ⟨c, 0, none⟩ = some (.pointer (some ⟨g, 0, none⟩))) (h : RAt WR g s 0 w) (hs : s.length < 8) :
    Calls Tryz.prog 93 #[.pointer (some ⟨c, 0, none⟩), .pointer (some ⟨d, 0, none⟩)] w fun e w' => e = .panicked (ErrP 8) ∧ (∃ s2, RAt WR g s2 0 w') ∧ Turn g w w' := by
  have H : Calls Tryz.prog 94 #[.pointer (some ⟨g, 0, none⟩), .int .i64 8] w fun e' w' => e' = .panicked (ErrP 8) ∧ RAt WR g s 0 w' ∧ Turn g w w' := number_bad g s 0 8 w h hs
  go_enter Tryz.func93, Tryz.ntmps93
  go_wp2_with (go_at_call 94; (with_reducible refine H.mono ?_); rintro e w' ⟨rfl, hr, ht⟩)
  exact ⟨rfl, rfl, ⟨s, hr⟩, ht⟩
set_option maxHeartbeats 1000000 in
theorem cl_count_form (c d g : Nat) (most : Int) (s : List UInt8) (w : World) (hc : w.cell? ⟨c, 0, none⟩ = some (.pointer (some ⟨g, 0, none⟩))) (hd : w.cell? ⟨d, 0, none⟩ = some (.int .i64 most)) (h : RAt WR g s 0 w) (hs : 8 ≤ s.length) (hm : most < 0 ∨ most < (MM.val (s.take 8) : Int)) (hm2 : most ≤ 9223372036854775807) :
    Calls Tryz.prog 93 #[.pointer (some ⟨c, 0, none⟩), .pointer (some ⟨d, 0, none⟩)] w fun e w' => e = .panicked (ErrP 4) ∧ (∃ s2, RAt WR g s2 0 w') ∧ Turn g w w' := by
  have hdg : d ≠ g := fun e => by subst e; rw [h.rest] at hd; cases hd
  have H : Calls Tryz.prog 94 #[.pointer (some ⟨g, 0, none⟩), .int .i64 8] w fun e' w' => e' = .returned (.int .u64 ((MM.val (s.take 8) : Nat) : Int)) ∧ RAt WR g (s.drop 8) 0 w' ∧ Turn g w w' := number_good g s 0 8 w h hs (by omega)
  generalize MM.val (s.take 8) = v at *
  by_cases h0 : most < 0
  · go_enter Tryz.func93, Tryz.ntmps93
    go_wp2_with (go_at_call 94; (with_reducible refine H.mono ?_); rintro e w' ⟨rfl, hr, ht⟩; have hd1 := ht.cell hd hdg)
    exact ⟨rfl, rfl, ⟨_, hr⟩, ht⟩
  · have hw : IntKind.u64.wrap most = most := by simp [IntKind.wrap, IntKind.bits, IntKind.signed]; omega
    have hlt : most < (v : Int) := hm.resolve_left h0
    have hlt2 : decide (most < (v : Int)) = true := decide_eq_true hlt
    go_enter Tryz.func93, Tryz.ntmps93
    go_wp2_with (go_at_call 94; (with_reducible refine H.mono ?_); rintro e w' ⟨rfl, hr, ht⟩; have hd1 := ht.cell hd hdg)
    exact ⟨rfl, rfl, ⟨_, hr⟩, ht⟩
set_option maxHeartbeats 1000000 in
theorem cl_count_good (c d g : Nat) (most : Int) (s : List UInt8) (w : World) (hc : w.cell? ⟨c, 0, none⟩ = some (.pointer (some ⟨g, 0, none⟩))) (hd : w.cell? ⟨d, 0, none⟩ = some (.int .i64 most)) (h : RAt WR g s 0 w) (hs : 8 ≤ s.length) (hm : ¬ (most < 0 ∨ most < (MM.val (s.take 8) : Int))) (hm2 : most ≤ 9223372036854775807) :
    Calls Tryz.prog 93 #[.pointer (some ⟨c, 0, none⟩), .pointer (some ⟨d, 0, none⟩)] w fun e w' => ∃ v, e = .returned v ∧ (v = .int .i64 ((MM.val (s.take 8) : Nat) : Int) ∧ RAt WR g (s.drop 8) 0 w' ∧ Turn g w w') := by
  have hdg : d ≠ g := fun e => by subst e; rw [h.rest] at hd; cases hd
  have H : Calls Tryz.prog 94 #[.pointer (some ⟨g, 0, none⟩), .int .i64 8] w fun e' w' => e' = .returned (.int .u64 ((MM.val (s.take 8) : Nat) : Int)) ∧ RAt WR g (s.drop 8) 0 w' ∧ Turn g w w' := number_good g s 0 8 w h hs (by omega)
  generalize MM.val (s.take 8) = v at *
  have h0 : ¬ most < 0 := fun h => hm (.inl h)
  have hlt : ¬ most < (v : Int) := fun h => hm (.inr h)
  have hlt2 : decide (most < (v : Int)) = false := decide_eq_false hlt
  have hw : IntKind.u64.wrap most = most := by simp [IntKind.wrap, IntKind.bits, IntKind.signed]; omega
  have hv : IntKind.i64.wrap (v : Int) = (v : Int) := by simp [IntKind.wrap, IntKind.bits, IntKind.signed]; omega
  clear hm
  go_enter Tryz.func93, Tryz.ntmps93
  go_wp2_with (go_at_call 94; (with_reducible refine H.mono ?_); rintro e w' ⟨rfl, hr, ht⟩; have hd1 := ht.cell hd hdg)
  go_ret
  exact ⟨_, rfl, rfl, hr, ht⟩
set_option maxHeartbeats 1000000 in
theorem count_nil (most : Int) (W : World) : Calls Tryz.prog 76 #[.pointer none, .int .i64 most] W fun e' w' => e' = .returned (.tuple #[.int .i64 0, .int .i64 2]) ∧ Below W.heap.size W w' := by
  have hmf : ∀ (fn : Fn) (first cap : Array Value) (w : World), (Instr.makeFunc fn first cap).run Tryz.prog w = .ok (.func fn first cap) w := fun _ _ _ _ => rfl
  have H := fun fv w => item_nil_count fv w
  have HB : Hid (Below W.heap.size W ((W.alloc (.cells #[.pointer none] 108)).alloc (.cells #[.int .i64 most] 3))) := Lib.hid ((below_box _ _).alloc (by simp) _)
  go_enter Tryz.func76, Tryz.ntmps76
  go_wp2_with (go_at_call 92; (with_reducible refine (H _ _).mono ?_); rintro e w' ⟨rfl, hb⟩)
  go_ret2
  exact ⟨rfl, HB.out.trans (hb.mono HB.out.size)⟩
set_option maxHeartbeats 1000000 in
theorem count_ask (g : Nat) (s : List UInt8) (e most : Int) (hm2 : most ≤ 9223372036854775807) (W : World) (h : RAt WR g s e W) :
    Calls Tryz.prog 76 #[.pointer (some ⟨g, 0, none⟩), .int .i64 most] W fun e' w' => e' = .returned (.tuple #[.int .i64 (((MM.rCount most s e).1 : Nat) : Int), .int .i64 (MM.rCount most s e).2.1]) ∧ RAt WR g (MM.rCount most s e).2.2 (MM.rCount most s e).2.1 w' ∧ Turn g W w' := by
  have hmf : ∀ (fn : Fn) (first cap : Array Value) (w : World), (Instr.makeFunc fn first cap).run Tryz.prog w = .ok (.func fn first cap) w := fun _ _ _ _ => rfl
  have HB : Hid (Below W.heap.size W ((W.alloc (.cells #[.pointer (some ⟨g, 0, none⟩)] 108)).alloc (.cells #[.int .i64 most] 3))) := Lib.hid ((below_box _ _).alloc (by simp) _)
  have HX := h.step HB.out
  have hcx : ((W.alloc (.cells #[.pointer (some ⟨g, 0, none⟩)] 108)).alloc (.cells #[.int .i64 most] 3)).cell? ⟨W.heap.size, 0, none⟩ = some (.pointer (some ⟨g, 0, none⟩)) := by simp [go_sem]
  have hdx : ((W.alloc (.cells #[.pointer (some ⟨g, 0, none⟩)] 108)).alloc (.cells #[.int .i64 most] 3)).cell? ⟨W.heap.size + 1, 0, none⟩ = some (.int .i64 most) := by simp [go_sem]
  have hsz : ((W.alloc (.cells #[.pointer (some ⟨g, 0, none⟩)] 108)).alloc (.cells #[.int .i64 most] 3)).heap.size = W.heap.size + 2 := by simp
  have HC := Lib.hid hcx
  have HDx := Lib.hid hdx
  have HS := Lib.hid hsz
  clear hcx hdx hsz
  have hcc : ∀ w, Below ((W.alloc (.cells #[.pointer (some ⟨g, 0, none⟩)] 108)).alloc (.cells #[.int .i64 most] 3)).heap.size ((W.alloc (.cells #[.pointer (some ⟨g, 0, none⟩)] 108)).alloc (.cells #[.int .i64 most] 3)) w → w.cell? ⟨W.heap.size, 0, none⟩ = some (.pointer (some ⟨g, 0, none⟩)) := fun w hw => (hw.cell (p := ⟨W.heap.size, 0, none⟩) (by rw [HS.out]; exact Nat.lt_add_of_pos_right (by omega))).trans HC.out
  have hdd : ∀ w, Below ((W.alloc (.cells #[.pointer (some ⟨g, 0, none⟩)] 108)).alloc (.cells #[.int .i64 most] 3)).heap.size ((W.alloc (.cells #[.pointer (some ⟨g, 0, none⟩)] 108)).alloc (.cells #[.int .i64 most] 3)) w → w.cell? ⟨W.heap.size + 1, 0, none⟩ = some (.int .i64 most) := fun w hw => (hw.cell (p := ⟨W.heap.size + 1, 0, none⟩) (by rw [HS.out]; exact Nat.lt_succ_self _)).trans HDx.out
  have HCC := Lib.hid hcc
  have HDD := Lib.hid hdd
  clear hcc hdd
  by_cases he : e = 0
  · subst he
    by_cases hs : s.length < 8
    · rw [MM.rCount_short hs]
      have H := item_bad_count 93 #[.pointer (some ⟨W.heap.size, 0, none⟩), .pointer (some ⟨W.heap.size + 1, 0, none⟩)] g s 8 _ HX (fun w => by kernel_rfl)
        (fun w hw => cl_count_bad W.heap.size (W.heap.size + 1) g s w (HCC.out w hw) (HX.step hw) hs)
      go_enter Tryz.func76, Tryz.ntmps76
      go_wp2_with (go_at_call 92; (with_reducible refine H.mono ?_); rintro e w' ⟨rfl, hr, ht⟩)
      go_ret2
      exact ⟨rfl, hr, (Turn.of HB.out).trans ht⟩
    have hs := Nat.le_of_not_lt hs
    by_cases hm : most < 0 ∨ most < (MM.val (s.take 8) : Int)
    · rw [MM.rCount_form hs hm]
      have H := item_bad_count 93 #[.pointer (some ⟨W.heap.size, 0, none⟩), .pointer (some ⟨W.heap.size + 1, 0, none⟩)] g s 4 _ HX (fun w => by kernel_rfl)
        (fun w hw => cl_count_form W.heap.size (W.heap.size + 1) g most s w (HCC.out w hw) (HDD.out w hw) (HX.step hw) hs hm hm2)
      clear hm
      go_enter Tryz.func76, Tryz.ntmps76
      go_wp2_with (go_at_call 92; (with_reducible refine H.mono ?_); rintro e w' ⟨rfl, hr, ht⟩)
      go_ret2
      exact ⟨rfl, hr, (Turn.of HB.out).trans ht⟩
    · rw [MM.rCount_good hs hm]
      have H := item_ok_count 93 #[.pointer (some ⟨W.heap.size, 0, none⟩), .pointer (some ⟨W.heap.size + 1, 0, none⟩)] g s _ HX (fun w v w' => v = .int .i64 ((MM.val (s.take 8) : Nat) : Int) ∧ RAt WR g (s.drop 8) 0 w' ∧ Turn g w w') (fun w => by kernel_rfl) (fun w v w' h => h.2.2)
        (fun w hw => cl_count_good W.heap.size (W.heap.size + 1) g most s w (HCC.out w hw) (HDD.out w hw) (HX.step hw) hs hm hm2)
      clear hm
      go_enter Tryz.func76, Tryz.ntmps76
      go_wp2_with (go_at_call 92; (with_reducible refine H.mono ?_); rintro e w' ⟨v, w1, rfl, hb, rfl, hr, ht⟩)
      go_ret2
      exact ⟨rfl, hr, (Turn.of HB.out).trans ((Turn.of hb).trans ht)⟩
  · rw [MM.rCount_old he]
    have H := fun fv => item_old_count fv g s e _ HX he
    go_enter Tryz.func76, Tryz.ntmps76
    go_wp2_with (go_at_call 92; (with_reducible refine (H _).mono ?_); rintro e w' ⟨rfl, hb⟩)
    go_ret2
    exact ⟨rfl, HX.step hb, (Turn.of HB.out).trans (Turn.of hb)⟩
end M
end Go.Proofs.YtoacmingocmaaaaGreatDoor
/- The walks of what looks at a disk's slots: one slot, the newest one and the other one, the age. -/
namespace Go.Proofs.YtoacmingocmaaaaGreatDoor
open Go Go.RowKit Go.Lib
namespace M
open MM
abbrev SL : TypeId := 60
abbrev slC (x : Sl) : Array Value := #[.int .i64 x.at_, .int .i64 (x.age : Int), .int .i64 (x.len : Int)]
abbrev slV (x : Sl) : Value := .agg (slC x)
abbrev sl0 : Array Value := #[.int .i64 0, .int .i64 0, .int .i64 0]
theorem info_sl (x y z : Value) : (Tryz.prog.info? 60).map (·.size) = some (#[x, y, z] : Array Value).size := by kernel_rfl
theorem load_sl {w : World} {g : Nat} {c : Array Value} {x y z : Value} (h : w.heap[g]? = some (.cells c 60 (0, 0))) (hc : c = #[x, y, z]) : (loadVar 60 ⟨g, 0, none⟩).run Tryz.prog w = .ok (.agg c) w := by
  subst hc
  exact run_loadVar_row w g 60 60 #[x, y, z] (0, 0) _ h Tryz.underlying60 rfl (by kernel_rfl)
section
variable {w : World} {F : Nat → Prop} {B N : Nat} {s : Dsk}
/-- A slot's struct in a block of its own. -/
theorem sl_cells {w : World} {g : Nat} {x y z : Value} (h : w.heap[g]? = some (.cells #[x, y, z] 60 (0, 0))) : w.cell? ⟨g, 0, none⟩ = some x ∧ w.cell? ⟨g, 1, none⟩ = some y ∧ w.cell? ⟨g, 2, none⟩ = some z ∧ ∀ j, w.frozen? ⟨g, j, none⟩ = false :=
  ⟨(cell_of_row w g 0 _ _ _ h).trans rfl, (cell_of_row w g 1 _ _ _ h).trans rfl, (cell_of_row w g 2 _ _ _ h).trans rfl, fun j => by simp [World.frozen?, h]⟩
theorem sl_set {w : World} {g : Nat} {x y z x' y' z' : Value} (h : w.heap[g]? = some (.cells #[x, y, z] 60 (0, 0))) : (((w.setCell ⟨g, 0, none⟩ x').setCell ⟨g, 1, none⟩ y').setCell ⟨g, 2, none⟩ z').heap[g]? = some (.cells #[x', y', z'] 60 (0, 0)) :=
  heap_setCell_same _ g 2 _ _ _ (heap_setCell_same _ g 1 _ _ _ (heap_setCell_same w g 0 _ _ _ h))
theorem sl_below {w w6 : World} {g : Nat} (h : Below w.heap.size w w6) (hg : w.heap.size ≤ g) (x y z : Value) : Below w.heap.size w (((w6.setCell ⟨g, 0, none⟩ x).setCell ⟨g, 1, none⟩ y).setCell ⟨g, 2, none⟩ z) :=
  ((h.setCell (p := ⟨g, 0, none⟩) hg x).setCell (p := ⟨g, 1, none⟩) hg y).setCell (p := ⟨g, 2, none⟩) hg z
theorem read_512 (h : s.Wf) (k : Int) : (s.read k).length = 512 ∨ s.read k = [] := by
  unfold Dsk.read
  split
  · exact .inr rfl
  · split
    · left
      cases e : lastOf s.c k with
      | none => exact h.p.len k
      | some t => exact (h.c _ (lastOf_some e)).2
    · exact .inr rfl
set_option maxRecDepth 100000 in
set_option maxHeartbeats 4000000 in
theorem slotAt_any (h : Dk w F B N s) (k : Int) : Calls Tryz.prog 55 #[ptr B, .int .i64 k] w fun e w' => e = .returned (slV (slotV s.read k)) ∧ Below w.heap.size w w' := by
  have hb1 := below_box w (.cells sl0 60)
  have hg1 := heap_alloc_new w (.cells sl0 60)
  have HRD := Lib.hid (read_any (h.step hb1) k)
  have hn := read_512 h.wf k
  obtain ⟨t, ht⟩ : ∃ t, s.read k = t := ⟨_, rfl⟩
  have hsl : slotV s.read k = ⟨k, (headOf t).1, (headOf t).2⟩ := by unfold slotV; rw [ht]
  rw [hsl]
  rw [ht] at HRD hn
  obtain ⟨⟨a1, e1, r1⟩, q1⟩ : ∃ q, rCount 1099511627776 t 0 = q := ⟨_, rfl⟩
  obtain ⟨⟨a2, e2, r2⟩, q2⟩ : ∃ q, rCount 16776704 r1 e1 = q := ⟨_, rfl⟩
  obtain ⟨⟨a3, e3, r3⟩, q3⟩ : ∃ q, rCount 1099511627776 r2 e2 = q := ⟨_, rfl⟩
  have hhr := head_read hn q1 q2 q3
  obtain ⟨hd, hhd⟩ : ∃ hd, headOf t = hd := ⟨_, rfl⟩
  rw [hhd] at hhr ⊢
  have HH := Lib.hid hhr
  have C1 : Hid (∀ g W, RAt WR g t 0 W → Calls Tryz.prog 76 #[.pointer (some ⟨g, 0, none⟩), .int .i64 1099511627776] W fun e' w' => e' = .returned (.tuple #[.int .i64 (a1 : Int), .int .i64 e1]) ∧ RAt WR g r1 e1 w' ∧ Turn g W w') := Lib.hid fun g W h => by
    have := count_ask g t 0 1099511627776 (by omega) W h
    rw [q1] at this; exact this
  have C2 : Hid (∀ g W, RAt WR g r1 e1 W → Calls Tryz.prog 76 #[.pointer (some ⟨g, 0, none⟩), .int .i64 16776704] W fun e' w' => e' = .returned (.tuple #[.int .i64 (a2 : Int), .int .i64 e2]) ∧ RAt WR g r2 e2 w' ∧ Turn g W w') := Lib.hid fun g W h => by
    have := count_ask g r1 e1 16776704 (by omega) W h
    rw [q2] at this; exact this
  have C3 : Hid (∀ g W, RAt WR g r2 e2 W → Calls Tryz.prog 76 #[.pointer (some ⟨g, 0, none⟩), .int .i64 1099511627776] W fun e' w' => e' = .returned (.tuple #[.int .i64 (a3 : Int), .int .i64 e3]) ∧ RAt WR g r3 e3 w' ∧ Turn g W w') := Lib.hid fun g W h => by
    have := count_ask g r2 e2 1099511627776 (by omega) W h
    rw [q3] at this; exact this
  have HOP : Hid (∀ W, _) := Lib.hid fun W => open_any t (by rcases hn with e | e <;> rw [e] <;> simp) W
  have HB1 := Lib.hid hb1
  have HG1 := Lib.hid hg1
  clear hb1 hg1 h ht hsl q1 q2 q3 hn hhr hhd
  go_enter Tryz.func55, Tryz.ntmps55
  go_upto_region 1 with fail
  generalize w.alloc (.cells sl0 60) = w1 at *
  go_upto_region 2 with (first
    | (go_at_call 36; (with_reducible refine HRD.out.mono ?_); rintro e w2 ⟨rfl, hb2⟩; have HB2 := Lib.hid (bnext HB1.out hb2); have HG2 := Lib.hid ((hb2.block _ (row_lt HG1.out)).trans HG1.out); clear hb2)
    | (go_at_call 75; (with_reducible refine (HOP.out _).mono ?_); rintro e w3 ⟨g, rfl, hlt, hr, hb3⟩; have HB3 := Lib.hid (bnext HB2.out hb3); have HG3 := Lib.hid ((hb3.block _ (row_lt HG2.out)).trans HG2.out); have HLT := Lib.hid (Nat.lt_of_lt_of_le (row_lt HG2.out) hlt); have HR3 := Lib.hid hr; have HLW := Lib.hid (show w.heap.size ≤ g from Nat.le_trans HB2.out.size hlt); clear hb3 hlt hr))
  go_upto_region 3 with (go_at_call 76; (with_reducible refine (C1.out _ _ HR3.out).mono ?_); rintro e w4 ⟨rfl, hr, ht⟩; have HR4 := Lib.hid hr; have HG4 := Lib.hid ((ht.block _ (row_lt HG3.out) (by have := HLT.out; omega)).trans HG3.out); have HB4 := Lib.hid (HB3.out.trans (ht.below HLW.out HB3.out.size)); clear hr ht)
  go_upto_region 4 with (go_at_call 76; (with_reducible refine (C2.out _ _ HR4.out).mono ?_); rintro e w5 ⟨rfl, hr, ht⟩; have HR5 := Lib.hid hr; have HG5 := Lib.hid ((ht.block _ (row_lt HG4.out) (by have := HLT.out; omega)).trans HG4.out); have HB5 := Lib.hid (HB4.out.trans (ht.below HLW.out HB4.out.size)); clear hr ht)
  go_upto_region 5 with (go_at_call 76; (with_reducible refine (C3.out _ _ HR5.out).mono ?_); rintro e w6 ⟨rfl, hr, ht⟩; have HR6 := Lib.hid hr; have HG6 := Lib.hid ((ht.block _ (row_lt HG5.out) (by have := HLT.out; omega)).trans HG5.out); have HB6 := Lib.hid (HB5.out.trans (ht.below HLW.out HB5.out.size)); clear hr ht)
  have HWR := Lib.hid (wrong_any g r3 e3 w6 HR6.out)
  have hg6 := HG6.out
  obtain ⟨c0, c1, c2, fr⟩ := sl_cells hg6
  have fr0 := fr 0
  have fr1 := fr 1
  have fr2 := fr 2
  clear fr
  clear C1 C2 C3 HOP HRD HB1 HG1 HB2 HG2 HB3 HG3 HR3 HB4 HG4 HR4 HB5 HG5 HR5 HLT HLW
  by_cases he : e3 = 0
  · have he2 : (e3 != 0) = false := by rw [he]; rfl
    by_cases ha : a1 = a3
    · have HQ := Lib.hid (HH.out.1 he ha)
      have ha2 : ((a1 : Int) != (a3 : Int)) = false := by rw [ha]; simp
      clear he ha
      obtain ⟨d0, d1, d2, _⟩ := sl_cells (sl_set hg6 (x' := .int .i64 k) (y' := .int .i64 (a1 : Int)) (z' := .int .i64 (a2 : Int)))
      have HBF := Lib.hid (sl_below HB6.out (Nat.le_refl _) (.int .i64 k) (.int .i64 (a1 : Int)) (.int .i64 (a2 : Int)))
      go_wp2_with (go_at_call 77; (with_reducible refine HWR.out.mono ?_); rintro e w7 ⟨rfl, rfl⟩)
      generalize (((w7.setCell _ _).setCell _ _).setCell _ _) = W3 at *
      exact bodyPost_ret (v := .agg #[.int .i64 k, .int .i64 (a1 : Int), .int .i64 (a2 : Int)]) (w := W3) (by simp [results, Tryz.results55, go_sem, d0, d1, d2]) rfl ⟨by rw [HQ.out] <;> rfl, HBF.out⟩
    · have HQ := Lib.hid (HH.out.2.1 he ha)
      have ha2 : ((a1 : Int) != (a3 : Int)) = true := by simpa using (by omega : ¬ (a1 : Int) = (a3 : Int))
      clear he ha
      obtain ⟨d0, d1, d2, _⟩ := sl_cells (sl_set hg6 (x' := .int .i64 k) (y' := .int .i64 0) (z' := .int .i64 0))
      have HBF := Lib.hid (sl_below HB6.out (Nat.le_refl _) (.int .i64 k) (.int .i64 0) (.int .i64 0))
      go_wp2_with (go_at_call 77; (with_reducible refine HWR.out.mono ?_); rintro e w7 ⟨rfl, rfl⟩)
      generalize (((w7.setCell _ _).setCell _ _).setCell _ _) = W3 at *
      exact bodyPost_ret (v := .agg #[.int .i64 k, .int .i64 0, .int .i64 0]) (w := W3) (by simp [results, Tryz.results55, go_sem, d0, d1, d2]) rfl ⟨by rw [HQ.out] <;> rfl, HBF.out⟩
  · have HQ := Lib.hid (HH.out.2.2 he)
    have he2 : (e3 != 0) = true := by simpa using he
    clear he
    obtain ⟨d0, d1, d2, _⟩ := sl_cells (sl_set hg6 (x' := .int .i64 k) (y' := .int .i64 0) (z' := .int .i64 0))
    have HBF := Lib.hid (sl_below HB6.out (Nat.le_refl _) (.int .i64 k) (.int .i64 0) (.int .i64 0))
    go_wp2_with (go_at_call 77; (with_reducible refine HWR.out.mono ?_); rintro e w7 ⟨rfl, rfl⟩)
    generalize (((w7.setCell _ _).setCell _ _).setCell _ _) = W3 at *
    exact bodyPost_ret (v := .agg #[.int .i64 k, .int .i64 0, .int .i64 0]) (w := W3) (by simp [results, Tryz.results55, go_sem, d0, d1, d2]) rfl ⟨by rw [HQ.out] <;> rfl, HBF.out⟩
/-- A slot's struct is loaded, is stored. -/
theorem sl_load {w : World} {g : Nat} {c : Array Value} (h : w.heap[g]? = some (.cells c 60 (0, 0))) {o : Oper} {ev : Operand → Value} {p : Operand} (ho : o.op = .load 60 p) (hp : ev p = .pointer (some ⟨g, 0, none⟩)) (hc : (Tryz.prog.info? 60).map (·.size) = some c.size := by kernel_rfl) : (execOp ev o).run Tryz.prog w = .ok (.value (.agg c)) w := by
  unfold execOp
  simp only [ho, hp, Instr.loadAt, Instr.sureAddr, Sem.run_bind, Sem.run_pure, Result.andThen_ok, run_loadVar_row w g 60 60 c (0, 0) _ h Tryz.underlying60 rfl hc]
theorem sl_store {w : World} {g : Nat} {c : Array Value} {x : Sl} (h : w.heap[g]? = some (.cells c 60 (0, 0))) {o : Oper} {ev : Operand → Value} {p q : Operand} (ho : o.op = .store 60 p q) (hp : ev p = .pointer (some ⟨g, 0, none⟩)) (hq : ev q = slV x) (hc : c.size = 3 := by rfl) : (execOp ev o).run Tryz.prog w = .ok .skip (w.setRow g (slC x)) := by
  have hi : (Tryz.prog.info? 60).map (·.size) = some (slC x).size := by kernel_rfl
  unfold execOp
  simp only [ho, hp, hq, Instr.storeAt, Instr.sureAddr, Sem.run_bind, Sem.run_pure, Result.andThen_ok, run_storeVar_row (P := Tryz.prog) w g 60 60 c (slC x) h hi (by rw [hc]; rfl) (by simp [slC, Value.oneCell'])]
/-- The newest slot, and the other one. -/
abbrev twoV (v : Int → By) : Value := .tuple #[slV (newV v), slV (othV v)]
set_option maxRecDepth 100000 in
set_option maxHeartbeats 8000000 in
theorem byAge_any (h : Dk w F B N s) : Calls Tryz.prog 33 #[ptr B] w fun e w' => e = .returned (twoV s.read) ∧ Below w.heap.size w w' := by
  have hbA := below_box w (.cells sl0 60)
  have hbB := bnext hbA (below_box (w.alloc (.cells sl0 60)) (.cells sl0 60))
  have gA : ((w.alloc (.cells sl0 60)).alloc (.cells sl0 60)).heap[w.heap.size]? = _ := ((below_box (w.alloc (.cells sl0 60)) (.cells sl0 60)).block _ (row_lt (heap_alloc_new w (.cells sl0 60)))).trans (heap_alloc_new w (.cells sl0 60))
  have gB : ((w.alloc (.cells sl0 60)).alloc (.cells sl0 60)).heap[w.heap.size + 1]? = some (.cells sl0 60 (0, 0)) := by have := heap_alloc_new (w.alloc (.cells sl0 60)) (.cells sl0 60); rw [World.size_alloc] at this; exact this
  have HB := Lib.hid hbB
  have HGA := Lib.hid gA
  have HGB := Lib.hid gB
  have HD := Lib.hid (h.step hbB)
  obtain ⟨x, hx⟩ : ∃ x, slotV s.read 0 = x := ⟨_, rfl⟩
  obtain ⟨y, hy⟩ : ∃ y, slotV s.read half = y := ⟨_, rfl⟩
  have HX := Lib.hid hx
  have HY := Lib.hid hy
  have HTW : Hid ((decide (0 < x.age) && decide (y.age ≤ x.age)) = true → twoV s.read = .tuple #[slV x, slV y]) := Lib.hid fun e => by
    have hf : firstV s.read = true := by unfold firstV; rw [hx, hy]; exact e
    unfold twoV newV othV; rw [hf, hx, hy]; rfl
  have HTF : Hid ((decide (0 < x.age) && decide (y.age ≤ x.age)) = false → twoV s.read = .tuple #[slV y, slV x]) := Lib.hid fun e => by
    have hf : firstV s.read = false := by unfold firstV; rw [hx, hy]; exact e
    unfold twoV newV othV; rw [hf, hx, hy]; rfl
  clear hbA hbB gA gB h hx hy
  generalize twoV s.read = TW at *
  go_enter Tryz.func33, Tryz.ntmps33
  go_upto_region 1 with fail
  generalize (w.alloc (.cells sl0 60)).alloc (.cells sl0 60) = w1 at *
  go_upto_region 2 with (first
    | (go_at_call 55; (with_reducible refine (slotAt_any HD.out 0).mono ?_); rintro e w2 ⟨he, hb2⟩; rw [HX.out] at he; subst he; have HB2 := Lib.hid (bnext HB.out hb2); have HGA2 := Lib.hid ((hb2.block _ (row_lt HGA.out)).trans HGA.out); have HGB2 := Lib.hid ((hb2.block _ (row_lt HGB.out)).trans HGB.out); have HD2 := Lib.hid (HD.out.step hb2); clear hb2)
    | (go_at_call 55; (with_reducible refine (slotAt_any HD2.out half).mono ?_); rintro e w3 ⟨he, hb3⟩; rw [HY.out] at he; subst he; have HB3 := Lib.hid (bnext HB2.out hb3); have HGA3 := Lib.hid ((hb3.block _ (row_lt HGA2.out)).trans HGA2.out); have HGB3 := Lib.hid ((hb3.block _ (row_lt HGB2.out)).trans HGB2.out); clear hb3))
  have hlt3 := row_lt HGB3.out
  have gx := heap_alloc_new w3 (.cells (slC x) 60)
  have hbx := below_box w3 (.cells (slC x) 60)
  have hby := below_box (w3.alloc (.cells (slC x) 60)) (.cells (slC y) 60)
  have gx2 := (hby.block _ (row_lt gx)).trans gx
  have gy := heap_alloc_new (w3.alloc (.cells (slC x) 60)) (.cells (slC y) 60)
  rw [World.size_alloc] at gy
  have hb5 := bnext hbx hby
  have HB5 := Lib.hid (bnext HB3.out hb5)
  have HGA5 := Lib.hid ((hb5.block _ (row_lt HGA3.out)).trans HGA3.out)
  have HGB5 := Lib.hid ((hb5.block _ (row_lt HGB3.out)).trans HGB3.out)
  clear hbx hby gx hb5 HB HGA HGB HD HX HY HB2 HGA2 HGB2 HD2 HB3 HGA3 HGB3
  generalize (w3.alloc (.cells (slC x) 60)).alloc (.cells (slC y) 60) = w5 at *
  generalize w3.heap.size = g at *
  obtain ⟨x0, x1, x2, _⟩ := sl_cells gx2
  obtain ⟨y0, y1, y2, _⟩ := sl_cells gy
  have X5 := gx2
  have Y5 := gy
  clear gx2 gy
  by_cases h0 : 0 < x.age
  · have hi0 : (0 : Int) < (x.age : Int) := by omega
    by_cases h1 : y.age ≤ x.age
    · have hi1 : (y.age : Int) ≤ (x.age : Int) := by omega
      have HQ := Lib.hid (HTW.out (by simp [h0, h1]))
      clear HTW HTF h0 h1
      go_upto_region 3 with fail
      refine RK.region (fun u => u.heap[g]? = some (.cells (slC x) 60 (0, 0)) ∧ u.heap[g + 1]? = some (.cells (slC y) 60 (0, 0))) 4 (by kernel_rfl) ?_
      have HS0 : w5.drew.heap[g]? = some (.cells (slC x) 60 (0, 0)) ∧ w5.drew.heap[g + 1]? = some (.cells (slC y) 60 (0, 0)) := ⟨X5, Y5⟩
      have A5 : w5.drew.heap[w.heap.size]? = some (.cells sl0 60 (0, 0)) := HGA5.out
      have E5 : w5.drew.heap[w.heap.size + 1]? = some (.cells sl0 60 (0, 0)) := HGB5.out
      have B5 : Below w.heap.size w w5.drew := HB5.out.trans (below_drewN' w5 1 _)
      generalize w5.drew = w6 at *
      refine RK.Any.take 0 20 (slV x) rfl rfl (by kernel_rfl) (by kernel_rfl) (by kernel_rfl) (by kernel_rfl) (fun _ _ _ h => h) (by rfl) (fun W' hb => sl_load hb.1 rfl rfl) HS0 ?_
      try simp only [List.setIfInBounds_toArray, List.set_cons_zero, List.set_cons_succ]
      refine RK.Any.take 1 21 (slV y) rfl rfl (by kernel_rfl) (by kernel_rfl) (by kernel_rfl) (by kernel_rfl) (fun _ _ _ h => h) (by rfl) (fun W' hb => sl_load hb.2 rfl rfl) HS0 ?_
      try simp only [List.setIfInBounds_toArray, List.set_cons_zero, List.set_cons_succ]
      have HS1 : (w6.setRow w.heap.size (slC x)).heap[g]? = some (.cells (slC x) 60 (0, 0)) ∧ (w6.setRow w.heap.size (slC x)).heap[g + 1]? = some (.cells (slC y) 60 (0, 0)) := ⟨(setRow_other w6 _ _ _ (by omega)).trans HS0.1, (setRow_other w6 _ _ _ (by omega)).trans HS0.2⟩
      refine RK.Any.store 2 (w1 := w6.setRow w.heap.size (slC x)) (by kernel_rfl) rfl rfl (by rfl) (sl_store (x := x) A5 rfl rfl rfl) (fun _ => HS1) ?_
      try simp only [List.setIfInBounds_toArray, List.set_cons_zero, List.set_cons_succ]
      have E6 := (setRow_other w6 w.heap.size (w.heap.size + 1) (slC x) (by omega)).trans E5
      have HS2 : ((w6.setRow w.heap.size (slC x)).setRow (w.heap.size + 1) (slC y)).heap[g]? = some (.cells (slC x) 60 (0, 0)) ∧ ((w6.setRow w.heap.size (slC x)).setRow (w.heap.size + 1) (slC y)).heap[g + 1]? = some (.cells (slC y) 60 (0, 0)) := ⟨(setRow_other _ _ _ _ (by omega)).trans HS1.1, (setRow_other _ _ _ _ (by omega)).trans HS1.2⟩
      refine RK.Any.store 3 (w1 := (w6.setRow w.heap.size (slC x)).setRow (w.heap.size + 1) (slC y)) (by kernel_rfl) rfl rfl (by rfl) (sl_store (x := y) E6 rfl rfl rfl) (fun _ => HS2) ?_
      try simp only [List.setIfInBounds_toArray, List.set_cons_zero, List.set_cons_succ]
      refine RK.Any.done (by kernel_rfl) ?_
      have FA := (setRow_other (w6.setRow w.heap.size (slC x)) (w.heap.size + 1) w.heap.size (slC y) (by omega)).trans (setRow_heap w6 w.heap.size sl0 (slC x) _ (0, 0) A5)
      have FB := setRow_heap (w6.setRow w.heap.size (slC x)) (w.heap.size + 1) sl0 (slC y) _ (0, 0) E6
      have BF : Below w.heap.size w ((w6.setRow w.heap.size (slC x)).setRow (w.heap.size + 1) (slC y)) := (B5.trans (below_row w6 _ _ (Nat.le_refl _))).trans (below_row _ _ _ (by omega))
      generalize (w6.setRow w.heap.size (slC x)).setRow (w.heap.size + 1) (slC y) = W9 at *
      obtain ⟨a0, a1, a2, _⟩ := sl_cells FA
      obtain ⟨b0, b1, b2, _⟩ := sl_cells FB
      go_wp2_with fail
      exact bodyPost_ret (v := .tuple #[slV x, slV y]) (w := W9) (by simp [results, Tryz.results33, go_sem, a0, a1, a2, b0, b1, b2]) rfl ⟨by rw [HQ.out], BF⟩
    · have hi1 : ¬ (y.age : Int) ≤ (x.age : Int) := by omega
      have HQ := Lib.hid (HTF.out (by simp [h1]))
      clear HTW HTF h0 h1
      go_upto_region 4 with fail
      refine RK.region (fun u => u.heap[g]? = some (.cells (slC x) 60 (0, 0)) ∧ u.heap[g + 1]? = some (.cells (slC y) 60 (0, 0))) 4 (by kernel_rfl) ?_
      have HS0 : w5.drew.heap[g]? = some (.cells (slC x) 60 (0, 0)) ∧ w5.drew.heap[g + 1]? = some (.cells (slC y) 60 (0, 0)) := ⟨X5, Y5⟩
      have A5 : w5.drew.heap[w.heap.size]? = some (.cells sl0 60 (0, 0)) := HGA5.out
      have E5 : w5.drew.heap[w.heap.size + 1]? = some (.cells sl0 60 (0, 0)) := HGB5.out
      have B5 : Below w.heap.size w w5.drew := HB5.out.trans (below_drewN' w5 1 _)
      generalize w5.drew = w6 at *
      refine RK.Any.take 0 22 (slV y) rfl rfl (by kernel_rfl) (by kernel_rfl) (by kernel_rfl) (by kernel_rfl) (fun _ _ _ h => h) (by rfl) (fun W' hb => sl_load hb.2 rfl rfl) HS0 ?_
      try simp only [List.setIfInBounds_toArray, List.set_cons_zero, List.set_cons_succ]
      refine RK.Any.take 1 23 (slV x) rfl rfl (by kernel_rfl) (by kernel_rfl) (by kernel_rfl) (by kernel_rfl) (fun _ _ _ h => h) (by rfl) (fun W' hb => sl_load hb.1 rfl rfl) HS0 ?_
      try simp only [List.setIfInBounds_toArray, List.set_cons_zero, List.set_cons_succ]
      have HS1 : (w6.setRow w.heap.size (slC y)).heap[g]? = some (.cells (slC x) 60 (0, 0)) ∧ (w6.setRow w.heap.size (slC y)).heap[g + 1]? = some (.cells (slC y) 60 (0, 0)) := ⟨(setRow_other w6 _ _ _ (by omega)).trans HS0.1, (setRow_other w6 _ _ _ (by omega)).trans HS0.2⟩
      refine RK.Any.store 2 (w1 := w6.setRow w.heap.size (slC y)) (by kernel_rfl) rfl rfl (by rfl) (sl_store (x := y) A5 rfl rfl rfl) (fun _ => HS1) ?_
      try simp only [List.setIfInBounds_toArray, List.set_cons_zero, List.set_cons_succ]
      have E6 := (setRow_other w6 w.heap.size (w.heap.size + 1) (slC y) (by omega)).trans E5
      have HS2 : ((w6.setRow w.heap.size (slC y)).setRow (w.heap.size + 1) (slC x)).heap[g]? = some (.cells (slC x) 60 (0, 0)) ∧ ((w6.setRow w.heap.size (slC y)).setRow (w.heap.size + 1) (slC x)).heap[g + 1]? = some (.cells (slC y) 60 (0, 0)) := ⟨(setRow_other _ _ _ _ (by omega)).trans HS1.1, (setRow_other _ _ _ _ (by omega)).trans HS1.2⟩
      refine RK.Any.store 3 (w1 := (w6.setRow w.heap.size (slC y)).setRow (w.heap.size + 1) (slC x)) (by kernel_rfl) rfl rfl (by rfl) (sl_store (x := x) E6 rfl rfl rfl) (fun _ => HS2) ?_
      try simp only [List.setIfInBounds_toArray, List.set_cons_zero, List.set_cons_succ]
      refine RK.Any.done (by kernel_rfl) ?_
      have FA := (setRow_other (w6.setRow w.heap.size (slC y)) (w.heap.size + 1) w.heap.size (slC x) (by omega)).trans (setRow_heap w6 w.heap.size sl0 (slC y) _ (0, 0) A5)
      have FB := setRow_heap (w6.setRow w.heap.size (slC y)) (w.heap.size + 1) sl0 (slC x) _ (0, 0) E6
      have BF : Below w.heap.size w ((w6.setRow w.heap.size (slC y)).setRow (w.heap.size + 1) (slC x)) := (B5.trans (below_row w6 _ _ (Nat.le_refl _))).trans (below_row _ _ _ (by omega))
      generalize (w6.setRow w.heap.size (slC y)).setRow (w.heap.size + 1) (slC x) = W9 at *
      obtain ⟨a0, a1, a2, _⟩ := sl_cells FA
      obtain ⟨b0, b1, b2, _⟩ := sl_cells FB
      go_wp2_with fail
      exact bodyPost_ret (v := .tuple #[slV y, slV x]) (w := W9) (by simp [results, Tryz.results33, go_sem, a0, a1, a2, b0, b1, b2]) rfl ⟨by rw [HQ.out], BF⟩
  · have hi0 : ¬ (0 : Int) < (x.age : Int) := by omega
    have HQ := Lib.hid (HTF.out (by simp [h0]))
    clear HTW HTF h0
    go_upto_region 4 with fail
    refine RK.region (fun u => u.heap[g]? = some (.cells (slC x) 60 (0, 0)) ∧ u.heap[g + 1]? = some (.cells (slC y) 60 (0, 0))) 4 (by kernel_rfl) ?_
    have HS0 : w5.drew.heap[g]? = some (.cells (slC x) 60 (0, 0)) ∧ w5.drew.heap[g + 1]? = some (.cells (slC y) 60 (0, 0)) := ⟨X5, Y5⟩
    have A5 : w5.drew.heap[w.heap.size]? = some (.cells sl0 60 (0, 0)) := HGA5.out
    have E5 : w5.drew.heap[w.heap.size + 1]? = some (.cells sl0 60 (0, 0)) := HGB5.out
    have B5 : Below w.heap.size w w5.drew := HB5.out.trans (below_drewN' w5 1 _)
    generalize w5.drew = w6 at *
    refine RK.Any.take 0 22 (slV y) rfl rfl (by kernel_rfl) (by kernel_rfl) (by kernel_rfl) (by kernel_rfl) (fun _ _ _ h => h) (by rfl) (fun W' hb => sl_load hb.2 rfl rfl) HS0 ?_
    try simp only [List.setIfInBounds_toArray, List.set_cons_zero, List.set_cons_succ]
    refine RK.Any.take 1 23 (slV x) rfl rfl (by kernel_rfl) (by kernel_rfl) (by kernel_rfl) (by kernel_rfl) (fun _ _ _ h => h) (by rfl) (fun W' hb => sl_load hb.1 rfl rfl) HS0 ?_
    try simp only [List.setIfInBounds_toArray, List.set_cons_zero, List.set_cons_succ]
    have HS1 : (w6.setRow w.heap.size (slC y)).heap[g]? = some (.cells (slC x) 60 (0, 0)) ∧ (w6.setRow w.heap.size (slC y)).heap[g + 1]? = some (.cells (slC y) 60 (0, 0)) := ⟨(setRow_other w6 _ _ _ (by omega)).trans HS0.1, (setRow_other w6 _ _ _ (by omega)).trans HS0.2⟩
    refine RK.Any.store 2 (w1 := w6.setRow w.heap.size (slC y)) (by kernel_rfl) rfl rfl (by rfl) (sl_store (x := y) A5 rfl rfl rfl) (fun _ => HS1) ?_
    try simp only [List.setIfInBounds_toArray, List.set_cons_zero, List.set_cons_succ]
    have E6 := (setRow_other w6 w.heap.size (w.heap.size + 1) (slC y) (by omega)).trans E5
    have HS2 : ((w6.setRow w.heap.size (slC y)).setRow (w.heap.size + 1) (slC x)).heap[g]? = some (.cells (slC x) 60 (0, 0)) ∧ ((w6.setRow w.heap.size (slC y)).setRow (w.heap.size + 1) (slC x)).heap[g + 1]? = some (.cells (slC y) 60 (0, 0)) := ⟨(setRow_other _ _ _ _ (by omega)).trans HS1.1, (setRow_other _ _ _ _ (by omega)).trans HS1.2⟩
    refine RK.Any.store 3 (w1 := (w6.setRow w.heap.size (slC y)).setRow (w.heap.size + 1) (slC x)) (by kernel_rfl) rfl rfl (by rfl) (sl_store (x := x) E6 rfl rfl rfl) (fun _ => HS2) ?_
    try simp only [List.setIfInBounds_toArray, List.set_cons_zero, List.set_cons_succ]
    refine RK.Any.done (by kernel_rfl) ?_
    have FA := (setRow_other (w6.setRow w.heap.size (slC y)) (w.heap.size + 1) w.heap.size (slC x) (by omega)).trans (setRow_heap w6 w.heap.size sl0 (slC y) _ (0, 0) A5)
    have FB := setRow_heap (w6.setRow w.heap.size (slC y)) (w.heap.size + 1) sl0 (slC x) _ (0, 0) E6
    have BF : Below w.heap.size w ((w6.setRow w.heap.size (slC y)).setRow (w.heap.size + 1) (slC x)) := (B5.trans (below_row w6 _ _ (Nat.le_refl _))).trans (below_row _ _ _ (by omega))
    generalize (w6.setRow w.heap.size (slC y)).setRow (w.heap.size + 1) (slC x) = W9 at *
    obtain ⟨a0, a1, a2, _⟩ := sl_cells FA
    obtain ⟨b0, b1, b2, _⟩ := sl_cells FB
    go_wp2_with fail
    exact bodyPost_ret (v := .tuple #[slV y, slV x]) (w := W9) (by simp [results, Tryz.results33, go_sem, a0, a1, a2, b0, b1, b2]) rfl ⟨by rw [HQ.out], BF⟩
set_option maxRecDepth 100000 in
set_option maxHeartbeats 4000000 in
theorem age_any (h : Dk w F B N s) : Calls Tryz.prog 12 #[ptr B] w fun e w' => e = .returned (.int .i64 (ageV s.read : Int)) ∧ Below w.heap.size w w' := by
  have H := Lib.hid (byAge_any h)
  obtain ⟨x, hx⟩ : ∃ x, newV s.read = x := ⟨_, rfl⟩
  obtain ⟨y, hy⟩ : ∃ y, othV s.read = y := ⟨_, rfl⟩
  have ha : ageV s.read = x.age := by unfold ageV; rw [hx]
  unfold twoV at H
  rw [hx, hy] at H
  rw [ha]
  clear ha hx hy h
  go_enter Tryz.func12, Tryz.ntmps12
  go_upto_region 2 with (go_at_call 33; (with_reducible refine H.out.mono ?_); rintro e w3 ⟨rfl, hb⟩; have HB := Lib.hid hb; clear hb)
  have gx := heap_alloc_new w3 (.cells (slC x) 60)
  have hbx := below_box w3 (.cells (slC x) 60)
  have hby := below_box (w3.alloc (.cells (slC x) 60)) (.cells (slC y) 60)
  have X5 := (hby.block _ (row_lt gx)).trans gx
  have HB5 := Lib.hid (bnext HB.out (bnext hbx hby))
  clear hbx hby gx
  generalize (w3.alloc (.cells (slC x) 60)).alloc (.cells (slC y) 60) = w5 at *
  obtain ⟨x0, x1, x2, _⟩ := sl_cells X5
  go_wp2_with fail
  go_ret
  exact ⟨rfl, HB5.out⟩
end
end M
end Go.Proofs.YtoacmingocmaaaaGreatDoor

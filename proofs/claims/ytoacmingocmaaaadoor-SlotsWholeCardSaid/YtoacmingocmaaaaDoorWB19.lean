/- The texts SltWhole1, one behind the other. -/
import Derived.Test.YtoacmingocmaaaaDoorWB18
import Derived.Laws.OwnMore
/- A turn, done to a disk on which only texts were written; the row of what may be told. -/
namespace Go.Proofs.YtoacmingocmaaaaDoor
namespace MM
def tdo (s : Dsk) (x : Tn) : Nat × Dsk := if x.tw then (s.setFuse x.fuse).twice x.s else (s.setFuse x.fuse).save x.s
theorem Inv.fuse {M : Option By → Prop} {A : Nat} {s : Dsk} (h : Inv M A s) (n : Int) : Inv M A (s.setFuse n) := h.same rfl rfl
theorem Inv.boot {M : Option By → Prop} {A : Nat} {s : Dsk} (h : Inv M A s) : Inv M A s.start := h.same rfl rfl
theorem tdo_inv {M : Option By → Prop} {A : Nat} {s : Dsk} (h : Inv M A s) (hd : s.dead = false) (x : Tn) (ht : x.s.length ≤ most) (hA : A + 1 < top) :
    ((tdo s x).1 = 0 ∧ (tdo s x).2.dead = false ∧ Inv (fun o => o = some x.s) (A + 2) (tdo s x).2) ∨ ((tdo s x).1 = 42 ∧ Inv (fun o => M o ∨ o = some x.s) (A + 2) (tdo s x).2) := by
  have h1 := h.fuse x.fuse
  have hd1 : (s.setFuse x.fuse).dead = false := (fuse_dead _ _).trans hd
  unfold tdo
  generalize s.setFuse x.fuse = z at *
  have once : ∀ {M : Option By → Prop} {A : Nat} {z : Dsk}, Inv M A z → z.dead = false → A < top → ((z.save x.s).1 = 0 ∧ (z.save x.s).2.dead = false ∧ Inv (fun o => o = some x.s) (A + 1) (z.save x.s).2) ∨ ((z.save x.s).1 = 42 ∧ Inv (fun o => M o ∨ o = some x.s) (A + 1) (z.save x.s).2) := fun hz hzd hA => by
    rcases hz.save hzd x.s ht hA with ⟨a, b, _, d⟩ | ⟨a, _, d⟩
    · exact .inl ⟨a, b, d⟩
    · exact .inr ⟨a, d⟩
  split
  · unfold Dsk.twice
    rcases once h1 hd1 (by omega) with ⟨a, b, c⟩ | ⟨a, c⟩
    · rw [if_pos a]
      rcases once c b (by omega) with ⟨a2, b2, c2⟩ | ⟨a2, c2⟩
      · exact .inl ⟨a2, b2, c2⟩
      · exact .inr ⟨a2, c2.up (fun o ho => .inr (by rcases ho with e | e <;> exact e)) (Nat.le_refl _)⟩
    · rw [if_neg (by rw [a]; simp)]
      exact .inr ⟨a, c.up (fun _ h => h) (by omega)⟩
  · rcases once h1 hd1 (by omega) with ⟨a, b, c⟩ | ⟨a, c⟩
    · exact .inl ⟨a, b, c.up (fun _ h => h) (by omega)⟩
    · exact .inr ⟨a, c.up (fun _ h => h) (by omega)⟩
/-- What may be told: none, or one of the texts (the first one is none's as long as none may be). -/
def Mof (m : List By) (nn : Bool) (o : Option By) : Prop := (o = none ∧ nn = true) ∨ ∃ k t, m[k]? = some t ∧ o = some t ∧ (0 < k ∨ nn = false)
theorem Mof_one (t : By) : ∀ o, o = some t → Mof [t] false o := fun _ ho => .inr ⟨0, t, rfl, ho, .inr rfl⟩
theorem Mof_more {m : List By} {nn : Bool} (hm : 0 < m.length) (t : By) : ∀ o, (Mof m nn o ∨ o = some t) → Mof (m ++ [t]) nn o := fun o ho => by
  rcases ho with (h | ⟨k, u, h1, h2, h3⟩) | h
  · exact .inl h
  · exact .inr ⟨k, u, by rw [List.getElem?_append_left (List.getElem?_eq_some_iff.1 h1).1]; exact h1, h2, h3⟩
  · exact .inr ⟨m.length, t, by rw [List.getElem?_append_right (Nat.le_refl _), Nat.sub_self]; rfl, h, .inl hm⟩
theorem Mof_told (o : Option By) : Mof [o.getD []] (!o.isSome) o := by
  cases o with
  | none => exact .inl ⟨rfl, rfl⟩
  | some t => exact .inr ⟨0, t, rfl, rfl, .inr rfl⟩
/-- What is read is what may be told. -/
theorem Inv.read {M : Option By → Prop} {A : Nat} {s : Dsk} (h : Inv M A s) (hd : s.dead = false) : M (textV s.read) := by
  rw [(view_all hd).2.2]; exact h.view.txt
/-- Behind a crash just that may be told which is. -/
theorem Inv.crashed {M : Option By → Prop} {A : Nat} {s : Dsk} (h : Inv M A s) (keep : List Bool) (n : Int) : Inv M A (s.crash keep n).start ∧ Inv (fun o => o = textV (s.crash keep n).start.read) A (s.crash keep n).start := by
  have hp := h.crash keep n
  have hr := read_of_plain (r := (s.crash keep n).start) rfl rfl
  refine ⟨Plain.crashed (r := (s.crash keep n).start) hp rfl, Plain.crashed (r := (s.crash keep n).start) ⟨hp.wf, hp.h0, hp.h1, ?_, hp.age⟩ rfl⟩
  exact hr.1.symm
end MM
open Go Go.RowKit Go.Lib Go.Deep
namespace M
open MM
section
variable {w : World} {F : Nat → Prop} {B N : Nat} {s : Dsk}
set_option maxRecDepth 100000 in
set_option maxHeartbeats 4000000 in
theorem tdo_any (h : Dk w F B N s) (hN : N ≤ 400000) (x : Tn) (hx : x.fuse ≤ 9223372036854775807) : Calls Tryd.prog 22 #[.agg x.cells, ptr B] w fun e w' => e = .returned (.int .i64 ((tdo s x).1 : Int)) ∧ Did w F B (max N 131072) (tdo s x).2 w' := by
  obtain ⟨ts, tw, tf, tc, ko, kc, kl, ta⟩ := x
  have hbA := below_box w (.cells (Tn.cells ⟨ts, tw, tf, tc, ko, kc, kl, ta⟩) 42)
  have hgA := heap_alloc_new w (.cells (Tn.cells ⟨ts, tw, tf, tc, ko, kc, kl, ta⟩) 42)
  have HB := Lib.hid hbA
  have HG := Lib.hid hgA
  have HFU : Hid (Calls Tryd.prog 17 #[ptr B, .int .i64 tf] (w.alloc (.cells (Tn.cells ⟨ts, tw, tf, tc, ko, kc, kl, ta⟩) 42)) fun e w' => e = .returned (.tuple #[]) ∧ Dk w' F B N (s.setFuse tf) ∧ Chg F (w.alloc (.cells (Tn.cells ⟨ts, tw, tf, tc, ko, kc, kl, ta⟩) 42)) w') := Lib.hid (fuse_any (h.step hbA) tf hx)
  have HNF : Hid (¬ F w.heap.size) := Lib.hid fun hf => absurd (h.old _ hf) (Nat.lt_irrefl _)
  clear hbA hgA h
  unfold tdo
  simp only
  cases tw with
  | true =>
    simp only [if_true]
    go_enter Tryd.func22, Tryd.ntmps22
    go_upto_region 1 with fail
    generalize w.alloc (.cells (Tn.cells ⟨ts, true, tf, tc, ko, kc, kl, ta⟩) 42) = w1 at *
    have q0 : w1.cell? ⟨w.heap.size, 0, none⟩ = some (.string ⟨ts.toArray⟩) := (cell_of_row w1 _ 0 _ _ _ HG.out).trans rfl
    have q1 : w1.cell? ⟨w.heap.size, 1, none⟩ = some (.bool true) := (cell_of_row w1 _ 1 _ _ _ HG.out).trans rfl
    have q2 : w1.cell? ⟨w.heap.size, 2, none⟩ = some (.int .i64 tf) := (cell_of_row w1 _ 2 _ _ _ HG.out).trans rfl
    go_upto_region 2 with (go_at_call 17; (with_reducible refine HFU.out.mono ?_); rintro e w2 ⟨rfl, hd, hc⟩; have hg2 := (hc.block _ (row_lt HG.out) HNF.out).trans HG.out; have HD2 := Lib.hid hd; have HC2 := Lib.hid (Did.base (Did.of hd hc) HB.out); clear hd hc)
    have r0 : w2.cell? ⟨w.heap.size, 0, none⟩ = some (.string ⟨ts.toArray⟩) := (cell_of_row w2 _ 0 _ _ _ hg2).trans rfl
    have r1 : w2.cell? ⟨w.heap.size, 1, none⟩ = some (.bool true) := (cell_of_row w2 _ 1 _ _ _ hg2).trans rfl
    have HTW := Lib.hid (HC2.out.goes fun F' hF => twice_any hF hN ts)
    clear q0 q1 q2 hg2 HFU HG HB
    go_wp2_with (go_at_call 12; (with_reducible refine HTW.out.mono ?_); rintro e w3 ⟨rfl, hd⟩; have HD3 := Lib.hid hd; clear hd)
    go_ret
    exact ⟨rfl, HD3.out⟩
  | false =>
    simp only [Bool.false_eq_true, if_false]
    go_enter Tryd.func22, Tryd.ntmps22
    go_upto_region 1 with fail
    generalize w.alloc (.cells (Tn.cells ⟨ts, false, tf, tc, ko, kc, kl, ta⟩) 42) = w1 at *
    have q0 : w1.cell? ⟨w.heap.size, 0, none⟩ = some (.string ⟨ts.toArray⟩) := (cell_of_row w1 _ 0 _ _ _ HG.out).trans rfl
    have q1 : w1.cell? ⟨w.heap.size, 1, none⟩ = some (.bool false) := (cell_of_row w1 _ 1 _ _ _ HG.out).trans rfl
    have q2 : w1.cell? ⟨w.heap.size, 2, none⟩ = some (.int .i64 tf) := (cell_of_row w1 _ 2 _ _ _ HG.out).trans rfl
    go_upto_region 2 with (go_at_call 17; (with_reducible refine HFU.out.mono ?_); rintro e w2 ⟨rfl, hd, hc⟩; have hg2 := (hc.block _ (row_lt HG.out) HNF.out).trans HG.out; have HD2 := Lib.hid hd; have HC2 := Lib.hid (Did.base (Did.of hd hc) HB.out); clear hd hc)
    have r0 : w2.cell? ⟨w.heap.size, 0, none⟩ = some (.string ⟨ts.toArray⟩) := (cell_of_row w2 _ 0 _ _ _ hg2).trans rfl
    have r1 : w2.cell? ⟨w.heap.size, 1, none⟩ = some (.bool false) := (cell_of_row w2 _ 1 _ _ _ hg2).trans rfl
    have HTW := Lib.hid (HC2.out.goes fun F' hF => save_any hF hN ts)
    clear q0 q1 q2 hg2 HFU HG HB
    go_wp2_with (go_at_call 11; (with_reducible refine HTW.out.mono ?_); rintro e w3 ⟨rfl, hd⟩; have HD3 := Lib.hid hd; clear hd)
    go_ret
    exact ⟨rfl, HD3.out⟩
end
/-- The row of texts that the call has made so far. -/
structure RowT (w0 : World) (v : Value) (ys : List By) (w : World) : Prop where
  own : w.ownsRow w0.heap.size 9 1 v ys.length (strs ys)
theorem RowT.kept {w0 w w' : World} {v : Value} {ys : List By} (h : RowT w0 v ys w) (he : ∀ k, Gv v k → w'.heap[k]? = w.heap[k]?) : RowT w0 v ys w' := by
  obtain ⟨h1, h2⟩ := h.own
  refine ⟨h1, h2.imp id ?_⟩
  rintro ⟨g, cap, cur, hv, hg, hh, r⟩
  exact ⟨g, cap, cur, hv, hg, (he g (by rw [hv]; rfl)).trans hh, r⟩
/-- A row of one text. -/
theorem RowT.one {w0 w : World} (hb : w0.heap.size ≤ w.heap.size) (x : By) : RowT w0 (.slice (some ⟨w.heap.size, 0, none⟩) 1 1) [x] (w.alloc (.cells #[.string ⟨x.toArray⟩] 9)) :=
  ⟨World.ownsRow_lit w #[.string ⟨x.toArray⟩] 1 hb (by unfold maxLen; omega) rfl⟩
/-- One text more. -/
theorem RowT.push {W w0 w : World} {L : Dl} {v : Value} {ys : List By} (h : RowT w0 v ys w) (hd : DsG W L (Gv v) w) (hW : W.heap.size ≤ w0.heap.size) (h0 : w0.heap.size ≤ w.heap.size) (y : By) (hl : ys.length ≤ 1000) (ty : TypeId) :
    ∃ ao c w', (Builtin.append_ #[29, 29] ty #[v, .slice (some ⟨w.heap.size, 0, none⟩) 1 1]).run Tryd.prog (w.alloc (.cells #[.string ⟨y.toArray⟩] 9)) = .ok (.slice ao (ys.length + 1) c) w' ∧ RowT w0 (.slice ao (ys.length + 1) c) (ys ++ [y]) w' ∧ DsG W L (Gv (.slice ao (ys.length + 1) c)) w' ∧ w0.heap.size ≤ w'.heap.size := by
  obtain ⟨i0, hi, hz0, hz1, hz2⟩ := info_parts info_str
  have hbx := below_box w (.cells #[.string ⟨y.toArray⟩] 9)
  have hx := h.kept (w' := w.alloc (.cells #[.string ⟨y.toArray⟩] 9)) fun k hk => hbx.block k (h.own.lt k hk).2
  have hs : w0.heap.size ≤ (w.alloc (.cells #[.string ⟨y.toArray⟩] 9)).heap.size := by have := hbx.size; omega
  obtain ⟨v', w', hr, ho, hg, _, hown⟩ := run_append_own_at (P := Tryd.prog) (w.alloc (.cells #[.string ⟨y.toArray⟩] 9)) w0.heap.size 29 ty 9 i0 _ 1 16 Tryd.underlying29 hi hz0 hz1 hz2 rfl (by decide) v ys.length _ hx.own ⟨w.heap.size, 0, none⟩ 1 1 [.string ⟨y.toArray⟩] rfl (fun j u hj => by
    have hn := heap_alloc_new w (.cells #[.string ⟨y.toArray⟩] 9)
    rw [Addr.add_lit, Nat.zero_add, cell_of_row _ w.heap.size j _ _ _ hn, ← hj, ← Array.getElem?_toList]) (fun u hu => by
      obtain rfl : u = .string ⟨y.toArray⟩ := by simpa using hu
      rfl) (by unfold maxLen; omega) (by omega) hs
  obtain ⟨ao, c, rfl⟩ := own_form ho
  have hlt := ho.lt
  refine ⟨ao, c, w', hr, ⟨by rw [List.length_append, List.length_singleton, ← strs_snoc]; exact ho⟩, hd.grow (w' := w') ((Chg.of_below _ hbx).trans ((Chg.refl _ _).grown (row := v.ownBlock) hg fun k hk => .inl hk) fun b hb => .inl hb) (fun k hk => Nat.le_trans hW (h.own.lt k hk).1) fun k hk => ⟨?_, (hlt k hk).2⟩, Nat.le_trans hs hg.size⟩
  have hk : (Value.slice ao (ys.length + 1) c).ownBlock = some k := hk
  rcases hown with e | e
  · exact .inl (by rw [e] at hk; exact hk)
  · rw [e] at hk
    injection hk with hk
    rw [World.size_alloc] at hk
    exact .inr (by omega)
theorem RowT.cell {w0 w : World} {ad : Addr} {n c : Nat} {ys : List By} (h : RowT w0 (.slice (some ad) n c) ys w) {k : Nat} {y : By} (hk : ys[k]? = some y) : w.cell? (ad.add k) = some (.string ⟨y.toArray⟩) := by
  have hc := fun q hq => World.ownsRow.cells h.own (g := q) hq
  obtain ⟨_, ⟨hv, _⟩ | ⟨q, cap, cur, hv, _⟩⟩ := h.own
  · cases hv
  injection hv with hv _ _
  injection hv with hv
  subst hv
  exact hc q rfl k _ (strs_get hk)
theorem RowT.some {w0 w : World} {ao : Option Addr} {n c : Nat} {ys : List By} (h : RowT w0 (.slice ao n c) ys w) (hl : 0 < ys.length) : n = ys.length ∧ ∃ ad, ao = .some ad := by
  obtain ⟨_, ⟨_, h0⟩ | ⟨q, cap, cur, hv, _⟩⟩ := h.own
  · omega
  · injection hv with hv h2 _
    exact ⟨h2, _, hv⟩
/-- A call that turns one of the disks. -/
theorem DsG.goes {W w : World} {L : Dl} {G : Nat → Prop} (h : DsG W L G w) {i B N : Nat} {s : Dsk} (hi : L[i]? = some (B, N, s)) {f : FuncId} {args : Array Value} {R : Ending → Prop} {N' : Nat} {s' : Dsk} (hc : ∀ F, Dk w F B N s → (∀ u, Chg F w u → Below W.heap.size W u) → Calls Tryd.prog f args w fun e w' => R e ∧ Did w F B N' s' w') :
    Calls Tryd.prog f args w fun e w' => R e ∧ DsG W (L.set i (B, N', s')) G w' ∧ (∀ k, G k → w'.heap[k]? = w.heap[k]?) ∧ w.heap.size ≤ w'.heap.size := by
  obtain ⟨F, hd, hR, hgo⟩ := h.dk hi
  exact (hc F hd fun u hu => (hR u hu).1).mono fun e w' ⟨h1, h2⟩ => ⟨h1, hgo _ _ _ h2, by obtain ⟨F', _, _, hc⟩ := h2; exact ⟨(hR w' hc).2, hc.size⟩⟩
/-- The disk, and the row of what may be told. -/
structure WS (W : World) (B : Nat) (z : Dsk) (v : Value) (m : List By) (w : World) : Prop where
  ds : DsG W [(B, 131072, z)] (Gv v) w
  row : RowT W v m w
section
variable {W w w' : World} {B : Nat} {z : Dsk} {v : Value} {m : List By}
theorem WS.goes (h : WS W B z v m w) {f : FuncId} {args : Array Value} {R : Ending → Prop} {z' : Dsk} (hc : ∀ F, Dk w F B 131072 z → (∀ u, Chg F w u → Below W.heap.size W u) → Calls Tryd.prog f args w fun e w' => R e ∧ Did w F B 131072 z' w') : Calls Tryd.prog f args w fun e w' => R e ∧ WS W B z' v m w' :=
  (h.ds.goes (i := 0) rfl hc).mono fun _ _ ⟨h1, h2, h3, _⟩ => ⟨h1, h2, h.row.kept h3⟩
theorem WS.below (h : WS W B z v m w) : Below W.heap.size W w := h.ds.below
theorem WS.step (h : WS W B z v m w) (hb : Below w.heap.size w w') : WS W B z v m w' := by
  have hk := h.row.own.lt
  exact ⟨h.ds.grow (Chg.of_below _ hb) (fun k hk2 => (hk k hk2).1) fun k hk2 => ⟨.inl hk2, Nat.lt_of_lt_of_le (hk k hk2).2 hb.size⟩, h.row.kept fun k hk2 => hb.block k (hk k hk2).2⟩
/-- Another row of one text in the place of the row. -/
theorem WS.one (h : WS W B z v m w) (x : By) : WS W B z (.slice (some ⟨w.heap.size, 0, none⟩) 1 1) [x] (w.alloc (.cells #[.string ⟨x.toArray⟩] 9)) := by
  have hk := h.row.own.lt
  have hb := below_box w (.cells #[.string ⟨x.toArray⟩] 9)
  refine ⟨h.ds.grow (Chg.of_below _ hb) (fun k hk2 => (hk k hk2).1) fun k hk2 => ?_, RowT.one h.ds.below.size x⟩
  have e : w.heap.size = k := by
    have : (Value.slice (some ⟨w.heap.size, 0, none⟩) 1 1).ownBlock = some k := hk2
    simpa [Value.ownBlock] using this
  exact ⟨.inr (by omega), by rw [World.size_alloc]; omega⟩
theorem WS.push (h : WS W B z v m w) (y : By) (hl : m.length ≤ 1000) (ty : TypeId) : ∃ ad c w', (Builtin.append_ #[29, 29] ty #[v, .slice (some ⟨w.heap.size, 0, none⟩) 1 1]).run Tryd.prog (w.alloc (.cells #[.string ⟨y.toArray⟩] 9)) = .ok (.slice (some ad) (m.length + 1) c) w' ∧ WS W B z (.slice (some ad) (m.length + 1) c) (m ++ [y]) w' := by
  obtain ⟨ao, c, w', h1, h2, h3, _⟩ := h.row.push h.ds (Nat.le_refl _) h.ds.below.size y hl ty
  obtain ⟨_, ad, rfl⟩ := h2.some (by simp)
  exact ⟨ad, c, w', h1, h3, h2⟩
end
theorem WS.start {W w : World} {B N : Nat} {z : Dsk} (h : Ds W [(B, N, z)] (fun _ => True) w) (hN : N ≤ 131072) (x : By) : WS W B z (.slice (some ⟨w.heap.size, 0, none⟩) 1 1) [x] (w.alloc (.cells #[.string ⟨x.toArray⟩] 9)) := by
  have h0 := Ds.up h (i := 0) rfl (N' := 131072) hN (by omega)
  have hb := below_box w (.cells #[.string ⟨x.toArray⟩] 9)
  refine ⟨(h0.toG (G := fun _ => False) fun _ h => h).grow (Chg.of_below _ hb) (fun k hk => hk.elim) fun k hk2 => ?_, RowT.one h.below.size x⟩
  have e : w.heap.size = k := by
    have : (Value.slice (some ⟨w.heap.size, 0, none⟩) 1 1).ownBlock = some k := hk2
    simpa [Value.ownBlock] using this
  exact ⟨.inr (by omega), by rw [World.size_alloc]; omega⟩
end M
end Go.Proofs.YtoacmingocmaaaaDoor

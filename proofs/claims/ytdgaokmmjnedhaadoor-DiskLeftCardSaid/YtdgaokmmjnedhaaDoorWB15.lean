/- The texts DskLeft1, DskLeft2, RegSkip, one behind the other. -/
import Derived.Test.YtdgaokmmjnedhaaDoorWB13
import Derived.Deep.AppendLies
import Derived.Test.YtdgaokmmjnedhaaDoorWB3
/- Some disks beside blocks that are told; a row of steps that grows by one. -/
namespace Go.Proofs.YtdgaokmmjnedhaaDoor
open Go.ChangeShapes Go.WideShapes Go.ChangeAt Go.RowKit Go.Lib Go.Deep
namespace M
open MM
/-- The disks L stand, none of which shares a block with another or with G. -/
structure DsG (W : World) (L : Dl) (G : Nat → Prop) (w : World) : Prop where
  ex : ∃ Fs : Nat → Nat → Prop, (∀ (i : Nat) (x : Nat × Nat × Dsk), L[i]? = some x → Dk w (Fs i) x.1 x.2.1 x.2.2 ∧ ∀ k, Fs i k → W.heap.size ≤ k) ∧
    (∀ i j, i < L.length → j < L.length → i ≠ j → ∀ k, Fs i k → ¬ Fs j k) ∧ (∀ k, G k → k < w.heap.size) ∧ (∀ i, i < L.length → ∀ k, G k → ¬ Fs i k)
  below : Below W.heap.size W w
section
variable {W w w' : World} {L : Dl} {R : World → Prop} {G : Nat → Prop}
theorem Ds.toG (h : Ds W L R w) (hG : ∀ k, ¬ G k) : DsG W L G w := by
  obtain ⟨Fs, K, h1, h2, _, _, _⟩ := h.ex
  exact ⟨⟨Fs, h1, h2, fun k hk => absurd hk (hG k), fun _ _ k hk => absurd hk (hG k)⟩, h.below⟩
theorem DsG.toDs (h : DsG W L G w) (hR : ∀ u : World, (∀ k, G k → u.heap[k]? = w.heap[k]?) → R u) : Ds W L R w := by
  obtain ⟨Fs, h1, h2, h3, h4⟩ := h.ex
  exact ⟨⟨Fs, G, h1, h2, h3, h4, hR⟩, h.below⟩
theorem DsG.dk (h : DsG W L G w) {i : Nat} {x : Nat × Nat × Dsk} (hi : L[i]? = some x) : ∃ F, Dk w F x.1 x.2.1 x.2.2 ∧ (∀ u, Chg F w u → Below W.heap.size W u ∧ ∀ k, G k → u.heap[k]? = w.heap[k]?) ∧ ∀ N' s' w', Did w F x.1 N' s' w' → DsG W (L.set i (x.1, N', s')) G w' := by
  obtain ⟨Fs, h1, h2, h3, h4⟩ := h.ex
  have hil := (List.getElem?_eq_some_iff.1 hi).1
  obtain ⟨hd, hF⟩ := h1 i x hi
  have hR : ∀ u, Chg (Fs i) w u → Below W.heap.size W u ∧ ∀ k, G k → u.heap[k]? = w.heap[k]? := fun u hu => ⟨h.below.trans (hu.below hF h.below.size), fun k hk => hu.block k (h3 k hk) (h4 i hil k hk)⟩
  refine ⟨Fs i, hd, hR, fun N' s' w' hdid => ?_⟩
  obtain ⟨F', k1, k2, k3⟩ := hdid
  refine ⟨⟨fun j => if j = i then F' else Fs j, fun j y hj => ?_, fun a b ha hb hab k hak => ?_, fun k hk => Nat.lt_of_lt_of_le (h3 k hk) k3.size, fun j hj k hk => ?_⟩, (hR w' k3).1⟩
  · by_cases e : j = i
    · subst e
      rw [List.getElem?_set_self hil] at hj
      obtain rfl : (x.1, N', s') = y := by simpa using hj
      show Dk w' (if j = j then F' else Fs j) _ _ _ ∧ ∀ k, (if j = j then F' else Fs j) k → _
      rw [if_pos rfl]
      exact ⟨k1, fun k hk => (k2 k hk).elim (hF k) fun h6 => Nat.le_trans h.below.size h6⟩
    · rw [List.getElem?_set_ne (fun e' => e e'.symm)] at hj
      simp only [if_neg e]
      obtain ⟨q1, q2⟩ := h1 j y hj
      exact ⟨q1.chg k3 fun k hk => h2 j i (List.getElem?_eq_some_iff.1 hj).1 hil e k hk, q2⟩
  · rw [List.length_set] at ha hb
    simp only at hak ⊢
    by_cases e1 : a = i
    · subst e1
      rw [if_pos rfl] at hak
      rw [if_neg (fun e => hab e.symm)]
      intro hbk
      obtain ⟨y, hy⟩ : ∃ y, L[b]? = some y := ⟨_, List.getElem?_eq_getElem hb⟩
      have hlt := (h1 b y hy).1.old k hbk
      rcases k2 k hak with h6 | h6
      · exact h2 a b ha hb hab k h6 hbk
      · omega
    · rw [if_neg e1] at hak
      obtain ⟨y, hy⟩ : ∃ y, L[a]? = some y := ⟨_, List.getElem?_eq_getElem ha⟩
      have hlt := (h1 a y hy).1.old k hak
      by_cases e2 : b = i
      · subst e2
        rw [if_pos rfl]
        intro hbk
        rcases k2 k hbk with h6 | h6
        · exact h2 a b ha hb hab k hak h6
        · omega
      · rw [if_neg e2]
        exact h2 a b ha hb hab k hak
  · rw [List.length_set] at hj
    simp only
    by_cases e : j = i
    · subst e
      rw [if_pos rfl]
      intro hf
      rcases k2 k hf with h6 | h6
      · exact h4 j hj k hk h6
      · have := h3 k hk; omega
    · rw [if_neg e]
      exact h4 j hj k hk
theorem DsG.grow (h : DsG W L G w) {G' : Nat → Prop} (hc : Chg G w w') (hGW : ∀ k, G k → W.heap.size ≤ k) (hG' : ∀ k, G' k → (G k ∨ w.heap.size ≤ k) ∧ k < w'.heap.size) : DsG W L G' w' := by
  obtain ⟨Fs, h1, h2, h3, h4⟩ := h.ex
  refine ⟨⟨Fs, fun i x hx => ⟨(h1 i x hx).1.chg hc fun k hk hg => h4 i (List.getElem?_eq_some_iff.1 hx).1 k hg hk, (h1 i x hx).2⟩, h2, fun k hk => (hG' k hk).2, fun i hi k hk hf => ?_⟩, h.below.trans (hc.below hGW h.below.size)⟩
  rcases (hG' k hk).1 with h5 | h5
  · exact h4 i hi k h5 hf
  · have := (h1 i _ (List.getElem?_eq_getElem hi)).1.old k hf
    omega
theorem DsG.write (h : DsG W L G w) {i B N : Nat} {s : Dsk} (hi : L[i]? = some (B, N, s)) (hN : N + 1 ≤ 1000000) (k : Int) (t : By) : Calls Tryd.prog 14 #[ptr B, .int .i64 k, .string ⟨t.toArray⟩] w fun e w' => e = .returned (.int .i64 ((s.write k t).1 : Int)) ∧ DsG W (L.set i (B, N + 1, (s.write k t).2)) G w' ∧ (∀ k, G k → w'.heap[k]? = w.heap[k]?) ∧ w.heap.size ≤ w'.heap.size := by
  obtain ⟨F, hd, hR, hgo⟩ := h.dk hi
  exact (write_any hd hN k t).mono fun e w' ⟨h1, h2⟩ => ⟨h1, hgo _ _ _ h2, by obtain ⟨F', _, _, hc⟩ := h2; exact ⟨(hR w' hc).2, hc.size⟩⟩
end
/-- The steps of a list, one behind the other. -/
def lst (ys : List Sp) (r : Nat) : Sp := ys.getD r default
theorem stepsW_congr {f g : Nat → Sp} : ∀ {n : Nat}, (∀ i, i < n → f i = g i) → stepsW f n = stepsW g n
  | 0, _ => rfl
  | n + 1, h => by rw [stepsW, stepsW, stepsW_congr (n := n) (fun i hi => h i (by omega)), h n (by omega)]
theorem lst_snoc (ys : List Sp) (y : Sp) : stepsW (lst (ys ++ [y])) (ys.length + 1) = stepsW (lst ys) ys.length ++ y.cells.toList := by
  rw [stepsW]
  congr 1
  · exact stepsW_congr fun i hi => by simp [lst, List.getElem?_append_left hi]
  · simp [lst]
/-- The row of steps that the call has made so far. -/
structure RowS (w0 : World) (v : Value) (ys : List Sp) (w : World) : Prop where
  own : w.ownsRow w0.heap.size 41 5 v ys.length (stepsW (lst ys) ys.length)
abbrev Gv (v : Value) : Nat → Prop := fun k => v.ownBlock = some k
theorem RowS.kept {w0 w w' : World} {v : Value} {ys : List Sp} (h : RowS w0 v ys w) (he : ∀ k, Gv v k → w'.heap[k]? = w.heap[k]?) : RowS w0 v ys w' := by
  obtain ⟨h1, h2⟩ := h.own
  refine ⟨h1, h2.imp id ?_⟩
  rintro ⟨g, cap, cur, hv, hg, hh, r⟩
  exact ⟨g, cap, cur, hv, hg, (he g (by rw [hv]; rfl)).trans hh, r⟩
/-- One step more. -/
theorem RowS.push {W w0 w : World} {L : Dl} {v : Value} {ys : List Sp} (h : RowS w0 v ys w) (hd : DsG W L (Gv v) w) (hW : W.heap.size ≤ w0.heap.size) (h0 : w0.heap.size ≤ w.heap.size) (y : Sp) (hl : ys.length ≤ 1000) (ty : TypeId) :
    ∃ ao c w', (Builtin.append_ #[36, 36] ty #[v, .slice (some ⟨w.heap.size, 0, none⟩) 1 1]).run Tryd.prog (w.alloc (.cells y.cells 41)) = .ok (.slice ao (ys.length + 1) c) w' ∧ RowS w0 (.slice ao (ys.length + 1) c) (ys ++ [y]) w' ∧ DsG W L (Gv (.slice ao (ys.length + 1) c)) w' ∧ w0.heap.size ≤ w'.heap.size := by
  obtain ⟨i0, hi, hz0, hz1, hz2⟩ := info_parts info_step3
  have hbx := below_box w (.cells y.cells 41)
  have hx := h.kept (w' := w.alloc (.cells y.cells 41)) fun k hk => hbx.block k (h.own.lt k hk).2
  have hs : w0.heap.size ≤ (w.alloc (.cells y.cells 41)).heap.size := by have := hbx.size; omega
  obtain ⟨v', w', hr, ho, hg, _, hown⟩ := run_append_own_at (P := Tryd.prog) (w.alloc (.cells y.cells 41)) w0.heap.size 36 ty 41 i0 _ 5 64 Tryd.underlying36 hi hz0 hz1 hz2 rfl (by decide) v ys.length _ hx.own ⟨w.heap.size, 0, none⟩ 1 1 y.cells.toList rfl (fun j u hj => by
    have hn := heap_alloc_new w (.cells y.cells 41)
    rw [Addr.add_lit, Nat.zero_add, cell_of_row _ w.heap.size j _ _ _ hn, ← hj, Array.getElem?_toList]) (fun u hu => stepsW_one (fun _ => y) 1 u (by simpa [stepsW] using hu)) (by unfold maxLen; omega) (by omega) hs
  obtain ⟨ao, c, rfl⟩ := own_form ho
  have hlt := ho.lt
  have hlt0 := hx.own.lt
  refine ⟨ao, c, w', hr, ⟨by rw [List.length_append, List.length_singleton, lst_snoc]; exact ho⟩, hd.grow (w' := w') ((Chg.of_below _ hbx).trans ((Chg.refl _ _).grown (row := v.ownBlock) hg fun k hk => .inl hk) fun b hb => .inl hb) (fun k hk => Nat.le_trans hW (h.own.lt k hk).1) fun k hk => ⟨?_, (hlt k hk).2⟩, Nat.le_trans hs hg.size⟩
  have hk : (Value.slice ao (ys.length + 1) c).ownBlock = some k := hk
  rcases hown with e | e
  · exact .inl (by rw [e] at hk; exact hk)
  · rw [e] at hk
    injection hk with hk
    rw [World.size_alloc] at hk
    exact .inr (by omega)
/-- Two cells of a step of the row. -/
theorem RowS.cell {w0 w : World} {ad : Addr} {n c : Nat} {ys : List Sp} (h : RowS w0 (.slice (some ad) n c) ys w) {k : Nat} {y : Sp} (hk : ys[k]? = some y) : ∃ q O, ad.add (k * 5) = ⟨q, O, none⟩ ∧ w.cell? ⟨q, O + 1, none⟩ = some (.int .i64 y.at_) ∧ w.cell? ⟨q, O + 2, none⟩ = some (.string ⟨y.s.toArray⟩) := by
  have hl := (List.getElem?_eq_some_iff.1 hk).1
  have hc := fun q hq => World.ownsRow.cells h.own (g := q) hq
  obtain ⟨_, ⟨hv, _⟩ | ⟨q, cap, cur, hv, _⟩⟩ := h.own
  · cases hv
  injection hv with hv _ _
  injection hv with hv
  subst hv
  have hy : lst ys k = y := by simp [lst, hk]
  have e : ∀ (j : Nat) (u : Value), y.cells[j]? = some u → j < 5 → w.cell? ⟨q, k * 5 + j, none⟩ = some u := fun j u hj h5 => by
    have := hc q rfl (k * 5 + j) u (by rw [stepsW_get _ _ _ _ hl h5, hy]; exact hj)
    rwa [Addr.add_lit, Nat.zero_add] at this
  exact ⟨q, k * 5, by rw [Addr.add_lit, Nat.zero_add], e 1 _ rfl (by decide), e 2 _ rfl (by decide)⟩
theorem RowS.some {w0 w : World} {ao : Option Addr} {n c : Nat} {ys : List Sp} (h : RowS w0 (.slice ao n c) ys w) (hl : 0 < ys.length) : ∃ ad, ao = .some ad := by
  obtain ⟨_, ⟨_, h0⟩ | ⟨q, cap, cur, hv, _⟩⟩ := h.own
  · omega
  · injection hv with hv _ _
    exact ⟨_, hv⟩
theorem OwnE.pushBool {w0 w : World} {v : Value} {l : List Value} (h : OwnE w0 4 v l w) (x : Bool) (hl : l.length ≤ 1000000) (ty : TypeId) :
    ∃ ao' c' w', (Builtin.append_ #[35, 35] ty #[v, .slice (some ⟨w.heap.size, 0, none⟩) 1 1]).run Tryd.prog (w.alloc (.cells #[.bool x] 4)) = .ok (.slice ao' (l.length + 1) c') w' ∧ OwnE w0 4 (.slice ao' (l.length + 1) c') (l ++ [.bool x]) w' := by
  obtain ⟨i0, hi, hz0, hz1, hz2⟩ := info_parts info_bool
  obtain ⟨ao', c', w', h1, h2, _⟩ := h.push Tryd.underlying35 hi hz0 hz1 hz2 rfl (by decide) (.bool x) rfl hl ty
  exact ⟨ao', c', w', h1, h2⟩
end M
end Go.Proofs.YtdgaokmmjnedhaaDoor
/- What a crash leaves: of which all is kept, nothing, some. -/
namespace Go.Proofs.YtdgaokmmjnedhaaDoor
namespace MM
theorem crash_all (keep : List Bool) (n : Nat) : ∀ (c : List (Int × By)) (k : Nat) (p : Int → By) (torn : Bool), (∀ i, k ≤ i → i < k + c.length → keep.getD i false = true) → crashGo keep n k c p torn = putAll p c
  | [], _, _, _, _ => rfl
  | x :: r, k, p, torn, h => by
    unfold crashGo
    rw [if_pos (h k (Nat.le_refl _) (by simp)), putAll_cons]
    exact crash_all keep n r (k + 1) _ torn fun i h1 h2 => h i (by omega) (by simp; omega)
theorem upd_own (p : Int → By) (k : Int) (t : By) (h : t = p k) : upd p (k, t) = p := by
  funext j
  unfold upd
  split
  · rename_i e; simp only at e; rw [e, h]
  · rfl
theorem crash_nothing : ∀ (c : List (Int × By)) (k : Nat) (p : Int → By) (torn : Bool), crashGo [] 0 k c p torn = p
  | [], _, _, _ => rfl
  | x :: r, k, p, torn => by
    unfold crashGo
    rw [if_neg (by simp)]
    split
    · exact crash_nothing r (k + 1) p torn
    · rw [crash_nothing r (k + 1) _ true]
      exact upd_own p x.1 _ (by simp)
/-- A sector is what it was, or what some write made of it. -/
def Known (p : Int → By) (c : List (Int × By)) (k : Int) (t : By) : Prop := t = p k ∨ ∃ x ∈ c, x.1 = k ∧ t = x.2
theorem crash_torn (keep : List Bool) (n : Nat) : ∀ (c : List (Int × By)) (k : Nat) (p : Int → By) (j : Int), Known p c j (crashGo keep n k c p true j)
  | [], _, _, _ => .inl rfl
  | x :: r, k, p, j => by
    unfold crashGo
    split
    · rcases crash_torn keep n r (k + 1) (upd p x) j with h | ⟨y, hy, h1, h2⟩
      · by_cases e : j = x.1
        · subst e
          rw [upd_same] at h
          exact .inr ⟨x, by simp, rfl, h⟩
        · rw [upd_other _ _ e] at h
          exact .inl h
      · exact .inr ⟨y, by simp [hy], h1, h2⟩
    · rw [if_pos rfl]
      rcases crash_torn keep n r (k + 1) p j with h | ⟨y, hy, h1, h2⟩
      · exact .inl h
      · exact .inr ⟨y, by simp [hy], h1, h2⟩
theorem crash_some (keep : List Bool) (n : Nat) : ∀ (c : List (Int × By)) (k : Nat) (p : Int → By), ∃ t : Option Int, ∀ j, t ≠ some j → Known p c j (crashGo keep n k c p false j)
  | [], _, _ => ⟨none, fun _ _ => .inl rfl⟩
  | x :: r, k, p => by
    unfold crashGo
    split
    · obtain ⟨t, ht⟩ := crash_some keep n r (k + 1) (upd p x)
      refine ⟨t, fun j hj => ?_⟩
      rcases ht j hj with h | ⟨y, hy, h1, h2⟩
      · by_cases e : j = x.1
        · subst e
          rw [upd_same] at h
          exact .inr ⟨x, by simp, rfl, h⟩
        · rw [upd_other _ _ e] at h
          exact .inl h
      · exact .inr ⟨y, by simp [hy], h1, h2⟩
    · rw [if_neg (by simp)]
      refine ⟨some x.1, fun j hj => ?_⟩
      have e : j ≠ x.1 := fun e => hj (by rw [e])
      rcases crash_torn keep n r (k + 1) (upd p (x.1, x.2.take n ++ (p x.1).drop n)) j with h | ⟨y, hy, h1, h2⟩
      · exact .inl (h.trans (upd_other p (x.1, x.2.take n ++ (p x.1).drop n) e))
      · exact .inr ⟨y, by simp [hy], h1, h2⟩
/-- The disk behind writes that were accepted. -/
def behind (T : Dsk) (ys : List Sp) : Dsk := { T with c := ys.map fun y => (y.at_, full y.s) }
theorem behind_nil {T : Dsk} (h : T.c = []) : behind T [] = T := by
  obtain ⟨p, c, f, d⟩ := T
  simp only at h
  subst h
  rfl
theorem behind_good {T : Dsk} (hd : T.dead = false) (hf : T.fuse = none) {ys : List Sp} {y : Sp} (h1 : sec y.at_ = true) (h2 : y.s.length ≤ 512) : (behind T ys).write y.at_ y.s = (0, behind T (ys ++ [y])) := by
  unfold Dsk.write behind Dsk.burnt
  rw [if_neg (by simp [hd]), if_neg (by simp [h1]), if_neg (by omega), if_neg (by simp [hf])]
  simp [hf]
theorem behind_bad {T : Dsk} (hd : T.dead = false) {ys : List Sp} {y : Sp} (h : ¬ (sec y.at_ = true ∧ y.s.length ≤ 512)) : (((behind T ys).write y.at_ y.s).1 = 1 ∨ ((behind T ys).write y.at_ y.s).1 = 10) ∧ ((behind T ys).write y.at_ y.s).2 = behind T ys := by
  unfold Dsk.write
  rw [if_neg (by simp [hd, behind])]
  by_cases h1 : sec y.at_ = false
  · rw [if_pos h1]; exact ⟨.inl rfl, rfl⟩
  · rw [if_neg h1, if_pos (by
      have h2 : sec y.at_ = true := by simpa using h1
      have h3 : ¬ y.s.length ≤ 512 := fun e => h ⟨h2, e⟩
      omega)]
    exact ⟨.inr rfl, rfl⟩
theorem left_whole {T : Dsk} (hd : T.dead = false) (ys : List Sp) (k : Int) : ((behind T ys).crash (List.replicate ys.length true) 0).platter k = (behind T ys).read k := by
  rw [plat_of, read_of (by simp [behind, hd])]
  show (if sec k = true then crashGo _ _ 0 (behind T ys).c (behind T ys).p false k else []) = _
  rw [crash_all _ _ _ _ _ _ (fun i _ h => by
    have : i < ys.length := by simpa [behind] using h
    simp [this]), putAll_last]
theorem left_none {T : Dsk} (ys : List Sp) (k : Int) : ((behind T ys).crash [] 0).platter k = T.platter k := by
  rw [plat_of, plat_of]
  show (if sec k = true then crashGo [] (clamp 0) 0 (behind T ys).c (behind T ys).p false k else []) = _
  rw [show clamp 0 = 0 by decide, crash_nothing]
  rfl
theorem left_some {T : Dsk} (ys : List Sp) (keep : List Bool) (x : Int) : ∃ t : Option Int, ∀ k, sec k = true → t ≠ some k → ((behind T ys).crash keep x).platter k = T.platter k ∨ ∃ y ∈ ys, y.at_ = k ∧ ((behind T ys).crash keep x).platter k = full y.s := by
  obtain ⟨t, ht⟩ := crash_some keep (clamp x) (behind T ys).c 0 T.p
  refine ⟨t, fun k hk hne => ?_⟩
  rw [plat_of, plat_of, hk]
  rcases ht k hne with h | ⟨z, hz, h1, h2⟩
  · exact .inl h
  · obtain ⟨y, hy, rfl⟩ := List.mem_map.1 hz
    exact .inr ⟨y, hy, h1, h2⟩
end MM
end Go.Proofs.YtdgaokmmjnedhaaDoor
/- An operation of a drawn region whose guard says no is passed over first. -/
namespace Go.Proofs.YtdgaokmmjnedhaaDoor
open Go
namespace RK
variable {P : Program} {md : Region.Mode} {ops : Array Oper} {Q : Exit → Act → World → Prop} {S : World → Prop} {st : Nat}
theorem Any.skip {s : Array Bool} {a : Act} {w : World} {f : Nat} (i t : Nat) {oi : Oper} (hi : ops[i]? = some oi) (hd : oi.dst = some t) (hs : Region.noSelect ops = true) (hf : Region.free md ops s i = true) (hr : (Region.ready md ops s).contains i = true)
    (hst : (decide (ops.size ≤ st) || Region.waitsFor md ops st i) = true) (hQ : ∀ c a w, Q (.panic c) (a.put oi.dst undef) w → Q (.panic c) a w)
    (hw : Region.wanted oi (yielded ops a.tmps) = false) (hS : S w) (h : Any P md ops Q S st f (s.setIfInBounds i true) { a with tmps := a.tmps.setIfInBounds t undef } w) : Any P md ops Q S st (f + 1) s a w :=
  Any.first hi (Region.noSelect_spec hs) hQ (fun oj hoj => by
    rw [Bool.or_eq_true] at hst
    rcases hst with h1 | h1
    · have := (Array.getElem?_eq_some_iff.1 hoj).1
      have := of_decide_eq_true h1
      omega
    · obtain ⟨o', ho', e, he, hb, h2⟩ := Region.waitsFor_spec h1
      obtain rfl : o' = oj := Option.some.inj (ho'.symm.trans hoj)
      exact ⟨e, he, hb, h2⟩) f s a w (Region.free_spec hi hf) (List.contains_iff_mem.1 hr) (.inr ⟨hw, rfl⟩) hS (by
    rw [hd]
    exact h)
end RK
end Go.Proofs.YtdgaokmmjnedhaaDoor

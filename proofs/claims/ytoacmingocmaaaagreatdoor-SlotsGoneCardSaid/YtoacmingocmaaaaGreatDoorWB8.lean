/- The texts DskUse, DskCopy, DskSet, WirMath, one behind the other. -/
import Derived.Test.YtoacmingocmaaaaGreatDoorWB2
import Derived.Test.YtoacmingocmaaaaGreatDoorWB7
import Derived.Sort.OwnSortedInts
import Derived.Lib.SlKeysI
import Derived.Lib.SlicesCompact
import Derived.Lib.AppendZeros
import Derived.Test.YtoacmingocmaaaaGreatDoorWB5
import Derived.Test.YtoacmingocmaaaaGreatDoorWB3
import Derived.Test.YtoacmingocmaaaaGreatDoorWB6
import Derived.Test.YtoacmingocmaaaaGreatDoorWB1
/- What is used on a disk: the maths of a sorted row without doubles, a map's keys collected, and the walk. -/
namespace Go.Proofs.YtoacmingocmaaaaGreatDoor
namespace MM
/-- Ascending, no number twice. -/
def Asc (l : List Int) : Prop := l.Pairwise (· < ·)
theorem asc_ext : ∀ {l l' : List Int}, Asc l → Asc l' → (∀ k, k ∈ l ↔ k ∈ l') → l = l' := fun {l l'} h h' he => by
  refine List.Perm.eq_of_pairwise (le := fun a b => a ≤ b) (fun a b _ _ h1 h2 => Int.le_antisymm h1 h2) (h.imp Int.le_of_lt) (h'.imp Int.le_of_lt) ?_
  exact (List.perm_ext_iff_of_nodup (h.imp Int.ne_of_lt) (h'.imp Int.ne_of_lt)).2 he
theorem compactTo_asc (d : Array Int) (hs : ∀ i j : Nat, i ≤ j → j < d.size → d[i]! ≤ d[j]!) : ∀ m, m ≤ d.size → Asc (Lib.compactUpTo d m) ∧ (∀ x, x ∈ Lib.compactUpTo d m ↔ ∃ j, j < m ∧ d[j]! = x) ∧ ∀ x ∈ Lib.compactUpTo d m, ∀ j, m ≤ j + 1 → j < d.size → x ≤ d[j]!
  | 0, _ => ⟨List.Pairwise.nil, fun x => by simp [Lib.compactUpTo], fun x hx => by simp [Lib.compactUpTo] at hx⟩
  | m + 1, hm => by
    obtain ⟨h1, h2, h3⟩ := compactTo_asc d hs m (by omega)
    rw [Lib.compactUpTo_succ]
    by_cases hk : Lib.keeps d m = true
    · rw [if_pos hk]
      have hk' : m = 0 ∨ d[m]! ≠ d[m - 1]! := by simpa [Lib.keeps] using hk
      have hlt : ∀ x ∈ Lib.compactUpTo d m, x < d[m]! := fun x hx => by
        rcases hk' with rfl | hne
        · simp [Lib.compactUpTo] at hx
        · have e1 := h3 x hx (m - 1) (by omega) (by omega)
          have e2 := hs (m - 1) m (by omega) (by omega)
          omega
      refine ⟨?_, fun x => ?_, fun x hx j hj hjs => ?_⟩
      · refine List.pairwise_append.2 ⟨h1, List.pairwise_singleton _ _, fun a ha b hb => ?_⟩
        obtain rfl : b = d[m]! := by simpa using hb
        exact hlt a ha
      · rw [List.mem_append, h2]
        constructor
        · rintro (⟨j, hj, rfl⟩ | hx)
          · exact ⟨j, by omega, rfl⟩
          · exact ⟨m, by omega, (List.mem_singleton.1 hx).symm⟩
        · rintro ⟨j, hj, rfl⟩
          by_cases e : j = m
          · subst e; exact .inr (by simp)
          · exact .inl ⟨j, by omega, rfl⟩
      · have hm2 := hs m j (by omega) hjs
        rcases List.mem_append.1 hx with hx | hx
        · have := hlt x hx; omega
        · obtain rfl : x = d[m]! := by simpa using hx
          exact hm2
    · rw [if_neg hk, List.append_nil]
      have hk' : m ≠ 0 ∧ d[m]! = d[m - 1]! := by simpa [Lib.keeps] using hk
      refine ⟨h1, fun x => ?_, fun x hx j hj hjs => ?_⟩
      · rw [h2]
        constructor
        · rintro ⟨j, hj, rfl⟩; exact ⟨j, by omega, rfl⟩
        · rintro ⟨j, hj, rfl⟩
          by_cases e : j = m
          · subst e; exact ⟨j - 1, by omega, hk'.2.symm⟩
          · exact ⟨j, by omega, rfl⟩
      · exact h3 x hx j (by omega) hjs
/-- A row sorted, then without doubles. -/
theorem compact_sorted (zs : List Int) : Asc (Lib.compact (zs.mergeSort fun x y => decide (x ≤ y))) ∧ ∀ k, k ∈ Lib.compact (zs.mergeSort fun x y => decide (x ≤ y)) ↔ k ∈ zs := by
  obtain ⟨ys, hy⟩ : ∃ ys, zs.mergeSort (fun x y => decide (x ≤ y)) = ys := ⟨_, rfl⟩
  have hp : ys.Perm zs := hy ▸ List.mergeSort_perm zs _
  have hs : ys.Pairwise (fun a b => decide (a ≤ b) = true) := by
    rw [← hy]
    exact List.pairwise_mergeSort (fun a b c h1 h2 => by simp only [decide_eq_true_eq] at *; exact Int.le_trans h1 h2) (fun a b => by simp only [Bool.or_eq_true, decide_eq_true_eq]; exact Int.le_total a b) zs
  rw [hy]
  have hget : ∀ i : Nat, (h : i < ys.length) → ys.toArray[i]! = ys[i] := fun i h => by rw [getElem!_pos _ i (by simpa using h)]; simp
  obtain ⟨h1, h2, _⟩ := compactTo_asc ys.toArray (fun i j hij hj => by
    have hj' : j < ys.length := by simpa using hj
    rw [hget i (by omega), hget j hj']
    by_cases e : i = j
    · subst e; exact Int.le_refl _
    · have := List.pairwise_iff_getElem.1 hs i j (by omega) hj' (by omega)
      simpa using this) ys.length (by simp)
  refine ⟨h1, fun k => (h2 k).trans ?_⟩
  rw [← hp.mem_iff]
  constructor
  · rintro ⟨j, hj, rfl⟩
    rw [hget j hj]; exact List.getElem_mem hj
  · intro hk
    obtain ⟨j, hj, e⟩ := List.getElem_of_mem hk
    exact ⟨j, hj, by rw [hget j hj, e]⟩
/-- What Used tells. -/
structure UsedIs (s : Dsk) (l : List Int) : Prop where
  asc : Asc l
  mem : ∀ k, k ∈ l ↔ (s.p k ≠ zero ∨ ∃ x ∈ s.c, x.1 = k)
theorem UsedIs.one {s : Dsk} {l l' : List Int} (h : UsedIs s l) (h' : UsedIs s l') : l = l' := asc_ext h.asc h'.asc fun k => (h.mem k).trans (h'.mem k).symm
end MM
open Go Go.RowKit Go.Lib Go.Shelf
open Go.Maps (Keyed)
namespace M
open MM
theorem keys_any (mb : Option Nat) (w : World) : Calls Tryz.prog 71 #[.map mb] w fun e w' => e = .returned (.func (.func 89) #[] #[.pointer (some ⟨w.heap.size, 0, none⟩)]) ∧ w' = w.alloc (.cells #[.map mb] 54) :=
  (callsIn_wide (n := 5)).1 (AnyZI.keys_in Tryz.keysA Fence.wide 5 trivial rfl mb w)
/-- The sectors that a map has, in some row, in memory of the call's own. -/
theorem collect_any {w : World} {mv : Value} {n : Nat} {p : Int → By} (h : PlatAt w mv n p) (hn : n ≤ 1000000) (W : World) (hb : Below w.heap.size w W) (Bm : Nat) (hB : Bm < W.heap.size) (hm : W.cell? ⟨Bm, 0, none⟩ = some mv) :
    Calls Tryz.prog 70 #[.func (.func 89) #[] #[.pointer (some ⟨Bm, 0, none⟩)]] W fun e w' => ∃ (v : Value) (ss : List Int), e = .returned v ∧ ss.length ≤ n ∧ (∀ k, k ∈ ss ↔ p k ≠ zero) ∧ OwnE W 3 v (ints ss) w' := by
  refine (callsIn_wide (n := 5)).1 ?_
  have fin : ∀ (S : List Int → Prop) (N : Nat), N ≤ n → (∀ ss, S ss → ∀ k, k ∈ ss ↔ p k ≠ zero) → SeqGives Fence.wide (5 - 1 - 1) Tryz.prog 89 #[.pointer (some ⟨Bm, 0, none⟩)] encZ S N W →
      CallsIn Fence.wide 5 Tryz.prog 70 #[.func (.func 89) #[] #[.pointer (some ⟨Bm, 0, none⟩)]] W fun e w' => ∃ (v : Value) (ss : List Int), e = .returned v ∧ ss.length ≤ n ∧ (∀ k, k ∈ ss ↔ p k ≠ zero) ∧ OwnE W 3 v (ints ss) w' := fun S N hN hS hseq => by
    have hc := AnyZI.collect_in Tryz.collectA Fence.wide 5 trivial trivial rfl (by omega) 89 #[.pointer (some ⟨Bm, 0, none⟩)] trivial (enters_of Tryz.func89 (by kernel_rfl) rfl) _ N (by unfold maxLen; omega) (by omega) W hseq.bounded
    exact CallsIn.mono hc fun e w' ⟨v, ss, h1, ⟨h2, h3⟩, h4, _, h6⟩ => ⟨v, ss, h1, by omega, hS ss h2, ⟨by rw [ints_len]; exact h4, h6⟩⟩
  rcases h with ⟨rfl, hz⟩ | ⟨b, rfl, D, hown, hhas, _⟩
  · refine fin (fun ss => ss = []) 0 (Nat.zero_le _) (fun ss hs k => ?_) (AnyZI.keys_gives_nil (ρ := Tryz.keysA_ren) { Tryz.keysA with } Fence.wide _ trivial rfl Bm W hB hm)
    subst hs
    simp [hz k]
  · have hlt := hown.lt
    refine fin (fun ss => ss.Perm (intKeys D)) (Maps.size D) hown.size_le (fun ss hs k => ?_) (AnyZI.keys_gives (ρ := Tryz.keysA_ren) { Tryz.keysA with } Fence.wide _ trivial rfl (by omega) Bm b n D W hB hm (ownsMap_of hown (hb.block b hlt)))
    rw [hs.mem_iff]
    obtain ⟨es, hD, _, hlit⟩ := hown.entries keyInt
    obtain ⟨es', hD', hko⟩ := hown.keysOf
    obtain rfl : es = es' := by rw [hD] at hD'; simpa using hD'
    have hk := hhas k
    subst hD
    rw [Go.Maps.has_eq] at hk
    have hiff : (es.any fun p => p.1.sameKey (key k)) = true ↔ k ∈ intKeys (.map es) := by
      rw [List.any_eq_true]
      show _ ↔ k ∈ es.map fun p => Go.intOf p.1
      rw [List.mem_map]
      constructor
      · rintro ⟨x, hx, hs⟩
        obtain ⟨v, hv⟩ := hko x hx
        obtain ⟨a, _, ha, _⟩ := Go.Maps.keyOf_i64 Tryz.underlying3 hv
        rw [ha] at hs
        exact ⟨x, hx, by rw [ha]; simpa [Lit.sameKey, Go.intOf, key] using hs⟩
      · rintro ⟨x, hx, rfl⟩
        obtain ⟨v, hv⟩ := hko x hx
        obtain ⟨a, _, ha, _⟩ := Go.Maps.keyOf_i64 Tryz.underlying3 hv
        exact ⟨x, hx, by rw [ha]; simp [Lit.sameKey, Go.intOf, key]⟩
    rw [← hiff, hk]
    simp
section
variable {w0 w : World} {v : Value} {zs : List Int}
theorem sort_any (h : OwnE w0 3 v (ints zs) w) (hl : zs.length ≤ 3000000) : Calls Tryz.prog 72 #[v] w fun e w' => e = .returned (.tuple #[]) ∧ OwnE w0 3 v (ints (zs.mergeSort fun x y => decide (x ≤ y))) w' := by
  have hlen : (zs.mergeSort fun x y => decide (x ≤ y)).length = zs.length := List.length_mergeSort zs
  obtain ⟨h1, ⟨rfl, hz⟩ | ⟨g, cap, cur, rfl, hg, hh, hc, hcm, hcs, htk⟩⟩ := h.own
  · have h0 : zs = [] := by rw [ints_len] at hz; exact List.eq_nil_of_length_eq_zero hz
    subst h0
    refine (Tryz.slices_Sort_int_none none 0 w).mono fun e w' ⟨he, hw⟩ => ⟨he, ?_⟩
    subst hw
    rw [List.mergeSort_nil]
    exact h
  · rw [ints_len] at hc htk ⊢
    rw [Nat.mul_one] at htk
    have hgl := row_lt hh
    refine (Tryz.slices_Sort_int g 0 cap zs w (holds_of_blockI hh htk) hgl (by omega)).mono ?_
    rintro e w' ⟨he, n, os, rfl⟩
    refine ⟨he, ⟨?_, ?_⟩⟩
    · have := ownsRow_sortedI (n := n) (os := os) hlen hg hh hc hcm hcs
      rw [ints_len, hlen]
      exact this
    · exact h.below.grown (grownBy_sortedI _) h.below.size (fun k hk => by injection hk with hk; omega)
/-- A row behind all that was there. -/
def NewS (w : World) (v : Value) : Prop := ∀ ad n c, v = .slice (some ad) n c → w.heap.size ≤ ad.block
theorem compact_any (h : OwnE w0 3 v (ints zs) w) (hl : zs.length ≤ 3000000) : Calls Tryz.prog 73 #[v] w fun e w' => ∃ v', e = .returned v' ∧ ValsAt w' v' (ints (Lib.compact zs)) ∧ Below w0.heap.size w0 w' ∧ NewS w0 v' := by
  obtain ⟨h1, ⟨rfl, hz⟩ | ⟨g, cap, cur, rfl, hg, hh, hc, hcm, hcs, htk⟩⟩ := h.own
  · have h0 : zs = [] := by rw [ints_len] at hz; exact List.eq_nil_of_length_eq_zero hz
    subst h0
    refine (Tryz.slices_Compact_int_empty none 0 w).mono fun e w' ⟨he, hw⟩ => ⟨_, he, ⟨none, 0, rfl, fun i u hi => ?_⟩, hw ▸ h.below, fun _ _ _ e => by cases e⟩
    simp [ints, Lib.compact, Lib.compactUpTo] at hi
  · rw [ints_len] at hc htk ⊢
    rw [Nat.mul_one] at htk
    refine (Tryz.slices_Compact_int g 0 cap zs w (holds_of_blockI hh htk) (by omega) hc).mono ?_
    rintro e w' ⟨he, n, rfl⟩
    have hgr := grownBy_sortedI (w := w) (g := g) (n := n) (os := #[]) (Lib.compact zs ++ List.replicate (zs.length - (Lib.compact zs).length) 0).toArray
    have hhp := heap_sortedI (n := n) (os := #[]) (Lib.compact zs ++ List.replicate (zs.length - (Lib.compact zs).length) 0).toArray hh
    rw [Go.Sort.grow_empty] at hgr hhp
    refine ⟨_, he, ⟨_, cap, by rw [ints_len], fun i u hi => ⟨_, rfl, ?_⟩⟩, h.below.grown hgr h.below.size (fun k hk => by injection hk with hk; omega), fun ad n c e => by injection e with e1 _ _; injection e1 with e2; rw [← e2]; exact hg⟩
    have hil : i < (Lib.compact zs).length := by have := (List.getElem?_eq_some_iff.1 hi).1; rwa [ints_len] at this
    have hcl : (Lib.compact zs).length ≤ zs.length := by
      unfold Lib.compact Lib.compactUpTo
      rw [List.length_map]
      exact Nat.le_trans (List.length_filter_le _ _) (by rw [List.length_range]; exact Nat.le_refl _)
    rw [Addr.add_lit, Nat.zero_add, cell_of_row _ g i _ _ _ hhp]
    simp only [ints, List.getElem?_map] at hi
    rw [List.getElem?_eq_getElem hil] at hi
    simp only [Option.map_some, Option.some.injEq] at hi
    rw [← hi]
    simp only [Go.Sort.putCells]
    simp [show i < cur.size by omega]
    rw [if_pos (by omega), List.getElem?_append_left hil, List.getElem?_eq_getElem hil]
    rfl
end
section
variable {w : World} {F : Nat → Prop} {B N : Nat} {s : Dsk}
set_option maxRecDepth 100000 in
set_option maxHeartbeats 8000000 in
theorem used_new (h : Dk w F B N s) : Calls Tryz.prog 51 #[ptr B] w fun e w' => ∃ v l, e = .returned v ∧ UsedIs s l ∧ ValsAt w' v (ints l) ∧ Below w.heap.size w w' ∧ NewS w v := by
  have hN := h.N
  obtain ⟨m, v, fu, le, n, hl⟩ := h.lies
  obtain ⟨mb, rfl⟩ : ∃ mb, m = .map mb := by
    rcases hl.plat with ⟨rfl, _⟩ | ⟨g, rfl, _⟩
    · exact ⟨_, rfl⟩
    · exact ⟨_, rfl⟩
  have hfew := hl.few
  obtain ⟨co, L, cap, rfl, hLL, hcap⟩ : ∃ co L cap, v = .slice co L cap ∧ s.c.length = L ∧ L ≤ cap := by
    rcases hl.cache.rd with ⟨rfl, hn⟩ | ⟨g', cap, hv, hc, _⟩
    · exact ⟨none, 0, 0, rfl, by rw [hn]; rfl, Nat.le_refl _⟩
    · exact ⟨_, _, cap, hv, rfl, hc⟩
  obtain ⟨c0, c1, _⟩ := box_cells hl.box
  have hBl := row_lt hl.box
  have hb1 := below_box w (.cells #[.map mb] 54)
  have hcm : (w.alloc (.cells #[.map mb] 54)).cell? ⟨w.heap.size, 0, none⟩ = some (.map mb) := (cell_of_row _ _ 0 _ _ _ (heap_alloc_new w _)).trans rfl
  have HCO := Lib.hid (collect_any hl.plat (by omega) _ hb1 w.heap.size (by simp) hcm)
  have HCA : Hid (∀ X, Below w.heap.size w X → CacheAt X (.slice co L cap) s.c) := Lib.hid fun X hX => hl.cache.of fun g' hg' => hX.block g' (h.old g' (hl.vF g' hg'))
  have HBX : Hid (∀ X, Below w.heap.size w X → X.cell? ⟨B, 1, none⟩ = some (.slice co L cap)) := Lib.hid fun X hX => (hX.cell (p := ⟨B, 1, none⟩) hBl).trans c1
  have HB1 := Lib.hid hb1
  have HLL := Lib.hid hLL
  rw [hLL] at hfew
  clear h hl hcm hb1 hLL
  go_enter Tryz.func51, Tryz.ntmps51
  go_upto_region 4 with (first
    | (go_at_call 71; (with_reducible refine (keys_any mb _).mono ?_); rintro e w' ⟨rfl, rfl⟩)
    | (go_at_call 70; (with_reducible refine HCO.out.mono ?_); rintro e w2 ⟨v2, ss, rfl, hsl, hss, hown⟩; have HSL := Lib.hid hsl; have HSS := Lib.hid hss; have HOW := Lib.hid hown; clear hsl hss hown))
  have hown := HOW.out
  generalize w.alloc (.cells #[.map mb] 54) = w1 at *
  obtain ⟨ao2, cp2, rfl, _⟩ := hown.val
  rw [ints_len] at hown ⊢
  have hb2 : Below w.heap.size w w2 := bnext HB1.out hown.below
  have cB := HBX.out w2 hb2
  obtain ⟨M, hM⟩ : ∃ M, ss.length = M := ⟨_, rfl⟩
  have HM := Lib.hid hM
  have hMn : M ≤ n := hM ▸ HSL.out
  rw [hM] at hown ⊢
  have H00 : Hid (OwnE w1 3 (.slice ao2 (M + 0) cp2) (ints (ss ++ (s.c.take 0).map (·.1))) w2) := Lib.hid (by rw [List.take_zero, List.map_nil, List.append_nil]; exact hown)
  have HLN : Hid (∀ i, i ≤ L → (ints (ss ++ (s.c.take i).map (·.1))).length = M + i) := Lib.hid fun i hi => by
    rw [ints_len, List.length_append, List.length_map, List.length_take, HM.out, HLL.out]; omega
  clear hown hb2 HOW HCO c0 c1 hM
  go_wp2_with fail
  go_loopw [3, 5, 19] (fun s3 s5 s19 wx => ∃ (i : Nat) (ao : Option Addr) (c' : Nat), i ≤ L ∧ s19 = .int .i64 (i : Int) ∧ s3 = .slice ao (M + i) c' ∧ Hid (OwnE w1 3 (.slice ao (M + i) c') (ints (ss ++ (s.c.take i).map (·.1))) wx)) (fun _ _ s19 _ => L - (RowKit.intOf s19).toNat)
  case atStart => exact ⟨0, ao2, cp2, Nat.zero_le _, rfl, rfl, H00⟩
  case round =>
    obtain ⟨i, ao, c', hi, rfl, rfl, HI⟩ := hrel
    have hbw : Below w.heap.size w wr := bnext HB1.out HI.out.below
    by_cases hlt : i < L
    · obtain ⟨x, hx⟩ : ∃ x, s.c[i]? = some x := ⟨_, List.getElem?_eq_getElem (by rw [HLL.out]; exact hlt)⟩
      obtain ⟨g, cap2, hv, hrg⟩ := write_range (HCA.out wr hbw) hx
      rw [HLL.out] at hv
      obtain rfl : co = some ⟨g, 0, none⟩ := by injection hv
      have HRG := Lib.hid hrg
      have HNX := Lib.hid (show ints (ss ++ (s.c.take i).map (·.1)) ++ [.int .i64 x.1] = ints (ss ++ (s.c.take (i + 1)).map (·.1)) by rw [ints_snoc, List.take_add_one, hx, List.map_append, List.append_assoc]; rfl)
      have hbx := below_box wr (.cells #[.int .i64 x.1, .string ⟨x.2.toArray⟩] 77)
      obtain ⟨ao', cq, w5, hr, hown5, _⟩ := (HI.out.step hbx).pushInt x.1 (by rw [HLN.out i (by omega)]; omega) 84
      rw [HLN.out i (by omega)] at hr hown5
      rw [HNX.out] at hown5
      have HO5 := Lib.hid hown5
      obtain ⟨xk, xt⟩ := x
      simp only at hr
      rw [World.size_alloc] at hr
      clear hbx hrg hv hx hown5 hbw
      go_wp2_with (first
        | (refine wpList_load_mid rfl 77 _ rfl g (i * 2) rfl [.int .i64 xk, .string ⟨xt.toArray⟩] _ HRG.out Tryz.underlying77 rfl (info_w2 (xk, xt)) ?_)
        | (at_builtin; refine Lib.wpList_append_run _ rfl _ _ _ _ rfl _ _ rfl rfl _ _ hr ?_))
      go_roundw
      case rel => exact ⟨i + 1, ao', cq, by omega, by go_num, rfl, HO5⟩
      case measure => simp [RowKit.intOf]; omega
    · obtain rfl : i = L := by omega
      have hown := HI.out
      obtain ⟨zs, hzs⟩ : ∃ zs, ss ++ (s.c.take i).map (·.1) = zs := ⟨_, rfl⟩
      have hzl : zs.length ≤ 3000000 := by
        have := HLN.out i (Nat.le_refl _)
        rw [hzs, ints_len] at this
        omega
      rw [hzs] at hown
      have HU : Hid (UsedIs s (Lib.compact (zs.mergeSort fun x y => decide (x ≤ y)))) := Lib.hid (by
        obtain ⟨h1, h2⟩ := compact_sorted zs
        refine ⟨h1, fun k => (h2 k).trans ?_⟩
        rw [← hzs, ← HLL.out, List.take_length, List.mem_append, HSS.out k, List.mem_map])
      have HSO := Lib.hid (sort_any hown hzl)
      have hzl2 : (zs.mergeSort fun x y => decide (x ≤ y)).length ≤ 3000000 := by rw [List.length_mergeSort]; exact hzl
      clear hown hzs hbw cB
      go_wp2_with (first
        | (go_at_call 72; (with_reducible refine HSO.out.mono ?_); rintro e w5 ⟨rfl, hown5⟩; have HCP := Lib.hid (compact_any hown5 hzl2); clear hown5)
        | (go_at_call 73; (with_reducible refine HCP.out.mono ?_); rintro e w6 ⟨v6, rfl, hv6, hb6, hn6⟩; have HV6 := Lib.hid hv6; have HB6 := Lib.hid hb6; have HN6 := Lib.hid hn6; clear hv6 hb6 hn6))
      go_ret
      exact ⟨_, _, rfl, HU.out, HV6.out, bnext HB1.out HB6.out, fun ad n c e => Nat.le_trans HB1.out.size (HN6.out ad n c e)⟩
theorem used_any (h : Dk w F B N s) : Calls Tryz.prog 51 #[ptr B] w fun e w' => ∃ v l, e = .returned v ∧ UsedIs s l ∧ ValsAt w' v (ints l) ∧ Below w.heap.size w w' := (used_new h).mono fun _ _ ⟨v, l, h1, h2, h3, h4, _⟩ => ⟨v, l, h1, h2, h3, h4⟩
end
end M
end Go.Proofs.YtoacmingocmaaaaGreatDoor
/- The walk of a copy of a disk. -/
namespace Go.Proofs.YtoacmingocmaaaaGreatDoor
open Go Go.RowKit Go.Lib Go.Shelf
namespace M
open MM
section
variable {w : World} {F : Nat → Prop} {B N : Nat} {s : Dsk}
end
end M
end Go.Proofs.YtoacmingocmaaaaGreatDoor
/- Some disks of the program's at once, none of which shares memory with another, and what stays beside them. -/
namespace Go.Proofs.YtoacmingocmaaaaGreatDoor
open Go Go.RowKit Go.Lib
namespace M
open MM
abbrev Dl := List (Nat × Nat × Dsk)
/-- The disks L stand (each: its block, how many writes at most, what it is); R stays, whatever is done to them; nothing of what was there at W has changed. -/
structure Ds (W : World) (L : Dl) (R : World → Prop) (w : World) : Prop where
  ex : ∃ (Fs : Nat → Nat → Prop) (K : Nat → Prop),
    (∀ (i : Nat) (x : Nat × Nat × Dsk), L[i]? = some x → Dk w (Fs i) x.1 x.2.1 x.2.2 ∧ ∀ k, Fs i k → W.heap.size ≤ k) ∧
    (∀ i j, i < L.length → j < L.length → i ≠ j → ∀ k, Fs i k → ¬ Fs j k) ∧
    (∀ k, K k → k < w.heap.size) ∧ (∀ i, i < L.length → ∀ k, K k → ¬ Fs i k) ∧ (∀ u : World, (∀ k, K k → u.heap[k]? = w.heap[k]?) → R u)
  below : Below W.heap.size W w
section
variable {W w w' : World} {L : Dl} {R : World → Prop}
theorem Ds.start (W : World) (h : Below W.heap.size W w) : Ds W [] (fun _ => True) w := ⟨⟨fun _ _ => False, fun _ => False, fun i x h => by simp at h, fun i j h => by simp at h, fun _ h => h.elim, fun i h => by simp at h, fun _ _ => trivial⟩, h⟩
theorem Ds.rest (h : Ds W L R w) : R w := by
  obtain ⟨Fs, K, _, _, _, _, h5⟩ := h.ex
  exact h5 w fun _ _ => rfl
theorem Ds.step (h : Ds W L R w) (hb : Below w.heap.size w w') : Ds W L R w' := by
  obtain ⟨Fs, K, h1, h2, h3, h4, h5⟩ := h.ex
  exact ⟨⟨Fs, K, fun i x hx => ⟨(h1 i x hx).1.step hb, (h1 i x hx).2⟩, h2, fun k hk => Nat.lt_of_lt_of_le (h3 k hk) hb.size, h4, fun u hu => h5 u fun k hk => (hu k hk).trans (hb.block k (h3 k hk))⟩, h.below.trans (hb.mono h.below.size)⟩
/-- One of them. -/
theorem Ds.dk (h : Ds W L R w) {i : Nat} {x : Nat × Nat × Dsk} (hi : L[i]? = some x) : ∃ F, Dk w F x.1 x.2.1 x.2.2 ∧ (∀ u, Chg F w u → Below W.heap.size W u ∧ R u) ∧ ∀ N' s' w', Did w F x.1 N' s' w' → Ds W (L.set i (x.1, N', s')) R w' := by
  obtain ⟨Fs, K, h1, h2, h3, h4, h5⟩ := h.ex
  have hil := (List.getElem?_eq_some_iff.1 hi).1
  obtain ⟨hd, hF⟩ := h1 i x hi
  have hR : ∀ u, Chg (Fs i) w u → Below W.heap.size W u ∧ R u := fun u hu => ⟨h.below.trans (hu.below hF h.below.size), h5 u fun k hk => hu.block k (h3 k hk) (h4 i hil k hk)⟩
  refine ⟨Fs i, hd, hR, fun N' s' w' hdid => ?_⟩
  obtain ⟨F', k1, k2, k3⟩ := hdid
  refine ⟨⟨fun j => if j = i then F' else Fs j, K, fun j y hj => ?_, fun a b ha hb hab k hak => ?_, fun k hk => Nat.lt_of_lt_of_le (h3 k hk) k3.size, fun j hj k hk => ?_, fun u hu => h5 u fun k hk => (hu k hk).trans (k3.block k (h3 k hk) (h4 i hil k hk))⟩, (hR w' k3).1⟩
  · by_cases e : j = i
    · subst e
      rw [List.getElem?_set_self hil] at hj
      obtain rfl : (x.1, N', s') = y := by simpa using hj
      show Dk w' (if j = j then F' else Fs j) _ _ _ ∧ ∀ k, (if j = j then F' else Fs j) k → _
      rw [if_pos rfl]
      exact ⟨k1, fun k hk => (k2 k hk).elim (hF k) fun h6 => Nat.le_trans h.below.size h6⟩
    · rw [List.getElem?_set_ne (fun e' => e e'.symm)] at hj
      simp only [if_neg e]
      obtain ⟨q1, q2⟩ := h1 j y hj
      exact ⟨q1.chg k3 fun k hk => h2 j i (List.getElem?_eq_some_iff.1 hj).1 hil e k hk, q2⟩
  · rw [List.length_set] at ha hb
    simp only at hak ⊢
    by_cases e1 : a = i
    · subst e1
      rw [if_pos rfl] at hak
      rw [if_neg (fun e => hab e.symm)]
      intro hbk
      obtain ⟨y, hy⟩ : ∃ y, L[b]? = some y := ⟨_, List.getElem?_eq_getElem hb⟩
      have hlt := (h1 b y hy).1.old k hbk
      rcases k2 k hak with h6 | h6
      · exact h2 a b ha hb hab k h6 hbk
      · omega
    · rw [if_neg e1] at hak
      obtain ⟨y, hy⟩ : ∃ y, L[a]? = some y := ⟨_, List.getElem?_eq_getElem ha⟩
      have hlt := (h1 a y hy).1.old k hak
      by_cases e2 : b = i
      · subst e2
        rw [if_pos rfl]
        intro hbk
        rcases k2 k hbk with h6 | h6
        · exact h2 a b ha hb hab k hak h6
        · omega
      · rw [if_neg e2]
        exact h2 a b ha hb hab k hak
  · rw [List.length_set] at hj
    simp only
    by_cases e : j = i
    · subst e
      rw [if_pos rfl]
      intro hf
      rcases k2 k hf with h6 | h6
      · exact h4 j hj k hk h6
      · have := h3 k hk; omega
    · rw [if_neg e]
      exact h4 j hj k hk
/-- One more, that shares nothing. -/
theorem Ds.push (h : Ds W L R w) {F : Nat → Prop} {B N : Nat} {s : Dsk} (hd : Dk w' F B N s) (hF : ∀ k, F k → w.heap.size ≤ k) (hb : Below w.heap.size w w') : Ds W (L ++ [(B, N, s)]) R w' := by
  obtain ⟨Fs, K, h1, h2, h3, h4, h5⟩ := (h.step hb).ex
  obtain ⟨Gs, _, g1, _, _, _, _⟩ := h.ex
  have old : ∀ j, j < L.length → ∀ k, Fs j k → k < w'.heap.size := fun j hj k hk => (h1 j _ (List.getElem?_eq_getElem hj)).1.old k hk
  obtain ⟨Fs0, K0, a1, a2, a3, a4, a5⟩ := h.ex
  have b := h.below.trans (hb.mono h.below.size)
  refine ⟨⟨fun j => if j < L.length then Fs0 j else F, K0, fun j y hj => ?_, fun i j hi hj hij k hik => ?_, fun k hk => Nat.lt_of_lt_of_le (a3 k hk) hb.size, fun j hj k hk => ?_, fun u hu => a5 u fun k hk => (hu k hk).trans (hb.block k (a3 k hk))⟩, b⟩
  · by_cases e : j < L.length
    · rw [List.getElem?_append_left e] at hj
      simp only [if_pos e]
      exact ⟨(a1 j y hj).1.step hb, (a1 j y hj).2⟩
    · rw [List.getElem?_append_right (by omega)] at hj
      have e2 : j - L.length = 0 := by
        have := (List.getElem?_eq_some_iff.1 hj).1
        simp at this; omega
      rw [e2] at hj
      obtain rfl : (B, N, s) = y := by simpa using hj
      simp only [if_neg e]
      exact ⟨hd, fun k hk => Nat.le_trans h.below.size (hF k hk)⟩
  · rw [List.length_append, List.length_cons, List.length_nil] at hi hj
    simp only at hik ⊢
    have lt0 : ∀ a, a < L.length → ∀ k, Fs0 a k → k < w.heap.size := fun a ha k hk => (a1 a _ (List.getElem?_eq_getElem ha)).1.old k hk
    by_cases e1 : i < L.length
    · rw [if_pos e1] at hik
      by_cases e2 : j < L.length
      · rw [if_pos e2]; exact a2 i j e1 e2 hij k hik
      · rw [if_neg e2]
        intro hf
        have := lt0 i e1 k hik
        have := hF k hf
        omega
    · rw [if_neg e1] at hik
      by_cases e2 : j < L.length
      · rw [if_pos e2]
        intro hf
        have := lt0 j e2 k hf
        have := hF k hik
        omega
      · omega
  · simp only
    by_cases e : j < L.length
    · rw [if_pos e]; exact a4 j e k hk
    · rw [if_neg e]
      intro hf
      have := a3 k hk
      have := hF k hf
      omega
/-- A row of the call's own that stays as it is. -/
theorem Ds.row (h : Ds W L R w) {e : TypeId} {v : Value} {l : List Value} (ho : OwnE w e v l w') : Ds W L (fun u => R u ∧ ValsAt u v l) w' := by
  obtain ⟨Fs, K, h1, h2, h3, h4, h5⟩ := (h.step ho.below).ex
  obtain ⟨Fs0, K0, a1, a2, a3, a4, a5⟩ := h.ex
  have hlt := ho.own.lt
  have hvals := ho.vals
  refine ⟨⟨Fs0, fun k => K0 k ∨ v.ownBlock = some k, fun j y hj => ⟨(a1 j y hj).1.step ho.below, (a1 j y hj).2⟩, a2, fun k hk => ?_, fun j hj k hk => ?_, fun u hu => ⟨a5 u fun k hk => (hu k (.inl hk)).trans (ho.below.block k (a3 k hk)), ?_⟩⟩, h.below.trans (ho.below.mono h.below.size)⟩
  · rcases hk with hk | hk
    · exact Nat.lt_of_lt_of_le (a3 k hk) ho.below.size
    · exact (hlt k hk).2
  · rcases hk with hk | hk
    · exact a4 j hj k hk
    · intro hf
      have := (a1 j _ (List.getElem?_eq_getElem hj)).1.old k hf
      have := (hlt k hk).1
      omega
  · obtain ⟨ao, c, hv, hc⟩ := hvals
    refine ⟨ao, c, hv, fun i x hi => ?_⟩
    obtain ⟨g, c2, hv2, hc2⟩ := ho.cell hi
    rw [hv2] at hv
    injection hv with h6 _ _
    refine ⟨⟨g, 0, none⟩, h6.symm, ?_⟩
    rw [Addr.add_lit, Nat.zero_add]
    rw [World.cell?_of_block (w := w') (a := ⟨g, i, none⟩) (hu g (.inr (by rw [hv2]; rfl)))]
    exact hc2
theorem Ds.weaken {R' : World → Prop} (h : Ds W L R w) (hR : ∀ u, R u → R' u) : Ds W L R' w := by
  obtain ⟨Fs, K, h1, h2, h3, h4, h5⟩ := h.ex
  exact ⟨⟨Fs, K, h1, h2, h3, h4, fun u hu => hR u (h5 u hu)⟩, h.below⟩
/-! What the calls make of one of them. -/
variable {i B N : Nat} {s : Dsk}
theorem Ds.write (h : Ds W L R w) (hi : L[i]? = some (B, N, s)) (hN : N + 1 ≤ 1000000) (k : Int) (t : By) : Calls Tryz.prog 22 #[ptr B, .int .i64 k, .string ⟨t.toArray⟩] w fun e w' => e = .returned (.int .i64 ((s.write k t).1 : Int)) ∧ Ds W (L.set i (B, N + 1, (s.write k t).2)) R w' := by
  obtain ⟨F, hd, _, hgo⟩ := h.dk hi
  exact (write_any hd hN k t).mono fun e w' ⟨h1, h2⟩ => ⟨h1, hgo _ _ _ h2⟩
theorem Ds.sync (h : Ds W L R w) (hi : L[i]? = some (B, N, s)) (hN : 2 * N ≤ 1000000) : Calls Tryz.prog 23 #[ptr B] w fun e w' => e = .returned (.int .i64 (s.sync.1 : Int)) ∧ Ds W (L.set i (B, N, s.sync.2)) R w' := by
  obtain ⟨F, hd, _, hgo⟩ := h.dk hi
  exact (sync_any hd hN).mono fun e w' ⟨h1, h2⟩ => ⟨h1, hgo _ _ _ h2⟩
theorem Ds.fuse (h : Ds W L R w) (hi : L[i]? = some (B, N, s)) (n : Int) (hn : n ≤ 9223372036854775807) : Calls Tryz.prog 19 #[ptr B, .int .i64 n] w fun e w' => e = .returned (.tuple #[]) ∧ Ds W (L.set i (B, N, s.setFuse n)) R w' := by
  obtain ⟨F, hd, _, hgo⟩ := h.dk hi
  exact (fuse_any hd n hn).mono fun e w' ⟨h1, h2, h3⟩ => ⟨h1, hgo _ _ _ (.of h2 h3)⟩
theorem Ds.boot (h : Ds W L R w) (hi : L[i]? = some (B, N, s)) : Calls Tryz.prog 21 #[ptr B] w fun e w' => e = .returned (.tuple #[]) ∧ Ds W (L.set i (B, N, s.start)) R w' := by
  obtain ⟨F, hd, _, hgo⟩ := h.dk hi
  exact (start_any hd).mono fun e w' ⟨h1, h2, h3⟩ => ⟨h1, hgo _ _ _ (.of h2 h3)⟩
theorem Ds.crash (h : Ds W L R w) (hi : L[i]? = some (B, N, s)) (hN : 2 * N ≤ 1000000) (keep : List Bool) (ao : Option Addr) (kc : Nat) (n : Int) (hk : ∀ u, Below W.heap.size W u → R u → BoolsAt u ao keep) :
    Calls Tryz.prog 20 #[ptr B, .slice ao keep.length kc, .int .i64 n] w fun e w' => e = .returned (.tuple #[]) ∧ Ds W (L.set i (B, N, s.crash keep n)) R w' := by
  obtain ⟨F, hd, hR, hgo⟩ := h.dk hi
  exact (crash_any hd hN keep ao kc n fun u hu => hk u (hR u hu).1 (hR u hu).2).mono fun e w' ⟨h1, h2⟩ => ⟨h1, hgo _ _ _ h2⟩
theorem Ds.read (h : Ds W L R w) (hi : L[i]? = some (B, N, s)) (k : Int) : Calls Tryz.prog 36 #[ptr B, .int .i64 k] w fun e w' => e = .returned (.string ⟨(s.read k).toArray⟩) ∧ Below w.heap.size w w' := by
  obtain ⟨F, hd, _, _⟩ := h.dk hi
  exact read_any hd k
theorem Ds.platter (h : Ds W L R w) (hi : L[i]? = some (B, N, s)) (k : Int) : Calls Tryz.prog 14 #[ptr B, .int .i64 k] w fun e w' => e = .returned (.string ⟨(s.platter k).toArray⟩) ∧ Below w.heap.size w w' := by
  obtain ⟨F, hd, _, _⟩ := h.dk hi
  exact platter_any hd k
theorem Ds.waits (h : Ds W L R w) (hi : L[i]? = some (B, N, s)) : Calls Tryz.prog 16 #[ptr B] w fun e w' => e = .returned (.int .i64 (s.c.length : Int)) ∧ w' = w := by
  obtain ⟨F, hd, _, _⟩ := h.dk hi
  exact waits_any hd
theorem Ds.dead (h : Ds W L R w) (hi : L[i]? = some (B, N, s)) : Calls Tryz.prog 45 #[ptr B] w fun e w' => e = .returned (.bool s.dead) ∧ w' = w := by
  obtain ⟨F, hd, _, _⟩ := h.dk hi
  exact dead_any hd
theorem Ds.used (h : Ds W L R w) (hi : L[i]? = some (B, N, s)) : Calls Tryz.prog 51 #[ptr B] w fun e w' => ∃ v l, e = .returned v ∧ UsedIs s l ∧ ValsAt w' v (ints l) ∧ Below w.heap.size w w' := by
  obtain ⟨F, hd, _, _⟩ := h.dk hi
  exact used_any hd
theorem Ds.new (h : Ds W L R w) : Calls Tryz.prog 7 #[] w fun e w' => ∃ B', e = .returned (ptr B') ∧ Ds W (L ++ [(B', 0, Dsk.new)]) R w' :=
  (new_any w).mono fun _ _ ⟨B', _, h1, h2, h3, h4⟩ => ⟨B', h1, h.push h2 h3 h4⟩
theorem Ds.wf (h : Ds W L R w) (hi : L[i]? = some (B, N, s)) : s.Wf := by
  obtain ⟨F, hd, _, _⟩ := h.dk hi
  exact hd.wf
end
end M
end Go.Proofs.YtoacmingocmaaaaGreatDoor
/- Numbers as bytes, the most significant one first, and back. -/
namespace Go.Proofs.YtoacmingocmaaaaGreatDoor
namespace MM
/-- The last w bytes of a number. -/
def dig (n w : Nat) : List UInt8 := (List.range w).map fun i => UInt8.ofNat (n / 256 ^ (w - 1 - i))
/-- The number that bytes are. -/
def val (l : List UInt8) : Nat := l.foldl (fun n b => n * 256 + b.toNat) 0
@[simp] theorem dig_len (n w : Nat) : (dig n w).length = w := by simp [dig]
theorem dig_get {n w i : Nat} (h : i < w) : (dig n w)[i]? = some (UInt8.ofNat (n / 256 ^ (w - 1 - i))) := by simp [dig, h]
theorem dig_succ (n w : Nat) : dig n (w + 1) = dig (n / 256) w ++ [UInt8.ofNat n] := by
  unfold dig
  rw [List.range_succ, List.map_append]
  congr 1
  · refine List.map_congr_left fun i hi => ?_
    have hi := List.mem_range.1 hi
    have e : w + 1 - 1 - i = (w - 1 - i) + 1 := by omega
    rw [e, Nat.pow_succ, Nat.mul_comm, ← Nat.div_div_eq_div_mul]
  · simp
theorem val_snoc (l : List UInt8) (b : UInt8) : val (l ++ [b]) = val l * 256 + b.toNat := by simp [val]
theorem val_lt : ∀ (k : Nat) (l : List UInt8), l.length = k → val l < 256 ^ k
  | 0, l, h => by
    obtain rfl := List.length_eq_zero_iff.1 h
    simp [val]
  | k + 1, l, h => by
    obtain ⟨m, b, rfl⟩ : ∃ m b, l = m ++ [b] := by
      rcases List.eq_nil_or_concat l with rfl | ⟨m, b, rfl⟩
      · simp at h
      · exact ⟨m, b, by simp⟩
    have h1 := val_lt k m (by simpa using h)
    have hb := b.toNat_lt
    rw [val_snoc, Nat.pow_succ]
    omega
theorem val_dig : ∀ (w n : Nat), val (dig n w) = n % 256 ^ w
  | 0, n => by simp [dig, val, Nat.mod_one]
  | w + 1, n => by
    rw [dig_succ, val_snoc, val_dig w, Nat.pow_succ, Nat.mul_comm (256 ^ w) 256, Nat.mod_mul]
    have : (UInt8.ofNat n).toNat = n % 256 := by simp [UInt8.toNat_ofNat']
    rw [this]
    omega
theorem dig_val : ∀ (k : Nat) (l : List UInt8), l.length = k → dig (val l) k = l
  | 0, l, h => by
    obtain rfl := List.length_eq_zero_iff.1 h
    simp [dig]
  | k + 1, l, h => by
    obtain ⟨m, b, rfl⟩ : ∃ m b, l = m ++ [b] := by
      rcases List.eq_nil_or_concat l with rfl | ⟨m, b, rfl⟩
      · simp at h
      · exact ⟨m, b, by simp⟩
    have hb := b.toNat_lt
    rw [dig_succ, val_snoc]
    have e1 : (val m * 256 + b.toNat) / 256 = val m := by omega
    rw [e1, dig_val k m (by simpa using h)]
    congr 2
    apply UInt8.toNat_inj.1
    simp
/-- One byte more: shifted, and put below. -/
theorem shl_or (n b : Nat) (hn : n < 72057594037927936) (hb : b < 256) : (n * 256 % 18446744073709551616) ||| b = n * 256 + b := by
  rw [Nat.mod_eq_of_lt (by omega)]
  have h := Nat.shiftLeft_add_eq_or_of_lt (a := n) (b := b) (i := 8) (by simpa using hb)
  rw [Nat.shiftLeft_eq] at h
  exact h.symm
/-- .. of a row's beginning. -/
theorem val_take (l : List UInt8) (k : Nat) (h : k < l.length) : val (l.take (k + 1)) = val (l.take k) * 256 + (l.getD k 0).toNat := by
  rw [List.take_add_one, List.getElem?_eq_getElem h]
  simp only [Option.toList_some]
  rw [val_snoc, List.getD_eq_getElem?_getD, List.getElem?_eq_getElem h]
  rfl
end MM
end Go.Proofs.YtoacmingocmaaaaGreatDoor

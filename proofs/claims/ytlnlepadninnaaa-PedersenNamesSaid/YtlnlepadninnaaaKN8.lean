/- The texts PedAt, Inn, PedPair, RegX, one behind the other. -/
import Derived.Test.YtlnlepadninnaaaKN6
import Derived.Test.YtlnlepadninnaaaKN7
import Derived.ProofKit
import Derived.Deep.Cut
import Derived.Test.YtlnlepadninnaaaKN5
import Derived.Test.YtlnlepadninnaaaKN2
/- Lists that slices read, also lists of lists of lists; what package pedersen's reading function answers for them. -/
namespace Go.Proofs.Ytlnlepadninnaaa
open Go Go.RowKit Go.Lib
namespace M
/-- The i-th of n numbers; 0 where there is none. -/
def getU (n : Nat) (z : Nat → Nat) (i : Nat) : Nat := if i < n then z i else 0
theorem getU_lt {n : Nat} {z : Nat → Nat} (hz : ∀ i, z i < 18446744073709551616) (i : Nat) : getU n z i < 18446744073709551616 := by
  unfold getU
  by_cases h : i < n
  · rw [if_pos h]; exact hz i
  · rw [if_neg h]; omega
theorem getU_in {n : Nat} {z : Nat → Nat} {i : Nat} (h : i < n) : getU n z i = z i := if_pos h
theorem getU_out {n : Nat} {z : Nat → Nat} {i : Nat} (h : ¬ i < n) : getU n z i = 0 := if_neg h
theorem getU_le {n : Nat} {z : Nat → Nat} {b i : Nat} (h : i < n → z i ≤ b) : getU n z i ≤ b := by
  by_cases h1 : i < n
  · rw [getU_in h1]; exact h h1
  · rw [getU_out h1]; omega
/-- What reads by cells alone outlasts whatever leaves cells alone. -/
theorem Row.as {W W' : World} {a : Addr} {n : Nat} {z : Nat → Nat} (h : Row W a n z) (hb : CellsAs W W') : Row W' a n z := fun t ht => hb.cell (h t ht)
theorem Rd.as {W W' : World} {ao : Option Addr} {n : Nat} {z : Nat → Nat} (h : Rd W ao n z) (hb : CellsAs W W') : Rd W' ao n z := fun hn => let ⟨ad, e, hr⟩ := h hn; ⟨ad, e, hr.as hb⟩
theorem SrcN.as {W W' : World} {ao : Option Addr} {n c : Nat} {z : Nat → Nat} (h : SrcN W ao n c z) (hb : CellsAs W W') : SrcN W' ao n c z := ⟨h.1.as hb, h.2⟩
theorem Mat.as {W W' : World} {ao : Option Addr} {m : Nat} {L : Nat → Nat} {F : Nat → Nat → Nat} (h : Mat W ao m L F) (hb : CellsAs W W') : Mat W' ao m L F := fun i hi => by
  obtain ⟨ad, bo, c, h1, h2, h3⟩ := h i hi
  exact ⟨ad, bo, c, h1, hb.cell h2, h3.as hb⟩
theorem Box.as {W W' : World} {B : Nat} {t : TypeId} {v : Value} (h : Box W B t v) (hb : CellsAs W W') : Box W' B t v := hb _ _ _ _ h
theorem PBox.as {W W' : World} {g : Nat} {p : Pm} (h : PBox W g p) (hb : CellsAs W W') : PBox W' g p := hb _ _ _ _ h
theorem RowC.as {lo : Nat} {W W' : World} {v : Value} {n : Nat} {z : Nat → Nat} (h : RowC lo W v n z) (hb : CellsAs W W') : RowC lo W' v n z := h.same fun _ _ h1 => hb _ _ _ _ h1
/-- A value that is a list of numbers. -/
def RdV (W : World) (v : Value) (n : Nat) (z : Nat → Nat) : Prop := ∃ bo c, v = .slice bo n c ∧ SrcN W bo n c z
theorem RdV.as {W W' : World} {v : Value} {n : Nat} {z : Nat → Nat} (h : RdV W v n z) (hb : CellsAs W W') : RdV W' v n z := let ⟨bo, c, e, h1⟩ := h; ⟨bo, c, e, h1.as hb⟩
theorem RdV.below {W W' : World} {v : Value} {n : Nat} {z : Nat → Nat} (h : RdV W v n z) (hb : Below W.heap.size W W') : RdV W' v n z := h.as (.of_below hb)
theorem RdV.nil (W : World) (z : Nat → Nat) : RdV W (.slice none 0 0) 0 z := ⟨none, 0, rfl, fun h => absurd h (by omega), fun _ => ⟨rfl, rfl⟩⟩
theorem RowC.rdV {lo : Nat} {W : World} {v : Value} {n : Nat} {z : Nat → Nat} (h : RowC lo W v n z) : RdV W v n z := h.src
theorem RdV.congr {W : World} {v : Value} {n : Nat} {z y : Nat → Nat} (h : RdV W v n z) (e : ∀ k, k < n → z k = y k) : RdV W v n y := by
  obtain ⟨bo, c, rfl, h1, h2⟩ := h
  exact ⟨bo, c, rfl, fun hn => let ⟨ad, e1, hr⟩ := h1 hn; ⟨ad, e1, fun k hk => by rw [hr k hk, e k hk]⟩, h2⟩
/-- .. of lists. -/
def MatV (W : World) (v : Value) (m : Nat) (L : Nat → Nat) (F : Nat → Nat → Nat) : Prop := ∃ bo c, v = .slice bo m c ∧ Mat W bo m L F ∧ (bo = none → m = 0 ∧ c = 0)
theorem MatV.as {W W' : World} {v : Value} {m : Nat} {L : Nat → Nat} {F : Nat → Nat → Nat} (h : MatV W v m L F) (hb : CellsAs W W') : MatV W' v m L F := let ⟨bo, c, e, h1, h2⟩ := h; ⟨bo, c, e, h1.as hb, h2⟩
theorem MatV.below {W W' : World} {v : Value} {m : Nat} {L : Nat → Nat} {F : Nat → Nat → Nat} (h : MatV W v m L F) (hb : Below W.heap.size W W') : MatV W' v m L F := h.as (.of_below hb)
theorem MatV.nil (W : World) (L : Nat → Nat) (F : Nat → Nat → Nat) : MatV W (.slice none 0 0) 0 L F := ⟨none, 0, rfl, fun _ h => absurd h (by omega), fun _ => ⟨rfl, rfl⟩⟩
theorem MatV.congr {W : World} {v : Value} {m : Nat} {L L' : Nat → Nat} {F F' : Nat → Nat → Nat} (h : MatV W v m L F) (hL : ∀ i, i < m → L i = L' i) (hF : ∀ i, i < m → ∀ j, j < L i → F i j = F' i j) : MatV W v m L' F' := let ⟨bo, c, e, h1, h2⟩ := h; ⟨bo, c, e, h1.congr hL hF, h2⟩
/-- Lists of lists of lists, as a slice reads them. -/
def Cub (W : World) (ao : Option Addr) (n : Nat) (K : Nat → Nat) (L : Nat → Nat → Nat) (F : Nat → Nat → Nat → Nat) : Prop := ∀ i, i < n → ∃ ad v, ao = some ad ∧ W.cell? (ad.add i) = some v ∧ MatV W v (K i) (L i) (F i)
theorem Cub.as {W W' : World} {ao : Option Addr} {n : Nat} {K : Nat → Nat} {L : Nat → Nat → Nat} {F : Nat → Nat → Nat → Nat} (h : Cub W ao n K L F) (hb : CellsAs W W') : Cub W' ao n K L F := fun i hi => by
  obtain ⟨ad, v, h1, h2, h3⟩ := h i hi
  exact ⟨ad, v, h1, hb.cell h2, h3.as hb⟩
theorem Cub.below {W W' : World} {ao : Option Addr} {n : Nat} {K : Nat → Nat} {L : Nat → Nat → Nat} {F : Nat → Nat → Nat → Nat} (h : Cub W ao n K L F) (hb : Below W.heap.size W W') : Cub W' ao n K L F := h.as (.of_below hb)
theorem Cub.congr {W : World} {ao : Option Addr} {n : Nat} {K K' : Nat → Nat} {L L' : Nat → Nat → Nat} {F F' : Nat → Nat → Nat → Nat} (h : Cub W ao n K L F) (hK : ∀ i, i < n → K i = K' i) (hL : ∀ i, i < n → ∀ j, j < K i → L i j = L' i j) (hF : ∀ i, i < n → ∀ j, j < K i → ∀ k, k < L i j → F i j k = F' i j k) : Cub W ao n K' L' F' := fun i hi => by
  obtain ⟨ad, v, h1, h2, h3⟩ := h i hi
  exact ⟨ad, v, h1, h2, by rw [← hK i hi]; exact h3.congr (hL i hi) (hF i hi)⟩
set_option maxRecDepth 100000 in
set_option maxHeartbeats 2000000 in
theorem atU_any (ao : Option Addr) (n c i : Nat) (z : Nat → Nat) (w : World) (hr : Rd w ao n z) :
    Calls Try.prog 21 #[.slice ao n c, .int .i64 (i : Int)] w fun e w' => e = .returned (.int .u64 ((getU n z i : Nat) : Int)) ∧ w = w' := by
  have hi0 : (0 : Int) ≤ (i : Int) := Int.natCast_nonneg _
  have HT := Lib.hid (rfl : getU n z i = getU n z i)
  by_cases hb : i < n
  · obtain ⟨bd, rfl, hc⟩ := hr.at_ hb
    rw [getU_in hb] at HT ⊢
    have hbI : (i : Int) < (n : Int) := by omega
    generalize z i = x at *
    clear hr HT
    go_enter Try.func21, Try.ntmps21
    go_wp2_with fail
    go_ret
    exact ⟨rfl, rfl⟩
  · rw [getU_out hb] at HT ⊢
    have hbI : ¬ (i : Int) < (n : Int) := by omega
    clear hr HT
    go_enter Try.func21, Try.ntmps21
    go_wp2_with fail
    go_ret
    exact ⟨rfl, rfl⟩
set_option maxRecDepth 100000 in
set_option maxHeartbeats 2000000 in
theorem atR_any (ao : Option Addr) (n c i : Nat) (L : Nat → Nat) (F : Nat → Nat → Nat) (w : World) (hr : Mat w ao n L F) :
    Calls Try.prog 22 #[.slice ao n c, .int .i64 (i : Int)] w fun e w' => (∃ v, e = .returned v ∧ RdV w v (getU n L i) (F i)) ∧ w = w' := by
  have hi0 : (0 : Int) ≤ (i : Int) := Int.natCast_nonneg _
  by_cases hb : i < n
  · obtain ⟨bd, bo, cc, rfl, hc, hs⟩ := hr i hb
    rw [getU_in hb]
    have HS := Lib.hid hs
    have hbI : (i : Int) < (n : Int) := by omega
    generalize L i = x at *
    clear hr hs
    go_enter Try.func22, Try.ntmps22
    go_wp2_with fail
    go_ret
    exact ⟨⟨_, rfl, _, _, rfl, HS.out⟩, rfl⟩
  · rw [getU_out hb]
    have hbI : ¬ (i : Int) < (n : Int) := by omega
    clear hr
    go_enter Try.func22, Try.ntmps22
    go_wp2_with fail
    go_ret
    exact ⟨⟨_, rfl, RdV.nil _ _⟩, rfl⟩
set_option maxRecDepth 100000 in
set_option maxHeartbeats 2000000 in
theorem atM_any (ao : Option Addr) (n c i : Nat) (K : Nat → Nat) (L : Nat → Nat → Nat) (F : Nat → Nat → Nat → Nat) (w : World) (hr : Cub w ao n K L F) :
    Calls Try.prog 34 #[.slice ao n c, .int .i64 (i : Int)] w fun e w' => (∃ v, e = .returned v ∧ MatV w v (getU n K i) (L i) (F i)) ∧ w = w' := by
  have hi0 : (0 : Int) ≤ (i : Int) := Int.natCast_nonneg _
  by_cases hb : i < n
  · obtain ⟨bd, v, rfl, hc, bo, cc, rfl, hs⟩ := hr i hb
    rw [getU_in hb]
    have HS := Lib.hid hs
    have hbI : (i : Int) < (n : Int) := by omega
    generalize K i = x at *
    clear hr hs
    go_enter Try.func34, Try.ntmps34
    go_wp2_with fail
    go_ret
    exact ⟨⟨_, rfl, _, _, rfl, HS.out⟩, rfl⟩
  · rw [getU_out hb]
    have hbI : ¬ (i : Int) < (n : Int) := by omega
    clear hr
    go_enter Try.func34, Try.ntmps34
    go_wp2_with fail
    go_ret
    exact ⟨⟨_, rfl, MatV.nil _ _ _⟩, rfl⟩
end M
end Go.Proofs.Ytlnlepadninnaaa
/- What a walk carries along over calls that make memory: rows that lie as they were laid, the laid tables, that nothing old has changed. -/
namespace Go.Proofs.Ytlnlepadninnaaa
open Go Go.RowKit Go.Lib
namespace M
/-- A pair as it lies. -/
abbrev pair (s b : Nat) : Array Value := #[.int .u64 (s : Int), .int .u64 (b : Int)]
end M
end Go.Proofs.Ytlnlepadninnaaa
/- Pairs that a slice reads; what package pedersen's reading function answers for them. -/
namespace Go.Proofs.Ytlnlepadninnaaa
open Go Go.RowKit Go.Lib
namespace M
/-- Pairs that lie in a block from its beginning on. -/
def PairR (W : World) (ao : Option Addr) (n : Nat) (s t : Nat → Nat) : Prop := ∀ k, k < n → ∃ b, ao = some ⟨b, 0, none⟩ ∧ W.cell? ⟨b, k * 2, none⟩ = some (.int .u64 ((s k : Nat) : Int)) ∧ W.cell? ⟨b, k * 2 + 1, none⟩ = some (.int .u64 ((t k : Nat) : Int))
theorem PairR.as {W W' : World} {ao : Option Addr} {n : Nat} {s t : Nat → Nat} (h : PairR W ao n s t) (hb : CellsAs W W') : PairR W' ao n s t := fun k hk => by
  obtain ⟨b, e, h1, h2⟩ := h k hk
  exact ⟨b, e, hb.cell h1, hb.cell h2⟩
theorem PairR.below {W W' : World} {ao : Option Addr} {n : Nat} {s t : Nat → Nat} (h : PairR W ao n s t) (hb : Below W.heap.size W W') : PairR W' ao n s t := h.as (.of_below hb)
set_option maxRecDepth 100000 in
set_option maxHeartbeats 4000000 in
theorem atP_any (ao : Option Addr) (n c i : Nat) (s t : Nat → Nat) (w : World) (hr : PairR w ao n s t) :
    Calls Try.prog 38 #[.slice ao n c, .int .i64 (i : Int)] w fun e w' => e = .returned (.agg (pair (getU n s i) (getU n t i))) ∧ Below w.heap.size w w' := by
  have hi0 : (0 : Int) ≤ (i : Int) := Int.natCast_nonneg _
  obtain ⟨g, hg⟩ : ∃ g, w.heap.size = g := ⟨_, rfl⟩
  have b1 := below_box w (.cells #[.int .u64 0, .int .u64 0] 41)
  have n1 := heap_alloc_new w (.cells #[.int .u64 0, .int .u64 0] 41)
  have s1 : (w.alloc (.cells #[.int .u64 0, .int .u64 0] 41)).heap.size = g + 1 := by rw [World.size_alloc, hg]
  rw [hg] at n1
  obtain ⟨w1, hw1⟩ : ∃ w1, w.alloc (.cells #[.int .u64 0, .int .u64 0] 41) = w1 := ⟨_, rfl⟩
  rw [hw1] at b1 n1 s1
  have b2 := below_box w1 (.cells #[.int .u64 0, .int .u64 0] 41)
  have n2 := heap_alloc_new w1 (.cells #[.int .u64 0, .int .u64 0] 41)
  rw [s1] at n2
  obtain ⟨w2, hw2⟩ : ∃ w2, w1.alloc (.cells #[.int .u64 0, .int .u64 0] 41) = w2 := ⟨_, rfl⟩
  rw [hw2] at b2 n2
  have n1' := (b2.block g (row_lt n1)).trans n1
  have bb : Below w.heap.size w w2 := b1.trans (b2.mono b1.size)
  have HBB : Hid (∀ (u v x y : Value), Below w.heap.size w ((((w2.setCell ⟨g + 1, 0, none⟩ u).setCell ⟨g + 1, 1, none⟩ v).setCell ⟨g, 0, none⟩ x).setCell ⟨g, 1, none⟩ y)) := Lib.hid fun u v x y => (((bb.setCell (p := ⟨g + 1, 0, none⟩) (by show w.heap.size ≤ g + 1; omega) _).setCell (p := ⟨g + 1, 1, none⟩) (by show w.heap.size ≤ g + 1; omega) _).setCell (p := ⟨g, 0, none⟩) (by show w.heap.size ≤ g; omega) _).setCell (p := ⟨g, 1, none⟩) (by show w.heap.size ≤ g; omega) _
  have HBC : Hid (∀ (x y : Value), Below w.heap.size w ((w2.setCell ⟨g, 0, none⟩ x).setCell ⟨g, 1, none⟩ y)) := Lib.hid fun x y => (bb.setCell (p := ⟨g, 0, none⟩) (by show w.heap.size ≤ g; omega) _).setCell (p := ⟨g, 1, none⟩) (by show w.heap.size ≤ g; omega) _
  have c0 : w2.cell? ⟨g, 0, none⟩ = some (.int .u64 0) := by rw [cell_of_row _ _ _ _ _ _ n1']; rfl
  have c1 : w2.cell? ⟨g, 1, none⟩ = some (.int .u64 0) := by rw [cell_of_row _ _ _ _ _ _ n1']; rfl
  have c2 : w2.cell? ⟨g + 1, 0, none⟩ = some (.int .u64 0) := by rw [cell_of_row _ _ _ _ _ _ n2]; rfl
  have c3 : w2.cell? ⟨g + 1, 1, none⟩ = some (.int .u64 0) := by rw [cell_of_row _ _ _ _ _ _ n2]; rfl
  have f0 : w2.frozen? ⟨g, 0, none⟩ = false := by simp [World.frozen?, n1']
  have f1 : w2.frozen? ⟨g, 1, none⟩ = false := by simp [World.frozen?, n1']
  have f2 : w2.frozen? ⟨g + 1, 0, none⟩ = false := by simp [World.frozen?, n2]
  have f3 : w2.frozen? ⟨g + 1, 1, none⟩ = false := by simp [World.frozen?, n2]
  by_cases hb : i < n
  · obtain ⟨b, rfl, h1, h2⟩ := hr i hb
    have h1' := (CellsAs.of_below bb).cell h1
    have h2' := (CellsAs.of_below bb).cell h2
    rw [getU_in hb, getU_in hb]
    have hbI : (i : Int) < (n : Int) := by omega
    generalize s i = x at *
    generalize t i = y at *
    clear hr h1 h2 b1 b2 n1 n2 n1' bb
    go_enter Try.func38, Try.ntmps38
    go_wp2_with fail
    have hbB := HBB.out (.int .u64 (x : Int)) (.int .u64 (y : Int)) (.int .u64 (x : Int)) (.int .u64 (y : Int))
    have d0 : ((((w2.setCell ⟨g + 1, 0, none⟩ (.int .u64 (x : Int))).setCell ⟨g + 1, 1, none⟩ (.int .u64 (y : Int))).setCell ⟨g, 0, none⟩ (.int .u64 (x : Int))).setCell ⟨g, 1, none⟩ (.int .u64 (y : Int))).cell? ⟨g, 0, none⟩ = some (.int .u64 (x : Int)) := by go_simp
    have d1 : ((((w2.setCell ⟨g + 1, 0, none⟩ (.int .u64 (x : Int))).setCell ⟨g + 1, 1, none⟩ (.int .u64 (y : Int))).setCell ⟨g, 0, none⟩ (.int .u64 (x : Int))).setCell ⟨g, 1, none⟩ (.int .u64 (y : Int))).cell? ⟨g, 1, none⟩ = some (.int .u64 (y : Int)) := by go_simp
    generalize (((w2.setCell ⟨g + 1, 0, none⟩ (.int .u64 (x : Int))).setCell ⟨g + 1, 1, none⟩ (.int .u64 (y : Int))).setCell ⟨g, 0, none⟩ (.int .u64 (x : Int))).setCell ⟨g, 1, none⟩ (.int .u64 (y : Int)) = w5 at *
    refine bodyPost_ret (v := .agg (pair x y)) (w := w5) (by simp [results, Try.results38, go_sem, d0, d1]) rfl ⟨rfl, by first | exact hbB | (rw [← hg]; exact hbB)⟩
  · rw [getU_out hb, getU_out hb]
    have hbI : ¬ (i : Int) < (n : Int) := by omega
    clear hr b1 b2 n1 n2 n1' bb
    go_enter Try.func38, Try.ntmps38
    go_wp2_with fail
    have hbB := HBC.out (.int .u64 0) (.int .u64 0)
    have d0 : ((w2.setCell ⟨g, 0, none⟩ (.int .u64 0)).setCell ⟨g, 1, none⟩ (.int .u64 0)).cell? ⟨g, 0, none⟩ = some (.int .u64 0) := by go_simp
    have d1 : ((w2.setCell ⟨g, 0, none⟩ (.int .u64 0)).setCell ⟨g, 1, none⟩ (.int .u64 0)).cell? ⟨g, 1, none⟩ = some (.int .u64 0) := by go_simp
    generalize (w2.setCell ⟨g, 0, none⟩ (.int .u64 0)).setCell ⟨g, 1, none⟩ (.int .u64 0) = w5 at *
    refine bodyPost_ret (v := .agg (pair 0 0)) (w := w5) (by simp [results, Try.results38, go_sem, d0, d1]) rfl ⟨rfl, by first | exact hbB | (rw [← hg]; exact hbB)⟩
end M
end Go.Proofs.Ytlnlepadninnaaa
/- Drawn regions in which more than one operation may come, and operations that make memory: for regions that are walked by hand. -/
namespace Go.Proofs.Ytlnlepadninnaaa
open Go Go.RowKit Go.Lib
namespace RK
/-- Number i alone may come, and makes a value and a world. -/
theorem Any.exec {P : Program} {md : Region.Mode} {ops : Array Oper} {Q : Exit → Act → World → Prop} {S : World → Prop} {st : Nat} {s : Array Bool} {a : Act} {w w1 : World} {f : Nat} (i t : Nat) {o : Oper} (v : Value) (hr : Region.ready md ops s = [i]) (hi : ops[i]? = some o) (hd : o.dst = some t) (hw : Region.wanted o (yielded ops a.tmps) = true)
    (he : (execOp a.eval o).run P w = .ok (.value v) w1) (hS : S w1) (h : Any P md ops Q S st f (s.setIfInBounds i true) { a with tmps := a.tmps.setIfInBounds t v } w1) : Any P md ops Q S st (f + 1) s a w :=
  ⟨fun e => (by rw [hr] at e; cases e), fun j hj => by
    rw [hr] at hj
    obtain rfl : j = i := by simpa using hj
    unfold wpOp
    simp only [hi, hw, if_true]
    refine .inl ?_
    unfold Oper.wp
    rw [he, Oper.upon_value, hd]
    exact ⟨fun _ => hS, h⟩⟩
theorem exec_append {P : Program} {o : Oper} {a : Act} {w w' : World} {v' : Value} (s x : Operand) (t tn : TypeId) (ho : o.op = .call { callee := .builtin .append, args := #[s, x], argTypes := #[t, tn] }) (vs vx : Value) (hs : a.eval s = vs) (hx : a.eval x = vx)
    (hr : (Builtin.append_ #[t, tn] o.type #[vs, vx]).run P w = .ok v' w') : (execOp a.eval o).run P w = .ok (.value v') w' := by
  unfold execOp
  simp only [ho, resolve, invoke, builtin, Sem.run_bind, Sem.run_pure, Result.andThen_ok, List.map_toArray, List.map_cons, List.map_nil, hs, hx, hr]
section
variable {P : Program} {md : Region.Mode} {ops : Array Oper} {Q : Exit → Act → World → Prop} {S : World → Prop} {st : Nat}
/-- Each of some operations may come. -/
theorem Any.each {s : Array Bool} {a : Act} {w : World} {f : Nat} (l : List Nat) (hr : Region.ready md ops s = l) (h0 : l ≠ []) (h : ∀ i ∈ l, wpOp P ops Q i (fun a' w' => (i ≠ st → S w') ∧ Any P md ops Q S st f (s.setIfInBounds i true) a' w') a w) : Any P md ops Q S st (f + 1) s a w :=
  ⟨fun e => absurd (hr.symm.trans e) h0, fun i hi => h i (hr ▸ hi)⟩
theorem wpOp_exec {i t : Nat} {o : Oper} {v : Value} {a : Act} {w w1 : World} {K : Act → World → Prop} (hi : ops[i]? = some o) (hd : o.dst = some t) (hw : Region.wanted o (yielded ops a.tmps) = true) (he : (execOp a.eval o).run P w = .ok (.value v) w1) (h : K { a with tmps := a.tmps.setIfInBounds t v } w1) : wpOp P ops Q i K a w := by
  unfold wpOp
  simp only [hi, hw, if_true]
  refine .inl ?_
  unfold Oper.wp
  rw [he, Oper.upon_value, hd]
  exact h
theorem wpOp_call {i t : Nat} {o : Oper} {g : FuncId} {args : Array Value} {a : Act} {w : World} {K : Act → World → Prop} (hi : ops[i]? = some o) (hd : o.dst = some t) (hw : Region.wanted o (yielded ops a.tmps) = true) (he : (execOp a.eval o).run P w = .ok (.enter g args) w)
    (h : Calls P g args w fun e w' => ∃ v, e = .returned v ∧ K { a with tmps := a.tmps.setIfInBounds t v } w') : wpOp P ops Q i K a w := by
  unfold wpOp
  simp only [hi, hw, if_true]
  refine .inl ?_
  unfold Oper.wp
  rw [he, Oper.upon_enter]
  refine h.mono ?_
  rintro e w' ⟨v, rfl, h1⟩
  rw [hd]
  exact h1
end
/-- A region, cut off from what follows. -/
theorem cut {P : Program} {c : Code} {Q : Exit → Act → World → Prop} {a : Act} {w : World} (R : Act → Act → World → Prop) (h1 : c.wp P (fun e a' w' => e = .normal ∧ R a a' w') a w) (h2 : ∀ a' w', R a a' w' → Q .normal a' w') : c.wp P Q a w :=
  wp_mono h1 fun e a' w' ⟨he, hr⟩ => by subst he; exact h2 a' w' hr
theorem Any.race {P : Program} {md : Region.Mode} {ops : Array Oper} {Q : Exit → Act → World → Prop} {S : World → Prop} {st : Nat} {s : Array Bool} {a : Act} {w : World} {f : Nat} (i j ti tj : Nat) {oi oj : Oper} (R : Value → Value → World → Prop)
    (hr : Region.ready md ops s = [i, j]) (hr1 : Region.ready md ops (s.setIfInBounds i true) = [j]) (hr2 : Region.ready md ops (s.setIfInBounds j true) = [i]) (hi : ops[i]? = some oi) (hj : ops[j]? = some oj) (hdi : oi.dst = some ti) (hdj : oj.dst = some tj)
    (hwi : Region.wanted oi (yielded ops a.tmps) = true) (hwj : Region.wanted oj (yielded ops a.tmps) = true) (hij : i ≠ j) (hne : ti ≠ tj)
    (h1 : ∃ v1 v2 w1 w2, (execOp a.eval oi).run P w = .ok (.value v1) w1 ∧ (execOp (Act.eval { a with tmps := a.tmps.setIfInBounds ti v1 }) oj).run P w1 = .ok (.value v2) w2 ∧ R v1 v2 w2 ∧ Region.wanted oj (yielded ops (a.tmps.setIfInBounds ti v1)) = true ∧ S w1)
    (h2 : ∃ v1 v2 w1 w2, (execOp a.eval oj).run P w = .ok (.value v2) w1 ∧ (execOp (Act.eval { a with tmps := a.tmps.setIfInBounds tj v2 }) oi).run P w1 = .ok (.value v1) w2 ∧ R v1 v2 w2 ∧ Region.wanted oi (yielded ops (a.tmps.setIfInBounds tj v2)) = true ∧ S w1)
    (hS : ∀ v1 v2 W, R v1 v2 W → S W)
    (h : ∀ v1 v2 W, R v1 v2 W → Any P md ops Q S st f ((s.setIfInBounds i true).setIfInBounds j true) { a with tmps := (a.tmps.setIfInBounds ti v1).setIfInBounds tj v2 } W) : Any P md ops Q S st (f + 1 + 1) s a w := by
  refine Any.each [i, j] hr (by simp) fun x hx => ?_
  simp only [List.mem_cons, List.not_mem_nil, or_false] at hx
  rcases hx with rfl | rfl
  · obtain ⟨v1, v2, w1, w2, e1, e2, hR, hw, hs⟩ := h1
    exact wpOp_exec hi hdi hwi e1 ⟨fun _ => hs, Any.exec j tj v2 hr1 hj hdj hw e2 (hS _ _ _ hR) (h v1 v2 w2 hR)⟩
  · obtain ⟨v1, v2, w1, w2, e1, e2, hR, hw, hs⟩ := h2
    have h3 := h v1 v2 w2 hR
    rw [Array.setIfInBounds_comm _ _ hij, Array.setIfInBounds_comm _ _ hne] at h3
    exact wpOp_exec hj hdj hwj e1 ⟨fun _ => hs, Any.exec i ti v1 hr2 hi hdi hw e2 (hS _ _ _ hR) h3⟩
/-- Three that make a block each may come in whatever row. -/
theorem Any.race3 {P : Program} {md : Region.Mode} {ops : Array Oper} {Q : Exit → Act → World → Prop} {S : World → Prop} {st : Nat} {s : Array Bool} {a : Act} {w : World} {f : Nat} (i j k ti tj tk ni nj nk : Nat) {oi oj ok : Oper} (ci cj ck : Array Value) (t : TypeId)
    (hij : i ≠ j) (hik : i ≠ k) (hjk : j ≠ k) (hr : Region.ready md ops s = [i, j, k]) (hri : Region.ready md ops (s.setIfInBounds i true) = [j, k]) (hrj : Region.ready md ops (s.setIfInBounds j true) = [i, k]) (hrk : Region.ready md ops (s.setIfInBounds k true) = [i, j])
    (hrij : Region.ready md ops ((s.setIfInBounds i true).setIfInBounds j true) = [k]) (hrik : Region.ready md ops ((s.setIfInBounds i true).setIfInBounds k true) = [j]) (hrjk : Region.ready md ops ((s.setIfInBounds j true).setIfInBounds k true) = [i])
    (hi : ops[i]? = some oi) (hj : ops[j]? = some oj) (hk : ops[k]? = some ok) (hdi : oi.dst = some ti) (hdj : oj.dst = some tj) (hdk : ok.dst = some tk) (htij : ti ≠ tj) (htik : ti ≠ tk) (htjk : tj ≠ tk)
    (hgi : oi.guard = none) (hgj : oj.guard = none) (hgk : ok.guard = none)
    (ei : ∀ (b : Act) (u : World), (execOp b.eval oi).run P u = .ok (.value (.slice (some ⟨u.heap.size, 0, none⟩) ni ni)) (u.alloc (.cells ci t)))
    (ej : ∀ (b : Act) (u : World), (execOp b.eval oj).run P u = .ok (.value (.slice (some ⟨u.heap.size, 0, none⟩) nj nj)) (u.alloc (.cells cj t)))
    (ek : ∀ (b : Act) (u : World), (execOp b.eval ok).run P u = .ok (.value (.slice (some ⟨u.heap.size, 0, none⟩) nk nk)) (u.alloc (.cells ck t)))
    (hS : ∀ u, Below w.heap.size w u → S u)
    (h : ∀ x y z W, Below w.heap.size w W → W.heap[x]? = some (.cells ci t (0, 0)) → W.heap[y]? = some (.cells cj t (0, 0)) → W.heap[z]? = some (.cells ck t (0, 0)) →
      Any P md ops Q S st f (((s.setIfInBounds i true).setIfInBounds j true).setIfInBounds k true) { a with tmps := ((a.tmps.setIfInBounds ti (.slice (some ⟨x, 0, none⟩) ni ni)).setIfInBounds tj (.slice (some ⟨y, 0, none⟩) nj nj)).setIfInBounds tk (.slice (some ⟨z, 0, none⟩) nk nk) } W) : Any P md ops Q S st (f + 1 + 1 + 1) s a w := by
  have wi : ∀ tm, Region.wanted oi (yielded ops tm) = true := fun tm => by simp [Region.wanted, hgi]
  have wj : ∀ tm, Region.wanted oj (yielded ops tm) = true := fun tm => by simp [Region.wanted, hgj]
  have wk : ∀ tm, Region.wanted ok (yielded ops tm) = true := fun tm => by simp [Region.wanted, hgk]
  have bb := fun (u : World) (c : Array Value) => M.below_box u (.cells c t)
  have hn := fun (u : World) (c : Array Value) => heap_alloc_new u (.cells c t)
  have st1 : ∀ (u : World) (c : Array Value) (x : Nat) (o : Obj), u.heap[x]? = some o → (u.alloc (.cells c t)).heap[x]? = some o := fun u c x o hx => ((bb u c).block x (M.row_lt hx)).trans hx
  have b2 : ∀ (c d : Array Value), Below w.heap.size w ((w.alloc (.cells c t)).alloc (.cells d t)) := fun c d => (bb _ _).trans ((bb _ _).mono (bb _ _).size)
  have b3 : ∀ (c d e : Array Value), Below w.heap.size w (((w.alloc (.cells c t)).alloc (.cells d t)).alloc (.cells e t)) := fun c d e => (b2 c d).trans ((bb _ _).mono (b2 c d).size)
  have cs := fun {x y : Nat} (hxy : x ≠ y) (q : Array Bool) => Array.setIfInBounds_comm (xs := q) true true hxy
  refine Any.each [i, j, k] hr (by simp) fun x hx => ?_
  simp only [List.mem_cons, List.not_mem_nil, or_false] at hx
  rcases hx with rfl | rfl | rfl
  · refine wpOp_exec hi hdi (wi _) (ei _ _) ⟨fun _ => hS _ (bb _ _), Any.each [j, k] hri (by simp) fun y hy => ?_⟩
    simp only [List.mem_cons, List.not_mem_nil, or_false] at hy
    rcases hy with rfl | rfl
    · refine wpOp_exec hj hdj (wj _) (ej _ _) ⟨fun _ => hS _ (b2 _ _), Any.exec k tk _ hrij hk hdk (wk _) (ek _ _) (hS _ (b3 _ _ _)) ?_⟩
      exact h _ _ _ _ (b3 _ _ _) (st1 _ _ _ _ (st1 _ _ _ _ (hn _ _))) (st1 _ _ _ _ (hn _ _)) (hn _ _)
    · refine wpOp_exec hk hdk (wk _) (ek _ _) ⟨fun _ => hS _ (b2 _ _), Any.exec j tj _ hrik hj hdj (wj _) (ej _ _) (hS _ (b3 _ _ _)) ?_⟩
      have h3 := h _ _ _ _ (b3 ci ck cj) (st1 _ _ _ _ (st1 _ _ _ _ (hn _ _))) (hn _ _) (st1 _ _ _ _ (hn _ _))
      rw [Array.setIfInBounds_comm _ _ hjk, Array.setIfInBounds_comm _ _ htjk] at h3
      exact h3
  · refine wpOp_exec hj hdj (wj _) (ej _ _) ⟨fun _ => hS _ (bb _ _), Any.each [i, k] hrj (by simp) fun y hy => ?_⟩
    simp only [List.mem_cons, List.not_mem_nil, or_false] at hy
    rcases hy with rfl | rfl
    · refine wpOp_exec hi hdi (wi _) (ei _ _) ⟨fun _ => hS _ (b2 _ _), Any.exec k tk _ (by rw [← hrij, Array.setIfInBounds_comm _ _ hij]) hk hdk (wk _) (ek _ _) (hS _ (b3 _ _ _)) ?_⟩
      have h3 := h _ _ _ _ (b3 cj ci ck) (st1 _ _ _ _ (hn _ _)) (st1 _ _ _ _ (st1 _ _ _ _ (hn _ _))) (hn _ _)
      rw [Array.setIfInBounds_comm (xs := s) _ _ hij, Array.setIfInBounds_comm (xs := a.tmps) _ _ htij] at h3
      exact h3
    · refine wpOp_exec hk hdk (wk _) (ek _ _) ⟨fun _ => hS _ (b2 _ _), Any.exec i ti _ hrjk hi hdi (wi _) (ei _ _) (hS _ (b3 _ _ _)) ?_⟩
      have h3 := h _ _ _ _ (b3 cj ck ci) (hn _ _) (st1 _ _ _ _ (st1 _ _ _ _ (hn _ _))) (st1 _ _ _ _ (hn _ _))
      rw [Array.setIfInBounds_comm (xs := s) _ _ hij, Array.setIfInBounds_comm _ _ hik, Array.setIfInBounds_comm (xs := a.tmps) _ _ htij, Array.setIfInBounds_comm _ _ htik] at h3
      exact h3
  · refine wpOp_exec hk hdk (wk _) (ek _ _) ⟨fun _ => hS _ (bb _ _), Any.each [i, j] hrk (by simp) fun y hy => ?_⟩
    simp only [List.mem_cons, List.not_mem_nil, or_false] at hy
    rcases hy with rfl | rfl
    · refine wpOp_exec hi hdi (wi _) (ei _ _) ⟨fun _ => hS _ (b2 _ _), Any.exec j tj _ (by rw [← hrik, Array.setIfInBounds_comm _ _ hik]) hj hdj (wj _) (ej _ _) (hS _ (b3 _ _ _)) ?_⟩
      have h3 := h _ _ _ _ (b3 ck ci cj) (st1 _ _ _ _ (hn _ _)) (hn _ _) (st1 _ _ _ _ (st1 _ _ _ _ (hn _ _)))
      rw [Array.setIfInBounds_comm _ _ hjk, Array.setIfInBounds_comm (xs := s) _ _ hik, Array.setIfInBounds_comm _ _ htjk, Array.setIfInBounds_comm (xs := a.tmps) _ _ htik] at h3
      exact h3
    · refine wpOp_exec hj hdj (wj _) (ej _ _) ⟨fun _ => hS _ (b2 _ _), Any.exec i ti _ (by rw [← hrjk, Array.setIfInBounds_comm _ _ hjk]) hi hdi (wi _) (ei _ _) (hS _ (b3 _ _ _)) ?_⟩
      have h3 := h _ _ _ _ (b3 ck cj ci) (hn _ _) (st1 _ _ _ _ (hn _ _)) (st1 _ _ _ _ (st1 _ _ _ _ (hn _ _)))
      rw [Array.setIfInBounds_comm (xs := s) _ _ hij, Array.setIfInBounds_comm _ _ hik, Array.setIfInBounds_comm (xs := s) _ _ hjk, Array.setIfInBounds_comm (xs := a.tmps) _ _ htij, Array.setIfInBounds_comm _ _ htik, Array.setIfInBounds_comm (xs := a.tmps) _ _ htjk] at h3
      exact h3
end RK
end Go.Proofs.Ytlnlepadninnaaa

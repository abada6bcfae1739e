/- The texts PedLit, PedBoth, one behind the other. -/
import Derived.Test.YtlnlepadninnaaaDoorKR9
import Derived.Test.YtlnlepadninnaaaDoorKR10
import Derived.Sort.CutIn
import Derived.Shelf.RegionOpen
/- Lists that are written down, as slices read them. -/
namespace Go.Proofs.YtlnlepadninnaaaDoor
open Go Go.RowKit Go.Lib
namespace MM
def nl (l : List Nat) (k : Nat) : Nat := l.getD k 0
def lenL (rows : List (List Nat)) (i : Nat) : Nat := (rows.getD i []).length
def nlR (rows : List (List Nat)) (i : Nat) : Nat → Nat := nl (rows.getD i [])
theorem nl_lt {l : List Nat} (h : l.all (· < 18446744073709551616) = true) (k : Nat) : nl l k < 18446744073709551616 := by
  unfold nl
  by_cases hk : k < l.length
  · rw [List.getD_eq_getElem?_getD, List.getElem?_eq_getElem hk]
    have := List.all_eq_true.1 h _ (List.getElem_mem hk)
    simpa using this
  · rw [List.getD_eq_getElem?_getD, List.getElem?_eq_none (by omega)]; show (0 : Nat) < _; omega
theorem nlR_lt {rows : List (List Nat)} (h : rows.all (fun l => l.all (· < 18446744073709551616)) = true) (i k : Nat) : nlR rows i k < 18446744073709551616 := by
  unfold nlR
  by_cases hk : i < rows.length
  · rw [List.getD_eq_getElem?_getD, List.getElem?_eq_getElem hk]
    exact nl_lt (List.all_eq_true.1 h _ (List.getElem_mem hk)) k
  · rw [List.getD_eq_getElem?_getD, List.getElem?_eq_none (by omega)]; show (0 : Nat) < _; omega
end MM
namespace M
def ua (l : List Nat) : Array Value := (l.map fun (x : Nat) => Value.int .u64 (x : Int)).toArray
/-- A row in a new block. -/
theorem row_at {W : World} (l : List Nat) {b n : Nat} (hb : W.heap.size = b) (hn : l.length = n) : Row (W.alloc (.cells (ua l) 22)) ⟨b, 0, none⟩ n (MM.nl l) := by
  subst hb hn
  refine Row.of_block (heap_alloc_new _ _) fun k hk => ?_
  unfold ua MM.nl
  rw [List.getD_eq_getElem?_getD]
  simp [hk]
theorem row_rd' {W : World} {a : Addr} {n : Nat} {z : Nat → Nat} (h : Row W a n z) : Rd W (some a) n z := fun _ => ⟨_, rfl, h⟩
theorem rd_nil (W : World) (z : Nat → Nat) : Rd W none 0 z := fun h => absurd h (by omega)
theorem Row.alloc {W : World} {a : Addr} {n : Nat} {z : Nat → Nat} (h : Row W a n z) (o : Obj) : Row (W.alloc o) a n z := h.below (below_box _ _)
theorem Rd.alloc {W : World} {ao : Option Addr} {n : Nat} {z : Nat → Nat} (h : Rd W ao n z) (o : Obj) : Rd (W.alloc o) ao n z := h.below (below_box _ _)
theorem Mat.alloc {W : World} {ao : Option Addr} {m : Nat} {L : Nat → Nat} {F : Nat → Nat → Nat} (h : Mat W ao m L F) (o : Obj) : Mat (W.alloc o) ao m L F := h.below (below_box _ _)
/-- A slice that reads as a list. -/
def Sl (W : World) (v : Value) (l : List Nat) : Prop := ∃ bo c, v = .slice bo l.length c ∧ SrcN W bo l.length c (MM.nl l)
theorem Sl.nil (W : World) : Sl W (.slice none 0 0) [] := ⟨none, 0, rfl, rd_nil _ _, fun _ => ⟨rfl, rfl⟩⟩
theorem Sl.row {W : World} {a n : Nat} {l : List Nat} (h : Row W ⟨a, 0, none⟩ n (MM.nl l)) (hn : l.length = n) : Sl W (.slice (some ⟨a, 0, none⟩) n n) l := by subst hn; exact ⟨_, _, rfl, row_rd' h, fun h => by cases h⟩
theorem mat_new {W : World} {vs : List Value} {rows : List (List Nat)} {b m : Nat} (hb : W.heap.size = b) (hm : rows.length = m) (h : ∀ i, i < m → ∃ v, vs[i]? = some v ∧ Sl W v (rows.getD i [])) : Mat (W.alloc (.cells vs.toArray 25)) (some ⟨b, 0, none⟩) m (MM.lenL rows) (MM.nlR rows) := fun i hi => by
  subst hb hm
  obtain ⟨v, h1, bo, c, rfl, h2⟩ := h i hi
  refine ⟨_, bo, c, rfl, ?_, h2.below (below_box _ _)⟩
  rw [add_zero', cell_of_row _ _ _ _ _ _ (heap_alloc_new W _), List.getElem?_toArray]
  exact h1
theorem mat1 {W : World} {v0 : Value} {l0 : List Nat} {b : Nat} (hb : W.heap.size = b) (h0 : Sl W v0 l0) : Mat (W.alloc (.cells #[v0] 25)) (some ⟨b, 0, none⟩) 1 (MM.lenL [l0]) (MM.nlR [l0]) :=
  mat_new (vs := [v0]) hb rfl fun i hi => by
    match i, hi with
    | 0, _ => exact ⟨_, rfl, h0⟩
theorem mat2 {W : World} {v0 v1 : Value} {l0 l1 : List Nat} {b : Nat} (hb : W.heap.size = b) (h0 : Sl W v0 l0) (h1 : Sl W v1 l1) : Mat (W.alloc (.cells #[v0, v1] 25)) (some ⟨b, 0, none⟩) 2 (MM.lenL [l0, l1]) (MM.nlR [l0, l1]) :=
  mat_new (vs := [v0, v1]) hb rfl fun i hi => by
    match i, hi with
    | 0, _ => exact ⟨_, rfl, h0⟩
    | 1, _ => exact ⟨_, rfl, h1⟩
theorem mat3 {W : World} {v0 v1 v2 : Value} {l0 l1 l2 : List Nat} {b : Nat} (hb : W.heap.size = b) (h0 : Sl W v0 l0) (h1 : Sl W v1 l1) (h2 : Sl W v2 l2) : Mat (W.alloc (.cells #[v0, v1, v2] 25)) (some ⟨b, 0, none⟩) 3 (MM.lenL [l0, l1, l2]) (MM.nlR [l0, l1, l2]) :=
  mat_new (vs := [v0, v1, v2]) hb rfl fun i hi => by
    match i, hi with
    | 0, _ => exact ⟨_, rfl, h0⟩
    | 1, _ => exact ⟨_, rfl, h1⟩
    | 2, _ => exact ⟨_, rfl, h2⟩
theorem mat0 (W : World) (rows : List (List Nat)) : Mat W none 0 (MM.lenL rows) (MM.nlR rows) := fun _ h => absurd h (by omega)
end M
end Go.Proofs.YtlnlepadninnaaaDoor
/- What package pedersen's iterator over two lists does: it yields what both have at one place after another. -/
namespace Go.Proofs.YtlnlepadninnaaaDoor
open Go Go.RowKit Go.Lib Go.Shelf
namespace M
attribute [local go_sem] Oper.semAt_some
theorem two_ends {e : Ending} {A B : Prop} (h : (e = .returned (.bool true) ∧ A) ∨ (e = .returned (.bool false) ∧ B)) : ∃ b, e = .returned (.bool b) ∧ ((b = true ∧ A) ∨ (b = false ∧ B)) := by
  obtain ⟨h1, h2⟩ | ⟨h1, h2⟩ := h
  · exact ⟨true, h1, .inl ⟨rfl, h2⟩⟩
  · exact ⟨false, h1, .inr ⟨rfl, h2⟩⟩

theorem bothUU_any (ao bo : Option Addr) (la ca lb cb : Nat) (w : World) :
    Calls Tryd.prog 74 #[.slice ao la ca, .slice bo lb cb] w fun e w' => e = .returned (.func (.func 81) #[] #[.pointer (some ⟨w.heap.size, 0, none⟩), .pointer (some ⟨w.heap.size + 1, 0, none⟩)]) ∧
      (w.alloc (.cells #[.slice ao la ca] 25)).alloc (.cells #[.slice bo lb cb] 25) = w' := by
  go_enter Tryd.func74, Tryd.ntmps74
  go_wp2_with fail
  go_ret
  exact ⟨rfl, rfl⟩
set_option maxRecDepth 100000 in
set_option maxHeartbeats 4000000 in
theorem bothUU_seq (n : Nat) (h1 : 1 ≤ n) (Pa Pb : Nat) (ao bo : Option Addr) (la ca lb cb : Nat) (hla : la ≤ 1000000) (hlb : lb ≤ 1000000) (I : Nat → World → Prop) (ElA ElB : Nat → Value → World → Prop)
    (hI : ∀ j X, I j X → Box X Pa 25 (.slice ao la ca) ∧ Box X Pb 25 (.slice bo lb cb))
    (hA : ∀ j i X, I j X → Calls Tryd.prog 42 #[.slice ao la ca, .int .i64 ((i : Nat) : Int)] X fun e Y => (∃ v, e = .returned v ∧ ElA i v Y) ∧ X = Y)
    (hB : ∀ j i X, I j X → Calls Tryd.prog 42 #[.slice bo lb cb, .int .i64 ((i : Nat) : Int)] X fun e Y => (∃ v, e = .returned v ∧ ElB i v Y) ∧ Below X.heap.size X Y)
    (hEA : ∀ j v X Y, ElA j v X → Below X.heap.size X Y → ElA j v Y) :
    RL.Seq n Tryd.prog 81 #[.pointer (some ⟨Pa, 0, none⟩), .pointer (some ⟨Pb, 0, none⟩)] (max la lb) I (fun j args X => ∃ va vb, args = #[va, vb] ∧ ElA j va X ∧ ElB j vb X) := by
  intro l W J Jx hJI hJS _ h0 hY
  obtain ⟨N, hN⟩ : ∃ N, max la lb = N := ⟨_, rfl⟩
  rw [hN] at hY ⊢
  have hNI : max (la : Int) (lb : Int) = (N : Int) := by omega
  have hN9 : N ≤ 1000000 := by omega
  have HA := Lib.hid (fun j i X (h : J j X) => hA j i X (hJI j X h))
  have HB := Lib.hid (fun j i X (h : J j X) => hB j i X (hJI j X h))
  have HI := Lib.hid (fun j X (h : J j X) => hI j X (hJI j X h))
  have HJS := Lib.hid hJS
  have HEA := Lib.hid hEA
  have HY := Lib.hid hY
  have c1 := (HI.out 0 W h0).1.cell
  have c2 := (HI.out 0 W h0).2.cell
  have H0 := Lib.hid h0
  clear hN hla hlb hI hA hB hEA hJI hJS hY h0
  have hmix : Tryd.prog.follows .mixedOrders = true := by kernel_rfl
  refine callsIn_of_wp Tryd.func81 rfl trivial ?_ rfl
  simp only [Tryd.ntmps81, List.size_toArray, List.length_cons, List.length_nil, Nat.reduceAdd, Nat.reduceSub, Array.replicate_succ, Array.replicate_zero, List.push_toArray, List.append_toArray, List.nil_append, List.cons_append]
  gi_wp2
  clear c1 c2
  gi_loopw [10] (fun s10 wr => ∃ j : Nat, j ≤ N ∧ s10 = .int .i64 (j : Int) ∧ Hid (J j wr)) (fun s10 _ => N - (RowKit.intOf s10).toNat)
  case atStart => exact ⟨0, Nat.zero_le _, rfl, H0⟩
  case round =>
    clear H0
    obtain ⟨j, hj, rfl, HJ⟩ := hrel
    by_cases hlt : j < N
    · have hjI : (j : Int) < (N : Int) := by omega
      have c1 := (HI.out j wr HJ.out).1.cell
      have c2 := (HI.out j wr HJ.out).2.cell
      have HJ1 : Hid (J j wr.drew) := Lib.hid (HJS.out _ _ _ HJ.out (below_drewN' wr 1 _))
      have hcA := HA.out j j wr.drew HJ1.out
      have HCA := Lib.hid hcA
      clear hcA
      gi_upto_region 3 with fail
      gi_region_with_o (first | (refine ⟨trivial, ?_⟩; gi_at_call 42; (with_reducible refine (callsIn_wide.2 HCA.out).mono ?_); rintro e w' ⟨⟨va, rfl, hva⟩, rfl⟩; have HVA := Lib.hid hva; clear hva) | (refine ⟨trivial, ?_⟩; gi_at_call 42; (with_reducible refine (callsIn_wide.2 (HB.out j j _ HJ1.out)).mono ?_); rintro e w' ⟨⟨vb, rfl, hvb⟩, hb⟩; obtain ⟨fn, tmps, assign, body, hy, hRD⟩ := HY.out j _ _ hlt (HJS.out _ _ _ HJ1.out hb) ⟨_, _, rfl, HEA.out _ _ _ _ HVA.out hb, hvb⟩; have HRD := Lib.hid hRD; clear hRD hvb hb) | ((first | refine HRD.out.mono ?_ | refine ⟨(fun e => by cases e), HRD.out.mono ?_⟩); rintro E Y hgo; obtain ⟨b, rfl, hgo2⟩ := two_ends hgo; have HGO := Lib.hid hgo2; clear hgo hgo2))
      all_goals (
        obtain ⟨rfl, hJ3⟩ | ⟨rfl, hJ3⟩ := HGO.out
        · have HJ3 := Lib.hid hJ3
          clear hJ3
          gi_wp2
          go_roundw
          case rel => exact ⟨j + 1, by omega, by go_num, HJ3⟩
          case measure => simp [RowKit.intOf]; omega
        · have HJ3 := Lib.hid hJ3
          clear hJ3
          gi_wp2
          refine bodyPost_ret (results_none rfl _ _ _) rfl ?_
          exact ⟨⟨_, rfl⟩, .inr HJ3.out⟩)
    · have hjI : ¬ (j : Int) < (N : Int) := by omega
      obtain rfl : j = N := by omega
      gi_wp2
      go_end0
      exact ⟨⟨_, rfl⟩, .inl HJ.out⟩
theorem bothRR_any (ao bo : Option Addr) (la ca lb cb : Nat) (w : World) :
    Calls Tryd.prog 36 #[.slice ao la ca, .slice bo lb cb] w fun e w' => e = .returned (.func (.func 73) #[] #[.pointer (some ⟨w.heap.size, 0, none⟩), .pointer (some ⟨w.heap.size + 1, 0, none⟩)]) ∧
      (w.alloc (.cells #[.slice ao la ca] 31)).alloc (.cells #[.slice bo lb cb] 31) = w' := by
  go_enter Tryd.func36, Tryd.ntmps36
  go_wp2_with fail
  go_ret
  exact ⟨rfl, rfl⟩
set_option maxRecDepth 100000 in
set_option maxHeartbeats 4000000 in
theorem bothRR_seq (n : Nat) (h1 : 1 ≤ n) (Pa Pb : Nat) (ao bo : Option Addr) (la ca lb cb : Nat) (hla : la ≤ 1000000) (hlb : lb ≤ 1000000) (I : Nat → World → Prop) (ElA ElB : Nat → Value → World → Prop)
    (hI : ∀ j X, I j X → Box X Pa 31 (.slice ao la ca) ∧ Box X Pb 31 (.slice bo lb cb))
    (hA : ∀ j i X, I j X → Calls Tryd.prog 43 #[.slice ao la ca, .int .i64 ((i : Nat) : Int)] X fun e Y => (∃ v, e = .returned v ∧ ElA i v Y) ∧ X = Y)
    (hB : ∀ j i X, I j X → Calls Tryd.prog 43 #[.slice bo lb cb, .int .i64 ((i : Nat) : Int)] X fun e Y => (∃ v, e = .returned v ∧ ElB i v Y) ∧ Below X.heap.size X Y)
    (hEA : ∀ j v X Y, ElA j v X → Below X.heap.size X Y → ElA j v Y) :
    RL.Seq n Tryd.prog 73 #[.pointer (some ⟨Pa, 0, none⟩), .pointer (some ⟨Pb, 0, none⟩)] (max la lb) I (fun j args X => ∃ va vb, args = #[va, vb] ∧ ElA j va X ∧ ElB j vb X) := by
  intro l W J Jx hJI hJS _ h0 hY
  obtain ⟨N, hN⟩ : ∃ N, max la lb = N := ⟨_, rfl⟩
  rw [hN] at hY ⊢
  have hNI : max (la : Int) (lb : Int) = (N : Int) := by omega
  have hN9 : N ≤ 1000000 := by omega
  have HA := Lib.hid (fun j i X (h : J j X) => hA j i X (hJI j X h))
  have HB := Lib.hid (fun j i X (h : J j X) => hB j i X (hJI j X h))
  have HI := Lib.hid (fun j X (h : J j X) => hI j X (hJI j X h))
  have HJS := Lib.hid hJS
  have HEA := Lib.hid hEA
  have HY := Lib.hid hY
  have c1 := (HI.out 0 W h0).1.cell
  have c2 := (HI.out 0 W h0).2.cell
  have H0 := Lib.hid h0
  clear hN hla hlb hI hA hB hEA hJI hJS hY h0
  have hmix : Tryd.prog.follows .mixedOrders = true := by kernel_rfl
  refine callsIn_of_wp Tryd.func73 rfl trivial ?_ rfl
  simp only [Tryd.ntmps73, List.size_toArray, List.length_cons, List.length_nil, Nat.reduceAdd, Nat.reduceSub, Array.replicate_succ, Array.replicate_zero, List.push_toArray, List.append_toArray, List.nil_append, List.cons_append]
  gi_wp2
  clear c1 c2
  gi_loopw [10] (fun s10 wr => ∃ j : Nat, j ≤ N ∧ s10 = .int .i64 (j : Int) ∧ Hid (J j wr)) (fun s10 _ => N - (RowKit.intOf s10).toNat)
  case atStart => exact ⟨0, Nat.zero_le _, rfl, H0⟩
  case round =>
    clear H0
    obtain ⟨j, hj, rfl, HJ⟩ := hrel
    by_cases hlt : j < N
    · have hjI : (j : Int) < (N : Int) := by omega
      have c1 := (HI.out j wr HJ.out).1.cell
      have c2 := (HI.out j wr HJ.out).2.cell
      have HJ1 : Hid (J j wr.drew) := Lib.hid (HJS.out _ _ _ HJ.out (below_drewN' wr 1 _))
      have hcA := HA.out j j wr.drew HJ1.out
      have HCA := Lib.hid hcA
      clear hcA
      gi_upto_region 3 with fail
      gi_region_with_o (first | (refine ⟨trivial, ?_⟩; gi_at_call 43; (with_reducible refine (callsIn_wide.2 HCA.out).mono ?_); rintro e w' ⟨⟨va, rfl, hva⟩, rfl⟩; have HVA := Lib.hid hva; clear hva) | (refine ⟨trivial, ?_⟩; gi_at_call 43; (with_reducible refine (callsIn_wide.2 (HB.out j j _ HJ1.out)).mono ?_); rintro e w' ⟨⟨vb, rfl, hvb⟩, hb⟩; obtain ⟨fn, tmps, assign, body, hy, hRD⟩ := HY.out j _ _ hlt (HJS.out _ _ _ HJ1.out hb) ⟨_, _, rfl, HEA.out _ _ _ _ HVA.out hb, hvb⟩; have HRD := Lib.hid hRD; clear hRD hvb hb) | ((first | refine HRD.out.mono ?_ | refine ⟨(fun e => by cases e), HRD.out.mono ?_⟩); rintro E Y hgo; obtain ⟨b, rfl, hgo2⟩ := two_ends hgo; have HGO := Lib.hid hgo2; clear hgo hgo2))
      all_goals (
        obtain ⟨rfl, hJ3⟩ | ⟨rfl, hJ3⟩ := HGO.out
        · have HJ3 := Lib.hid hJ3
          clear hJ3
          gi_wp2
          go_roundw
          case rel => exact ⟨j + 1, by omega, by go_num, HJ3⟩
          case measure => simp [RowKit.intOf]; omega
        · have HJ3 := Lib.hid hJ3
          clear hJ3
          gi_wp2
          refine bodyPost_ret (results_none rfl _ _ _) rfl ?_
          exact ⟨⟨_, rfl⟩, .inr HJ3.out⟩)
    · have hjI : ¬ (j : Int) < (N : Int) := by omega
      obtain rfl : j = N := by omega
      gi_wp2
      go_end0
      exact ⟨⟨_, rfl⟩, .inl HJ.out⟩
theorem bothMM_any (ao bo : Option Addr) (la ca lb cb : Nat) (w : World) :
    Calls Tryd.prog 29 #[.slice ao la ca, .slice bo lb cb] w fun e w' => e = .returned (.func (.func 64) #[] #[.pointer (some ⟨w.heap.size, 0, none⟩), .pointer (some ⟨w.heap.size + 1, 0, none⟩)]) ∧
      (w.alloc (.cells #[.slice ao la ca] 28)).alloc (.cells #[.slice bo lb cb] 28) = w' := by
  go_enter Tryd.func29, Tryd.ntmps29
  go_wp2_with fail
  go_ret
  exact ⟨rfl, rfl⟩
set_option maxRecDepth 100000 in
set_option maxHeartbeats 4000000 in
theorem bothMM_seq (n : Nat) (h1 : 1 ≤ n) (Pa Pb : Nat) (ao bo : Option Addr) (la ca lb cb : Nat) (hla : la ≤ 1000000) (hlb : lb ≤ 1000000) (I : Nat → World → Prop) (ElA ElB : Nat → Value → World → Prop)
    (hI : ∀ j X, I j X → Box X Pa 28 (.slice ao la ca) ∧ Box X Pb 28 (.slice bo lb cb))
    (hA : ∀ j i X, I j X → Calls Tryd.prog 65 #[.slice ao la ca, .int .i64 ((i : Nat) : Int)] X fun e Y => (∃ v, e = .returned v ∧ ElA i v Y) ∧ X = Y)
    (hB : ∀ j i X, I j X → Calls Tryd.prog 65 #[.slice bo lb cb, .int .i64 ((i : Nat) : Int)] X fun e Y => (∃ v, e = .returned v ∧ ElB i v Y) ∧ Below X.heap.size X Y)
    (hEA : ∀ j v X Y, ElA j v X → Below X.heap.size X Y → ElA j v Y) :
    RL.Seq n Tryd.prog 64 #[.pointer (some ⟨Pa, 0, none⟩), .pointer (some ⟨Pb, 0, none⟩)] (max la lb) I (fun j args X => ∃ va vb, args = #[va, vb] ∧ ElA j va X ∧ ElB j vb X) := by
  intro l W J Jx hJI hJS _ h0 hY
  obtain ⟨N, hN⟩ : ∃ N, max la lb = N := ⟨_, rfl⟩
  rw [hN] at hY ⊢
  have hNI : max (la : Int) (lb : Int) = (N : Int) := by omega
  have hN9 : N ≤ 1000000 := by omega
  have HA := Lib.hid (fun j i X (h : J j X) => hA j i X (hJI j X h))
  have HB := Lib.hid (fun j i X (h : J j X) => hB j i X (hJI j X h))
  have HI := Lib.hid (fun j X (h : J j X) => hI j X (hJI j X h))
  have HJS := Lib.hid hJS
  have HEA := Lib.hid hEA
  have HY := Lib.hid hY
  have c1 := (HI.out 0 W h0).1.cell
  have c2 := (HI.out 0 W h0).2.cell
  have H0 := Lib.hid h0
  clear hN hla hlb hI hA hB hEA hJI hJS hY h0
  have hmix : Tryd.prog.follows .mixedOrders = true := by kernel_rfl
  refine callsIn_of_wp Tryd.func64 rfl trivial ?_ rfl
  simp only [Tryd.ntmps64, List.size_toArray, List.length_cons, List.length_nil, Nat.reduceAdd, Nat.reduceSub, Array.replicate_succ, Array.replicate_zero, List.push_toArray, List.append_toArray, List.nil_append, List.cons_append]
  gi_wp2
  clear c1 c2
  gi_loopw [10] (fun s10 wr => ∃ j : Nat, j ≤ N ∧ s10 = .int .i64 (j : Int) ∧ Hid (J j wr)) (fun s10 _ => N - (RowKit.intOf s10).toNat)
  case atStart => exact ⟨0, Nat.zero_le _, rfl, H0⟩
  case round =>
    clear H0
    obtain ⟨j, hj, rfl, HJ⟩ := hrel
    by_cases hlt : j < N
    · have hjI : (j : Int) < (N : Int) := by omega
      have c1 := (HI.out j wr HJ.out).1.cell
      have c2 := (HI.out j wr HJ.out).2.cell
      have HJ1 : Hid (J j wr.drew) := Lib.hid (HJS.out _ _ _ HJ.out (below_drewN' wr 1 _))
      have hcA := HA.out j j wr.drew HJ1.out
      have HCA := Lib.hid hcA
      clear hcA
      gi_upto_region 3 with fail
      gi_region_with_o (first | (refine ⟨trivial, ?_⟩; gi_at_call 65; (with_reducible refine (callsIn_wide.2 HCA.out).mono ?_); rintro e w' ⟨⟨va, rfl, hva⟩, rfl⟩; have HVA := Lib.hid hva; clear hva) | (refine ⟨trivial, ?_⟩; gi_at_call 65; (with_reducible refine (callsIn_wide.2 (HB.out j j _ HJ1.out)).mono ?_); rintro e w' ⟨⟨vb, rfl, hvb⟩, hb⟩; obtain ⟨fn, tmps, assign, body, hy, hRD⟩ := HY.out j _ _ hlt (HJS.out _ _ _ HJ1.out hb) ⟨_, _, rfl, HEA.out _ _ _ _ HVA.out hb, hvb⟩; have HRD := Lib.hid hRD; clear hRD hvb hb) | ((first | refine HRD.out.mono ?_ | refine ⟨(fun e => by cases e), HRD.out.mono ?_⟩); rintro E Y hgo; obtain ⟨b, rfl, hgo2⟩ := two_ends hgo; have HGO := Lib.hid hgo2; clear hgo hgo2))
      all_goals (
        obtain ⟨rfl, hJ3⟩ | ⟨rfl, hJ3⟩ := HGO.out
        · have HJ3 := Lib.hid hJ3
          clear hJ3
          gi_wp2
          go_roundw
          case rel => exact ⟨j + 1, by omega, by go_num, HJ3⟩
          case measure => simp [RowKit.intOf]; omega
        · have HJ3 := Lib.hid hJ3
          clear hJ3
          gi_wp2
          refine bodyPost_ret (results_none rfl _ _ _) rfl ?_
          exact ⟨⟨_, rfl⟩, .inr HJ3.out⟩)
    · have hjI : ¬ (j : Int) < (N : Int) := by omega
      obtain rfl : j = N := by omega
      gi_wp2
      go_end0
      exact ⟨⟨_, rfl⟩, .inl HJ.out⟩
theorem bothMU_any (ao bo : Option Addr) (la ca lb cb : Nat) (w : World) :
    Calls Tryd.prog 41 #[.slice ao la ca, .slice bo lb cb] w fun e w' => e = .returned (.func (.func 77) #[] #[.pointer (some ⟨w.heap.size, 0, none⟩), .pointer (some ⟨w.heap.size + 1, 0, none⟩)]) ∧
      (w.alloc (.cells #[.slice ao la ca] 28)).alloc (.cells #[.slice bo lb cb] 25) = w' := by
  go_enter Tryd.func41, Tryd.ntmps41
  go_wp2_with fail
  go_ret
  exact ⟨rfl, rfl⟩
set_option maxRecDepth 100000 in
set_option maxHeartbeats 4000000 in
theorem bothMU_seq (n : Nat) (h1 : 1 ≤ n) (Pa Pb : Nat) (ao bo : Option Addr) (la ca lb cb : Nat) (hla : la ≤ 1000000) (hlb : lb ≤ 1000000) (I : Nat → World → Prop) (ElA ElB : Nat → Value → World → Prop)
    (hI : ∀ j X, I j X → Box X Pa 28 (.slice ao la ca) ∧ Box X Pb 25 (.slice bo lb cb))
    (hA : ∀ j i X, I j X → Calls Tryd.prog 65 #[.slice ao la ca, .int .i64 ((i : Nat) : Int)] X fun e Y => (∃ v, e = .returned v ∧ ElA i v Y) ∧ X = Y)
    (hB : ∀ j i X, I j X → Calls Tryd.prog 42 #[.slice bo lb cb, .int .i64 ((i : Nat) : Int)] X fun e Y => (∃ v, e = .returned v ∧ ElB i v Y) ∧ Below X.heap.size X Y)
    (hEA : ∀ j v X Y, ElA j v X → Below X.heap.size X Y → ElA j v Y) :
    RL.Seq n Tryd.prog 77 #[.pointer (some ⟨Pa, 0, none⟩), .pointer (some ⟨Pb, 0, none⟩)] (max la lb) I (fun j args X => ∃ va vb, args = #[va, vb] ∧ ElA j va X ∧ ElB j vb X) := by
  intro l W J Jx hJI hJS _ h0 hY
  obtain ⟨N, hN⟩ : ∃ N, max la lb = N := ⟨_, rfl⟩
  rw [hN] at hY ⊢
  have hNI : max (la : Int) (lb : Int) = (N : Int) := by omega
  have hN9 : N ≤ 1000000 := by omega
  have HA := Lib.hid (fun j i X (h : J j X) => hA j i X (hJI j X h))
  have HB := Lib.hid (fun j i X (h : J j X) => hB j i X (hJI j X h))
  have HI := Lib.hid (fun j X (h : J j X) => hI j X (hJI j X h))
  have HJS := Lib.hid hJS
  have HEA := Lib.hid hEA
  have HY := Lib.hid hY
  have c1 := (HI.out 0 W h0).1.cell
  have c2 := (HI.out 0 W h0).2.cell
  have H0 := Lib.hid h0
  clear hN hla hlb hI hA hB hEA hJI hJS hY h0
  have hmix : Tryd.prog.follows .mixedOrders = true := by kernel_rfl
  refine callsIn_of_wp Tryd.func77 rfl trivial ?_ rfl
  simp only [Tryd.ntmps77, List.size_toArray, List.length_cons, List.length_nil, Nat.reduceAdd, Nat.reduceSub, Array.replicate_succ, Array.replicate_zero, List.push_toArray, List.append_toArray, List.nil_append, List.cons_append]
  gi_wp2
  clear c1 c2
  gi_loopw [10] (fun s10 wr => ∃ j : Nat, j ≤ N ∧ s10 = .int .i64 (j : Int) ∧ Hid (J j wr)) (fun s10 _ => N - (RowKit.intOf s10).toNat)
  case atStart => exact ⟨0, Nat.zero_le _, rfl, H0⟩
  case round =>
    clear H0
    obtain ⟨j, hj, rfl, HJ⟩ := hrel
    by_cases hlt : j < N
    · have hjI : (j : Int) < (N : Int) := by omega
      have c1 := (HI.out j wr HJ.out).1.cell
      have c2 := (HI.out j wr HJ.out).2.cell
      have HJ1 : Hid (J j wr.drew) := Lib.hid (HJS.out _ _ _ HJ.out (below_drewN' wr 1 _))
      have hcA := HA.out j j wr.drew HJ1.out
      have HCA := Lib.hid hcA
      clear hcA
      gi_upto_region 3 with fail
      gi_region_with_o (first | (refine ⟨trivial, ?_⟩; gi_at_call 65; (with_reducible refine (callsIn_wide.2 HCA.out).mono ?_); rintro e w' ⟨⟨va, rfl, hva⟩, rfl⟩; have HVA := Lib.hid hva; clear hva) | (refine ⟨trivial, ?_⟩; gi_at_call 42; (with_reducible refine (callsIn_wide.2 (HB.out j j _ HJ1.out)).mono ?_); rintro e w' ⟨⟨vb, rfl, hvb⟩, hb⟩; obtain ⟨fn, tmps, assign, body, hy, hRD⟩ := HY.out j _ _ hlt (HJS.out _ _ _ HJ1.out hb) ⟨_, _, rfl, HEA.out _ _ _ _ HVA.out hb, hvb⟩; have HRD := Lib.hid hRD; clear hRD hvb hb) | ((first | refine HRD.out.mono ?_ | refine ⟨(fun e => by cases e), HRD.out.mono ?_⟩); rintro E Y hgo; obtain ⟨b, rfl, hgo2⟩ := two_ends hgo; have HGO := Lib.hid hgo2; clear hgo hgo2))
      all_goals (
        obtain ⟨rfl, hJ3⟩ | ⟨rfl, hJ3⟩ := HGO.out
        · have HJ3 := Lib.hid hJ3
          clear hJ3
          gi_wp2
          go_roundw
          case rel => exact ⟨j + 1, by omega, by go_num, HJ3⟩
          case measure => simp [RowKit.intOf]; omega
        · have HJ3 := Lib.hid hJ3
          clear hJ3
          gi_wp2
          refine bodyPost_ret (results_none rfl _ _ _) rfl ?_
          exact ⟨⟨_, rfl⟩, .inr HJ3.out⟩)
    · have hjI : ¬ (j : Int) < (N : Int) := by omega
      obtain rfl : j = N := by omega
      gi_wp2
      go_end0
      exact ⟨⟨_, rfl⟩, .inl HJ.out⟩
theorem bothUP_any (ao bo : Option Addr) (la ca lb cb : Nat) (w : World) :
    Calls Tryd.prog 39 #[.slice ao la ca, .slice bo lb cb] w fun e w' => e = .returned (.func (.func 75) #[] #[.pointer (some ⟨w.heap.size, 0, none⟩), .pointer (some ⟨w.heap.size + 1, 0, none⟩)]) ∧
      (w.alloc (.cells #[.slice ao la ca] 25)).alloc (.cells #[.slice bo lb cb] 42) = w' := by
  go_enter Tryd.func39, Tryd.ntmps39
  go_wp2_with fail
  go_ret
  exact ⟨rfl, rfl⟩
set_option maxRecDepth 100000 in
set_option maxHeartbeats 4000000 in
theorem bothUP_seq (n : Nat) (h1 : 1 ≤ n) (Pa Pb : Nat) (ao bo : Option Addr) (la ca lb cb : Nat) (hla : la ≤ 1000000) (hlb : lb ≤ 1000000) (I : Nat → World → Prop) (ElA ElB : Nat → Value → World → Prop)
    (hI : ∀ j X, I j X → Box X Pa 25 (.slice ao la ca) ∧ Box X Pb 42 (.slice bo lb cb))
    (hA : ∀ j i X, I j X → Calls Tryd.prog 42 #[.slice ao la ca, .int .i64 ((i : Nat) : Int)] X fun e Y => (∃ v, e = .returned v ∧ ElA i v Y) ∧ X = Y)
    (hB : ∀ j i X, I j X → Calls Tryd.prog 76 #[.slice bo lb cb, .int .i64 ((i : Nat) : Int)] X fun e Y => (∃ v, e = .returned v ∧ ElB i v Y) ∧ Below X.heap.size X Y)
    (hEA : ∀ j v X Y, ElA j v X → Below X.heap.size X Y → ElA j v Y) :
    RL.Seq n Tryd.prog 75 #[.pointer (some ⟨Pa, 0, none⟩), .pointer (some ⟨Pb, 0, none⟩)] (max la lb) I (fun j args X => ∃ va vb, args = #[va, vb] ∧ ElA j va X ∧ ElB j vb X) := by
  intro l W J Jx hJI hJS _ h0 hY
  obtain ⟨N, hN⟩ : ∃ N, max la lb = N := ⟨_, rfl⟩
  rw [hN] at hY ⊢
  have hNI : max (la : Int) (lb : Int) = (N : Int) := by omega
  have hN9 : N ≤ 1000000 := by omega
  have HA := Lib.hid (fun j i X (h : J j X) => hA j i X (hJI j X h))
  have HB := Lib.hid (fun j i X (h : J j X) => hB j i X (hJI j X h))
  have HI := Lib.hid (fun j X (h : J j X) => hI j X (hJI j X h))
  have HJS := Lib.hid hJS
  have HEA := Lib.hid hEA
  have HY := Lib.hid hY
  have c1 := (HI.out 0 W h0).1.cell
  have c2 := (HI.out 0 W h0).2.cell
  have H0 := Lib.hid h0
  clear hN hla hlb hI hA hB hEA hJI hJS hY h0
  have hmix : Tryd.prog.follows .mixedOrders = true := by kernel_rfl
  refine callsIn_of_wp Tryd.func75 rfl trivial ?_ rfl
  simp only [Tryd.ntmps75, List.size_toArray, List.length_cons, List.length_nil, Nat.reduceAdd, Nat.reduceSub, Array.replicate_succ, Array.replicate_zero, List.push_toArray, List.append_toArray, List.nil_append, List.cons_append]
  gi_wp2
  clear c1 c2
  gi_loopw [10] (fun s10 wr => ∃ j : Nat, j ≤ N ∧ s10 = .int .i64 (j : Int) ∧ Hid (J j wr)) (fun s10 _ => N - (RowKit.intOf s10).toNat)
  case atStart => exact ⟨0, Nat.zero_le _, rfl, H0⟩
  case round =>
    clear H0
    obtain ⟨j, hj, rfl, HJ⟩ := hrel
    by_cases hlt : j < N
    · have hjI : (j : Int) < (N : Int) := by omega
      have c1 := (HI.out j wr HJ.out).1.cell
      have c2 := (HI.out j wr HJ.out).2.cell
      have HJ1 : Hid (J j wr.drew) := Lib.hid (HJS.out _ _ _ HJ.out (below_drewN' wr 1 _))
      have hcA := HA.out j j wr.drew HJ1.out
      have HCA := Lib.hid hcA
      clear hcA
      gi_upto_region 3 with fail
      gi_region_with_o (first | (refine ⟨trivial, ?_⟩; gi_at_call 42; (with_reducible refine (callsIn_wide.2 HCA.out).mono ?_); rintro e w' ⟨⟨va, rfl, hva⟩, rfl⟩; have HVA := Lib.hid hva; clear hva) | (refine ⟨trivial, ?_⟩; gi_at_call 76; (with_reducible refine (callsIn_wide.2 (HB.out j j _ HJ1.out)).mono ?_); rintro e w' ⟨⟨vb, rfl, hvb⟩, hb⟩; obtain ⟨fn, tmps, assign, body, hy, hRD⟩ := HY.out j _ _ hlt (HJS.out _ _ _ HJ1.out hb) ⟨_, _, rfl, HEA.out _ _ _ _ HVA.out hb, hvb⟩; have HRD := Lib.hid hRD; clear hRD hvb hb) | ((first | refine HRD.out.mono ?_ | refine ⟨(fun e => by cases e), HRD.out.mono ?_⟩); rintro E Y hgo; obtain ⟨b, rfl, hgo2⟩ := two_ends hgo; have HGO := Lib.hid hgo2; clear hgo hgo2))
      all_goals (
        obtain ⟨rfl, hJ3⟩ | ⟨rfl, hJ3⟩ := HGO.out
        · have HJ3 := Lib.hid hJ3
          clear hJ3
          gi_wp2
          go_roundw
          case rel => exact ⟨j + 1, by omega, by go_num, HJ3⟩
          case measure => simp [RowKit.intOf]; omega
        · have HJ3 := Lib.hid hJ3
          clear hJ3
          gi_wp2
          refine bodyPost_ret (results_none rfl _ _ _) rfl ?_
          exact ⟨⟨_, rfl⟩, .inr HJ3.out⟩)
    · have hjI : ¬ (j : Int) < (N : Int) := by omega
      obtain rfl : j = N := by omega
      gi_wp2
      go_end0
      exact ⟨⟨_, rfl⟩, .inl HJ.out⟩
end M
end Go.Proofs.YtlnlepadninnaaaDoor

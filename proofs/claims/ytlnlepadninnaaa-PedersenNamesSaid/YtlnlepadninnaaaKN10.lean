/- The texts PedBoth, one behind the other. -/
import Derived.Test.YtlnlepadninnaaaKN8
import Derived.Sort.CutIn
import Derived.Shelf.RegionOpen
/- What package pedersen's iterator over two lists does: it yields what both have at one place after another. -/
namespace Go.Proofs.Ytlnlepadninnaaa
open Go Go.RowKit Go.Lib Go.Shelf
namespace M
attribute [local go_sem] Oper.semAt_some
theorem two_ends {e : Ending} {A B : Prop} (h : (e = .returned (.bool true) ∧ A) ∨ (e = .returned (.bool false) ∧ B)) : ∃ b, e = .returned (.bool b) ∧ ((b = true ∧ A) ∨ (b = false ∧ B)) := by
  obtain ⟨h1, h2⟩ | ⟨h1, h2⟩ := h
  · exact ⟨true, h1, .inl ⟨rfl, h2⟩⟩
  · exact ⟨false, h1, .inr ⟨rfl, h2⟩⟩

theorem bothUU_any (ao bo : Option Addr) (la ca lb cb : Nat) (w : World) :
    Calls Try.prog 36 #[.slice ao la ca, .slice bo lb cb] w fun e w' => e = .returned (.func (.func 43) #[] #[.pointer (some ⟨w.heap.size, 0, none⟩), .pointer (some ⟨w.heap.size + 1, 0, none⟩)]) ∧
      (w.alloc (.cells #[.slice ao la ca] 27)).alloc (.cells #[.slice bo lb cb] 27) = w' := by
  go_enter Try.func36, Try.ntmps36
  go_wp2_with fail
  go_ret
  exact ⟨rfl, rfl⟩
set_option maxRecDepth 100000 in
set_option maxHeartbeats 4000000 in
theorem bothUU_seq (n : Nat) (h1 : 1 ≤ n) (Pa Pb : Nat) (ao bo : Option Addr) (la ca lb cb : Nat) (hla : la ≤ 1000000) (hlb : lb ≤ 1000000) (I : Nat → World → Prop) (ElA ElB : Nat → Value → World → Prop)
    (hI : ∀ j X, I j X → Box X Pa 27 (.slice ao la ca) ∧ Box X Pb 27 (.slice bo lb cb))
    (hA : ∀ j i X, I j X → Calls Try.prog 21 #[.slice ao la ca, .int .i64 ((i : Nat) : Int)] X fun e Y => (∃ v, e = .returned v ∧ ElA i v Y) ∧ X = Y)
    (hB : ∀ j i X, I j X → Calls Try.prog 21 #[.slice bo lb cb, .int .i64 ((i : Nat) : Int)] X fun e Y => (∃ v, e = .returned v ∧ ElB i v Y) ∧ Below X.heap.size X Y)
    (hEA : ∀ j v X Y, ElA j v X → Below X.heap.size X Y → ElA j v Y) :
    RL.Seq n Try.prog 43 #[.pointer (some ⟨Pa, 0, none⟩), .pointer (some ⟨Pb, 0, none⟩)] (max la lb) I (fun j args X => ∃ va vb, args = #[va, vb] ∧ ElA j va X ∧ ElB j vb X) := by
  intro l W J Jx hJI hJS _ h0 hY
  obtain ⟨N, hN⟩ : ∃ N, max la lb = N := ⟨_, rfl⟩
  rw [hN] at hY ⊢
  have hNI : max (la : Int) (lb : Int) = (N : Int) := by omega
  have hN9 : N ≤ 1000000 := by omega
  have HA := Lib.hid (fun j i X (h : J j X) => hA j i X (hJI j X h))
  have HB := Lib.hid (fun j i X (h : J j X) => hB j i X (hJI j X h))
  have HI := Lib.hid (fun j X (h : J j X) => hI j X (hJI j X h))
  have HJS := Lib.hid hJS
  have HEA := Lib.hid hEA
  have HY := Lib.hid hY
  have c1 := (HI.out 0 W h0).1.cell
  have c2 := (HI.out 0 W h0).2.cell
  have H0 := Lib.hid h0
  clear hN hla hlb hI hA hB hEA hJI hJS hY h0
  have hmix : Try.prog.follows .mixedOrders = true := by kernel_rfl
  refine callsIn_of_wp Try.func43 rfl trivial ?_ rfl
  simp only [Try.ntmps43, List.size_toArray, List.length_cons, List.length_nil, Nat.reduceAdd, Nat.reduceSub, Array.replicate_succ, Array.replicate_zero, List.push_toArray, List.append_toArray, List.nil_append, List.cons_append]
  gi_wp2
  clear c1 c2
  gi_loopw [10] (fun s10 wr => ∃ j : Nat, j ≤ N ∧ s10 = .int .i64 (j : Int) ∧ Hid (J j wr)) (fun s10 _ => N - (RowKit.intOf s10).toNat)
  case atStart => exact ⟨0, Nat.zero_le _, rfl, H0⟩
  case round =>
    clear H0
    obtain ⟨j, hj, rfl, HJ⟩ := hrel
    by_cases hlt : j < N
    · have hjI : (j : Int) < (N : Int) := by omega
      have c1 := (HI.out j wr HJ.out).1.cell
      have c2 := (HI.out j wr HJ.out).2.cell
      have HJ1 : Hid (J j wr.drew) := Lib.hid (HJS.out _ _ _ HJ.out (below_drewN' wr 1 _))
      have hcA := HA.out j j wr.drew HJ1.out
      have HCA := Lib.hid hcA
      clear hcA
      gi_upto_region 3 with fail
      gi_region_with_o (first | (refine ⟨trivial, ?_⟩; gi_at_call 21; (with_reducible refine (callsIn_wide.2 HCA.out).mono ?_); rintro e w' ⟨⟨va, rfl, hva⟩, rfl⟩; have HVA := Lib.hid hva; clear hva) | (refine ⟨trivial, ?_⟩; gi_at_call 21; (with_reducible refine (callsIn_wide.2 (HB.out j j _ HJ1.out)).mono ?_); rintro e w' ⟨⟨vb, rfl, hvb⟩, hb⟩; obtain ⟨fn, tmps, assign, body, hy, hRD⟩ := HY.out j _ _ hlt (HJS.out _ _ _ HJ1.out hb) ⟨_, _, rfl, HEA.out _ _ _ _ HVA.out hb, hvb⟩; have HRD := Lib.hid hRD; clear hRD hvb hb) | ((first | refine HRD.out.mono ?_ | refine ⟨(fun e => by cases e), HRD.out.mono ?_⟩); rintro E Y hgo; obtain ⟨b, rfl, hgo2⟩ := two_ends hgo; have HGO := Lib.hid hgo2; clear hgo hgo2))
      all_goals (
        obtain ⟨rfl, hJ3⟩ | ⟨rfl, hJ3⟩ := HGO.out
        · have HJ3 := Lib.hid hJ3
          clear hJ3
          gi_wp2
          go_roundw
          case rel => exact ⟨j + 1, by omega, by go_num, HJ3⟩
          case measure => simp [RowKit.intOf]; omega
        · have HJ3 := Lib.hid hJ3
          clear hJ3
          gi_wp2
          refine bodyPost_ret (results_none rfl _ _ _) rfl ?_
          exact ⟨⟨_, rfl⟩, .inr HJ3.out⟩)
    · have hjI : ¬ (j : Int) < (N : Int) := by omega
      obtain rfl : j = N := by omega
      gi_wp2
      go_end0
      exact ⟨⟨_, rfl⟩, .inl HJ.out⟩
theorem bothRR_any (ao bo : Option Addr) (la ca lb cb : Nat) (w : World) :
    Calls Try.prog 23 #[.slice ao la ca, .slice bo lb cb] w fun e w' => e = .returned (.func (.func 35) #[] #[.pointer (some ⟨w.heap.size, 0, none⟩), .pointer (some ⟨w.heap.size + 1, 0, none⟩)]) ∧
      (w.alloc (.cells #[.slice ao la ca] 28)).alloc (.cells #[.slice bo lb cb] 28) = w' := by
  go_enter Try.func23, Try.ntmps23
  go_wp2_with fail
  go_ret
  exact ⟨rfl, rfl⟩
set_option maxRecDepth 100000 in
set_option maxHeartbeats 4000000 in
theorem bothRR_seq (n : Nat) (h1 : 1 ≤ n) (Pa Pb : Nat) (ao bo : Option Addr) (la ca lb cb : Nat) (hla : la ≤ 1000000) (hlb : lb ≤ 1000000) (I : Nat → World → Prop) (ElA ElB : Nat → Value → World → Prop)
    (hI : ∀ j X, I j X → Box X Pa 28 (.slice ao la ca) ∧ Box X Pb 28 (.slice bo lb cb))
    (hA : ∀ j i X, I j X → Calls Try.prog 22 #[.slice ao la ca, .int .i64 ((i : Nat) : Int)] X fun e Y => (∃ v, e = .returned v ∧ ElA i v Y) ∧ X = Y)
    (hB : ∀ j i X, I j X → Calls Try.prog 22 #[.slice bo lb cb, .int .i64 ((i : Nat) : Int)] X fun e Y => (∃ v, e = .returned v ∧ ElB i v Y) ∧ Below X.heap.size X Y)
    (hEA : ∀ j v X Y, ElA j v X → Below X.heap.size X Y → ElA j v Y) :
    RL.Seq n Try.prog 35 #[.pointer (some ⟨Pa, 0, none⟩), .pointer (some ⟨Pb, 0, none⟩)] (max la lb) I (fun j args X => ∃ va vb, args = #[va, vb] ∧ ElA j va X ∧ ElB j vb X) := by
  intro l W J Jx hJI hJS _ h0 hY
  obtain ⟨N, hN⟩ : ∃ N, max la lb = N := ⟨_, rfl⟩
  rw [hN] at hY ⊢
  have hNI : max (la : Int) (lb : Int) = (N : Int) := by omega
  have hN9 : N ≤ 1000000 := by omega
  have HA := Lib.hid (fun j i X (h : J j X) => hA j i X (hJI j X h))
  have HB := Lib.hid (fun j i X (h : J j X) => hB j i X (hJI j X h))
  have HI := Lib.hid (fun j X (h : J j X) => hI j X (hJI j X h))
  have HJS := Lib.hid hJS
  have HEA := Lib.hid hEA
  have HY := Lib.hid hY
  have c1 := (HI.out 0 W h0).1.cell
  have c2 := (HI.out 0 W h0).2.cell
  have H0 := Lib.hid h0
  clear hN hla hlb hI hA hB hEA hJI hJS hY h0
  have hmix : Try.prog.follows .mixedOrders = true := by kernel_rfl
  refine callsIn_of_wp Try.func35 rfl trivial ?_ rfl
  simp only [Try.ntmps35, List.size_toArray, List.length_cons, List.length_nil, Nat.reduceAdd, Nat.reduceSub, Array.replicate_succ, Array.replicate_zero, List.push_toArray, List.append_toArray, List.nil_append, List.cons_append]
  gi_wp2
  clear c1 c2
  gi_loopw [10] (fun s10 wr => ∃ j : Nat, j ≤ N ∧ s10 = .int .i64 (j : Int) ∧ Hid (J j wr)) (fun s10 _ => N - (RowKit.intOf s10).toNat)
  case atStart => exact ⟨0, Nat.zero_le _, rfl, H0⟩
  case round =>
    clear H0
    obtain ⟨j, hj, rfl, HJ⟩ := hrel
    by_cases hlt : j < N
    · have hjI : (j : Int) < (N : Int) := by omega
      have c1 := (HI.out j wr HJ.out).1.cell
      have c2 := (HI.out j wr HJ.out).2.cell
      have HJ1 : Hid (J j wr.drew) := Lib.hid (HJS.out _ _ _ HJ.out (below_drewN' wr 1 _))
      have hcA := HA.out j j wr.drew HJ1.out
      have HCA := Lib.hid hcA
      clear hcA
      gi_upto_region 3 with fail
      gi_region_with_o (first | (refine ⟨trivial, ?_⟩; gi_at_call 22; (with_reducible refine (callsIn_wide.2 HCA.out).mono ?_); rintro e w' ⟨⟨va, rfl, hva⟩, rfl⟩; have HVA := Lib.hid hva; clear hva) | (refine ⟨trivial, ?_⟩; gi_at_call 22; (with_reducible refine (callsIn_wide.2 (HB.out j j _ HJ1.out)).mono ?_); rintro e w' ⟨⟨vb, rfl, hvb⟩, hb⟩; obtain ⟨fn, tmps, assign, body, hy, hRD⟩ := HY.out j _ _ hlt (HJS.out _ _ _ HJ1.out hb) ⟨_, _, rfl, HEA.out _ _ _ _ HVA.out hb, hvb⟩; have HRD := Lib.hid hRD; clear hRD hvb hb) | ((first | refine HRD.out.mono ?_ | refine ⟨(fun e => by cases e), HRD.out.mono ?_⟩); rintro E Y hgo; obtain ⟨b, rfl, hgo2⟩ := two_ends hgo; have HGO := Lib.hid hgo2; clear hgo hgo2))
      all_goals (
        obtain ⟨rfl, hJ3⟩ | ⟨rfl, hJ3⟩ := HGO.out
        · have HJ3 := Lib.hid hJ3
          clear hJ3
          gi_wp2
          go_roundw
          case rel => exact ⟨j + 1, by omega, by go_num, HJ3⟩
          case measure => simp [RowKit.intOf]; omega
        · have HJ3 := Lib.hid hJ3
          clear hJ3
          gi_wp2
          refine bodyPost_ret (results_none rfl _ _ _) rfl ?_
          exact ⟨⟨_, rfl⟩, .inr HJ3.out⟩)
    · have hjI : ¬ (j : Int) < (N : Int) := by omega
      obtain rfl : j = N := by omega
      gi_wp2
      go_end0
      exact ⟨⟨_, rfl⟩, .inl HJ.out⟩
theorem bothMM_any (ao bo : Option Addr) (la ca lb cb : Nat) (w : World) :
    Calls Try.prog 28 #[.slice ao la ca, .slice bo lb cb] w fun e w' => e = .returned (.func (.func 39) #[] #[.pointer (some ⟨w.heap.size, 0, none⟩), .pointer (some ⟨w.heap.size + 1, 0, none⟩)]) ∧
      (w.alloc (.cells #[.slice ao la ca] 29)).alloc (.cells #[.slice bo lb cb] 29) = w' := by
  go_enter Try.func28, Try.ntmps28
  go_wp2_with fail
  go_ret
  exact ⟨rfl, rfl⟩
set_option maxRecDepth 100000 in
set_option maxHeartbeats 4000000 in
theorem bothMM_seq (n : Nat) (h1 : 1 ≤ n) (Pa Pb : Nat) (ao bo : Option Addr) (la ca lb cb : Nat) (hla : la ≤ 1000000) (hlb : lb ≤ 1000000) (I : Nat → World → Prop) (ElA ElB : Nat → Value → World → Prop)
    (hI : ∀ j X, I j X → Box X Pa 29 (.slice ao la ca) ∧ Box X Pb 29 (.slice bo lb cb))
    (hA : ∀ j i X, I j X → Calls Try.prog 34 #[.slice ao la ca, .int .i64 ((i : Nat) : Int)] X fun e Y => (∃ v, e = .returned v ∧ ElA i v Y) ∧ X = Y)
    (hB : ∀ j i X, I j X → Calls Try.prog 34 #[.slice bo lb cb, .int .i64 ((i : Nat) : Int)] X fun e Y => (∃ v, e = .returned v ∧ ElB i v Y) ∧ Below X.heap.size X Y)
    (hEA : ∀ j v X Y, ElA j v X → Below X.heap.size X Y → ElA j v Y) :
    RL.Seq n Try.prog 39 #[.pointer (some ⟨Pa, 0, none⟩), .pointer (some ⟨Pb, 0, none⟩)] (max la lb) I (fun j args X => ∃ va vb, args = #[va, vb] ∧ ElA j va X ∧ ElB j vb X) := by
  intro l W J Jx hJI hJS _ h0 hY
  obtain ⟨N, hN⟩ : ∃ N, max la lb = N := ⟨_, rfl⟩
  rw [hN] at hY ⊢
  have hNI : max (la : Int) (lb : Int) = (N : Int) := by omega
  have hN9 : N ≤ 1000000 := by omega
  have HA := Lib.hid (fun j i X (h : J j X) => hA j i X (hJI j X h))
  have HB := Lib.hid (fun j i X (h : J j X) => hB j i X (hJI j X h))
  have HI := Lib.hid (fun j X (h : J j X) => hI j X (hJI j X h))
  have HJS := Lib.hid hJS
  have HEA := Lib.hid hEA
  have HY := Lib.hid hY
  have c1 := (HI.out 0 W h0).1.cell
  have c2 := (HI.out 0 W h0).2.cell
  have H0 := Lib.hid h0
  clear hN hla hlb hI hA hB hEA hJI hJS hY h0
  have hmix : Try.prog.follows .mixedOrders = true := by kernel_rfl
  refine callsIn_of_wp Try.func39 rfl trivial ?_ rfl
  simp only [Try.ntmps39, List.size_toArray, List.length_cons, List.length_nil, Nat.reduceAdd, Nat.reduceSub, Array.replicate_succ, Array.replicate_zero, List.push_toArray, List.append_toArray, List.nil_append, List.cons_append]
  gi_wp2
  clear c1 c2
  gi_loopw [10] (fun s10 wr => ∃ j : Nat, j ≤ N ∧ s10 = .int .i64 (j : Int) ∧ Hid (J j wr)) (fun s10 _ => N - (RowKit.intOf s10).toNat)
  case atStart => exact ⟨0, Nat.zero_le _, rfl, H0⟩
  case round =>
    clear H0
    obtain ⟨j, hj, rfl, HJ⟩ := hrel
    by_cases hlt : j < N
    · have hjI : (j : Int) < (N : Int) := by omega
      have c1 := (HI.out j wr HJ.out).1.cell
      have c2 := (HI.out j wr HJ.out).2.cell
      have HJ1 : Hid (J j wr.drew) := Lib.hid (HJS.out _ _ _ HJ.out (below_drewN' wr 1 _))
      have hcA := HA.out j j wr.drew HJ1.out
      have HCA := Lib.hid hcA
      clear hcA
      gi_upto_region 3 with fail
      gi_region_with_o (first | (refine ⟨trivial, ?_⟩; gi_at_call 34; (with_reducible refine (callsIn_wide.2 HCA.out).mono ?_); rintro e w' ⟨⟨va, rfl, hva⟩, rfl⟩; have HVA := Lib.hid hva; clear hva) | (refine ⟨trivial, ?_⟩; gi_at_call 34; (with_reducible refine (callsIn_wide.2 (HB.out j j _ HJ1.out)).mono ?_); rintro e w' ⟨⟨vb, rfl, hvb⟩, hb⟩; obtain ⟨fn, tmps, assign, body, hy, hRD⟩ := HY.out j _ _ hlt (HJS.out _ _ _ HJ1.out hb) ⟨_, _, rfl, HEA.out _ _ _ _ HVA.out hb, hvb⟩; have HRD := Lib.hid hRD; clear hRD hvb hb) | ((first | refine HRD.out.mono ?_ | refine ⟨(fun e => by cases e), HRD.out.mono ?_⟩); rintro E Y hgo; obtain ⟨b, rfl, hgo2⟩ := two_ends hgo; have HGO := Lib.hid hgo2; clear hgo hgo2))
      all_goals (
        obtain ⟨rfl, hJ3⟩ | ⟨rfl, hJ3⟩ := HGO.out
        · have HJ3 := Lib.hid hJ3
          clear hJ3
          gi_wp2
          go_roundw
          case rel => exact ⟨j + 1, by omega, by go_num, HJ3⟩
          case measure => simp [RowKit.intOf]; omega
        · have HJ3 := Lib.hid hJ3
          clear hJ3
          gi_wp2
          refine bodyPost_ret (results_none rfl _ _ _) rfl ?_
          exact ⟨⟨_, rfl⟩, .inr HJ3.out⟩)
    · have hjI : ¬ (j : Int) < (N : Int) := by omega
      obtain rfl : j = N := by omega
      gi_wp2
      go_end0
      exact ⟨⟨_, rfl⟩, .inl HJ.out⟩
theorem bothMU_any (ao bo : Option Addr) (la ca lb cb : Nat) (w : World) :
    Calls Try.prog 20 #[.slice ao la ca, .slice bo lb cb] w fun e w' => e = .returned (.func (.func 33) #[] #[.pointer (some ⟨w.heap.size, 0, none⟩), .pointer (some ⟨w.heap.size + 1, 0, none⟩)]) ∧
      (w.alloc (.cells #[.slice ao la ca] 29)).alloc (.cells #[.slice bo lb cb] 27) = w' := by
  go_enter Try.func20, Try.ntmps20
  go_wp2_with fail
  go_ret
  exact ⟨rfl, rfl⟩
set_option maxRecDepth 100000 in
set_option maxHeartbeats 4000000 in
theorem bothMU_seq (n : Nat) (h1 : 1 ≤ n) (Pa Pb : Nat) (ao bo : Option Addr) (la ca lb cb : Nat) (hla : la ≤ 1000000) (hlb : lb ≤ 1000000) (I : Nat → World → Prop) (ElA ElB : Nat → Value → World → Prop)
    (hI : ∀ j X, I j X → Box X Pa 29 (.slice ao la ca) ∧ Box X Pb 27 (.slice bo lb cb))
    (hA : ∀ j i X, I j X → Calls Try.prog 34 #[.slice ao la ca, .int .i64 ((i : Nat) : Int)] X fun e Y => (∃ v, e = .returned v ∧ ElA i v Y) ∧ X = Y)
    (hB : ∀ j i X, I j X → Calls Try.prog 21 #[.slice bo lb cb, .int .i64 ((i : Nat) : Int)] X fun e Y => (∃ v, e = .returned v ∧ ElB i v Y) ∧ Below X.heap.size X Y)
    (hEA : ∀ j v X Y, ElA j v X → Below X.heap.size X Y → ElA j v Y) :
    RL.Seq n Try.prog 33 #[.pointer (some ⟨Pa, 0, none⟩), .pointer (some ⟨Pb, 0, none⟩)] (max la lb) I (fun j args X => ∃ va vb, args = #[va, vb] ∧ ElA j va X ∧ ElB j vb X) := by
  intro l W J Jx hJI hJS _ h0 hY
  obtain ⟨N, hN⟩ : ∃ N, max la lb = N := ⟨_, rfl⟩
  rw [hN] at hY ⊢
  have hNI : max (la : Int) (lb : Int) = (N : Int) := by omega
  have hN9 : N ≤ 1000000 := by omega
  have HA := Lib.hid (fun j i X (h : J j X) => hA j i X (hJI j X h))
  have HB := Lib.hid (fun j i X (h : J j X) => hB j i X (hJI j X h))
  have HI := Lib.hid (fun j X (h : J j X) => hI j X (hJI j X h))
  have HJS := Lib.hid hJS
  have HEA := Lib.hid hEA
  have HY := Lib.hid hY
  have c1 := (HI.out 0 W h0).1.cell
  have c2 := (HI.out 0 W h0).2.cell
  have H0 := Lib.hid h0
  clear hN hla hlb hI hA hB hEA hJI hJS hY h0
  have hmix : Try.prog.follows .mixedOrders = true := by kernel_rfl
  refine callsIn_of_wp Try.func33 rfl trivial ?_ rfl
  simp only [Try.ntmps33, List.size_toArray, List.length_cons, List.length_nil, Nat.reduceAdd, Nat.reduceSub, Array.replicate_succ, Array.replicate_zero, List.push_toArray, List.append_toArray, List.nil_append, List.cons_append]
  gi_wp2
  clear c1 c2
  gi_loopw [10] (fun s10 wr => ∃ j : Nat, j ≤ N ∧ s10 = .int .i64 (j : Int) ∧ Hid (J j wr)) (fun s10 _ => N - (RowKit.intOf s10).toNat)
  case atStart => exact ⟨0, Nat.zero_le _, rfl, H0⟩
  case round =>
    clear H0
    obtain ⟨j, hj, rfl, HJ⟩ := hrel
    by_cases hlt : j < N
    · have hjI : (j : Int) < (N : Int) := by omega
      have c1 := (HI.out j wr HJ.out).1.cell
      have c2 := (HI.out j wr HJ.out).2.cell
      have HJ1 : Hid (J j wr.drew) := Lib.hid (HJS.out _ _ _ HJ.out (below_drewN' wr 1 _))
      have hcA := HA.out j j wr.drew HJ1.out
      have HCA := Lib.hid hcA
      clear hcA
      gi_upto_region 3 with fail
      gi_region_with_o (first | (refine ⟨trivial, ?_⟩; gi_at_call 34; (with_reducible refine (callsIn_wide.2 HCA.out).mono ?_); rintro e w' ⟨⟨va, rfl, hva⟩, rfl⟩; have HVA := Lib.hid hva; clear hva) | (refine ⟨trivial, ?_⟩; gi_at_call 21; (with_reducible refine (callsIn_wide.2 (HB.out j j _ HJ1.out)).mono ?_); rintro e w' ⟨⟨vb, rfl, hvb⟩, hb⟩; obtain ⟨fn, tmps, assign, body, hy, hRD⟩ := HY.out j _ _ hlt (HJS.out _ _ _ HJ1.out hb) ⟨_, _, rfl, HEA.out _ _ _ _ HVA.out hb, hvb⟩; have HRD := Lib.hid hRD; clear hRD hvb hb) | ((first | refine HRD.out.mono ?_ | refine ⟨(fun e => by cases e), HRD.out.mono ?_⟩); rintro E Y hgo; obtain ⟨b, rfl, hgo2⟩ := two_ends hgo; have HGO := Lib.hid hgo2; clear hgo hgo2))
      all_goals (
        obtain ⟨rfl, hJ3⟩ | ⟨rfl, hJ3⟩ := HGO.out
        · have HJ3 := Lib.hid hJ3
          clear hJ3
          gi_wp2
          go_roundw
          case rel => exact ⟨j + 1, by omega, by go_num, HJ3⟩
          case measure => simp [RowKit.intOf]; omega
        · have HJ3 := Lib.hid hJ3
          clear hJ3
          gi_wp2
          refine bodyPost_ret (results_none rfl _ _ _) rfl ?_
          exact ⟨⟨_, rfl⟩, .inr HJ3.out⟩)
    · have hjI : ¬ (j : Int) < (N : Int) := by omega
      obtain rfl : j = N := by omega
      gi_wp2
      go_end0
      exact ⟨⟨_, rfl⟩, .inl HJ.out⟩
theorem bothUP_any (ao bo : Option Addr) (la ca lb cb : Nat) (w : World) :
    Calls Try.prog 26 #[.slice ao la ca, .slice bo lb cb] w fun e w' => e = .returned (.func (.func 37) #[] #[.pointer (some ⟨w.heap.size, 0, none⟩), .pointer (some ⟨w.heap.size + 1, 0, none⟩)]) ∧
      (w.alloc (.cells #[.slice ao la ca] 27)).alloc (.cells #[.slice bo lb cb] 42) = w' := by
  go_enter Try.func26, Try.ntmps26
  go_wp2_with fail
  go_ret
  exact ⟨rfl, rfl⟩
set_option maxRecDepth 100000 in
set_option maxHeartbeats 4000000 in
theorem bothUP_seq (n : Nat) (h1 : 1 ≤ n) (Pa Pb : Nat) (ao bo : Option Addr) (la ca lb cb : Nat) (hla : la ≤ 1000000) (hlb : lb ≤ 1000000) (I : Nat → World → Prop) (ElA ElB : Nat → Value → World → Prop)
    (hI : ∀ j X, I j X → Box X Pa 27 (.slice ao la ca) ∧ Box X Pb 42 (.slice bo lb cb))
    (hA : ∀ j i X, I j X → Calls Try.prog 21 #[.slice ao la ca, .int .i64 ((i : Nat) : Int)] X fun e Y => (∃ v, e = .returned v ∧ ElA i v Y) ∧ X = Y)
    (hB : ∀ j i X, I j X → Calls Try.prog 38 #[.slice bo lb cb, .int .i64 ((i : Nat) : Int)] X fun e Y => (∃ v, e = .returned v ∧ ElB i v Y) ∧ Below X.heap.size X Y)
    (hEA : ∀ j v X Y, ElA j v X → Below X.heap.size X Y → ElA j v Y) :
    RL.Seq n Try.prog 37 #[.pointer (some ⟨Pa, 0, none⟩), .pointer (some ⟨Pb, 0, none⟩)] (max la lb) I (fun j args X => ∃ va vb, args = #[va, vb] ∧ ElA j va X ∧ ElB j vb X) := by
  intro l W J Jx hJI hJS _ h0 hY
  obtain ⟨N, hN⟩ : ∃ N, max la lb = N := ⟨_, rfl⟩
  rw [hN] at hY ⊢
  have hNI : max (la : Int) (lb : Int) = (N : Int) := by omega
  have hN9 : N ≤ 1000000 := by omega
  have HA := Lib.hid (fun j i X (h : J j X) => hA j i X (hJI j X h))
  have HB := Lib.hid (fun j i X (h : J j X) => hB j i X (hJI j X h))
  have HI := Lib.hid (fun j X (h : J j X) => hI j X (hJI j X h))
  have HJS := Lib.hid hJS
  have HEA := Lib.hid hEA
  have HY := Lib.hid hY
  have c1 := (HI.out 0 W h0).1.cell
  have c2 := (HI.out 0 W h0).2.cell
  have H0 := Lib.hid h0
  clear hN hla hlb hI hA hB hEA hJI hJS hY h0
  have hmix : Try.prog.follows .mixedOrders = true := by kernel_rfl
  refine callsIn_of_wp Try.func37 rfl trivial ?_ rfl
  simp only [Try.ntmps37, List.size_toArray, List.length_cons, List.length_nil, Nat.reduceAdd, Nat.reduceSub, Array.replicate_succ, Array.replicate_zero, List.push_toArray, List.append_toArray, List.nil_append, List.cons_append]
  gi_wp2
  clear c1 c2
  gi_loopw [10] (fun s10 wr => ∃ j : Nat, j ≤ N ∧ s10 = .int .i64 (j : Int) ∧ Hid (J j wr)) (fun s10 _ => N - (RowKit.intOf s10).toNat)
  case atStart => exact ⟨0, Nat.zero_le _, rfl, H0⟩
  case round =>
    clear H0
    obtain ⟨j, hj, rfl, HJ⟩ := hrel
    by_cases hlt : j < N
    · have hjI : (j : Int) < (N : Int) := by omega
      have c1 := (HI.out j wr HJ.out).1.cell
      have c2 := (HI.out j wr HJ.out).2.cell
      have HJ1 : Hid (J j wr.drew) := Lib.hid (HJS.out _ _ _ HJ.out (below_drewN' wr 1 _))
      have hcA := HA.out j j wr.drew HJ1.out
      have HCA := Lib.hid hcA
      clear hcA
      gi_upto_region 3 with fail
      gi_region_with_o (first | (refine ⟨trivial, ?_⟩; gi_at_call 21; (with_reducible refine (callsIn_wide.2 HCA.out).mono ?_); rintro e w' ⟨⟨va, rfl, hva⟩, rfl⟩; have HVA := Lib.hid hva; clear hva) | (refine ⟨trivial, ?_⟩; gi_at_call 38; (with_reducible refine (callsIn_wide.2 (HB.out j j _ HJ1.out)).mono ?_); rintro e w' ⟨⟨vb, rfl, hvb⟩, hb⟩; obtain ⟨fn, tmps, assign, body, hy, hRD⟩ := HY.out j _ _ hlt (HJS.out _ _ _ HJ1.out hb) ⟨_, _, rfl, HEA.out _ _ _ _ HVA.out hb, hvb⟩; have HRD := Lib.hid hRD; clear hRD hvb hb) | ((first | refine HRD.out.mono ?_ | refine ⟨(fun e => by cases e), HRD.out.mono ?_⟩); rintro E Y hgo; obtain ⟨b, rfl, hgo2⟩ := two_ends hgo; have HGO := Lib.hid hgo2; clear hgo hgo2))
      all_goals (
        obtain ⟨rfl, hJ3⟩ | ⟨rfl, hJ3⟩ := HGO.out
        · have HJ3 := Lib.hid hJ3
          clear hJ3
          gi_wp2
          go_roundw
          case rel => exact ⟨j + 1, by omega, by go_num, HJ3⟩
          case measure => simp [RowKit.intOf]; omega
        · have HJ3 := Lib.hid hJ3
          clear hJ3
          gi_wp2
          refine bodyPost_ret (results_none rfl _ _ _) rfl ?_
          exact ⟨⟨_, rfl⟩, .inr HJ3.out⟩)
    · have hjI : ¬ (j : Int) < (N : Int) := by omega
      obtain rfl : j = N := by omega
      gi_wp2
      go_end0
      exact ⟨⟨_, rfl⟩, .inl HJ.out⟩
end M
end Go.Proofs.Ytlnlepadninnaaa

/- What the statements on polynomials do themselves: copies of rows, and what is told is compared and then written over; the program's calls beside the document's. -/
import Derived.Test.YtebplinighoagaaLaw03b
import Derived.Test.YtebplinighoagaaOpenN
import Derived.Laws.OwnMore
namespace Go.Proofs.Ytebplinighoagaa
open Go Go.RowKit Go.Lib
namespace M
/-- Numbers that a slice reads, where one without an address is the nil slice. -/
def Src (W : World) (ao : Option Addr) (n c : Nat) (z : Nat → Nat) : Prop := Rd W ao n z ∧ (ao = none → n = 0 ∧ c = 0)
theorem Src.below {W W' : World} {ao : Option Addr} {n c : Nat} {z : Nat → Nat} (h : Src W ao n c z) (hb : Below W.heap.size W W') : Src W' ao n c z := ⟨h.1.below hb, h.2⟩
theorem grown_below {w w' : World} {g : Nat} (h : w.grownBy w' (some g)) (hg : g ≤ w.heap.size) : Below g w w' := ⟨h.os, h.tape, h.output, h.size, fun k hk => h.block k (by omega) (by simp; omega)⟩
theorem own_rd {w : World} {B n : Nat} {v : Value} {z : Nat → Nat} (h : w.ownsRow B 23 1 v n (zlist n z)) (hB : B ≤ w.heap.size) : ∃ ao c, v = .slice ao n c ∧ Rd w ao n z := by
  have ho : Own { w with heap := #[] } B v n z w := ⟨h, hB, Nat.zero_le _, ⟨rfl, rfl, rfl, Nat.zero_le _, fun k hk => absurd hk (Nat.not_lt_zero _)⟩⟩
  obtain ⟨ao, c, e, _, _, hr⟩ := ho.rd
  exact ⟨ao, c, e, hr⟩
/-- A row is copied behind an empty one. -/
theorem copy_run (W : World) (ao : Option Addr) (n c : Nat) (z : Nat → Nat) (hn : n ≤ 1000) (h : Src W ao n c z) :
    ∃ (co : Option Addr) (cc : Nat) (W2 : World), (Builtin.append_ #[24, 24] 24 #[.slice (some ⟨W.heap.size, 0, none⟩) 0 0, .slice ao n c]).run Try.prog (W.alloc (.cells #[] 23)) = .ok (.slice co n cc) W2 ∧ Rd W2 co n z ∧ Below W.heap.size W W2 := by
  obtain ⟨i0, hi, hz0, hz1, hz2⟩ := info_parts info_u64
  have hown : (W.alloc (.cells #[] 23)).ownsRow W.heap.size 23 1 (.slice (some ⟨W.heap.size, 0, none⟩) 0 0) 0 [] := World.ownsRow_made W #[] 0 (Nat.le_refl _) (by unfold maxLen; omega) (by simp)
  cases ao with
  | none =>
    obtain ⟨rfl, rfl⟩ := h.2 rfl
    exact ⟨_, _, _, run_append_owned_none (P := Try.prog) _ W.heap.size 24 24 23 i0 1 Try.underlying24 hi _ 0 [] hown, fun h => absurd h (by omega), below_box _ _⟩
  | some a =>
    have hcell : ∀ j u, (zlist n z)[j]? = some u → (W.alloc (.cells #[] 23)).cell? (a.add j) = some u := fun j u hj => by
      have hl := (List.getElem?_eq_some_iff.1 hj).1
      rw [zlist_len] at hl
      obtain ⟨ad, e, hr⟩ := h.1.below (below_box W (.cells #[] 23)) (by omega)
      cases e
      exact zlist_cells hr j u hj
    obtain ⟨v', w', hr, ho, hg, _⟩ := run_append_own (P := Try.prog) (W.alloc (.cells #[] 23)) W.heap.size 24 24 23 i0 (.int .u64 0) 1 8 Try.underlying24 hi hz0 hz1 hz2 rfl (by decide) _ 0 [] hown a n c (zlist n z) (zlist_len n z) hcell (zlist_one n z) (by unfold maxLen; omega) (by omega) (by simp)
    rw [Nat.zero_add, List.nil_append] at ho
    have hb : Below W.heap.size W w' := (below_box W _).trans (grown_below hg (by simp))
    obtain ⟨co, cc, rfl, hrd⟩ := own_rd ho hb.size
    exact ⟨co, cc, w', hr, hrd, hb⟩

set_option maxHeartbeats 4000000 in
theorem told_any (v : Value) (bo : Option Addr) (n cb lo : Nat) (z : Nat → Nat) (hn : n ≤ 1000000) (W : World) (hv : RowB lo W v n z) (hw : Rd W bo n z) :
    Calls Try.prog 16 #[v, .slice bo n cb] W fun e w' => e = .returned (.bool true) ∧ Below lo W w' := by
  rcases hv with ⟨rfl, rfl⟩ | ⟨B, cs, rfl, hlo, h1, h2, h3⟩
  · have HN := Lib.hid (rnumbers_yes none bo 0 0 cb z (by omega) W (fun h => absurd h (by omega)) hw)
    clear hw
    go_enter Try.func16, Try.ntmps16
    go_wp2_with (go_at_call 15; (with_reducible refine HN.out.mono ?_); rintro e w' ⟨rfl, nd, rfl⟩)
    refine wp_loop_rounds 1 ?_
    rw [rounds_succ]
    go_wp2_with fail
    go_ret
    exact ⟨rfl, below_drewN' _ _ _⟩
  · have hrd : Rd W (some ⟨B, 0, none⟩) n z := fun _ => ⟨_, rfl, Row.of_block h1 h3⟩
    have HN := Lib.hid (rnumbers_yes (some ⟨B, 0, none⟩) bo n n cb z (by omega) W hrd hw)
    have HM0 : Hid (Mine { W with heap := #[] } B n z W) := Lib.hid ⟨⟨cs, h1, h2, h3⟩, Nat.zero_le _, ⟨rfl, rfl, rfl, Nat.zero_le _, fun k hk => absurd hk (Nat.not_lt_zero _)⟩⟩
    clear hw hrd h1 h2 h3
    go_enter Try.func16, Try.ntmps16
    go_upto_region 2 with (go_at_call 15; (with_reducible refine HN.out.mono ?_); rintro e w' ⟨rfl, nd, rfl⟩)
    have HM1 := Lib.hid (HM0.out.drewN nd)
    have HB1 := Lib.hid (below_drewN' W nd B)
    clear HM0 HN
    generalize W.drewN nd = W1 at *
    go_wp2_with fail
    go_loopw [6] (fun s6 wx => ∃ k : Nat, k ≤ n ∧ s6 = .int .i64 (k : Int) ∧ Hid (∃ y, Mine { W with heap := #[] } B n y wx) ∧ Hid (Below B W wx)) (fun s6 _ => n - (RowKit.intOf s6).toNat)
    case atStart => exact ⟨0, Nat.zero_le _, rfl, Lib.hid ⟨_, HM1.out⟩, HB1⟩
    case round =>
      clear HM1 HB1
      obtain ⟨k, hk, rfl, HM, HB⟩ := hrel
      rename_i wr
      by_cases hlt : k < n
      · obtain ⟨y, hm⟩ := HM.out
        have hc := hm.cell hlt
        have hf := hm.free k
        have HN : Hid (Mine { W with heap := #[] } B n (fun j => if j = k then 77 else y j) (wr.setCell ⟨B, k, none⟩ (.int .u64 77))) := Lib.hid (hm.set k 77 (fun _ _ => rfl))
        have HB2 := Lib.hid (HB.out.setCell (p := ⟨B, k, none⟩) (Nat.le_refl _) (.int .u64 77))
        have p1 : (0 : Int) ≤ (k : Int) := Int.natCast_nonneg _
        have p2 : (k : Int) < (n : Int) := by omega
        clear hm
        go_wp2_with fail
        go_roundw
        case rel => exact ⟨k + 1, by omega, by go_num, Lib.hid ⟨_, HN.out⟩, HB2⟩
        case measure => simp [RowKit.intOf]; omega
      · obtain rfl : k = n := by omega
        go_wp2_with fail
        go_ret
        exact ⟨rfl, HB.out.mono hlo⟩
theorem gives_rd {W w' : World} {n : Nat} {z : Nat → Nat} {e : Ending} (h : Gives W n z e w') : ∃ bo cb, e = .returned (.slice bo n cb) ∧ Rd w' bo n z ∧ Below W.heap.size W w' := by
  obtain ⟨v, rfl, ho, hb⟩ := h
  obtain ⟨bo, cb, rfl, hr⟩ := own_rd ho hb.size
  exact ⟨bo, cb, rfl, hr, hb⟩
/-- A call of the program beside the document's: both hand back the same numbers, each in new memory. -/
def Pair2 (W0 : World) (f g : FuncId) (xs ys : Array Value) : Prop := ∃ (n : Nat) (z : Nat → Nat), n ≤ 1000 ∧
  (∀ W, Below W0.heap.size W0 W → Calls Try.prog f xs W fun e w' => ∃ v, e = .returned v ∧ RowB W.heap.size w' v n z ∧ Below W.heap.size W w') ∧
  (∀ W, Below W0.heap.size W0 W → Calls Try.prog g ys W fun e w' => ∃ bo cb, e = .returned (.slice bo n cb) ∧ Rd w' bo n z ∧ Below W.heap.size W w')
section
variable {W0 : World} {ao bo co do_ : Option Addr} {la ca lb cb cc cd q : Nat} {a b : Nat → Nat}
theorem pair_sum (hla : la ≤ 40) (hlb : lb ≤ 40) (hc : Rd W0 co la a) (hd : Rd W0 do_ lb b) (ha : Rd W0 ao la a) (hb : Rd W0 bo lb b) :
    Pair2 W0 11 17 #[.slice co la cc, .slice do_ lb cd, .int .u64 (q : Int)] #[.slice ao la ca, .slice bo lb cb, .int .u64 (q : Int)] := by
  by_cases hq : MM.Good q
  · exact ⟨max la lb, MM.sumU la lb q a b, by omega, fun W h => (sum_good co do_ la cc lb cd q a b (by omega) (by omega) hq W (hc.below h) (hd.below h)).mono fun e w' ⟨he, hm⟩ => ⟨_, he, hm.rowB (Nat.le_refl _), hm.below⟩,
      fun W h => (rsum_good ao bo la ca lb cb q a b (by omega) (by omega) hq W (ha.below h) (hb.below h)).mono fun e w' hg => gives_rd hg⟩
  · exact ⟨0, a, by omega, fun W _ => (sum_bad co do_ la cc lb cd q hq W).mono fun e w' ⟨he, hw⟩ => ⟨_, he, .inl ⟨rfl, rfl⟩, hw ▸ Below.refl _ _⟩, fun W _ => (rsum_bad ao bo la ca lb cb q a hq W).mono fun e w' hg => gives_rd hg⟩
theorem pair_scale {k : Nat} (hk : k < 18446744073709551616) (hal : ∀ j, a j < 18446744073709551616) (hla : la ≤ 40) (hc : Rd W0 co la a) (ha : Rd W0 ao la a) :
    Pair2 W0 12 18 #[.slice co la cc, .int .u64 (k : Int), .int .u64 (q : Int)] #[.slice ao la ca, .int .u64 (k : Int), .int .u64 (q : Int)] := by
  by_cases hq : MM.Good q
  · exact ⟨la, MM.scaleU k q a, by omega, fun W h => (scale_good co la cc k q a (by omega) hal hk hq W (hc.below h)).mono fun e w' ⟨he, hm⟩ => ⟨_, he, hm.rowB (Nat.le_refl _), hm.below⟩,
      fun W h => (rscale_good ao la ca k q a (by omega) hk hq W (ha.below h)).mono fun e w' hg => gives_rd hg⟩
  · exact ⟨0, a, by omega, fun W _ => (scale_bad co la cc k q hq W).mono fun e w' ⟨he, hw⟩ => ⟨_, he, .inl ⟨rfl, rfl⟩, hw ▸ Below.refl _ _⟩, fun W _ => (rscale_bad ao la ca k q a hq W).mono fun e w' hg => gives_rd hg⟩
theorem pair_times (hal : ∀ j, a j < 18446744073709551616) (hbl : ∀ j, b j < 18446744073709551616) (hla : la ≤ 40) (hlb : lb ≤ 40) (hc : Rd W0 co la a) (hd : Rd W0 do_ lb b) (ha : Rd W0 ao la a) (hb : Rd W0 bo lb b) :
    Pair2 W0 13 19 #[.slice co la cc, .slice do_ lb cd, .int .u64 (q : Int)] #[.slice ao la ca, .slice bo lb cb, .int .u64 (q : Int)] := by
  by_cases hq : MM.Good q
  · by_cases h0 : la = 0
    · exact ⟨0, a, by omega, fun W _ => (times_none co do_ la cc lb cd q hq (.inl h0) W).mono fun e w' ⟨he, hw⟩ => ⟨_, he, .inl ⟨rfl, rfl⟩, hw ▸ Below.refl _ _⟩, fun W _ => (rpoly_times_na ao bo la ca lb cb q a hq h0 W).mono fun e w' hg => gives_rd hg⟩
    · by_cases h1 : lb = 0
      · exact ⟨0, a, by omega, fun W _ => (times_none co do_ la cc lb cd q hq (.inr h1) W).mono fun e w' ⟨he, hw⟩ => ⟨_, he, .inl ⟨rfl, rfl⟩, hw ▸ Below.refl _ _⟩, fun W _ => (rpoly_times_nb ao bo la ca lb cb q a hq (by omega) h1 W).mono fun e w' hg => gives_rd hg⟩
      · exact ⟨la + lb - 1, MM.timesU la lb q a b, by omega, fun W h => (times_good co do_ la cc lb cd q a b (by omega) (by omega) (by omega) (by omega) hal hbl hq W (hc.below h) (hd.below h)).mono fun e w' ⟨he, hm⟩ => ⟨_, he, hm.rowB (Nat.le_refl _), hm.below⟩,
          fun W h => (rpoly_times_good ao bo la ca lb cb q a b (by omega) (by omega) (by omega) (by omega) hbl hq W (ha.below h) (hb.below h)).mono fun e w' hg => gives_rd hg⟩
  · exact ⟨0, a, by omega, fun W _ => (times_bad co do_ la cc lb cd q hq W).mono fun e w' ⟨he, hw⟩ => ⟨_, he, .inl ⟨rfl, rfl⟩, hw ▸ Below.refl _ _⟩, fun W _ => (rpoly_times_bad ao bo la ca lb cb q a hq W).mono fun e w' hg => gives_rd hg⟩
end
/-- Both hand back the same value. -/
def Same2 (W0 : World) (f g : FuncId) (xs ys : Array Value) (v : Value) : Prop :=
  (∀ W, Below W0.heap.size W0 W → Calls Try.prog f xs W fun e w' => e = .returned v ∧ Below W.heap.size W w') ∧ (∀ W, Below W0.heap.size W0 W → Calls Try.prog g ys W fun e w' => e = .returned v ∧ Below W.heap.size W w')
section
variable {W0 : World} {ao bo co do_ : Option Addr} {la ca lb cb cc cd q : Nat} {a b : Nat → Nat}
theorem same_eval {x : Nat} (hx : x < 18446744073709551616) (hla : la ≤ 40) (hc : Rd W0 co la a) (ha : Rd W0 ao la a) :
    ∃ r : Nat, Same2 W0 9 20 #[.slice co la cc, .int .u64 (x : Int), .int .u64 (q : Int)] #[.slice ao la ca, .int .u64 (x : Int), .int .u64 (q : Int)] (.int .u64 (r : Int)) :=
  ⟨MM.evalU a x q la, fun W h => (eval_any co la cc x q a (by omega) hx W (hc.below h)).mono fun e w' ⟨he, hb⟩ => ⟨by rw [he, MM.horn_eval], hb⟩,
    fun W h => (reval_any ao la ca x q a (by omega) hx W (ha.below h)).mono fun e w' ⟨he, m, hm⟩ => ⟨he, hm ▸ below_drewN' _ _ _⟩⟩
theorem same_degree (hla : la ≤ 40) (hc : Rd W0 co la a) (ha : Rd W0 ao la a) :
    ∃ d : Int, Same2 W0 10 21 #[.slice co la cc, .int .u64 (q : Int)] #[.slice ao la ca, .int .u64 (q : Int)] (.int .i64 d) := by
  refine ⟨MM.degC a q la, fun W h => degree_any co la cc q a (by omega) W (hc.below h), fun W h => ?_⟩
  by_cases hq : MM.Good q
  · rw [MM.degC_good hq]; exact (rdegree_good ao la ca q a (by omega) hq W (ha.below h)).mono fun e w' ⟨he, m, hm⟩ => ⟨he, hm ▸ below_drewN' _ _ _⟩
  · rw [MM.degC_bad hq]; exact (rdegree_bad ao la ca q hq W).mono fun e w' ⟨he, m, hm⟩ => ⟨he, hm ▸ below_drewN' _ _ _⟩
theorem same_same (hla : la ≤ 40) (hlb : lb ≤ 40) (hc : Rd W0 co la a) (hd : Rd W0 do_ lb b) (ha : Rd W0 ao la a) (hb : Rd W0 bo lb b) :
    ∃ r : Bool, Same2 W0 14 22 #[.slice co la cc, .slice do_ lb cd, .int .u64 (q : Int)] #[.slice ao la ca, .slice bo lb cb, .int .u64 (q : Int)] (.bool r) := by
  refine ⟨MM.sameC la lb q a b (max la lb), fun W h => same_any co do_ la cc lb cd q a b (by omega) (by omega) W (hc.below h) (hd.below h), fun W h => ?_⟩
  by_cases hq : MM.Good q
  · rw [MM.sameC_good hq]; exact (rsame_good ao bo la ca lb cb q a b (by omega) (by omega) hq W (ha.below h) (hb.below h)).mono fun e w' ⟨he, m, hm⟩ => ⟨he, hm ▸ below_drewN' _ _ _⟩
  · rw [MM.sameC_bad hq]; exact (rsame_bad ao bo la ca lb cb q hq W).mono fun e w' ⟨he, m, hm⟩ => ⟨he, hm ▸ below_drewN' _ _ _⟩
end
end M
end Go.Proofs.Ytebplinighoagaa

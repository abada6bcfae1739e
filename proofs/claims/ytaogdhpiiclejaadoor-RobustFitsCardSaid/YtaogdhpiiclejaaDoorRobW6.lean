/- The walk of Decode where something is wrong with its arguments, and its word for all arguments. -/
import Derived.Test.YtaogdhpiiclejaaDoorRobW5
namespace Go.Proofs.YtaogdhpiiclejaaDoor
open Go Go.RowKit Go.Lib Go.Shelf
namespace M
attribute [local go_sem] Oper.semAt_some
set_option maxRecDepth 100000 in
set_option maxHeartbeats 4000000 in
theorem decode_err (xo yo : Option Addr) (n m cx cy q : Nat) (t : Int) (z : Nat → Nat) (hz : ∀ k, z k < 18446744073709551616) (w : World) (hl : Laid w) (hr : Rd w xo n z) (er : Int) (hE : MM.decErr q t n m z = er) (h0 : er ≠ 0) :
    Calls Tryd.prog 8 #[.slice xo n cx, .slice yo m cy, .int .i64 t, .int .u64 (q : Int)] w fun e w' => e = .returned (.tuple #[.slice none 0 0, .slice none 0 0, .int .i64 er]) ∧ Below w.heap.size w w' := by
  refine (callsIn_wide (n := 3)).1 ?_
  have hck := fun (W : World) (hb : Below w.heap.size w W) => dcheck_any xo yo n m cx cy q t z hz W (laid_below hl hb) (hr.below hb)
  rw [hE] at hck
  have HCK := Lib.hid hck
  clear hck hz hr hE hl
  have hl1 : 1 ≤ 3 := by omega
  have hne : (er != 0) = true := by simpa using h0
  refine callsIn_of_wp Tryd.func8 rfl trivial ?_ rfl
  simp only [Tryd.ntmps8, List.size_toArray, List.length_cons, List.length_nil, Nat.reduceAdd, Nat.reduceSub, Array.replicate_succ, Array.replicate_zero, List.push_toArray, List.append_toArray, List.nil_append, List.cons_append]
  gi_upto_region 1 with fail
  obtain ⟨g, hg⟩ : ∃ g, w.heap.size = g := ⟨_, rfl⟩
  obtain ⟨W1, h1, b1, s1, x1, x2, x3, x4, x5, x6, x7⟩ := boxes7 w 22 22 3 23 22 28 29 (.slice xo n cx) (.slice yo m cy) (.int .i64 t) (.int .u64 (q : Int)) (.slice none 0 0) (.slice none 0 0) (.int .i64 0)
  rw [hg] at s1 x1 x2 x3 x4 x5 x6 x7
  rw [h1, hg]
  have c1 := x1.cell
  have c2 := x2.cell
  have c3 := x3.cell
  have c4 := x4.cell
  gi_upto_region 2 with (refine ⟨trivial, ?_⟩; gi_at_call 12; refine (callsIn_wide.2 (HCK.out _ b1)).mono ?_; rintro E W2 ⟨rfl, b2⟩; have k7 := (x7.below b2).cell; have f7 := (x7.below b2).free)
  obtain ⟨W3, hW3⟩ : ∃ W3, W2.setCell ⟨g + 1 + 1 + 1 + 1 + 1 + 1, 0, none⟩ (.int .i64 er) = W3 := ⟨_, rfl⟩
  have y5 : Box W3 (g + 1 + 1 + 1 + 1) 22 (.slice none 0 0) := by rw [← hW3]; exact (x5.below b2).other _ _ (by show g + 1 + 1 + 1 + 1 ≠ g + 1 + 1 + 1 + 1 + 1 + 1; omega)
  have y6 : Box W3 (g + 1 + 1 + 1 + 1 + 1) 28 (.slice none 0 0) := by rw [← hW3]; exact (x6.below b2).other _ _ (by show g + 1 + 1 + 1 + 1 + 1 ≠ g + 1 + 1 + 1 + 1 + 1 + 1; omega)
  have y7 : Box W3 (g + 1 + 1 + 1 + 1 + 1 + 1) 29 (.int .i64 er) := by rw [← hW3]; exact (x7.below b2).set _
  have b3 : Below w.heap.size w W3 := by rw [← hW3]; exact (b1.trans (b2.mono b1.size)).setCell (by show w.heap.size ≤ g + 1 + 1 + 1 + 1 + 1 + 1; omega) _
  rw [hW3]
  have HFIN : Hid (∃ W6, (((W3.setCell ⟨g + 1 + 1 + 1 + 1, 0, none⟩ (.slice none 0 0)).setCell ⟨g + 1 + 1 + 1 + 1 + 1, 0, none⟩ (.slice none 0 0)).setCell ⟨g + 1 + 1 + 1 + 1 + 1 + 1, 0, none⟩ (.int .i64 er)).drew = W6 ∧ Below w.heap.size w W6 ∧ Box W6 (g + 1 + 1 + 1 + 1) 22 (.slice none 0 0) ∧ Box W6 (g + 1 + 1 + 1 + 1 + 1) 28 (.slice none 0 0) ∧ Box W6 (g + 1 + 1 + 1 + 1 + 1 + 1) 29 (.int .i64 er)) := Lib.hid (by
    refine ⟨_, rfl, ?_, ?_, ?_, ?_⟩
    · exact (((b3.setCell (by show w.heap.size ≤ g + 1 + 1 + 1 + 1; omega) _).setCell (by show w.heap.size ≤ g + 1 + 1 + 1 + 1 + 1; omega) _).setCell (by show w.heap.size ≤ g + 1 + 1 + 1 + 1 + 1 + 1; omega) _).trans (below_drewN' _ 1 _)
    · exact (((y5.set _).other _ _ (by show g + 1 + 1 + 1 + 1 ≠ g + 1 + 1 + 1 + 1 + 1; omega)).other _ _ (by show g + 1 + 1 + 1 + 1 ≠ g + 1 + 1 + 1 + 1 + 1 + 1; omega)).drewN 1
    · exact (((y6.other _ _ (by show g + 1 + 1 + 1 + 1 + 1 ≠ g + 1 + 1 + 1 + 1; omega)).set _).other _ _ (by show g + 1 + 1 + 1 + 1 + 1 ≠ g + 1 + 1 + 1 + 1 + 1 + 1; omega)).drewN 1
    · exact (((y7.other _ _ (by show g + 1 + 1 + 1 + 1 + 1 + 1 ≠ g + 1 + 1 + 1 + 1; omega)).other _ _ (by show g + 1 + 1 + 1 + 1 + 1 + 1 ≠ g + 1 + 1 + 1 + 1 + 1; omega)).set _).drewN 1)
  have c5 := y5.cell
  have f5 := y5.free
  have c6 := y6.cell
  have f6 := y6.free
  have c7 := y7.cell
  have f7' := y7.free
  clear hW3 k7 f7 c1 c2 c3 c4 HCK h1 x1 x2 x3 x4 x5 x6 x7 b1 b2 y5 y6 y7 b3
  have hmix : Tryd.prog.follows .mixedOrders = true := by kernel_rfl
  gi_upto_region 3 with fail
  gi_region_with_o fail
  all_goals (
    obtain ⟨W6, hW6, hb, m5, m6, m7⟩ := HFIN.out
    rw [hW6]
    have n5 := m5.cell
    have n6 := m6.cell
    have n7 := m7.cell
    clear hW6
    gi_wp2
    refine bodyPost_ret (v := .tuple #[.slice none 0 0, .slice none 0 0, .int .i64 er]) ?_ rfl ⟨rfl, hb⟩
    rw [results_cells3 rfl]
    simp [go_sem, n5, n6, n7])
/-- What Decode tells, whatever its arguments are. -/
def Decoded (w : World) (q : Nat) (t : Int) (n m : Nat) (z y : Nat → Nat) (vc vw : Value) (ec : Int) (W : World) : Prop :=
  (MM.decErr q t n m z ≠ 0 ∧ vc = .slice none 0 0 ∧ vw = .slice none 0 0 ∧ ec = MM.decErr q t n m z ∧ Below w.heap.size w W) ∨
  (MM.decErr q t n m z = 0 ∧ Told w q t.toNat n z y ((MM.setsF (2 * t.toNat + 1) 0 n).find? (MM.fitB q t.toNat z y)) vc vw ec W)
theorem decErr_none {q n m : Nat} {t : Int} {z : Nat → Nat} (h : MM.decErr q t n m z = 0) : MM.primeOf q = true ∧ 0 ≤ t ∧ t ≤ 2 ∧ n = m ∧ n ≤ 7 ∧ MM.tw6 q z n = 0 ∧ MM.noAll q z n = false := by
  unfold MM.decErr at h
  by_cases h1 : MM.primeOf q = false ∨ t < 0 ∨ 2 < t ∨ n ≠ m
  · rw [if_pos h1] at h; omega
  · rw [if_neg h1] at h
    by_cases h2 : 7 < n
    · rw [if_pos h2] at h; omega
    · rw [if_neg h2] at h
      by_cases h3 : MM.tw6 q z n ≠ 0
      · rw [if_pos h3] at h; omega
      · rw [if_neg h3] at h
        by_cases h4 : MM.noAll q z n = true
        · rw [if_pos h4] at h; omega
        · have h5 : ¬ MM.primeOf q = false := fun e => h1 (.inl e)
          exact ⟨by simpa using h5, by omega, by omega, by omega, by omega, by simpa using h3, by simpa using h4⟩
theorem decode_any (xo yo : Option Addr) (n m cx cy q : Nat) (t : Int) (z y : Nat → Nat) (hz : ∀ k, z k < 18446744073709551616) (hy : ∀ k, y k < 18446744073709551616) (w : World) (hl : Laid w) (hr : Rd w xo n z) (hs : Rd w yo m y) :
    Calls Tryd.prog 8 #[.slice xo n cx, .slice yo m cy, .int .i64 t, .int .u64 (q : Int)] w fun e w' => ∃ vc vw ec, e = .returned (.tuple #[vc, vw, .int .i64 ec]) ∧ Decoded w q t n m z y vc vw ec w' := by
  by_cases h0 : MM.decErr q t n m z = 0
  · obtain ⟨hp, ht0, ht2, rfl, hn, hT, hN⟩ := decErr_none h0
    obtain ⟨t', rfl⟩ : ∃ t' : Nat, t = (t' : Int) := ⟨t.toNat, by omega⟩
    refine (decode_good xo yo n cx cy q t' z y hz hy w hl hr hs h0 hn (by omega) (good_of_prime hp) hT hN).mono ?_
    rintro e w' ⟨vc, vw, ec, rfl, h⟩
    exact ⟨vc, vw, ec, rfl, .inr ⟨h0, h⟩⟩
  · refine (decode_err xo yo n m cx cy q t z hz w hl hr _ rfl h0).mono ?_
    rintro e w' ⟨rfl, h⟩
    exact ⟨_, _, _, rfl, .inl ⟨h0, rfl, rfl, rfl, h⟩⟩
end M
end Go.Proofs.YtaogdhpiiclejaaDoor

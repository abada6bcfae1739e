/- The texts PedForm, PedFits, one behind the other. -/
import Derived.Test.YtlnlepadninnaaaKN17
import Derived.Test.YtlnlepadninnaaaKN10
import Derived.Test.YtlnlepadninnaaaKN16
import Derived.Test.YtlnlepadninnaaaKN8
/- The walks of package pedersen's questions whether commitments are formed, and whether a matrix is square. -/
namespace Go.Proofs.Ytlnlepadninnaaa
open Go Go.RowKit Go.Lib
namespace M
/-- How many secrets there are. -/
def secN (p : Pm) : Nat := p.K.toNat * (p.D.toNat + 1)
theorem secN_le {p : Pm} (hK : 0 ≤ p.K ∧ p.K ≤ 1000) (hD : 0 ≤ p.D ∧ p.D ≤ 1000) : secN p ≤ 1001000 := Nat.mul_le_mul (show p.K.toNat ≤ 1000 by omega) (show p.D.toNat + 1 ≤ 1001 by omega)
def formB (p : Pm) (m : Nat) (L : Nat → Nat) (F : Nat → Nat → Nat) : Bool := decide (m = secN p) && filB p m L F
def matB (p : Pm) (m : Nat) (L : Nat → Nat) (F : Nat → Nat → Nat) : Bool := decide ((m : Int) = p.T + 1) && filB p m L F
def sqB (p : Pm) (n : Nat) (K : Nat → Nat) (L : Nat → Nat → Nat) (F : Nat → Nat → Nat → Nat) : Bool := decide (n = secN p) && (List.range n).all fun s => matB p (K s) (L s) (F s)
theorem sqB_no {p : Pm} {n i : Nat} {K : Nat → Nat} {L : Nat → Nat → Nat} {F : Nat → Nat → Nat → Nat} (hi : i < n) (h : matB p (K i) (L i) (F i) = false) : sqB p n K L F = false := by
  unfold sqB
  rw [Bool.and_eq_false_iff]
  right
  cases e : (List.range n).all fun s => matB p (K s) (L s) (F s)
  · rfl
  · have := List.all_eq_true.1 e i (List.mem_range.2 hi)
    rw [h] at this; cases this
theorem sqB_yes {p : Pm} {n : Nat} {K : Nat → Nat} {L : Nat → Nat → Nat} {F : Nat → Nat → Nat → Nat} (h0 : n = secN p) (h : ∀ i, i < n → matB p (K i) (L i) (F i) = true) : sqB p n K L F = true := by
  unfold sqB
  rw [decide_eq_true h0, Bool.true_and]
  exact List.all_eq_true.2 fun i hi => h i (List.mem_range.1 hi)
set_option maxRecDepth 100000 in
set_option maxHeartbeats 4000000 in
theorem formed_any (p : Pm) (hT : -1000 ≤ p.T ∧ p.T ≤ 1000) (hQ : p.Q < 18446744073709551616) (hK : 0 ≤ p.K ∧ p.K ≤ 1000) (hD : 0 ≤ p.D ∧ p.D ≤ 1000) (ao : Option Addr) (m cap : Nat) (L : Nat → Nat) (F : Nat → Nat → Nat) (hm : m ≤ 1000) (hL : ∀ s, s < m → L s ≤ 1000) (hF : ∀ s j, F s j < 18446744073709551616) (W : World) (hr : Mat W ao m L F) :
    Calls Try.prog 11 #[.agg p.cells, .slice ao m cap] W fun e w' => e = .returned (.bool (formB p m L F)) ∧ Below W.heap.size W w' := by
  have hx1 := PBox.new W p
  have hb1 := below_box W (.cells p.cells 25)
  obtain ⟨g, hg⟩ : ∃ g, W.heap.size = g := ⟨_, rfl⟩
  obtain ⟨W1, hW1⟩ : ∃ W1, W.alloc (.cells p.cells 25) = W1 := ⟨_, rfl⟩
  rw [hW1] at hb1 hx1
  rw [hg] at hx1
  have HI : Hid (Below W.heap.size W W1 ∧ PBox W1 g p) := Lib.hid ⟨hb1, hx1⟩
  have HR := Lib.hid hr
  have HSE := secrets_any p hK hD
  have HFI := Lib.hid (fun (u : World) (h : Mat u ao m L F) => filled_any p hT hQ ao m cap L F hm hL hF u h)
  have hS := secN_le hK hD
  have hwm : IntKind.u64.wrap (m : Int) = (m : Int) := wrapN _ (by omega)
  change RetB 18 #[.agg p.cells] (.int .u64 ((secN p : Nat) : Int)) at HSE
  have HB : Hid (formB p m L F = (decide (m = secN p) && filB p m L F)) := Lib.hid rfl
  generalize formB p m L F = R at *
  clear hr hF hb1 hx1 hL hT hQ hK hD
  by_cases he : m = secN p
  · have d1 : ((m : Int) == ((secN p : Nat) : Int)) = true := by rw [← he]; simp
    obtain rfl : R = filB p m L F := by rw [HB.out, decide_eq_true he, Bool.true_and]
    clear he HB
    generalize secN p = sn at *
    generalize filB p m L F = fb at *
    go_enter Try.func11, Try.ntmps11
    go_wp2_with (first | (refine wpList_row_if ?_ 25 _ rfl g rfl 25 p.cells (0, 0) _ HI2.out.2 Try.underlying25 rfl (by kernel_rfl) ?_; first | rfl | (simp [Region.wanted, yielded]; done)) | (refine wpList_row_if ?_ 25 _ rfl g rfl 25 p.cells (0, 0) _ HI.out.2 Try.underlying25 rfl (by kernel_rfl) ?_; first | rfl | (simp [Region.wanted, yielded]; done)) | (go_at_call 18; (with_reducible refine (HSE.at _).mono ?_); rintro e w' ⟨rfl, hb⟩; have HI2 : Hid (Below W.heap.size W w' ∧ PBox w' g p) := Lib.hid ⟨HI.out.1.trans (hb.mono HI.out.1.size), HI.out.2.below hb⟩; clear hb) | (go_at_call 19; refine (HFI.out _ (HR.out.below HI2.out.1)).mono ?_; rintro e w' ⟨rfl, hb⟩; have HI3 : Hid (Below W.heap.size W w') := Lib.hid (HI2.out.1.trans (hb.mono HI2.out.1.size)); clear hb))
    go_ret
    exact ⟨rfl, HI3.out⟩
  · have d1 : ((m : Int) == ((secN p : Nat) : Int)) = false := by simp; omega
    obtain rfl : R = false := by rw [HB.out, decide_eq_false he, Bool.false_and]
    clear he HB
    generalize secN p = sn at *
    go_enter Try.func11, Try.ntmps11
    go_wp2_with (first | (refine wpList_row_if ?_ 25 _ rfl g rfl 25 p.cells (0, 0) _ HI2.out.2 Try.underlying25 rfl (by kernel_rfl) ?_; first | rfl | (simp [Region.wanted, yielded]; done)) | (refine wpList_row_if ?_ 25 _ rfl g rfl 25 p.cells (0, 0) _ HI.out.2 Try.underlying25 rfl (by kernel_rfl) ?_; first | rfl | (simp [Region.wanted, yielded]; done)) | (go_at_call 18; (with_reducible refine (HSE.at _).mono ?_); rintro e w' ⟨rfl, hb⟩; have HI2 : Hid (Below W.heap.size W w' ∧ PBox w' g p) := Lib.hid ⟨HI.out.1.trans (hb.mono HI.out.1.size), HI.out.2.below hb⟩; clear hb))
    go_ret
    exact ⟨rfl, HI2.out.1⟩
set_option maxRecDepth 100000 in
set_option maxHeartbeats 4000000 in
theorem square_any (p : Pm) (hT : -1000 ≤ p.T ∧ p.T ≤ 1000) (hQ : p.Q < 18446744073709551616) (hK : 0 ≤ p.K ∧ p.K ≤ 1000) (hD : 0 ≤ p.D ∧ p.D ≤ 1000) (ao : Option Addr) (n cap : Nat) (K : Nat → Nat) (L : Nat → Nat → Nat) (F : Nat → Nat → Nat → Nat) (hn : n ≤ 1000) (hKK : ∀ s, s < n → K s ≤ 1000) (hL : ∀ s, s < n → ∀ i, i < K s → L s i ≤ 1000) (hF : ∀ s i j, F s i j < 18446744073709551616) (W : World) (hr : Cub W ao n K L F) :
    Calls Try.prog 9 #[.agg p.cells, .slice ao n cap] W fun e w' => e = .returned (.bool (sqB p n K L F)) ∧ Below W.heap.size W w' := by
  have hx1 := PBox.new W p
  have hb1 := below_box W (.cells p.cells 25)
  obtain ⟨g, hg⟩ : ∃ g, W.heap.size = g := ⟨_, rfl⟩
  obtain ⟨W1, hW1⟩ : ∃ W1, W.alloc (.cells p.cells 25) = W1 := ⟨_, rfl⟩
  rw [hW1] at hb1 hx1
  rw [hg] at hx1
  have HI : Hid (Below W.heap.size W W1 ∧ PBox W1 g p) := Lib.hid ⟨hb1, hx1⟩
  have HR := Lib.hid hr
  have HSE := secrets_any p hK hD
  have HFI := Lib.hid (fun s (hs : s < n) (u : World) (bo : Option Addr) (c : Nat) (h : Mat u bo (K s) (L s) (F s)) => filled_any p hT hQ bo (K s) c (L s) (F s) (hKK s hs) (hL s hs) (hF s) u h)
  have hS := secN_le hK hD
  have hwm : IntKind.u64.wrap (n : Int) = (n : Int) := wrapN _ (by omega)
  change RetB 18 #[.agg p.cells] (.int .u64 ((secN p : Nat) : Int)) at HSE
  have HKK := Lib.hid hKK
  obtain ⟨T, hTe⟩ : ∃ T, p.T = T := ⟨_, rfl⟩
  have HTE := Lib.hid hTe
  rw [hTe] at hT
  have hwT : IntKind.i64.wrap (T + 1) = T + 1 := IntWalk.i64_in _ (by omega)
  obtain ⟨R, hR⟩ : ∃ R, sqB p n K L F = R := ⟨_, rfl⟩
  have HRE := Lib.hid hR
  rw [hR]
  clear hr hF hb1 hx1 hL hQ hK hD hKK hTe hR
  by_cases he : n = secN p
  · have d1 : ((n : Int) != ((secN p : Nat) : Int)) = false := by rw [← he]; simp
    have HYES : Hid ((∀ i, i < n → matB p (K i) (L i) (F i) = true) → R = true) := Lib.hid fun h => by rw [← HRE.out]; exact sqB_yes he h
    clear he
    generalize secN p = sn at *
    go_enter Try.func9, Try.ntmps9
    go_wp2_with (first | (refine wpList_row_if ?_ 25 _ rfl g rfl 25 p.cells (0, 0) _ HI.out.2 Try.underlying25 rfl (by kernel_rfl) ?_; first | rfl | (simp [Region.wanted, yielded]; done)) | (go_at_call 18; (with_reducible refine (HSE.at _).mono ?_); rintro e w' ⟨rfl, hb⟩; have HI2 : Hid (Below W.heap.size W w' ∧ PBox w' g p) := Lib.hid ⟨HI.out.1.trans (hb.mono HI.out.1.size), HI.out.2.below hb⟩; clear hb))
    clear hW1 hg HI HSE d1
    go_loopw [15] (fun s15 wx => ∃ k : Nat, k ≤ n ∧ s15 = .int .i64 (k : Int) ∧ Hid (∀ i, i < k → matB p (K i) (L i) (F i) = true) ∧ Hid (Below W.heap.size W wx ∧ PBox wx g p)) (fun s15 _ => n - (RowKit.intOf s15).toNat)
    case atStart => exact ⟨0, Nat.zero_le _, rfl, Lib.hid fun i h => absurd h (by omega), HI2⟩
    case round =>
      clear HI2
      obtain ⟨k, hk, rfl, HA, HJ⟩ := hrel
      by_cases hlt : k < n
      · obtain ⟨ad, v0, rfl, hc, bo, c, rfl, hs, _⟩ := HR.out k hlt
        have hcw := (HJ.out.1.cell (World.block_lt_of_cell? W _ hc)).trans hc
        have HFK := Lib.hid (fun (u : World) (hb : Below W.heap.size W u) => HFI.out k hlt u bo c (hs.below hb))
        have hk0 : (0 : Int) ≤ (k : Int) := Int.natCast_nonneg _
        have hk1 : (k : Int) < (n : Int) := by omega
        have q6 := HJ.out.2.cell 6
        rw [show p.cells[6]? = some (.int .i64 p.T) from rfl, HTE.out] at q6
        have hkk := HKK.out k hlt
        have HNO : Hid (matB p (K k) (L k) (F k) = false → R = false) := Lib.hid fun h => by rw [← HRE.out]; exact sqB_no hlt h
        have HMB : Hid (matB p (K k) (L k) (F k) = (decide ((K k : Int) = T + 1) && filB p (K k) (L k) (F k))) := Lib.hid (by rw [← HTE.out]; rfl)
        have HNX : Hid (matB p (K k) (L k) (F k) = true → ∀ i, i < k + 1 → matB p (K i) (L i) (F i) = true) := Lib.hid fun h i hi => by
          by_cases e : i = k
          · subst e; exact h
          · exact HA.out i (by omega)
        clear hc hs
        generalize matB p (K k) (L k) (F k) = mb at *
        generalize filB p (K k) (L k) (F k) = fb at *
        generalize K k = kk at *
        by_cases hl : (kk : Int) = T + 1
        · have d1 : ((kk : Int) != T + 1) = false := by simpa using hl
          obtain rfl : mb = fb := by rw [HMB.out, decide_eq_true hl, Bool.true_and]
          cases mb with
          | true =>
            go_wp2_with (first | (refine wpList_row_if ?_ 25 _ rfl g rfl 25 p.cells (0, 0) _ HJ.out.2 Try.underlying25 rfl (by kernel_rfl) ?_; first | rfl | (simp [Region.wanted, yielded]; done)) | (go_at_call 19; refine (HFK.out _ HJ.out.1).mono ?_; rintro e w' ⟨rfl, hb⟩; have HJ2 : Hid (Below W.heap.size W w' ∧ PBox w' g p) := Lib.hid ⟨HJ.out.1.trans (hb.mono HJ.out.1.size), HJ.out.2.below hb⟩; clear hb))
            go_roundw
            case rel => exact ⟨k + 1, by omega, by go_num, Lib.hid (HNX.out trivial), HJ2⟩
            case measure => simp [RowKit.intOf]; omega
          | false =>
            obtain rfl := HNO.out rfl
            go_wp2_with (first | (refine wpList_row_if ?_ 25 _ rfl g rfl 25 p.cells (0, 0) _ HJ.out.2 Try.underlying25 rfl (by kernel_rfl) ?_; first | rfl | (simp [Region.wanted, yielded]; done)) | (go_at_call 19; refine (HFK.out _ HJ.out.1).mono ?_; rintro e w' ⟨rfl, hb⟩; have HJ2 : Hid (Below W.heap.size W w' ∧ PBox w' g p) := Lib.hid ⟨HJ.out.1.trans (hb.mono HJ.out.1.size), HJ.out.2.below hb⟩; clear hb))
            go_ret
            exact ⟨rfl, HJ2.out.1⟩
        · have d1 : ((kk : Int) != T + 1) = true := by simpa using hl
          obtain rfl : mb = false := by rw [HMB.out, decide_eq_false hl, Bool.false_and]
          obtain rfl := HNO.out rfl
          go_wp2_with (first | (refine wpList_row_if ?_ 25 _ rfl g rfl 25 p.cells (0, 0) _ HJ.out.2 Try.underlying25 rfl (by kernel_rfl) ?_; first | rfl | (simp [Region.wanted, yielded]; done)))
          go_ret
          exact ⟨rfl, HJ.out.1⟩
      · obtain rfl : k = n := by omega
        have hk1 : ¬ (k : Int) < (k : Int) := by omega
        obtain rfl : R = true := HYES.out HA.out
        go_wp2_with fail
        go_ret
        exact ⟨rfl, HJ.out.1⟩
  · have d1 : ((n : Int) != ((secN p : Nat) : Int)) = true := by simp; omega
    obtain rfl : R = false := by rw [← HRE.out]; unfold sqB; rw [decide_eq_false he, Bool.false_and]
    clear he HRE
    generalize secN p = sn at *
    go_enter Try.func9, Try.ntmps9
    go_wp2_with (first | (refine wpList_row_if ?_ 25 _ rfl g rfl 25 p.cells (0, 0) _ HI.out.2 Try.underlying25 rfl (by kernel_rfl) ?_; first | rfl | (simp [Region.wanted, yielded]; done)) | (go_at_call 18; (with_reducible refine (HSE.at _).mono ?_); rintro e w' ⟨rfl, hb⟩; have HI2 : Hid (Below W.heap.size W w' ∧ PBox w' g p) := Lib.hid ⟨HI.out.1.trans (hb.mono HI.out.1.size), HI.out.2.below hb⟩; clear hb))
    go_ret
    exact ⟨rfl, HI2.out.1⟩
end M
end Go.Proofs.Ytlnlepadninnaaa
/- The walk of package pedersen's question whether pairs fit. -/
namespace Go.Proofs.Ytlnlepadninnaaa
open Go Go.RowKit Go.Lib Go.Shelf
namespace M
attribute [local go_sem] Oper.semAt_some
/-- A bool in a box. -/
theorem results_bool {w : World} {g : Nat} {b : Bool} {t : TypeId} (h : Box w g t (.bool b)) : w.cell? ⟨g, 0, none⟩ = some (.bool b) := h.cell
set_option maxRecDepth 100000 in
set_option maxHeartbeats 2000000 in
/-- Where numbers of pairs differ from numbers of lists. -/
theorem fits_len (p : Pm) (ao bo : Option Addr) (n c m d x : Nat) (hne : m ≠ n) (w0 : World) :
    Calls Try.prog 14 #[.agg p.cells, .slice ao n c, .int .u64 (x : Int), .slice bo m d] w0 fun e w' => e = .returned (.bool false) ∧ Below w0.heap.size w0 w' := by
  obtain ⟨g, hg⟩ : ∃ g, w0.heap.size = g := ⟨_, rfl⟩
  have b1 := below_box w0 (.cells p.cells 25)
  have s1 : (w0.alloc (.cells p.cells 25)).heap.size = g + 1 := by rw [World.size_alloc, hg]
  obtain ⟨W1, hW1⟩ : ∃ W1, w0.alloc (.cells p.cells 25) = W1 := ⟨_, rfl⟩
  rw [hW1] at b1 s1
  have x2 := Box.new W1 4 (.bool false)
  have b2 := below_box W1 (.cells #[.bool false] 4)
  rw [s1] at x2
  obtain ⟨W2, hW2⟩ : ∃ W2, W1.alloc (.cells #[.bool false] 4) = W2 := ⟨_, rfl⟩
  rw [hW2] at x2 b2
  have c2 := x2.cell
  have f2 := x2.free
  have d1 : ((m : Int) != (n : Int)) = true := by simp; omega
  have HB := Lib.hid ((b1.trans (b2.mono b1.size)).setCell (p := ⟨g + 1, 0, none⟩) (by show w0.heap.size ≤ g + 1; omega) (.bool false))
  have HX := Lib.hid (x2.set (.bool false))
  clear b1 b2 x2
  go_enter Try.func14, Try.ntmps14
  go_wp2_with fail
  have c3 := HX.out.cell
  generalize W2.setCell ⟨g + 1, 0, none⟩ (.bool false) = W3 at *
  refine bodyPost_ret (v := .bool false) (w := W3) (by simp [results, Try.results14, go_sem, c3]) rfl ⟨rfl, by first | exact HB.out | (rw [← hg]; exact HB.out)⟩
def fitB (p : Pm) (x n : Nat) (L : Nat → Nat) (F : Nat → Nat → Nat) (s t : Nat → Nat) : Bool := (List.range n).all fun i => decide (MM.comU p.P p.G p.H (s i) (t i) = MM.atN p.P p.Q x (F i) (L i))
theorem fitB_no {p : Pm} {x n i : Nat} {L : Nat → Nat} {F : Nat → Nat → Nat} {s t : Nat → Nat} (hi : i < n) (h : MM.comU p.P p.G p.H (s i) (t i) ≠ MM.atN p.P p.Q x (F i) (L i)) : fitB p x n L F s t = false := by
  cases e : fitB p x n L F s t
  · rfl
  · have := List.all_eq_true.1 e i (List.mem_range.2 hi)
    exact absurd (of_decide_eq_true this) h
theorem fitB_yes {p : Pm} {x n : Nat} {L : Nat → Nat} {F : Nat → Nat → Nat} {s t : Nat → Nat} (h : ∀ i, i < n → MM.comU p.P p.G p.H (s i) (t i) = MM.atN p.P p.Q x (F i) (L i)) : fitB p x n L F s t = true :=
  List.all_eq_true.2 fun i hi => decide_eq_true (h i (List.mem_range.1 hi))
set_option maxRecDepth 100000 in
set_option maxHeartbeats 8000000 in
theorem fits_any (p : Pm) (hG : p.G < 18446744073709551616) (hH : p.H < 18446744073709551616) (ao bo : Option Addr) (n c d x : Nat) (L : Nat → Nat) (F : Nat → Nat → Nat) (s t : Nat → Nat) (hn : n ≤ 1000) (hL : ∀ i, i < n → L i ≤ 1000) (hF : ∀ i j, F i j < 18446744073709551616) (hx : x < 18446744073709551616) (hs : ∀ i, s i < 18446744073709551616) (ht : ∀ i, t i < 18446744073709551616) (w0 : World) (ha : Mat w0 ao n L F) (hb : PairR w0 bo n s t) :
    Calls Try.prog 14 #[.agg p.cells, .slice ao n c, .int .u64 (x : Int), .slice bo n d] w0 fun e w' => e = .returned (.bool (fitB p x n L F s t)) ∧ Below w0.heap.size w0 w' := by
  refine (callsIn_wide (n := 4)).1 ?_
  obtain ⟨g, hg⟩ : ∃ g, w0.heap.size = g := ⟨_, rfl⟩
  have x1 := PBox.new w0 p
  have b1 := below_box w0 (.cells p.cells 25)
  have s1 : (w0.alloc (.cells p.cells 25)).heap.size = g + 1 := by rw [World.size_alloc, hg]
  rw [hg] at x1
  obtain ⟨W1, hW1⟩ : ∃ W1, w0.alloc (.cells p.cells 25) = W1 := ⟨_, rfl⟩
  rw [hW1] at x1 b1 s1
  have x2 := Box.new W1 4 (.bool false)
  have b2 := below_box W1 (.cells #[.bool false] 4)
  have s2 : (W1.alloc (.cells #[.bool false] 4)).heap.size = g + 1 + 1 := by rw [World.size_alloc, s1]
  rw [s1] at x2
  obtain ⟨W2, hW2⟩ : ∃ W2, W1.alloc (.cells #[.bool false] 4) = W2 := ⟨_, rfl⟩
  rw [hW2] at x2 b2 s2
  have y1 := x1.below b2
  have b0 : Below w0.heap.size w0 W2 := b1.trans (b2.mono b1.size)
  have HSH := Lib.hid (share_any p ao n c x L F hn hL hF hx W2 (ha.below b0))
  rw [hg] at b0
  have d1 : ((n : Int) != (n : Int)) = false := by simp
  have hl4 : 1 ≤ 4 := by omega
  have HY1 := Lib.hid y1
  clear x1 b1 b2
  refine callsIn_of_wp_marks Try.func14 rfl trivial ?_ rfl
  simp only [Try.ntmps14, List.size_toArray, List.length_cons, List.length_nil, Nat.reduceAdd, Nat.reduceSub, Array.replicate_succ, Array.replicate_zero, List.push_toArray, List.append_toArray, List.nil_append, List.cons_append]
  gi_upto_region 3 with fail
  refine wpIn_wide.2 (RK.cut (fun a a' w' => ∃ Bv S, (Below g w0 w' ∧ PBox w' g p ∧ Box w' (g + 1) 4 (.bool false) ∧ Rd w' (some ⟨Bv, 0, none⟩) n (fun i => MM.atN p.P p.Q x (F i) (L i)) ∧ Box w' S 27 (.slice (some ⟨Bv, 0, none⟩) n n) ∧ Box w' (S + 1) 42 (.slice bo n d) ∧ w'.heap.size = S + 1 + 1 ∧ g + 1 + 1 ≤ S) ∧
    a' = { a with tmps := (((((a.tmps.setIfInBounds 16 (.agg p.cells)).setIfInBounds 17 (.slice ao n c)).setIfInBounds 18 (.int .u64 (x : Int))).setIfInBounds 19 (.slice (some ⟨Bv, 0, none⟩) n n)).setIfInBounds 20 (.slice bo n d)).setIfInBounds 21 (.func (.func 37) #[] #[.pointer (some ⟨S, 0, none⟩), .pointer (some ⟨S + 1, 0, none⟩)]) }) ?_ ?_)
  · go_wp2_with (first | (refine wpList_row_if ?_ 25 _ rfl g rfl 25 p.cells (0, 0) _ HY1.out Try.underlying25 rfl (by kernel_rfl) ?_; first | rfl | (simp [Region.wanted, yielded]; done)) | (go_at_call 13; refine HSH.out.mono ?_; rintro e w3 ⟨Bv, rfl, hm⟩; have HM := Lib.hid hm; clear hm) | (go_at_call 26; refine (bothUP_any _ _ _ _ _ _ _).mono ?_; rintro e w5 ⟨rfl, hw5⟩; have HW5 := Lib.hid hw5; clear hw5))
    have e3 := HM.out.below
    have b3 := below_box w3 (.cells #[.slice (some ⟨Bv, 0, none⟩) n n] 27)
    have v3 := Box.new w3 27 (.slice (some ⟨Bv, 0, none⟩) n n)
    have t3 : (w3.alloc (.cells #[.slice (some ⟨Bv, 0, none⟩) n n] 27)).heap.size = w3.heap.size + 1 := World.size_alloc _ _
    have h5 := HW5.out
    generalize w3.alloc (.cells #[.slice (some ⟨Bv, 0, none⟩) n n] 27) = w4 at *
    have b4 := below_box w4 (.cells #[.slice bo n d] 42)
    have v4 := Box.new w4 42 (.slice bo n d)
    have t4 : (w4.alloc (.cells #[.slice bo n d] 42)).heap.size = w3.heap.size + 1 + 1 := by rw [World.size_alloc, t3]
    rw [h5] at b4 v4 t4
    rw [t3] at v4
    have u0 := b0.size
    have u1 := e3.size
    have u2 := b3.size
    exact ⟨((b0.trans (e3.mono (by omega))).trans (b3.mono (by omega))).trans (b4.mono (by omega)), ((HY1.out.below e3).below b3).below b4, ((x2.below e3).below b3).below b4, (HM.out.rd.below b3).below b4, v3.below b4, v4, t4, by have := e3.size; omega⟩
  rintro a1 W4 ⟨Bv, S, ⟨b04, k1, k2, k3, k4, k5, k6, k7⟩, rfl⟩
  simp only [List.setIfInBounds_toArray, List.set_cons_zero, List.set_cons_succ]
  clear HSH HY1 x2 y1 b0 hW1 hW2 s1 s2 d1
  obtain ⟨z, hz⟩ : ∃ z : Nat → Nat, z = fun i => MM.atN p.P p.Q x (F i) (L i) := ⟨_, rfl⟩
  rw [← hz] at k3
  have hNO : ∀ i, i < n → MM.comU p.P p.G p.H (s i) (t i) ≠ z i → fitB p x n L F s t = false := fun i hi h => by rw [hz] at h; exact fitB_no hi h
  have hYES : (∀ i, i < n → MM.comU p.P p.G p.H (s i) (t i) = z i) → fitB p x n L F s t = true := fun h => by rw [hz] at h; exact fitB_yes h
  have hPR : ∀ X, Below g w0 X → PairR X bo n s t := fun X h => by rw [← hg] at h; exact hb.below h
  obtain ⟨R, hRR⟩ : ∃ R, fitB p x n L F s t = R := ⟨_, rfl⟩
  have HRR := Lib.hid hRR
  rw [hRR] at hNO hYES
  clear hRR
  clear hz ha hb hL hF hx
  obtain ⟨I, hI⟩ : ∃ I : Nat → World → Prop, I = fun j X => Below g w0 X ∧ PBox X g p ∧ Box X (g + 1) 4 (.bool false) ∧ Rd X (some ⟨Bv, 0, none⟩) n z ∧ Box X S 27 (.slice (some ⟨Bv, 0, none⟩) n n) ∧ Box X (S + 1) 42 (.slice bo n d) ∧ ∀ i, i < j → MM.comU p.P p.G p.H (s i) (t i) = z i := ⟨_, rfl⟩
  obtain ⟨Ix, hIx⟩ : ∃ Ix : World → Prop, Ix = fun X => Below g w0 X ∧ Box X (g + 1) 4 (.bool false) ∧ R = false := ⟨_, rfl⟩
  gi_wp2
  refine RL.range (gf := 37) (lb := #[.pointer (some ⟨S, 0, none⟩), .pointer (some ⟨S + 1, 0, none⟩)]) (S + 1 + 1) n I Ix (fun j args X => ∃ va vb, args = #[va, vb] ∧ va = .int .u64 ((getU n z j : Nat) : Int) ∧ vb = .agg (pair (getU n s j) (getU n t j))) rfl (enters_of Try.func37 (by kernel_rfl) rfl) (Nat.le_of_eq k6.symm) ?hS ?hSx (fun _ _ _ _ h _ => h) ?h0 ?hseq ?hround ?hend ?hstop
  case hS =>
    intro j X Y h hb hc
    rw [hI] at h ⊢
    obtain ⟨h1, h2, h3, h4, h5, h6, h7⟩ := h
    exact ⟨h1.trans (hb.mono (by omega)), h2.as hc, h3.as hc, h4.as hc, h5.as hc, h6.as hc, h7⟩
  case hSx =>
    intro X Y h hb hc
    rw [hIx] at h ⊢
    exact ⟨h.1.trans (hb.mono (by omega)), h.2.1.as hc, h.2.2⟩
  case h0 =>
    rw [hI]
    exact ⟨b04, k1, k2, k3, k4, k5, fun i hi => absurd hi (by omega)⟩
  case hseq =>
    have hq := bothUP_seq (4 - 1) (by omega) S (S + 1) (some ⟨Bv, 0, none⟩) bo n n n d (by omega) (by omega) (fun j X => I j X ∧ S + 1 + 1 ≤ X.heap.size) (fun j va _ => va = .int .u64 ((getU n z j : Nat) : Int)) (fun j vb _ => vb = .agg (pair (getU n s j) (getU n t j))) (fun j X h => by rw [hI] at h; exact ⟨h.1.2.2.2.2.1, h.1.2.2.2.2.2.1⟩)
      (fun j i X h => by rw [hI] at h; exact (atU_any (some ⟨Bv, 0, none⟩) n n i z X h.1.2.2.2.1).mono fun e Y ⟨h1, h2⟩ => ⟨⟨_, h1, rfl⟩, h2⟩)
      (fun j i X h => by rw [hI] at h; exact (atP_any bo n d i s t X (hPR X h.1.1)).mono fun e Y ⟨h1, h2⟩ => ⟨⟨_, h1, rfl⟩, h2⟩) (fun _ _ _ _ h _ => h)
    rwa [Nat.max_self] at hq
  case hround =>
    rintro l j args X hj hIX ⟨va, vb, rfl, rfl, rfl⟩ hBl hBX
    simp only [getU_in hj]
    have HNJ := Lib.hid (hNO j hj)
    have hcm := commit_any p (s j) (t j) (hs j) (ht j) hG hH
    have HST : Hid (∀ X2, I j X2 → MM.comU p.P p.G p.H (s j) (t j) = z j → I (j + 1) X2) := Lib.hid fun X2 h e => by
      rw [hI] at h ⊢
      exact ⟨h.1, h.2.1, h.2.2.1, h.2.2.2.1, h.2.2.2.2.1, h.2.2.2.2.2.1, fun i hi => by
        by_cases e' : i = j
        · subst e'; exact e
        · exact h.2.2.2.2.2.2 i (by omega)⟩
    generalize MM.comU p.P p.G p.H (s j) (t j) = cm at *
    generalize s j = x1 at *
    generalize t j = y1 at *
    generalize z j = z1 at *
    have q1 := below_box X (.cells #[.int .u64 0, .int .u64 0] 41)
    have n1 := heap_alloc_new X (.cells #[.int .u64 0, .int .u64 0] 41)
    obtain ⟨h, hh⟩ : ∃ h, X.heap.size = h := ⟨_, rfl⟩
    obtain ⟨Xa, hXa⟩ : ∃ Xa, X.alloc (.cells #[.int .u64 0, .int .u64 0] 41) = Xa := ⟨_, rfl⟩
    rw [hXa, hh] at n1
    rw [hXa] at q1
    have e0 : Xa.cell? ⟨h, 0, none⟩ = some (.int .u64 0) := by rw [cell_of_row _ _ _ _ _ _ n1]; rfl
    have e1 : Xa.cell? ⟨h, 1, none⟩ = some (.int .u64 0) := by rw [cell_of_row _ _ _ _ _ _ n1]; rfl
    have f0 : Xa.frozen? ⟨h, 0, none⟩ = false := by simp [World.frozen?, n1]
    have f1 : Xa.frozen? ⟨h, 1, none⟩ = false := by simp [World.frozen?, n1]
    have d0 : ((Xa.setCell ⟨h, 0, none⟩ (.int .u64 (x1 : Int))).setCell ⟨h, 1, none⟩ (.int .u64 (y1 : Int))).cell? ⟨h, 0, none⟩ = some (.int .u64 (x1 : Int)) := by go_simp
    have d1 : ((Xa.setCell ⟨h, 0, none⟩ (.int .u64 (x1 : Int))).setCell ⟨h, 1, none⟩ (.int .u64 (y1 : Int))).cell? ⟨h, 1, none⟩ = some (.int .u64 (y1 : Int)) := by go_simp
    have bA : Below X.heap.size X ((Xa.setCell ⟨h, 0, none⟩ (.int .u64 (x1 : Int))).setCell ⟨h, 1, none⟩ (.int .u64 (y1 : Int))) := (q1.setCell (p := ⟨h, 0, none⟩) (by show X.heap.size ≤ h; omega) _).setCell (p := ⟨h, 1, none⟩) (by show X.heap.size ≤ h; omega) _
    apply Exists.intro
    refine ⟨(Xa.setCell ⟨h, 0, none⟩ (.int .u64 (x1 : Int))).setCell ⟨h, 1, none⟩ (.int .u64 (y1 : Int)), bA, rfl, fun K hK => ?_, fun X1 hc hI1 _ hB1 => ?_⟩
    · gi_wp2
      exact hK
    · have v0 := hc.cell d0
      have v1 := hc.cell d1
      have hIK := hI1
      rw [hI] at hI1
      obtain ⟨i1, i2, i3, i4, i5, i6, i7⟩ := hI1
      have c0 := i2.cell 0
      have c1 := i2.cell 1
      have c2 := i2.cell 2
      have c3 := i2.cell 3
      have c4 := i2.cell 4
      have c5 := i2.cell 5
      have c6 := i2.cell 6
      have c7 := i2.cell 7
      have c8 := i2.cell 8
      have c9 := i2.cell 9
      have c10 := i2.cell 10
      have c11 := i2.cell 11
      have HCM := Lib.hid (hcm.at X1)
      have hsh : ∀ j X Y, I j X → Below X.heap.size X Y → S + 1 + 1 ≤ X.heap.size → I j Y := fun j X Y h hb hs => by
        rw [hI] at h ⊢
        obtain ⟨h1, h2, h3, h4, h5, h6, h7⟩ := h
        exact ⟨h1.trans (hb.mono (by omega)), h2.below hb, h3.below hb, h4.below hb, h5.below hb, h6.below hb, h7⟩
      have HSH := Lib.hid hsh
      have hl2 : 1 ≤ 4 - 1 - 1 := by omega
      clear d0 d1 e0 e1 f0 f1 bA q1 n1 hsh hcm hIX hc hXa
      by_cases he : cm = z1
      · have dd : ((cm : Int) != (z1 : Int)) = false := by rw [he]; simp
        have HIJ := Lib.hid (HST.out X1 hIK he)
        clear HST HNJ hIK i1 i2 i3 i4 i5 i6 i7 he
        gi_wp2_with (refine ⟨trivial, ?_⟩; gi_at_call 27; refine ((callsIn_wide.2 HCM.out).inRound _).mono ?_; rintro E X2 ⟨rfl, hb2⟩; have HB2 := Lib.hid hb2; clear hb2)
        exact ⟨⟨HSH.out _ _ _ HIJ.out HB2.out hB1, Nat.le_trans hB1 HB2.out.size⟩, .of_below HB2.out⟩
      · have dd : ((cm : Int) != (z1 : Int)) = true := by simp; omega
        have HR := Lib.hid (HNJ.out he)
        clear HST HNJ he
        have HI3 := Lib.hid (And.intro i1 i3)
        clear hIK i1 i2 i3 i4 i5 i6 i7
        gi_wp2_with (refine ⟨trivial, ?_⟩; gi_at_call 27; refine ((callsIn_wide.2 HCM.out).inRound _).mono ?_; rintro E X2 ⟨rfl, hb2⟩; have HB2 := Lib.hid hb2; have r3 := (HI3.out.2.below hb2).cell; have r4 := (HI3.out.2.below hb2).free; clear hb2)
        have h3 := HI3.out.2.below HB2.out
        refine ⟨⟨?_, by rw [World.size_setCell]; exact Nat.le_trans hB1 HB2.out.size⟩, (RL.Objs.of_below HB2.out).trans (RL.Objs.setCell h3.cell _)⟩
        rw [hIx]
        exact ⟨(HI3.out.1.trans (HB2.out.mono (by omega))).setCell (p := ⟨g + 1, 0, none⟩) (by show g ≤ g + 1; omega) _, h3.set _, HR.out⟩
  case hend =>
    intro Y D hIY hD hBD hBY
    rw [hI] at hIY
    obtain ⟨i1, i2, i3, i4, i5, i6, i7⟩ := hIY
    have r3 := i3.cell
    have r4 := i3.free
    have HFIN := Lib.hid (And.intro (i1.setCell (p := ⟨g + 1, 0, none⟩) (by show g ≤ g + 1; omega) (.bool true)) (i3.set (.bool true)))
    have hmk : Marks [D] (Y.setCell ⟨g + 1, 0, none⟩ (.bool true)) := ⟨by simp, fun E hE => by
      have e : E = D := by simpa using hE
      rw [e]; exact RL.Objs.setCell r3 _ _ _ rfl hD⟩
    have HMK := Lib.hid hmk
    obtain rfl : R = true := hYES i7
    clear i1 i2 i3 i4 i5 i6 i7 hmk hNO hYES hPR hI hIx
    gi_wp2
    refine leaves_marks (B := g) [D] _ HMK.out (fun E hE => by
      have e : E = D := by simpa using hE
      omega) fun w' hb' hcs => ?_
    have hcell := hcs _ _ _ _ HFIN.out.2
    have hc := Box.cell hcell
    refine ⟨.bool true, by simp [results, Try.results14, go_sem, hc], by rw [HRR.out], ?_⟩
    rw [hg]
    exact HFIN.out.1.trans hb'
  case hstop =>
    intro Y D hIY hD hBD hBY
    rw [hIx] at hIY
    obtain ⟨i1, i3, rfl⟩ := hIY
    have HFIN := Lib.hid (And.intro i1 i3)
    have hmk : Marks [D] Y := ⟨by simp, fun E hE => by
      have e : E = D := by simpa using hE
      rw [e]; exact hD⟩
    have HMK := Lib.hid hmk
    clear i1 i3 hmk hNO hYES hPR hI hIx
    gi_wp2
    refine leaves_marks (B := g) [D] _ HMK.out (fun E hE => by
      have e : E = D := by simpa using hE
      omega) fun w' hb' hcs => ?_
    have hcell := hcs _ _ _ _ HFIN.out.2
    have hc := Box.cell hcell
    refine ⟨.bool false, by simp [results, Try.results14, go_sem, hc], by rw [HRR.out], ?_⟩
    rw [hg]
    exact HFIN.out.1.trans hb'
end M
end Go.Proofs.Ytlnlepadninnaaa

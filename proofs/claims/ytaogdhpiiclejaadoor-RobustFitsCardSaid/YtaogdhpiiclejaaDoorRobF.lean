/- The texts RobS1, RobS2, RobP1, RobP2, RobP3, RobP4, RobP5, RobP6, OpenN, one behind the other. -/
import Derived.Test.YtaogdhpiiclejaaDoorRob05
import Derived.Laws.OwnMore
import Derived.Lib.AppendZeros
import Derived.Maps.AppendAt
import Derived.Test.YtaogdhpiiclejaaDoorRegX
import Derived.Test.YtaogdhpiiclejaaDoorNum
import Derived.ProofKit
import Derived.OpenShut
import Derived.ChangeOld
import Derived.ChangeSlices
/- RobS1: The walks of what the statements of layer 5 pick their cases by: a prime, places, whether they are unlike, a row. -/
namespace Go.Proofs.YtaogdhpiiclejaaDoor
open Go Go.RowKit Go.Lib
namespace MM
def primesT : List Nat := [11, 13, 23, 101, 65537, 2147483647, 2305843009213693951]
theorem primesT_ok : ∀ r, r < 7 → primeF (ofL primesT r) = true ∧ 7 < ofL primesT r := by decide +kernel
end MM
namespace M
set_option maxRecDepth 100000 in
set_option maxHeartbeats 2000000 in
theorem prime_pick (n : Nat) (hn : n < 18446744073709551616) (w : World) (hL : Laid w) : Calls Tryd.prog 6 #[.int .u64 (n : Int)] w fun e w' => ∃ p : Nat, e = .returned (.int .u64 (p : Int)) ∧ MM.primeOf p = true ∧ 7 < p ∧ Below w.heap.size w w' := by
  obtain ⟨r, hr⟩ : ∃ r, n % 7 = r := ⟨_, rfl⟩
  have hr7 : r < 7 := by omega
  have h1 : (n : Int) % 7 = (r : Int) := by omega
  have h2 : Int.tmod (n : Int) 7 = (r : Int) := by rw [Int.tmod_eq_emod_of_nonneg (Int.natCast_nonneg _)]; exact h1
  have hr0 : (0 : Int) ≤ (r : Int) := Int.natCast_nonneg _
  have hr1 : (r : Int) < 7 := by omega
  have HT := Lib.hid (MM.primesT_ok r hr7)
  have hcell : ∀ u : World, (u.alloc (.cells #[.int .u64 11, .int .u64 13, .int .u64 23, .int .u64 101, .int .u64 65537, .int .u64 2147483647, .int .u64 2305843009213693951] 23)).cell? ⟨u.heap.size, r, none⟩ = some (.int .u64 ((MM.ofL MM.primesT r : Nat) : Int)) := fun u => by
    obtain ⟨ad, e, h⟩ := new_u u MM.primesT (by decide)
    cases e
    have := row_cell h hr7
    exact this
  generalize MM.ofL MM.primesT r = p at *
  have HP : Hid (MM.primeOf p = true) := Lib.hid (by rw [← HT.out.1]; exact MM.primeF_eq p)
  by_cases h7 : 7 < n
  · have h7I : (7 : Int) < (n : Int) := by omega
    by_cases hp : MM.primeOf n = true
    · have HM := ret_prime n true hp
      clear hcell h1 h2
      go_enter Tryd.func6, Tryd.ntmps6
      go_wp2_with (go_at_call 11; refine (HM.at _ hL).mono ?_; rintro e w1 ⟨rfl, d, rfl⟩)
      go_ret
      exact ⟨n, rfl, hp, h7, below_drewN' _ _ _⟩
    · have HM := ret_prime n false (by simpa using hp)
      clear hp
      go_enter Tryd.func6, Tryd.ntmps6
      go_upto_region 3 with (go_at_call 11; refine (HM.at _ hL).mono ?_; rintro e w1 ⟨rfl, d, rfl⟩)
      have hc1 := hcell (w.drewN d)
      have HB := Lib.hid (below_drewN' w d w.heap.size)
      clear hcell HM
      generalize w.drewN d = w1 at *
      go_wp2_with fail
      go_ret
      exact ⟨p, rfl, HP.out, HT.out.2, HB.out.trans ((below_box _ _).mono HB.out.size)⟩
  · have h7I : ¬ (7 : Int) < (n : Int) := by omega
    have hc1 := hcell w
    clear hcell
    go_enter Tryd.func6, Tryd.ntmps6
    go_wp2_with fail
    go_ret
    exact ⟨p, rfl, HP.out, HT.out.2, below_box _ _⟩
/-- What is told of places: if they are told to be unlike, they are. -/
def UnlikeOut (n : Nat) (z : Nat → Nat) (w : World) (e : Ending) (w' : World) : Prop := ∃ b : Bool, e = .returned (.bool b) ∧ (b = true → ∀ i, i < n → ∀ k, k < i → z i ≠ z k) ∧ Below w.heap.size w w'
/-- What is told of places: so many, each from 1 to 7. -/
def PlacesOut (t : Nat) (w : World) (e : Ending) (w' : World) : Prop := ∃ (ao : Option Addr) (n c : Nat) (z : Nat → Nat), e = .returned (.slice ao n c) ∧ Rd w' ao n z ∧ 2 * t + 1 ≤ n ∧ n ≤ 7 ∧ (∀ k, 1 ≤ z k ∧ z k ≤ 7) ∧ Below w.heap.size w w'
theorem Own.push5 {w0 w : World} {B k : Nat} {v : Value} {z : Nat → Nat} (h : Own w0 B v k z w) (c : Nat) (hk : k ≤ 900000) :
    ∃ v' w', (Builtin.append_ #[22, 22] 22 #[v, .slice (some ⟨w.heap.size, 0, none⟩) 1 c]).run Tryd.prog (w.alloc (.cells #[.int .u64 ((z k : Nat) : Int)] 23)) = .ok v' w' ∧ Own w0 B v' (k + 1) z w' := by
  obtain ⟨i0, hi, hz0, hz1, hz2⟩ := info_parts info_u64
  have ha := h.alloc (.cells #[.int .u64 ((z k : Nat) : Int)] 23)
  obtain ⟨v', w', hr, ho, hg, _⟩ := run_append_own (P := Tryd.prog) _ B 22 22 23 i0 (.int .u64 0) 1 8 Tryd.underlying22 hi hz0 hz1 hz2 rfl (by decide) v k (zlist k z) ha.own ⟨w.heap.size, 0, none⟩ 1 c [.int .u64 ((z k : Nat) : Int)] rfl (fun j u hj => by
    have hl := (List.getElem?_eq_some_iff.1 hj).1
    obtain rfl : j = 0 := by simpa using hl
    cases hj
    have e : (⟨w.heap.size, 0, none⟩ : Addr).add 0 = ⟨w.heap.size, 0, none⟩ := rfl
    rw [e, cell_of_row _ _ _ _ _ _ (heap_alloc_new w _)]; rfl) (by simp [Value.oneCell']) (by unfold maxLen; omega) (by omega) ha.size
  exact ⟨v', w', hr, ha.grow ho (zlist_succ k z) hg⟩
def placeZ (s : Nat) (k : Nat) : Nat := 1 + (s + k * (1 + s % 3)) % 18446744073709551616 % 7
theorem place_eq (s i : Nat) (hi : i ≤ 7) : IntKind.u64.wrap (1 + (IntKind.u64.wrap ((s : Int) + IntKind.u64.wrap ((i : Int) * (1 + (s : Int) % 3)))).tmod 7) = ((placeZ s i : Nat) : Int) := by
  have h1 : (i : Int) * (1 + (s : Int) % 3) = ((i * (1 + s % 3) : Nat) : Int) := by simp
  have h2 : i * (1 + s % 3) ≤ 7 * 3 := Nat.mul_le_mul hi (by omega)
  have w64 : ∀ x : Int, IntKind.u64.wrap x = x % 18446744073709551616 := fun _ => rfl
  unfold placeZ
  rw [h1]
  generalize i * (1 + s % 3) = m at *
  rw [w64, w64, w64, Int.tmod_eq_emod_of_nonneg (Int.emod_nonneg _ (by decide))]
  omega
theorem Mine.next5 {w0 w : World} {B n k : Nat} {z : Nat → Nat} (h : Mine w0 B n (fun j => if j < k then z j else 0) w) : Mine w0 B n (fun j => if j < k + 1 then z j else 0) (w.setCell ⟨B, k, none⟩ (.int .u64 ((z k : Nat) : Int))) := h.set k _ fun j _ => by
  by_cases e : j = k
  · subst e; rw [if_pos (by omega), if_pos rfl]
  · rw [if_neg e]
    by_cases h : j < k
    · rw [if_pos (by omega), if_pos h]
    · rw [if_neg (by omega), if_neg h]
def rowZ (c : Nat → Nat) (lc q : Nat) (k : Nat) : Nat := if k < lc then c k % q else 0
theorem Mine.low5 {w0 w1 w : World} {B n : Nat} {z : Nat → Nat} (h : Mine w1 B n z w) (hb : Below w0.heap.size w0 w1) : Mine w0 B n z w := ⟨h.block, Nat.le_trans hb.size h.low, hb.trans (h.below.mono hb.size)⟩
end M
end Go.Proofs.YtaogdhpiiclejaaDoor

/- RobS2: RobustLies: places from 1 to 7 that are unlike have inverses of their differences modulo a prime above 7; which values are changed; rows of which cells are written. -/
namespace Go.Proofs.YtaogdhpiiclejaaDoor
open Go Go.RowKit Go.Lib
namespace MM
theorem primeL_step {n d t v : Nat} {l : List Nat} (h : primeL n d t (v :: l) = true) : n = v ∨ (n % v ≠ 0 ∧ primeL n d t l = true) := by
  unfold primeL at h
  by_cases h0 : n % v = 0
  · rw [if_pos h0] at h; exact .inl (by simpa using h)
  · rw [if_neg h0] at h
    split at h
    · exact .inr ⟨h0, h⟩
    · cases h
theorem no235 {q : Nat} (h : primeOf q = true) (h7 : 7 < q) : q % 2 ≠ 0 ∧ q % 3 ≠ 0 ∧ q % 5 ≠ 0 := by
  unfold primeOf primeB at h
  by_cases h1 : q < 2 ∨ 2305843009213693952 < q
  · rw [if_pos h1] at h; cases h
  · rw [if_neg h1] at h
    unfold wits at h
    rcases primeL_step h with e | ⟨a2, h⟩
    · omega
    rcases primeL_step h with e | ⟨a3, h⟩
    · omega
    rcases primeL_step h with e | ⟨a5, h⟩
    · omega
    exact ⟨a2, a3, a5⟩
theorem un_of {q d : Nat} (s : Nat) (hs : (q * s + 1) % d = 0) : Un q d := by
  obtain ⟨u, hu⟩ : ∃ u, q * s + 1 = d * u := ⟨(q * s + 1) / d, by have := Nat.div_add_mod (q * s + 1) d; omega⟩
  refine ⟨u, s, ?_⟩
  have e : ((q * s + 1 : Nat) : Int) = ((d * u : Nat) : Int) := by rw [hu]
  rw [Int.natCast_add, Int.natCast_mul, Int.natCast_mul] at e
  rw [← e]
  grind
theorem un_small {q : Nat} (h : q % 2 ≠ 0 ∧ q % 3 ≠ 0 ∧ q % 5 ≠ 0) (d : Nat) (h1 : 1 ≤ d) (h6 : d ≤ 6) : Un q d := by
  obtain ⟨h2, h3, h5⟩ := h
  have hd : d = 1 ∨ d = 2 ∨ d = 3 ∨ d = 4 ∨ d = 5 ∨ d = 6 := by omega
  rcases hd with rfl | rfl | rfl | rfl | rfl | rfl
  · exact un_of 0 (by omega)
  · exact un_of 1 (by omega)
  · by_cases e : q % 3 = 1
    · exact un_of 2 (by omega)
    · exact un_of 1 (by omega)
  · by_cases e : q % 4 = 1
    · exact un_of 3 (by omega)
    · exact un_of 1 (by omega)
  · by_cases e : q % 5 = 1
    · exact un_of 4 (by omega)
    · by_cases e : q % 5 = 2
      · exact un_of 2 (by omega)
      · by_cases e : q % 5 = 3
        · exact un_of 3 (by omega)
        · exact un_of 1 (by omega)
  · by_cases e : q % 6 = 1
    · exact un_of 5 (by omega)
    · have e5 : q % 6 = 5 := by
        obtain ⟨k, r, rfl, hr⟩ : ∃ k r, q = 6 * k + r ∧ r < 6 := ⟨q / 6, q % 6, by omega, by omega⟩
        have hr' : r = 0 ∨ r = 1 ∨ r = 2 ∨ r = 3 ∨ r = 4 ∨ r = 5 := by omega
        rcases hr' with rfl | rfl | rfl | rfl | rfl | rfl <;> omega
      clear h2 h3 h5 e
      exact un_of 1 (by omega)
theorem un_places {q n : Nat} {z : Nat → Nat} (hp : primeOf q = true) (h7 : 7 < q) (hz : ∀ k, 1 ≤ z k ∧ z k ≤ 7) (hu : ∀ i, i < n → ∀ k, k < i → z i ≠ z k) (i k : Nat) (hi : i < n) (hk : k < i) : Un q ((z i : Int) - z k) := by
  have h := no235 hp h7
  have h1 := hz i
  have h2 := hz k
  have h3 := hu i hi k hk
  rcases Nat.lt_or_ge (z k) (z i) with h4 | h4
  · have := un_small h (z i - z k) (by omega) (by omega)
    rwa [show ((z i - z k : Nat) : Int) = (z i : Int) - z k by omega] at this
  · have := un_small h (z k - z i) (by omega) (by omega)
    rw [show ((z k - z i : Nat) : Int) = (z k : Int) - z i by omega] at this
    exact Un.swap.1 this
theorem not_un_zero {q : Nat} (h : 1 < q) : ¬ Un q 0 := by
  rintro ⟨u, k, e⟩
  rw [Int.zero_mul] at e
  have h1 : (q : Int) * k = -1 := by omega
  have h2 : (q : Int) ∣ 1 := ⟨-k, by rw [Int.mul_neg, h1]; rfl⟩
  have := Int.le_of_dvd (by decide) h2
  omega
theorem decErr_zero {q t n : Nat} {z : Nat → Nat} (hq : Good q) (hp : primeOf q = true) (h7 : 7 < q) (ht : t ≤ 2) (hn : n ≤ 7) (hU : ∀ i k, i < n → k < i → Un q ((z i : Int) - z k)) : decErr q t n n z = 0 := by
  unfold decErr
  rw [if_neg (by rintro (h | h | h | h) <;> first | omega | (rw [hp] at h; cases h)), if_neg (by omega)]
  have ht6 : tw6 q z n = 0 := by
    unfold tw6
    rw [if_neg]
    intro h
    obtain ⟨i, k, hi, hk, h0⟩ := (twAll_iff _).1 h
    have h1 := cg_sub hq (z i) (z k)
    rw [h0] at h1
    exact not_un_zero (by omega) ((Un.cg h1).2 (hU i k hi hk))
  rw [if_neg (by simpa using ht6), (noAll_iff hq n).2 hU]
  rfl
/-! ### Which values are changed. -/
def cnt (lz : Nat → Nat) (ll q m : Nat) : Nat → Nat
  | 0 => 0
  | i + 1 => if i < ll ∧ lz i % q ≠ 0 ∧ cnt lz ll q m i < m then cnt lz ll q m i + 1 else cnt lz ll q m i
def bad (lz : Nat → Nat) (ll q m i : Nat) : Bool := decide (i < ll ∧ lz i % q ≠ 0 ∧ cnt lz ll q m i < m)
def badL (lz : Nat → Nat) (ll q m i : Nat) : List Nat := (List.range i).filter (bad lz ll q m)
theorem badL_len (lz : Nat → Nat) (ll q m : Nat) : ∀ i, (badL lz ll q m i).length = cnt lz ll q m i
  | 0 => rfl
  | i + 1 => by
    have ih := badL_len lz ll q m i
    unfold badL at ih ⊢
    rw [List.range_succ, List.filter_append, List.length_append, ih, show cnt lz ll q m (i + 1) = if i < ll ∧ lz i % q ≠ 0 ∧ cnt lz ll q m i < m then cnt lz ll q m i + 1 else cnt lz ll q m i from rfl]
    by_cases h : i < ll ∧ lz i % q ≠ 0 ∧ cnt lz ll q m i < m
    · have hb : bad lz ll q m i = true := decide_eq_true h
      rw [if_pos h, List.filter_cons, if_pos hb]; rfl
    · have hb : ¬ bad lz ll q m i = true := fun e => h (of_decide_eq_true e)
      rw [if_neg h, List.filter_cons, if_neg hb]; rfl
theorem cnt_le (lz : Nat → Nat) (ll q m : Nat) : ∀ i, cnt lz ll q m i ≤ m
  | 0 => Nat.zero_le _
  | i + 1 => by
    have := cnt_le lz ll q m i
    unfold cnt
    split <;> omega
theorem badL_yes {lz : Nat → Nat} {ll q m i : Nat} (h : bad lz ll q m i = true) : badL lz ll q m (i + 1) = badL lz ll q m i ++ [i] := by
  unfold badL
  rw [List.range_succ, List.filter_append, List.filter_cons, if_pos h]; rfl
theorem badL_no {lz : Nat → Nat} {ll q m i : Nat} (h : ¬ bad lz ll q m i = true) : badL lz ll q m (i + 1) = badL lz ll q m i := by
  unfold badL
  rw [List.range_succ, List.filter_append, List.filter_cons, if_neg h]; simp
theorem badL_end {lz : Nat → Nat} {ll q m i : Nat} (h : ll ≤ i) : ∀ n, i ≤ n → badL lz ll q m n = badL lz ll q m i
  | 0, h0 => by obtain rfl : i = 0 := by omega
                rfl
  | n + 1, h0 => by
    by_cases e : i = n + 1
    · subst e; rfl
    · rw [badL_no (by unfold bad; intro h1; have := of_decide_eq_true h1; omega)]
      exact badL_end h n (by omega)
/-- The values behind i rounds. -/
def lieY (y lz : Nat → Nat) (ll q m i k : Nat) : Nat := if k < i ∧ bad lz ll q m k = true then addU (y k) (lz k) q else y k
theorem lieY_zero (y lz : Nat → Nat) (ll q m k : Nat) : lieY y lz ll q m 0 k = y k := by unfold lieY; rw [if_neg (by omega)]
theorem lieY_here (y lz : Nat → Nat) (ll q m i : Nat) : lieY y lz ll q m i i = y i := by unfold lieY; rw [if_neg (by omega)]
theorem lieY_yes {y lz : Nat → Nat} {ll q m i : Nat} (h : bad lz ll q m i = true) (k : Nat) : lieY y lz ll q m (i + 1) k = if k = i then addU (y i) (lz i) q else lieY y lz ll q m i k := by
  unfold lieY
  by_cases e : k = i
  · subst e; rw [if_pos ⟨by omega, h⟩, if_pos rfl]
  · rw [if_neg e]
    by_cases h1 : k < i ∧ bad lz ll q m k = true
    · rw [if_pos h1, if_pos ⟨by omega, h1.2⟩]
    · rw [if_neg h1, if_neg (fun h2 => h1 ⟨by omega, h2.2⟩)]
theorem lieY_no {y lz : Nat → Nat} {ll q m i : Nat} (h : ¬ bad lz ll q m i = true) (k : Nat) : lieY y lz ll q m (i + 1) k = lieY y lz ll q m i k := by
  unfold lieY
  by_cases e : k = i
  · subst e; rw [if_neg (fun h2 => h h2.2), if_neg (by omega)]
  · by_cases h1 : k < i ∧ bad lz ll q m k = true
    · rw [if_pos h1, if_pos ⟨by omega, h1.2⟩]
    · rw [if_neg h1, if_neg (fun h2 => h1 ⟨by omega, h2.2⟩)]
theorem lieY_end {y lz : Nat → Nat} {ll q m i n k : Nat} (h : i = n ∨ ll ≤ i) (hk : k < n) : lieY y lz ll q m i k = if bad lz ll q m k = true then addU (y k) (lz k) q else y k := by
  unfold lieY
  by_cases hb : bad lz ll q m k = true
  · have h1 := of_decide_eq_true hb
    rw [if_pos hb, if_pos ⟨by omega, hb⟩]
  · rw [if_neg hb, if_neg (fun h => hb h.2)]
theorem lieY_lt {y lz : Nat → Nat} {ll q m i : Nat} (h : ∀ k, y k < 18446744073709551616) (k : Nat) : lieY y lz ll q m i k < 18446744073709551616 := by
  unfold lieY
  split
  · exact addU_lt _ _ _
  · exact h k
/-- What Decode tells of them. -/
theorem lies_told {q t n ll m i : Nat} (hq : Good q) {z lz c : Nat → Nat} (hU : ∀ i k, i < n → k < i → Un q ((z i : Int) - z k)) (hc : ∀ k, k < t + 1 → c k < q) (hm : m ≤ t) (hm2 : m + 2 * t + 1 ≤ n) (hi : i ≤ n) (he : i = n ∨ ll ≤ i) :
    ∃ s, (setsF (2 * t + 1) 0 n).find? (fitB q t z (lieY (fun k => evalU c (z k) q (t + 1)) lz ll q m i)) = some s ∧
      (∀ k, k < t + 1 → thruU q (pick z s) (pick (lieY (fun k => evalU c (z k) q (t + 1)) lz ll q m i) s) s.length k = c k) ∧
      missL q (t + 1) n z (lieY (fun k => evalU c (z k) q (t + 1)) lz ll q m i) (thruU q (pick z s) (pick (lieY (fun k => evalU c (z k) q (t + 1)) lz ll q m i) s) s.length) = badL lz ll q m i := by
  have hlen : ((List.range n).filter (bad lz ll q m)).length = cnt lz ll q m n := badL_len lz ll q m n
  have hle := cnt_le lz ll q m n
  have hsp := count_split (bad lz ll q m) (List.range n)
  rw [List.length_range] at hsp
  have hend : badL lz ll q m i = (List.range n).filter (bad lz ll q m) := by
    rcases he with rfl | h
    · rfl
    · exact (badL_end h n hi).symm
  rw [hend]
  refine lies hq (bad lz ll q m) hU hc (fun k hk hb => ?_) (fun k hk hb => ?_) (by omega) (by omega)
  · rw [lieY_end he hk, if_neg (by rw [hb]; decide)]
    exact (evalU_mod hq _).symm
  · rw [lieY_end he hk, if_pos hb, addU_of hq, Nat.mod_mod]
    intro e
    have hne := (of_decide_eq_true hb).2.1
    rw [← evalU_mod hq] at e
    generalize evalU c (z k) q (t + 1) = a at *
    apply hne
    have h1 : Cg q (((a % q : Nat) : Int) + lz k) a := by
      have := cg_nat e.symm
      rwa [Int.natCast_add] at this
    have h2 := h1.sub (cg_mod q a)
    have h3 : Cg q ((lz k : Nat) : Int) ((0 : Nat) : Int) := (Cg.of_eq (by omega)).trans (h2.trans (.of_eq (by simp)))
    have h4 := h3.nat
    rwa [Nat.zero_mod] at h4
end MM
namespace M
/-- Block B's first n cells hold the numbers z, none frozen; it lies behind all that was there at w0; nothing of that has changed. -/
structure Cel (w0 : World) (B n : Nat) (z : Nat → Nat) (w : World) : Prop where
  block : ∃ cs : Array Value, w.heap[B]? = some (.cells cs 23 (0, 0)) ∧ ∀ k, k < n → cs[k]? = some (.int .u64 ((z k : Nat) : Int))
  low : w0.heap.size ≤ B
  below : Below w0.heap.size w0 w
section
variable {w0 w w' : World} {B n : Nat} {z y : Nat → Nat}
theorem Cel.lt (h : Cel w0 B n z w) : B < w.heap.size := by obtain ⟨cs, h1, _⟩ := h.block; exact row_lt h1
theorem Cel.step (h : Cel w0 B n z w) (hb : Below w.heap.size w w') : Cel w0 B n z w' :=
  ⟨by obtain ⟨cs, h1, h2⟩ := h.block; exact ⟨cs, (hb.block B h.lt).trans h1, h2⟩, h.low, h.below.trans (hb.mono h.below.size)⟩
theorem Cel.congr (h : Cel w0 B n z w) (hz : ∀ k, k < n → z k = y k) : Cel w0 B n y w :=
  ⟨by obtain ⟨cs, h1, h3⟩ := h.block; exact ⟨cs, h1, fun k hk => by rw [h3 k hk, hz k hk]⟩, h.low, h.below⟩
theorem Cel.cell (h : Cel w0 B n z w) {k : Nat} (hk : k < n) : w.cell? ⟨B, k, none⟩ = some (.int .u64 ((z k : Nat) : Int)) := by
  obtain ⟨cs, h1, h3⟩ := h.block
  rw [cell_of_row w B k _ _ _ h1, h3 k hk]
theorem Cel.free (h : Cel w0 B n z w) (k : Nat) : w.frozen? ⟨B, k, none⟩ = false := by
  obtain ⟨cs, h1, _⟩ := h.block
  simp [World.frozen?, h1]
theorem Cel.set (h : Cel w0 B n z w) (k x : Nat) (hy : ∀ j, j < n → y j = if j = k then x else z j) (hk : k < n) : Cel w0 B n y (w.setCell ⟨B, k, none⟩ (.int .u64 (x : Int))) := by
  refine ⟨?_, h.low, h.below.setCell (p := ⟨B, k, none⟩) h.low _⟩
  obtain ⟨cs, h1, h3⟩ := h.block
  have hl : k < cs.size := (Array.getElem?_eq_some_iff.1 (h3 k hk)).1
  refine ⟨_, heap_setCell_same w B k cs _ _ h1, fun j hj => ?_⟩
  rw [hy j hj, Array.getElem?_setIfInBounds]
  by_cases e : k = j
  · subst e; rw [if_pos rfl, if_pos hl, if_pos rfl]
  · rw [if_neg e, if_neg (fun h => e h.symm), h3 j hj]
theorem Cel.rd (h : Cel w0 B n z w) : Rd w (some ⟨B, 0, none⟩) n z := fun _ => ⟨_, rfl, by
  obtain ⟨cs, h1, h3⟩ := h.block
  exact Row.of_block h1 h3⟩
theorem Own.cel {v : Value} {k C : Nat} (h : Own w0 C v k z w) (hk : 0 < k) : ∃ g c, v = .slice (some ⟨g, 0, none⟩) k c ∧ Cel w0 g k z w := by
  obtain ⟨_, ⟨_, h1⟩ | ⟨g, cap, cur, h1, h2, h3, h4, h5, _, h7⟩⟩ := h.own
  · omega
  · refine ⟨g, cap, h1, ⟨cur, h3, fun j hj => ?_⟩, Nat.le_trans h.low h2, h.below⟩
    have e1 : (cur.toList.take (k * 1))[j]? = (zlist k z)[j]? := by rw [h7]
    rw [zlist_get hj, List.getElem?_take_of_lt (by omega)] at e1
    simpa using e1
/-- Both the numbers, and the row of the ones that were changed. -/
def LieAt (w0 : World) (g n : Nat) (z : Nat → Nat) (C : Nat) (v : Value) (l : List Nat) (w : World) : Prop := g < C ∧ Cel w0 g n z w ∧ OwnI w0 C v l w
theorem LieAt.step {g C : Nat} {v : Value} {l : List Nat} (h : LieAt w0 g n z C v l w) (hb : Below w.heap.size w w') : LieAt w0 g n z C v l w' := ⟨h.1, h.2.1.step hb, h.2.2.step hb⟩
theorem LieAt.set {g C : Nat} {v : Value} {l : List Nat} (h : LieAt w0 g n z C v l w) (k x : Nat) (hy : ∀ j, j < n → y j = if j = k then x else z j) (hk : k < n) : LieAt w0 g n y C v l (w.setCell ⟨g, k, none⟩ (.int .u64 (x : Int))) := by
  obtain ⟨h1, h2, h3⟩ := h
  refine ⟨h1, h2.set k x hy hk, ⟨?_, ?_, h3.low, h3.below.setCell (p := ⟨g, k, none⟩) h2.low _⟩⟩
  · exact h3.own.kept (row := some g) ⟨rfl, rfl, rfl, by simp [World.setCell], fun j hj hne => Below.heap_setCell w ⟨g, k, none⟩ _ j (fun e => hne (by simp [e]))⟩ (by
      cases e : v.ownBlock with
      | none => simp
      | some b => have := (h3.own.lt b e).1; simp; omega)
  · have := h3.size
    simpa [World.setCell] using this
theorem LieAt.push {g C : Nat} {v : Value} {l : List Nat} (h : LieAt w0 g n z C v l w) (i c : Nat) (hl : l.length ≤ 1000) :
    ∃ v' w', (Builtin.append_ #[28, 28] 28 #[v, .slice (some ⟨w.heap.size, 0, none⟩) 1 c]).run Tryd.prog (w.alloc (.cells #[.int .i64 (i : Int)] 3)) = .ok v' w' ∧ LieAt w0 g n z C v' (l ++ [i]) w' := by
  obtain ⟨h1, h2, h3⟩ := h
  obtain ⟨i0, hi, hz0, hz1, hz2⟩ := info_parts info_i64
  have ha := h3.alloc (.cells #[.int .i64 (i : Int)] 3)
  have hc := h2.step (below_box w (.cells #[.int .i64 (i : Int)] 3))
  obtain ⟨v', w', hr, ho, hg, _⟩ := run_append_own (P := Tryd.prog) _ C 28 28 3 i0 (.int .i64 0) 1 8 Tryd.underlying28 hi hz0 hz1 hz2 rfl (by decide) v l.length (ilist l) ha.own ⟨w.heap.size, 0, none⟩ 1 c [.int .i64 (i : Int)] rfl (fun j u hj => by
    have hl := (List.getElem?_eq_some_iff.1 hj).1
    obtain rfl : j = 0 := by simpa using hl
    cases hj
    have e : (⟨w.heap.size, 0, none⟩ : Addr).add 0 = ⟨w.heap.size, 0, none⟩ := rfl
    rw [e, cell_of_row _ _ _ _ _ _ (heap_alloc_new w _)]; rfl) (by simp [Value.oneCell']) (by unfold maxLen; omega) (by omega) ha.size
  refine ⟨v', w', hr, h1, ⟨?_, h2.low, (ha.grow (l' := l ++ [i]) ho (by simp) (by simp [ilist]) hg).below⟩, ha.grow ho (by simp) (by simp [ilist]) hg⟩
  obtain ⟨cs, k1, k2⟩ := hc.block
  refine ⟨cs, (hg.block g hc.lt (fun e => ?_)).trans k1, k2⟩
  have := (ha.own.lt g e.symm).1
  omega
end
end M
end Go.Proofs.YtaogdhpiiclejaaDoor

/- RobP1: Two rows of numbers that a call makes by appends, side by side; rows as they are cut. -/
namespace Go.Proofs.YtaogdhpiiclejaaDoor
open Go Go.RowKit Go.Lib
namespace MM
def upd (f : Nat → Nat) (k v j : Nat) : Nat := if j = k then v else f j
theorem upd_lt {f : Nat → Nat} {k v : Nat} (h : ∀ j, f j < 18446744073709551616) (hv : v < 18446744073709551616) (j : Nat) : upd f k v j < 18446744073709551616 := by
  unfold upd; split
  · exact hv
  · exact h j
end MM
namespace M
theorem Own.alike {w0 w : World} {B k : Nat} {v : Value} {z y : Nat → Nat} (h : Own w0 B v k z w) (e : ∀ j, j < k → z j = y j) : Own w0 B v k y w := ⟨by rw [← zlist_congr e]; exact h.own, h.size, h.low, h.below⟩
/-- Two rows, in blocks of their own. -/
structure TwoRow (w0 : World) (x y : Value) (k m : Nat) (f g : Nat → Nat) (w : World) : Prop where
  one : Own w0 w0.heap.size x k f w
  two : Own w0 w0.heap.size y m g w
  apart : ∀ b, x.ownBlock = some b → y.ownBlock = some b → False
section
variable {w0 w w' : World} {x y : Value} {k m : Nat} {f g : Nat → Nat}
theorem TwoRow.start (w0 : World) (f g : Nat → Nat) : TwoRow w0 (.slice none 0 0) (.slice none 0 0) 0 0 f g w0 := ⟨Own.start w0 f, Own.start w0 g, fun b h => by cases h⟩
theorem TwoRow.step (h : TwoRow w0 x y k m f g w) (hb : Below w.heap.size w w') : TwoRow w0 x y k m f g w' := ⟨h.one.step hb, h.two.step hb, h.apart⟩
theorem TwoRow.alloc (h : TwoRow w0 x y k m f g w) (o : Obj) : TwoRow w0 x y k m f g (w.alloc o) := h.step (below_box _ _)
theorem TwoRow.swap (h : TwoRow w0 x y k m f g w) : TwoRow w0 y x m k g f w := ⟨h.two, h.one, fun b h1 h2 => h.apart b h2 h1⟩
theorem TwoRow.left (h : TwoRow w0 x y k m f g w) (hk : k ≤ 1000) {a : Addr} (c v : Nat) (hc : w.cell? a = some (.int .u64 ((v : Nat) : Int))) :
    ∃ x' w', (Builtin.append_ #[22, 22] 22 #[x, .slice (some a) 1 c]).run Tryd.prog w = .ok x' w' ∧ TwoRow w0 x' y (k + 1) m (MM.upd f k v) g w' ∧ w.grownBy w' x.ownBlock := by
  obtain ⟨i0, hi, hz0, hz1, hz2⟩ := info_parts info_u64
  obtain ⟨x', w', hr, ho, hg, _, hb⟩ := run_append_own_at (P := Tryd.prog) w w0.heap.size 22 22 23 i0 (.int .u64 0) 1 8 Tryd.underlying22 hi hz0 hz1 hz2 rfl (by decide) x k (zlist k f) h.one.own a 1 c [.int .u64 ((v : Nat) : Int)] rfl (fun j u hj => by
    have hl := (List.getElem?_eq_some_iff.1 hj).1
    obtain rfl : j = 0 := by simpa using hl
    cases hj
    have e : a.add 0 = a := by unfold Addr.add; simp
    rw [e]; exact hc) (by simp [Value.oneCell']) (by unfold maxLen; omega) (by omega) h.one.size
  have e1 : zlist k f ++ [.int .u64 ((v : Nat) : Int)] = zlist (k + 1) (MM.upd f k v) := by
    have := zlist_succ k (MM.upd f k v)
    rw [show MM.upd f k v k = v from if_pos rfl, zlist_congr (y := MM.upd f k v) (z := f) fun j hj => by unfold MM.upd; rw [if_neg (by omega)]] at this
    exact this
  have hw := (h.one.alike (y := MM.upd f k v) fun j hj => by unfold MM.upd; rw [if_neg (by omega)]).grow ho e1 hg
  refine ⟨x', w', hr, ⟨hw, ⟨?_, Nat.le_trans h.two.size hg.size, h.two.low, hw.below⟩, fun b h1 h2 => ?_⟩, hg⟩
  · refine h.two.own.kept (row := x.ownBlock) hg ?_
    cases e : y.ownBlock with
    | none => exact .inl rfl
    | some b => exact .inr fun e2 => h.apart b e2.symm e
  · rcases hb with hb | hb
    · exact h.apart b (hb ▸ h1) h2
    · have := (h.two.own.lt b h2).2
      rw [hb] at h1
      have : w.heap.size = b := by simpa using h1
      omega
theorem kept_block (hg : w.grownBy w' x.ownBlock) {b : Nat} {o : Obj} (hb : w.heap[b]? = some o) (hne : x.ownBlock ≠ some b) : w'.heap[b]? = some o := (hg.block b (row_lt hb) fun e => hne e.symm).trans hb
theorem TwoRow.old (h : TwoRow w0 x y k m f g w) : x.ownBlock ≠ some w.heap.size ∧ x.ownBlock ≠ some (w.heap.size + 1) := by
  constructor <;> intro e <;> have := (h.one.own.lt _ e).2 <;> omega
theorem one_cell {u : World} {b v : Nat} (h : u.heap[b]? = some (.cells #[.int .u64 ((v : Nat) : Int)] 23 (0, 0))) : u.cell? ⟨b, 0, none⟩ = some (.int .u64 ((v : Nat) : Int)) := by
  rw [cell_of_row _ _ _ _ _ _ h]; rfl
/-- A number for each, the first one's first. -/
theorem TwoRow.both1 (h : TwoRow w0 x y k m f g w) (hk : k ≤ 900) (hm : m ≤ 900) (c d v u : Nat) : ∃ x' w1 y' w2,
    (Builtin.append_ #[22, 22] 22 #[x, .slice (some ⟨w.heap.size, 0, none⟩) 1 c]).run Tryd.prog (w.alloc (.cells #[.int .u64 ((v : Nat) : Int)] 23)) = .ok x' w1 ∧
    (Builtin.append_ #[22, 22] 22 #[y, .slice (some ⟨w1.heap.size, 0, none⟩) 1 d]).run Tryd.prog (w1.alloc (.cells #[.int .u64 ((u : Nat) : Int)] 23)) = .ok y' w2 ∧
    Below w0.heap.size w0 w1 ∧ TwoRow w0 x' y' (k + 1) (m + 1) (MM.upd f k v) (MM.upd g m u) w2 := by
  obtain ⟨x', w1, r1, h1, _⟩ := (h.alloc (.cells #[.int .u64 ((v : Nat) : Int)] 23)).left (by omega) c v (one_cell (heap_alloc_new w _))
  obtain ⟨y', w2, r2, h2, _⟩ := (h1.alloc (.cells #[.int .u64 ((u : Nat) : Int)] 23)).swap.left (by omega) d u (one_cell (heap_alloc_new w1 _))
  exact ⟨x', w1, y', w2, r1, r2, h1.one.below, h2.swap⟩
/-- Both numbers laid, the first one's first. -/
theorem TwoRow.both2 (h : TwoRow w0 x y k m f g w) (hk : k ≤ 900) (hm : m ≤ 900) (c d v u : Nat) : ∃ x' w1 y' w2,
    (Builtin.append_ #[22, 22] 22 #[x, .slice (some ⟨w.heap.size, 0, none⟩) 1 c]).run Tryd.prog ((w.alloc (.cells #[.int .u64 ((v : Nat) : Int)] 23)).alloc (.cells #[.int .u64 ((u : Nat) : Int)] 23)) = .ok x' w1 ∧
    (Builtin.append_ #[22, 22] 22 #[y, .slice (some ⟨w.heap.size + 1, 0, none⟩) 1 d]).run Tryd.prog w1 = .ok y' w2 ∧
    Below w0.heap.size w0 w1 ∧ TwoRow w0 x' y' (k + 1) (m + 1) (MM.upd f k v) (MM.upd g m u) w2 := by
  have ha := h.alloc (.cells #[.int .u64 ((v : Nat) : Int)] 23)
  have hn := heap_alloc_new w (.cells #[.int .u64 ((v : Nat) : Int)] 23)
  have hs : (w.alloc (.cells #[.int .u64 ((v : Nat) : Int)] 23)).heap.size = w.heap.size + 1 := World.size_alloc _ _
  generalize w.alloc (.cells #[.int .u64 ((v : Nat) : Int)] 23) = wa at *
  have hb := ha.alloc (.cells #[.int .u64 ((u : Nat) : Int)] 23)
  have hk1 := below_box wa (.cells #[.int .u64 ((u : Nat) : Int)] 23)
  have hn2 := heap_alloc_new wa (.cells #[.int .u64 ((u : Nat) : Int)] 23)
  rw [hs] at hn2
  obtain ⟨x', w1, r1, h1, hg⟩ := hb.left (by omega) c v (one_cell ((hk1.block _ (row_lt hn)).trans hn))
  obtain ⟨y', w2, r2, h2, _⟩ := h1.swap.left (by omega) d u (one_cell (kept_block hg hn2 h.old.2))
  exact ⟨x', w1, y', w2, r1, r2, h1.one.below, h2.swap⟩
/-- Both numbers laid, the second one's first. -/
theorem TwoRow.both3 (h : TwoRow w0 x y k m f g w) (hk : k ≤ 900) (hm : m ≤ 900) (c d v u : Nat) : ∃ x' w1 y' w2,
    (Builtin.append_ #[22, 22] 22 #[x, .slice (some ⟨w.heap.size + 1, 0, none⟩) 1 c]).run Tryd.prog ((w.alloc (.cells #[.int .u64 ((u : Nat) : Int)] 23)).alloc (.cells #[.int .u64 ((v : Nat) : Int)] 23)) = .ok x' w1 ∧
    (Builtin.append_ #[22, 22] 22 #[y, .slice (some ⟨w.heap.size, 0, none⟩) 1 d]).run Tryd.prog w1 = .ok y' w2 ∧
    Below w0.heap.size w0 w1 ∧ TwoRow w0 x' y' (k + 1) (m + 1) (MM.upd f k v) (MM.upd g m u) w2 := by
  have ha := h.alloc (.cells #[.int .u64 ((u : Nat) : Int)] 23)
  have hn := heap_alloc_new w (.cells #[.int .u64 ((u : Nat) : Int)] 23)
  have hs : (w.alloc (.cells #[.int .u64 ((u : Nat) : Int)] 23)).heap.size = w.heap.size + 1 := World.size_alloc _ _
  generalize w.alloc (.cells #[.int .u64 ((u : Nat) : Int)] 23) = wa at *
  have hb := ha.alloc (.cells #[.int .u64 ((v : Nat) : Int)] 23)
  have hk1 := below_box wa (.cells #[.int .u64 ((v : Nat) : Int)] 23)
  have hn2 := heap_alloc_new wa (.cells #[.int .u64 ((v : Nat) : Int)] 23)
  rw [hs] at hn2
  obtain ⟨x', w1, r1, h1, hg⟩ := hb.left (by omega) c v (one_cell hn2)
  obtain ⟨y', w2, r2, h2, _⟩ := h1.swap.left (by omega) d u (one_cell (kept_block hg ((hk1.block _ (row_lt hn)).trans hn) h.old.1))
  exact ⟨x', w1, y', w2, r1, r2, h1.one.below, h2.swap⟩
end
end M
end Go.Proofs.YtaogdhpiiclejaaDoor

/- RobP2: The walk of points: as many places as values, seven at most, unlike modulo q. -/
namespace Go.Proofs.YtaogdhpiiclejaaDoor
open Go Go.RowKit Go.Lib
namespace M
/-- What points tells. -/
def PtsOut (q : Nat) (w : World) (e : Ending) (w' : World) : Prop := ∃ (ao bo : Option Addr) (k ca cb : Nat) (f g : Nat → Nat), e = .returned (.tuple #[.slice ao k ca, .slice bo k cb]) ∧ k ≤ 7 ∧ k ≤ ca ∧ k ≤ cb ∧ Rd w' ao k f ∧ Rd w' bo k g ∧
  (∀ j, f j < 18446744073709551616) ∧ (∀ j, g j < 18446744073709551616) ∧ (∀ i, i < k → ∀ j, j < i → f i % q ≠ f j % q) ∧ Below w.heap.size w w'
/-- The rows so far. -/
def PtsAt (q : Nat) (w0 : World) (x y : Value) (k : Nat) (w : World) : Prop := ∃ f g : Nat → Nat, TwoRow w0 x y k k f g w ∧ (∀ j, f j < 18446744073709551616) ∧ (∀ j, g j < 18446744073709551616) ∧ (∀ i, i < k → ∀ j, j < i → f i % q ≠ f j % q)
theorem PtsAt.more {q k v u : Nat} {w0 w : World} {x y : Value} {f g : Nat → Nat} (h : TwoRow w0 x y (k + 1) (k + 1) (MM.upd f k v) (MM.upd g k u) w) (hf : ∀ j, f j < 18446744073709551616) (hg : ∀ j, g j < 18446744073709551616) (hv : v < 18446744073709551616) (hu : u < 18446744073709551616)
    (hd : ∀ i, i < k → ∀ j, j < i → f i % q ≠ f j % q) (hn : ∀ j, j < k → f j % q ≠ v % q) : PtsAt q w0 x y (k + 1) w := by
  refine ⟨_, _, h, MM.upd_lt hf hv, MM.upd_lt hg hu, fun i hi j hj => ?_⟩
  unfold MM.upd
  rw [if_neg (show ¬ j = k by omega)]
  by_cases e : i = k
  · rw [if_pos e]
    exact fun e2 => hn j (by omega) e2.symm
  · rw [if_neg e]; exact hd i (by omega) j hj
set_option maxRecDepth 100000 in
set_option maxHeartbeats 4000000 in
theorem points_any (xo yo : Option Addr) (n m cx cy q : Nat) (z y : Nat → Nat) (hz : ∀ j, z j < 18446744073709551616) (hy : ∀ j, y j < 18446744073709551616) (hn : n ≤ 1000) (hq : 0 < q) (w : World) (hr : Rd w xo n z) (hs : Rd w yo m y) :
    Calls Tryd.prog 7 #[.slice xo n cx, .slice yo m cy, .int .u64 (q : Int)] w (PtsOut q w) := by
  have HX := Lib.hid hr
  have HY := Lib.hid hs
  have HZ := Lib.hid hz
  have HV := Lib.hid hy
  have hq0 : (q : Int) ≠ 0 := by omega
  have HJ : Hid (PtsAt q w (.slice none 0 0) (.slice none 0 0) 0 w) := Lib.hid ⟨fun _ => 0, fun _ => 0, TwoRow.start w _ _, fun _ => by show (0 : Nat) < 18446744073709551616; omega, fun _ => by show (0 : Nat) < 18446744073709551616; omega, fun i hi => absurd hi (by omega)⟩
  clear hr hs hz hy hq
  go_enter Tryd.func7, Tryd.ntmps7
  go_wp2_with fail
  go_loopw [8, 9, 10] (fun s8 s9 s10 wx => ∃ i k : Nat, i ≤ n ∧ i ≤ m ∧ k ≤ 7 ∧ (∃ ao ca, s8 = .slice ao k ca) ∧ (∃ bo cb, s9 = .slice bo k cb) ∧ s10 = .int .i64 (i : Int) ∧ Hid (PtsAt q w s8 s9 k wx)) (fun _ _ s10 _ => n - (RowKit.intOf s10).toNat)
  case atStart => exact ⟨0, 0, Nat.zero_le _, Nat.zero_le _, Nat.zero_le _, ⟨_, _, rfl⟩, ⟨_, _, rfl⟩, rfl, HJ⟩
  case round =>
    clear HJ
    obtain ⟨i, k, hin, him, hk7, ⟨ao, ca, rfl⟩, ⟨bo, cb, rfl⟩, rfl, HI⟩ := hrel
    have hi0 : (0 : Int) ≤ (i : Int) := Int.natCast_nonneg _
    have hk0 : (0 : Int) ≤ (k : Int) := Int.natCast_nonneg _
    have HP : Hid (PtsOut q w (.returned (.tuple #[.slice ao k ca, .slice bo k cb])) wr) := Lib.hid (by
      obtain ⟨f, g, hT, hf, hg, hd⟩ := HI.out
      obtain ⟨_, _, e, h5, _, h6⟩ := hT.one.rd
      cases e
      obtain ⟨_, _, e, h7, _, h8⟩ := hT.two.rd
      cases e
      exact ⟨ao, bo, k, ca, cb, f, g, rfl, hk7, h5, h7, h6, h8, hf, hg, hd, hT.one.below⟩)
    by_cases h1 : i < n
    · have h1I : (i : Int) < (n : Int) := by omega
      by_cases h2 : i < m
      · have h2I : (i : Int) < (m : Int) := by omega
        by_cases h3 : k < 7
        · have h3I : (k : Int) < 7 := by omega
          have hxi := HX.out
          obtain ⟨f, g, hT, hf, hg, hd⟩ := HI.out
          obtain ⟨ax, rfl, hcx⟩ := (HX.out.below hT.one.below).at_ h1
          obtain ⟨ay, rfl, hcy⟩ := (HY.out.below hT.one.below).at_ h2
          clear HP
          have HT := Lib.hid hT
          have HF := Lib.hid hf
          have HG := Lib.hid hg
          have HD := Lib.hid hd
          obtain ⟨r, hr⟩ : ∃ r : Nat, z i % q = r := ⟨_, rfl⟩
          have hrI : (z i : Int) % (q : Int) = (r : Int) := by rw [← hr]; rfl
          have HRR := Lib.hid hr
          clear hT hf hg hd HI hxi hr
          obtain ⟨wo, hwo⟩ : ∃ wo : World, wo = wr := ⟨_, rfl⟩
          subst hwo
          go_wp2_with fail
          go_loopw [11, 12] (fun s11 s12 wx => ∃ (j d : Nat) (b : Bool), j ≤ k ∧ s11 = .bool b ∧ s12 = .int .i64 (j : Int) ∧ Hid (b = true → ∀ l, l < j → f l % q ≠ r) ∧ Hid (wx = wo.drewN d)) (fun _ s12 _ => k - (RowKit.intOf s12).toNat)
          case atStart => exact ⟨0, 0, true, Nat.zero_le _, rfl, rfl, Lib.hid fun _ j hj => absurd hj (by omega), Lib.hid rfl⟩
          case round =>
            obtain ⟨j, d, b, hjk, rfl, rfl, HB, HW⟩ := hrel
            have hj0 : (0 : Int) ≤ (j : Int) := Int.natCast_nonneg _
            by_cases h4 : j < k
            · have h4I : (j : Int) < (k : Int) := by omega
              obtain ⟨ao', c', e, _, _, hrd⟩ := HT.out.one.rd
              cases e
              obtain ⟨af, rfl, hcf⟩ := hrd.at_ h4
              obtain ⟨u, hu⟩ : ∃ u : Nat, f j % q = u := ⟨_, rfl⟩
              have huI : (f j : Int) % (q : Int) = (u : Int) := by rw [← hu]; rfl
              have HUU := Lib.hid hu
              have c1 : wr.cell? (af.add j) = some (.int .u64 ((f j : Nat) : Int)) := by rw [HW.out]; exact hcf
              have c2 : wr.cell? (ax.add i) = some (.int .u64 ((z i : Nat) : Int)) := by rw [HW.out]; exact hcx
              clear hrd hcf hu
              go_upto_region 9 with fail
              cases b with
              | false =>
                go_quiet (fail)
                go_wp2_with fail
                go_roundw
                case rel => exact ⟨j + 1, _, false, by omega, rfl, by go_num, Lib.hid (fun e => by cases e), Lib.hid (by rw [HW.out]; exact World.drewN_drewN _ _ _)⟩
                case measure => simp [RowKit.intOf]; omega
              | true =>
                by_cases h5 : u = r
                · subst h5
                  go_quiet (fail)
                  go_wp2_with fail
                  go_roundw
                  case rel => exact ⟨j + 1, _, false, by omega, rfl, by go_num, Lib.hid (fun e => by cases e), Lib.hid (by rw [HW.out]; exact World.drewN_drewN _ _ _)⟩
                  case measure => simp [RowKit.intOf]; omega
                · have h5I : ((u : Int) != (r : Int)) = true := by simp; omega
                  have HB2 : Hid (∀ l, l < j + 1 → f l % q ≠ r) := Lib.hid fun l hl => by
                    by_cases e : l = j
                    · subst e; rw [HUU.out]; exact h5
                    · exact HB.out rfl l (by omega)
                  go_quiet (fail)
                  go_wp2_with fail
                  go_roundw
                  case rel => exact ⟨j + 1, _, true, by omega, rfl, by go_num, Lib.hid (fun _ => HB2.out), Lib.hid (by rw [HW.out]; exact World.drewN_drewN _ _ _)⟩
                  case measure => simp [RowKit.intOf]; omega
            · obtain rfl : j = k := by omega
              have h4I : ¬ (j : Int) < (j : Int) := by omega
              cases b with
              | false =>
                go_wp2_with fail
                go_roundw
                case rel => exact ⟨i + 1, j, by omega, by omega, by omega, ⟨_, _, rfl⟩, ⟨_, _, rfl⟩, by go_num, Lib.hid ⟨f, g, by rw [HW.out]; exact HT.out.step (below_drewN' _ _ _), HF.out, HG.out, HD.out⟩⟩
                case measure => simp [RowKit.intOf]; omega
              | true =>
                have hTr : TwoRow w (.slice ao j ca) (.slice bo j cb) j j f g wr := by rw [HW.out]; exact HT.out.step (below_drewN' _ _ _)
                have HTR := Lib.hid hTr
                have HN : Hid (∀ l, l < j → f l % q ≠ z i % q) := Lib.hid (by rw [HRR.out]; exact HB.out rfl)
                have HLX : Hid (∀ W' : World, Below w.heap.size w W' → W'.cell? (ax.add i) = some (.int .u64 ((z i : Nat) : Int))) := Lib.hid fun W' hb => by
                  obtain ⟨ad, e, hc⟩ := (HX.out.below hb).at_ h1
                  cases e; exact hc
                have HLY : Hid (∀ W' : World, Below w.heap.size w W' → W'.cell? (ay.add i) = some (.int .u64 ((y i : Nat) : Int))) := Lib.hid fun W' hb => by
                  obtain ⟨ad, e, hc⟩ := (HY.out.below hb).at_ h2
                  cases e; exact hc
                clear hTr hcx hcy hrI
                go_upto_region 11 with fail
                refine RK.cut (fun a a' u => ∃ p1 p2 x' y', TwoRow w x' y' (j + 1) (j + 1) (MM.upd f j (z i)) (MM.upd g j (y i)) u ∧ a' = { a with tmps := ((((((((((((((((a.tmps.setIfInBounds 53 (.slice ao j ca)).setIfInBounds 54 (.slice (some ax) n cx)).setIfInBounds 55 (.int .i64 (i : Int))).setIfInBounds 56 (.pointer (some (ax.add i)))).setIfInBounds 57 (.int .u64 ((z i : Nat) : Int))).setIfInBounds 60 (.slice bo j cb)).setIfInBounds 61 (.slice (some ay) m cy)).setIfInBounds 62 (.int .i64 (i : Int))).setIfInBounds 63 (.pointer (some (ay.add i)))).setIfInBounds 64 (.int .u64 ((y i : Nat) : Int))).setIfInBounds 58 (.slice (some ⟨p1, 0, none⟩) 1 1)).setIfInBounds 59 (x')).setIfInBounds 65 (.slice (some ⟨p2, 0, none⟩) 1 1)).setIfInBounds 66 (y')).setIfInBounds 8 (x')).setIfInBounds 9 (y')) }) (RK.region (Below w.heap.size w) 100 (by kernel_rfl) ?_) ?_
                · have hT0 := HTR.out.step (below_drewN' wr 1 _)
                  change TwoRow _ _ _ _ _ _ _ wr.drew at hT0
                  have HS0 := hT0.one.below
                  generalize wr.drew = w0 at *
                  refine RK.Any.take 0 53 (.slice ao j ca) rfl rfl (by kernel_rfl) (by kernel_rfl) (by kernel_rfl) (by kernel_rfl) (fun _ _ _ h => by cases h.1) (by rfl) (fun W' hb => ?_) HS0 ?_
                  · skip; go_simp
                  simp only [List.setIfInBounds_toArray, List.set_cons_zero, List.set_cons_succ]
                  refine RK.Any.take 1 54 (.slice (some ax) n cx) rfl rfl (by kernel_rfl) (by kernel_rfl) (by kernel_rfl) (by kernel_rfl) (fun _ _ _ h => by cases h.1) (by rfl) (fun W' hb => ?_) HS0 ?_
                  · skip; go_simp
                  simp only [List.setIfInBounds_toArray, List.set_cons_zero, List.set_cons_succ]
                  refine RK.Any.take 2 55 (.int .i64 (i : Int)) rfl rfl (by kernel_rfl) (by kernel_rfl) (by kernel_rfl) (by kernel_rfl) (fun _ _ _ h => by cases h.1) (by rfl) (fun W' hb => ?_) HS0 ?_
                  · skip; go_simp
                  simp only [List.setIfInBounds_toArray, List.set_cons_zero, List.set_cons_succ]
                  refine RK.Any.take 3 56 (.pointer (some (ax.add i))) rfl rfl (by kernel_rfl) (by kernel_rfl) (by kernel_rfl) (by kernel_rfl) (fun _ _ _ h => by cases h.1) (by rfl) (fun W' hb => ?_) HS0 ?_
                  · skip; go_simp
                  simp only [List.setIfInBounds_toArray, List.set_cons_zero, List.set_cons_succ]
                  refine RK.Any.take 4 57 (.int .u64 ((z i : Nat) : Int)) rfl rfl (by kernel_rfl) (by kernel_rfl) (by kernel_rfl) (by kernel_rfl) (fun _ _ _ h => by cases h.1) (by rfl) (fun W' hb => ?_) HS0 ?_
                  · have c := HLX.out W' hb; go_simp
                  simp only [List.setIfInBounds_toArray, List.set_cons_zero, List.set_cons_succ]
                  refine RK.Any.take 7 60 (.slice bo j cb) rfl rfl (by kernel_rfl) (by kernel_rfl) (by kernel_rfl) (by kernel_rfl) (fun _ _ _ h => by cases h.1) (by rfl) (fun W' hb => ?_) HS0 ?_
                  · skip; go_simp
                  simp only [List.setIfInBounds_toArray, List.set_cons_zero, List.set_cons_succ]
                  refine RK.Any.take 8 61 (.slice (some ay) m cy) rfl rfl (by kernel_rfl) (by kernel_rfl) (by kernel_rfl) (by kernel_rfl) (fun _ _ _ h => by cases h.1) (by rfl) (fun W' hb => ?_) HS0 ?_
                  · skip; go_simp
                  simp only [List.setIfInBounds_toArray, List.set_cons_zero, List.set_cons_succ]
                  refine RK.Any.take 9 62 (.int .i64 (i : Int)) rfl rfl (by kernel_rfl) (by kernel_rfl) (by kernel_rfl) (by kernel_rfl) (fun _ _ _ h => by cases h.1) (by rfl) (fun W' hb => ?_) HS0 ?_
                  · skip; go_simp
                  simp only [List.setIfInBounds_toArray, List.set_cons_zero, List.set_cons_succ]
                  refine RK.Any.take 10 63 (.pointer (some (ay.add i))) rfl rfl (by kernel_rfl) (by kernel_rfl) (by kernel_rfl) (by kernel_rfl) (fun _ _ _ h => by cases h.1) (by rfl) (fun W' hb => ?_) HS0 ?_
                  · skip; go_simp
                  simp only [List.setIfInBounds_toArray, List.set_cons_zero, List.set_cons_succ]
                  refine RK.Any.take 11 64 (.int .u64 ((y i : Nat) : Int)) rfl rfl (by kernel_rfl) (by kernel_rfl) (by kernel_rfl) (by kernel_rfl) (fun _ _ _ h => by cases h.1) (by rfl) (fun W' hb => ?_) HS0 ?_
                  · have c := HLY.out W' hb; go_simp
                  simp only [List.setIfInBounds_toArray, List.set_cons_zero, List.set_cons_succ]
                  obtain ⟨x1, u1, y1, v1, ra1, rb1, hu1, ht1⟩ := hT0.both1 (by omega) (by omega) 1 1 (z i) (y i)
                  obtain ⟨x2, u2, y2, v2, ra2, rb2, hu2, ht2⟩ := hT0.both2 (by omega) (by omega) 1 1 (z i) (y i)
                  obtain ⟨x3, u3, y3, v3, ra3, rb3, hu3, ht3⟩ := hT0.both3 (by omega) (by omega) 1 1 (z i) (y i)
                  have HSA : Below w.heap.size w (w0.alloc (.cells #[.int .u64 ((z i : Nat) : Int)] 23)) := HS0.trans ((below_box _ _).mono HS0.size)
                  have HSB : Below w.heap.size w (w0.alloc (.cells #[.int .u64 ((y i : Nat) : Int)] 23)) := HS0.trans ((below_box _ _).mono HS0.size)
                  refine RK.Any.each [5, 12] (by kernel_rfl) (by simp) fun e he => ?_
                  simp only [List.mem_cons, List.not_mem_nil, or_false] at he
                  rcases he with rfl | rfl
                  · refine RK.wpOp_exec (t := 58) (v := .slice (some ⟨w0.heap.size, 0, none⟩) 1 1) (w1 := w0.alloc (.cells #[.int .u64 ((z i : Nat) : Int)] 23)) rfl rfl (by rfl) (by go_simp) ⟨fun _ => HSA, ?_⟩
                    simp only [List.setIfInBounds_toArray, List.set_cons_zero, List.set_cons_succ]
                    refine RK.Any.each [6, 12] (by kernel_rfl) (by simp) fun e he => ?_
                    simp only [List.mem_cons, List.not_mem_nil, or_false] at he
                    rcases he with rfl | rfl
                    · refine RK.wpOp_exec (t := 59) (v := x1) (w1 := u1) rfl rfl (by rfl) (RK.exec_append _ _ _ _ rfl _ _ rfl rfl ra1) ⟨fun _ => hu1, ?_⟩
                      simp only [List.setIfInBounds_toArray, List.set_cons_zero, List.set_cons_succ]
                      refine RK.Any.exec 12 65 (.slice (some ⟨u1.heap.size, 0, none⟩) 1 1) (w1 := u1.alloc (.cells #[.int .u64 ((y i : Nat) : Int)] 23)) (by kernel_rfl) rfl rfl (by rfl) (by go_simp) (hu1.trans ((below_box _ _).mono hu1.size)) ?_
                      simp only [List.setIfInBounds_toArray, List.set_cons_zero, List.set_cons_succ]
                      refine RK.Any.exec 13 66 y1 (w1 := v1) (by kernel_rfl) rfl rfl (by rfl) (RK.exec_append _ _ _ _ rfl _ _ rfl rfl rb1) ht1.one.below ?_
                      simp only [List.setIfInBounds_toArray, List.set_cons_zero, List.set_cons_succ]
                      refine RK.Any.take 14 8 (x1) rfl rfl (by kernel_rfl) (by kernel_rfl) (by kernel_rfl) (by kernel_rfl) (fun _ _ _ h => by cases h.1) (by rfl) (fun W' hb => ?_) ht1.one.below ?_
                      · skip; go_simp
                      simp only [List.setIfInBounds_toArray, List.set_cons_zero, List.set_cons_succ]
                      refine RK.Any.take 15 9 (y1) rfl rfl (by kernel_rfl) (by kernel_rfl) (by kernel_rfl) (by kernel_rfl) (fun _ _ _ h => by cases h.1) (by rfl) (fun W' hb => ?_) ht1.one.below ?_
                      · skip; go_simp
                      simp only [List.setIfInBounds_toArray, List.set_cons_zero, List.set_cons_succ]
                      refine RK.Any.done (by kernel_rfl) ?_
                      exact ⟨rfl, _, _, _, _, ht1, rfl⟩
                    · refine RK.wpOp_exec (t := 65) (v := .slice (some ⟨w0.heap.size + 1, 0, none⟩) 1 1) (w1 := (w0.alloc (.cells #[.int .u64 ((z i : Nat) : Int)] 23)).alloc (.cells #[.int .u64 ((y i : Nat) : Int)] 23)) rfl rfl (by rfl) (by go_simp) ⟨fun _ => HSA.trans ((below_box _ _).mono HSA.size), ?_⟩
                      simp only [List.setIfInBounds_toArray, List.set_cons_zero, List.set_cons_succ]
                      refine RK.Any.exec 6 59 x2 (w1 := u2) (by kernel_rfl) rfl rfl (by rfl) (RK.exec_append _ _ _ _ rfl _ _ rfl rfl ra2) hu2 ?_
                      simp only [List.setIfInBounds_toArray, List.set_cons_zero, List.set_cons_succ]
                      refine RK.Any.exec 13 66 y2 (w1 := v2) (by kernel_rfl) rfl rfl (by rfl) (RK.exec_append _ _ _ _ rfl _ _ rfl rfl rb2) ht2.one.below ?_
                      simp only [List.setIfInBounds_toArray, List.set_cons_zero, List.set_cons_succ]
                      refine RK.Any.take 14 8 (x2) rfl rfl (by kernel_rfl) (by kernel_rfl) (by kernel_rfl) (by kernel_rfl) (fun _ _ _ h => by cases h.1) (by rfl) (fun W' hb => ?_) ht2.one.below ?_
                      · skip; go_simp
                      simp only [List.setIfInBounds_toArray, List.set_cons_zero, List.set_cons_succ]
                      refine RK.Any.take 15 9 (y2) rfl rfl (by kernel_rfl) (by kernel_rfl) (by kernel_rfl) (by kernel_rfl) (fun _ _ _ h => by cases h.1) (by rfl) (fun W' hb => ?_) ht2.one.below ?_
                      · skip; go_simp
                      simp only [List.setIfInBounds_toArray, List.set_cons_zero, List.set_cons_succ]
                      refine RK.Any.done (by kernel_rfl) ?_
                      exact ⟨rfl, _, _, _, _, ht2, rfl⟩
                  · refine RK.wpOp_exec (t := 65) (v := .slice (some ⟨w0.heap.size, 0, none⟩) 1 1) (w1 := w0.alloc (.cells #[.int .u64 ((y i : Nat) : Int)] 23)) rfl rfl (by rfl) (by go_simp) ⟨fun _ => HSB, ?_⟩
                    simp only [List.setIfInBounds_toArray, List.set_cons_zero, List.set_cons_succ]
                    refine RK.Any.exec 5 58 (.slice (some ⟨w0.heap.size + 1, 0, none⟩) 1 1) (w1 := (w0.alloc (.cells #[.int .u64 ((y i : Nat) : Int)] 23)).alloc (.cells #[.int .u64 ((z i : Nat) : Int)] 23)) (by kernel_rfl) rfl rfl (by rfl) (by go_simp) (HSB.trans ((below_box _ _).mono HSB.size)) ?_
                    simp only [List.setIfInBounds_toArray, List.set_cons_zero, List.set_cons_succ]
                    refine RK.Any.exec 6 59 x3 (w1 := u3) (by kernel_rfl) rfl rfl (by rfl) (RK.exec_append _ _ _ _ rfl _ _ rfl rfl ra3) hu3 ?_
                    simp only [List.setIfInBounds_toArray, List.set_cons_zero, List.set_cons_succ]
                    refine RK.Any.exec 13 66 y3 (w1 := v3) (by kernel_rfl) rfl rfl (by rfl) (RK.exec_append _ _ _ _ rfl _ _ rfl rfl rb3) ht3.one.below ?_
                    simp only [List.setIfInBounds_toArray, List.set_cons_zero, List.set_cons_succ]
                    refine RK.Any.take 14 8 (x3) rfl rfl (by kernel_rfl) (by kernel_rfl) (by kernel_rfl) (by kernel_rfl) (fun _ _ _ h => by cases h.1) (by rfl) (fun W' hb => ?_) ht3.one.below ?_
                    · skip; go_simp
                    simp only [List.setIfInBounds_toArray, List.set_cons_zero, List.set_cons_succ]
                    refine RK.Any.take 15 9 (y3) rfl rfl (by kernel_rfl) (by kernel_rfl) (by kernel_rfl) (by kernel_rfl) (fun _ _ _ h => by cases h.1) (by rfl) (fun W' hb => ?_) ht3.one.below ?_
                    · skip; go_simp
                    simp only [List.setIfInBounds_toArray, List.set_cons_zero, List.set_cons_succ]
                    refine RK.Any.done (by kernel_rfl) ?_
                    exact ⟨rfl, _, _, _, _, ht3, rfl⟩
                rintro a1 W7 ⟨p1, p2, x7, y7, ht7, rfl⟩
                simp only [List.setIfInBounds_toArray, List.set_cons_zero, List.set_cons_succ]
                obtain ⟨ao7, ca7, rfl, _⟩ := ht7.one.rd
                obtain ⟨bo7, cb7, rfl, _⟩ := ht7.two.rd
                have HNX : Hid (PtsAt q w (.slice ao7 (j + 1) ca7) (.slice bo7 (j + 1) cb7) (j + 1) W7) := Lib.hid (PtsAt.more ht7 HF.out HG.out (HZ.out i) (HV.out i) HD.out HN.out)
                clear ht7
                go_wp2_with fail
                go_roundw
                case rel => exact ⟨i + 1, j + 1, by omega, by omega, by omega, ⟨_, _, rfl⟩, ⟨_, _, rfl⟩, by go_num, HNX⟩
                case measure => simp [RowKit.intOf]; omega
        · have h3I : ¬ (k : Int) < 7 := by omega
          go_wp2_with fail
          go_ret2
          exact HP.out
      · have h2I : ¬ (i : Int) < (m : Int) := by omega
        go_wp2_with fail
        go_ret2
        exact HP.out
    · have h1I : ¬ (i : Int) < (n : Int) := by omega
      go_wp2_with fail
      go_ret2
      exact HP.out
end M
end Go.Proofs.YtaogdhpiiclejaaDoor

/- RobP3: RobustWithout and RobustFits: the maths; a row without one of its numbers, as two appends make it. -/
namespace Go.Proofs.YtaogdhpiiclejaaDoor
open Go Go.RowKit Go.Lib
namespace MM
theorem skip_up {out k i : Nat} (h : k < i) : skip out k < skip out i := by
  unfold skip
  by_cases h1 : i < out
  · rw [if_pos h1, if_pos (by omega)]; exact h
  · rw [if_neg h1]; split <;> omega
theorem skip_lt {out i n : Nat} (h : i < n - 1) : skip out i < n := by
  unfold skip; split <;> omega
theorem un_of_err {q n m : Nat} {t : Int} {z : Nat → Nat} (h : decErr q t n m z = 0) : Good q ∧ ∀ i k, i < n → k < i → Un q ((z i : Int) - z k) := by
  obtain ⟨hp, _, _, _, _, _, hN⟩ := M.decErr_none h
  have hq := M.good_of_prime hp
  exact ⟨hq, (noAll_iff hq n).1 hN⟩
/-- A point that is missed is none of the set's. -/
theorem miss_not {q t n out : Nat} (hq : Good q) {z y : Nat → Nat} (hU : ∀ i k, i < n → k < i → Un q ((z i : Int) - z k)) {s : List Nat} (hs : (setsF (2 * t + 1) 0 n).find? (fitB q t z y) = some s) (hm : out ∈ missL q (t + 1) n z y (thruU q (pick z s) (pick y s) s.length)) : out ∉ s := fun hg => by
  have h1 := fit_at hq hU (List.mem_of_find?_eq_some hs) (List.find?_some hs) out hg
  have h2 := (List.mem_filter.1 hm).2
  rw [h1] at h2
  simp at h2
theorem without_told {q t n out : Nat} {z y : Nat → Nat} (h7 : 7 < q) (hE : decErr q t n n z = 0) {s : List Nat} (hs : (setsF (2 * t + 1) 0 n).find? (fitB q t z y) = some s) (hm : out ∈ missL q (t + 1) n z y (thruU q (pick z s) (pick y s) s.length)) :
    ∃ s1, decErr q t (n - 1) (n - 1) (fun i => z (skip out i)) = 0 ∧ (setsF (2 * t + 1) 0 (n - 1)).find? (fitB q t (fun i => z (skip out i)) (fun i => y (skip out i))) = some s1 ∧
      (∀ k, thruU q (pick (fun i => z (skip out i)) s1) (pick (fun i => y (skip out i)) s1) s1.length k = thruU q (pick z s) (pick y s) s.length k) ∧
      missL q (t + 1) (n - 1) (fun i => z (skip out i)) (fun i => y (skip out i)) (thruU q (pick (fun i => z (skip out i)) s1) (pick (fun i => y (skip out i)) s1) s1.length) = (missL q (t + 1) n z y (thruU q (pick z s) (pick y s) s.length)).filterMap (back out) := by
  obtain ⟨hq, hU⟩ := un_of_err hE
  obtain ⟨hp, ht0, ht2, _, hn, _, _⟩ := M.decErr_none hE
  have ho : out < n := by
    have := (List.mem_filter.1 hm).1
    simpa using this
  obtain ⟨s1, h1, h2⟩ := find_skip (by omega) (by omega) ho hs (miss_not hq hU hs hm)
  have h3 := thru_skip q z y out s1
  rw [h2] at h3
  refine ⟨s1, decErr_zero hq hp h7 (by omega) (by omega) fun i k hi hk => hU _ _ (skip_lt hi) (skip_up hk), h1, fun k => by rw [h3], ?_⟩
  rw [h3]
  exact missL_skip (by omega) ho z y _
/-- The points that a polynomial hits. -/
def hitL (q m n : Nat) (z y c : Nat → Nat) : List Nat := (List.range n).filter fun i => evalU c (z i) q m == y i % q
theorem hit_many {q t n : Nat} (hq : Good q) {z y : Nat → Nat} (hU : ∀ i k, i < n → k < i → Un q ((z i : Int) - z k)) {s : List Nat} (hs : (setsF (2 * t + 1) 0 n).find? (fitB q t z y) = some s) :
    2 * t + 1 ≤ (hitL q (t + 1) n z y (thruU q (pick z s) (pick y s) s.length)).length := by
  obtain ⟨h1, h2, h3⟩ := (mem_sets _ _ _ _).1 (List.mem_of_find?_eq_some hs)
  have hsub : List.Sublist s (List.range n) := by
    rw [List.range_eq_range']
    exact incr_sub n 0 s h2 fun x hx => by have := h3 x hx; omega
  have hf := hsub.filter fun i => evalU (thruU q (pick z s) (pick y s) s.length) (z i) q (t + 1) == y i % q
  have he : s.filter (fun i => evalU (thruU q (pick z s) (pick y s) s.length) (z i) q (t + 1) == y i % q) = s := List.filter_eq_self.2 fun g hg => by
    have := fit_at hq hU (List.mem_of_find?_eq_some hs) (List.find?_some hs) g hg
    simpa using this
  rw [he] at hf
  have := hf.length_le
  unfold hitL
  omega
theorem hit_miss (q m n : Nat) (z y c : Nat → Nat) : (hitL q m n z y c).length + (missL q m n z y c).length = n := by
  have h := count_split (fun i => evalU c (z i) q m == y i % q) (List.range n)
  rw [List.length_range] at h
  exact h
end MM
namespace M
theorem zlist_skip (f : Nat → Nat) {out k : Nat} (h : out < k) : zlist out f ++ zlist (k - (out + 1)) (fun i => f (out + 1 + i)) = zlist (k - 1) (fun i => f (MM.skip out i)) := by
  apply List.ext_getElem?
  intro i
  by_cases h1 : i < out
  · rw [List.getElem?_append_left (by simp [zlist]; exact h1), zlist_get h1, zlist_get (by omega), show MM.skip out i = i from if_pos h1]
  · rw [List.getElem?_append_right (by simp [zlist]; omega), show (zlist out f).length = out by simp [zlist]]
    by_cases h2 : i < k - 1
    · rw [zlist_get (by omega), zlist_get h2, show MM.skip out i = i + 1 from if_neg h1, show out + 1 + (i - out) = i + 1 by omega]
    · rw [List.getElem?_eq_none (by simp [zlist]; omega), List.getElem?_eq_none (by simp [zlist]; omega)]
/-- A row without one of its numbers. -/
theorem cut_run (W : World) (ad a2 : Addr) (k out c1 c2 : Nat) (f : Nat → Nat) (hk : k ≤ 1000) (ho : out < k) (h2 : k - (out + 1) ≠ 0 → a2 = ad.add (out + 1)) (h : Row W ad k f) :
    ∃ (v1 : Value) (W1 : World) (co : Option Addr) (cc : Nat) (W2 : World), (Builtin.append_ #[22, 22] 22 #[.slice (some ⟨W.heap.size, 0, none⟩) 0 0, .slice (some ad) out c1]).run Tryd.prog (W.alloc (.cells #[] 23)) = .ok v1 W1 ∧
      (Builtin.append_ #[22, 22] 22 #[v1, .slice (some a2) (k - (out + 1)) c2]).run Tryd.prog W1 = .ok (.slice co (k - 1) cc) W2 ∧ Rd W2 co (k - 1) (fun i => f (MM.skip out i)) ∧ Below W.heap.size W W1 ∧ Below W.heap.size W W2 := by
  obtain ⟨i0, hi, hz0, hz1, hz2⟩ := info_parts info_u64
  have hown : (W.alloc (.cells #[] 23)).ownsRow W.heap.size 23 1 (.slice (some ⟨W.heap.size, 0, none⟩) 0 0) 0 [] := World.ownsRow_made W #[] 0 (Nat.le_refl _) (by unfold maxLen; omega) (by simp)
  have hb0 := below_box W (.cells #[] 23)
  have hro := h.below hb0
  have hc : ∀ {V : World}, Row V ad k f → ∀ j u, (zlist out f)[j]? = some u → V.cell? (ad.add j) = some u := fun hV j u hj => by
    have hl := (List.getElem?_eq_some_iff.1 hj).1
    rw [zlist_len] at hl
    rw [zlist_get (by omega)] at hj
    rw [← hj]; exact hV j (by omega)
  have hc2 : ∀ {V : World}, Row V ad k f → ∀ j u, (zlist (k - (out + 1)) (fun i => f (out + 1 + i)))[j]? = some u → V.cell? (a2.add j) = some u := fun hV j u hj => by
    have hl := (List.getElem?_eq_some_iff.1 hj).1
    rw [zlist_len] at hl
    rw [zlist_get (by omega)] at hj
    rw [← hj, h2 (by omega), Addr.add_add]; exact hV (out + 1 + j) (by omega)
  obtain ⟨v1, W1, hr1, ho1, hg1, _⟩ := run_append_own (P := Tryd.prog) (W.alloc (.cells #[] 23)) W.heap.size 22 22 23 i0 (.int .u64 0) 1 8 Tryd.underlying22 hi hz0 hz1 hz2 rfl (by decide) _ 0 [] hown ad out c1 (zlist out f) (zlist_len out f) (hc hro) (zlist_one out f) (by unfold maxLen; omega) (by omega) (by simp)
  rw [Nat.zero_add, List.nil_append] at ho1
  have hO1 : Own W W.heap.size v1 out f W1 := ⟨ho1, by have := hb0.size; have := hg1.size; omega, Nat.le_refl _, hb0.trans ⟨hg1.os, hg1.tape, hg1.output, hg1.size, fun j hj => hg1.block j (by have := hb0.size; omega) (fun e => by simp [Value.ownBlock] at e; omega)⟩⟩
  have hr1o := h.below hO1.below
  obtain ⟨v2, W2, hr2, ho2, hg2, _⟩ := run_append_own (P := Tryd.prog) W1 W.heap.size 22 22 23 i0 (.int .u64 0) 1 8 Tryd.underlying22 hi hz0 hz1 hz2 rfl (by decide) v1 out (zlist out f) ho1 a2 (k - (out + 1)) c2 (zlist (k - (out + 1)) (fun i => f (out + 1 + i))) (zlist_len _ _) (hc2 hr1o) (zlist_one _ _) (by unfold maxLen; omega) (by omega) hO1.size
  rw [zlist_skip f ho, show out + (k - (out + 1)) = k - 1 by omega] at ho2
  have hO2 : Own W W.heap.size v2 (k - 1) (fun i => f (MM.skip out i)) W2 := ⟨ho2, Nat.le_trans hO1.size hg2.size, Nat.le_refl _, hO1.below.trans ⟨hg2.os, hg2.tape, hg2.output, hg2.size, fun j hj => hg2.block j (Nat.lt_of_lt_of_le hj hO1.size) (fun e => by have := (ho1.lt j e.symm).1; omega)⟩⟩
  obtain ⟨co, cc, rfl, _, _, hrd⟩ := hO2.rd
  exact ⟨v1, W1, co, cc, W2, hr1, hr2, hrd, hO1.below, hO2.below⟩
end M
end Go.Proofs.YtaogdhpiiclejaaDoor

/- RobP4: RobustWithout: the walk. -/
namespace Go.Proofs.YtaogdhpiiclejaaDoor
open Go Go.RowKit Go.Lib
namespace MM
theorem fm_step {l : List Nat} {j out x : Nat} (hj : j < l.length) (hx : l.getD j 0 = x) : (l.take (j + 1)).filterMap (back out) = (l.take j).filterMap (back out) ++ (back out x).toList := by
  have h : l[j]? = some x := by
    rw [List.getElem?_eq_getElem hj, ← hx, getD_at hj]
  rw [List.take_add_one, h, List.filterMap_append]
  cases e : back out x with
  | none => simp [e]
  | some b => simp [e]
theorem fm_len (l : List Nat) (j out : Nat) : ((l.take j).filterMap (back out)).length ≤ l.length := Nat.le_trans (List.length_filterMap_le _ _) (by rw [List.length_take]; omega)
end MM
namespace M
theorem OwnI.push5 {w0 w : World} {B : Nat} {v : Value} {l : List Nat} (h : OwnI w0 B v l w) (i c : Nat) (hl : l.length ≤ 1000) :
    ∃ v' w', (Builtin.append_ #[28, 28] 28 #[v, .slice (some ⟨w.heap.size, 0, none⟩) 1 c]).run Tryd.prog (w.alloc (.cells #[.int .i64 (i : Int)] 3)) = .ok v' w' ∧ OwnI w0 B v' (l ++ [i]) w' :=
  (h.alloc (.cells #[.int .i64 (i : Int)] 3)).more (l2 := [i]) c (one_set w i) (by simp; omega)
set_option maxRecDepth 100000 in
set_option maxHeartbeats 2000000 in
theorem without_core (xo yo : Option Addr) (n m cx cy t0 nq : Nat) (which : Int) (z y : Nat → Nat) (ht0 : t0 < 256) (hnq : nq < 18446744073709551616) (hz : ∀ k, z k < 18446744073709551616) (hy : ∀ k, y k < 18446744073709551616) (hn : n ≤ 60) (hm : m ≤ 60) (W : World) (hL : Laid W) (hx : Rd W xo n z) (hv : Rd W yo m y) :
    Calls Tryd.prog 4 #[.slice xo n cx, .slice yo m cy, .int .u8 (t0 : Int), .int .u64 (nq : Int), .int .i64 which] W fun e w' => e = .returned (.bool true) ∧ Below W.heap.size W w' := by
  have HAW := Lib.hid (awake_true W hL)
  have HPR := Lib.hid (fun w (h : St W w) => prime_pick nq hnq w h.laid)
  have HX := Lib.hid hx
  have HY := Lib.hid hv
  have HZ := Lib.hid hz
  have HV := Lib.hid hy
  have hnI : ¬ (60 : Int) < (n : Int) := by omega
  have hmI : ¬ (60 : Int) < (m : Int) := by omega
  obtain ⟨t, ht⟩ : ∃ t, t0 % 3 = t := ⟨_, rfl⟩
  have ht2 : t ≤ 2 := by omega
  have htI : (t0 : Int) % 3 = (t : Int) := by omega
  have HS0 := Lib.hid (St.start hL)
  clear hx hv hz hy hL
  go_enter Tryd.func4, Tryd.ntmps4
  go_upto_region 3 with (go_at_call 5; refine HAW.out.mono ?_; rintro e w1 ⟨rfl, b1⟩)
  go_upto_region 4 with (go_at_call 6; refine (HPR.out _ (HS0.out.step b1)).mono ?_; rintro e w2 ⟨p, rfl, hp, h7, b2⟩)
  have HS2 := Lib.hid ((HS0.out.step b1).step b2)
  have hq := good_of_prime hp
  have HPT := Lib.hid (points_any xo yo n m cx cy p z y HZ.out HV.out (by omega) hq.1 w2 (HX.out.below HS2.out.below) (HY.out.below HS2.out.below))
  have H7 := Lib.hid h7
  clear b1 b2 HS0 HPR HAW hnI hmI HX HY hp h7 hq
  go_upto_region 5 with (go_at_call 7; refine HPT.out.mono ?_; rintro e w3 ⟨ao, bo, k, ca, cb, f, g, rfl, hk7, hka, hkb, hf, hg, hfl, hgl, hun, b3⟩)
  have HS3 := Lib.hid (HS2.out.step b3)
  have HF := Lib.hid hf
  have HG := Lib.hid hg
  have HFL := Lib.hid hfl
  have HGL := Lib.hid hgl
  have HUN := Lib.hid hun
  have HDC := Lib.hid (decode_any ao bo k k ca cb p t f g hfl hgl w3 HS3.out.laid hf hg)
  clear b3 hf hg hfl hgl hun HS2 HPT
  go_upto_region 6 with (go_at_call 8; refine HDC.out.mono ?_; rintro e w4 ⟨vc, vw, ec, rfl, hd⟩)
  rcases hd with ⟨h0, rfl, rfl, rfl, b4⟩ | ⟨h0, b4, hT⟩
  · generalize MM.decErr p (t : Int) k k f = er at *
    have h0I : (er != 0) = true := by simpa using h0
    go_wp2_with fail
    go_ret
    exact ⟨rfl, (HS3.out.step b4).below⟩
  have HS4 := Lib.hid (HS3.out.step b4)
  have HB4 := Lib.hid b4
  rw [show ((t : Int)).toNat = t by omega] at hT
  cases hf : (MM.setsF (2 * t + 1) 0 k).find? (MM.fitB p t f g) with
  | none =>
    rw [hf] at hT
    obtain ⟨rfl, rfl, rfl⟩ := hT
    clear hf HDC h0 b4
    go_wp2_with fail
    go_ret
    exact ⟨rfl, HS4.out.below⟩
  | some s =>
    rw [hf] at hT
    obtain ⟨rfl, ⟨B, rfl, _, hrow⟩, hv⟩ := hT
    have HFI := Lib.hid hf
    have HE := Lib.hid h0
    have hrd : Rd w4 (some ⟨B, 0, none⟩) (t + 1) (MM.thruU p (MM.pick f s) (MM.pick g s) s.length) := fun _ => ⟨_, rfl, hrow⟩
    have HC := Lib.hid hrd
    obtain ⟨l, hl⟩ : ∃ l, MM.missL p (t + 1) k f g (MM.thruU p (MM.pick f s) (MM.pick g s) s.length) = l := ⟨_, rfl⟩
    have hll := MM.missL_len p (t + 1) k f g (MM.thruU p (MM.pick f s) (MM.pick g s) s.length)
    rw [hl] at hv hll
    have HLL := Lib.hid hl
    obtain ⟨wo, wc, rfl, hi⟩ := hv.ird
    have HI := Lib.hid hi
    clear hf h0 hrow hrd hl hv hi HDC b4
    obtain ⟨u, hu⟩ : ∃ u, l.length = u := ⟨_, rfl⟩
    rw [hu] at hll ⊢
    have HU := Lib.hid hu
    clear hu
    by_cases hu0 : u = 0
    · subst hu0
      go_wp2_with fail
      go_ret
      exact ⟨rfl, HS4.out.below⟩
    have hu0I : ((u : Int) == 0) = false := by simp; omega
    go_upto_region 8 with fail
    have huI : IntKind.u64.wrap (u : Int) = (u : Int) := IntWalk.u64_in _ (by omega)
    obtain ⟨r, hrI, hru⟩ : ∃ r : Nat, wrap64 ((IntKind.u64.wrap which).tmod (u : Int)) = (r : Int) ∧ r < u := by
      have hX : 0 ≤ IntKind.u64.wrap which := by
        show 0 ≤ which % 18446744073709551616
        exact Int.emod_nonneg _ (by decide)
      have h0 := Int.emod_nonneg (IntKind.u64.wrap which) (show (u : Int) ≠ 0 by omega)
      have h1 := Int.emod_lt_of_pos (IntKind.u64.wrap which) (show (0 : Int) < (u : Int) by omega)
      rw [Int.tmod_eq_emod_of_nonneg hX]
      generalize IntKind.u64.wrap which % (u : Int) = r at *
      rw [IntWalk.wrap64_in r (by omega)]
      exact ⟨r.toNat, by omega, by omega⟩
    obtain ⟨ad, rfl, hcr⟩ := HI.out r (by rw [HU.out]; exact hru)
    obtain ⟨out, ho⟩ : ∃ out, l.getD r 0 = out := ⟨_, rfl⟩
    rw [ho] at hcr
    have hmem : out ∈ l := by
      rw [← ho, MM.getD_at (show r < l.length by rw [HU.out]; exact hru)]
      exact List.getElem_mem _
    have hok : out < k := by
      rw [← HLL.out] at hmem
      simpa using (List.mem_filter.1 hmem).1
    have HM := Lib.hid hmem
    have hr0 : (0 : Int) ≤ (r : Int) := Int.natCast_nonneg _
    have hrI2 : (r : Int) < (u : Int) := by omega
    have HJ : Hid (OwnI w4 w4.heap.size (.slice none 0 0) ((l.take 0).filterMap (MM.back out)) w4) := Lib.hid (OwnI.start w4)
    clear hmem ho
    go_upto_region 9 with fail
    clear hrI hcr hru hr0 hrI2 huI
    go_upto_region 11 with fail
    go_loopw [17, 75] (fun s17 s75 wx => ∃ j : Nat, j ≤ u ∧ s75 = .int .i64 (j : Int) ∧ Hid (OwnI w4 w4.heap.size s17 ((l.take j).filterMap (MM.back out)) wx)) (fun _ s75 _ => u - (RowKit.intOf s75).toNat)
    case atStart => exact ⟨0, Nat.zero_le _, rfl, HJ⟩
    case round =>
      clear HJ
      obtain ⟨j, hj, rfl, HO⟩ := hrel
      have hj0 : (0 : Int) ≤ (j : Int) := Int.natCast_nonneg _
      by_cases hlt : j < u
      · have hjI : (j : Int) < (u : Int) := by omega
        obtain ⟨x, hx⟩ : ∃ x, l.getD j 0 = x := ⟨_, rfl⟩
        obtain ⟨ad2, e, hcx⟩ := HI.out j (by rw [HU.out]; exact hlt)
        cases e
        rw [hx] at hcx
        have hcw : wr.cell? (ad.add j) = some (.int .i64 (x : Int)) := (HO.out.below.cell (World.block_lt_of_cell? _ _ hcx)).trans hcx
        have HST := Lib.hid (MM.fm_step (out := out) (show j < l.length by rw [HU.out]; exact hlt) hx)
        have HLN := Lib.hid (show ((l.take j).filterMap (MM.back out)).length ≤ 1000 from Nat.le_trans (MM.fm_len l j out) (by rw [HU.out]; omega))
        have hxk : x < k := by
          have hm : x ∈ l := by
            rw [← hx, MM.getD_at (show j < l.length by rw [HU.out]; exact hlt)]
            exact List.getElem_mem _
          rw [← HLL.out] at hm
          simpa using (List.mem_filter.1 hm).1
        clear hx hcx
        by_cases hxo : x < out
        · have hxI : (x : Int) < (out : Int) := by omega
          have hxI2 : ¬ (out : Int) < (x : Int) := by omega
          obtain ⟨v2, w2, hr2, ho2⟩ := HO.out.push5 x 1 HLN.out
          have hs2 := HST.out
          rw [show MM.back out x = some x from if_pos hxo] at hs2
          have HN : Hid (OwnI w4 w4.heap.size v2 ((l.take (j + 1)).filterMap (MM.back out)) w2) := Lib.hid (by rw [hs2]; exact ho2)
          clear ho2 hs2 HST HLN HO
          go_wp2_with (at_builtin; refine Lib.wpList_append_run _ rfl _ _ _ _ rfl _ _ rfl rfl _ _ hr2 ?_)
          go_roundw
          case rel => exact ⟨j + 1, by omega, by go_num, HN⟩
          case measure => simp [RowKit.intOf]; omega
        · have hxI : ¬ (x : Int) < (out : Int) := by omega
          by_cases hox : out < x
          · have hxI2 : (out : Int) < (x : Int) := by omega
            obtain ⟨v2, w2, hr2, ho2⟩ := HO.out.push5 (x - 1) 1 HLN.out
            have hs2 := HST.out
            rw [show MM.back out x = some (x - 1) by unfold MM.back; rw [if_neg hxo, if_pos hox]] at hs2
            have HN : Hid (OwnI w4 w4.heap.size v2 ((l.take (j + 1)).filterMap (MM.back out)) w2) := Lib.hid (by rw [hs2]; exact ho2)
            have hx1 : (x : Int) - 1 = ((x - 1 : Nat) : Int) := by omega
            rw [← hx1] at hr2
            clear ho2 hs2 HST HLN HO hx1
            go_wp2_with (at_builtin; refine Lib.wpList_append_run _ rfl _ _ _ _ rfl _ _ rfl rfl _ _ hr2 ?_)
            go_roundw
            case rel => exact ⟨j + 1, by omega, by go_num, HN⟩
            case measure => simp [RowKit.intOf]; omega
          · have hxI2 : ¬ (out : Int) < (x : Int) := by omega
            have hs2 := HST.out
            rw [show MM.back out x = none by unfold MM.back; rw [if_neg hxo, if_neg hox]] at hs2
            have HN : Hid (∀ v, OwnI w4 w4.heap.size v ((l.take j).filterMap (MM.back out)) wr → OwnI w4 w4.heap.size v ((l.take (j + 1)).filterMap (MM.back out)) wr) := Lib.hid fun v h => by rw [hs2]; simpa using h
            clear hs2 HST HLN
            go_wp2_with fail
            go_roundw
            case rel => exact ⟨j + 1, by omega, by go_num, Lib.hid (HN.out _ HO.out)⟩
            case measure => simp [RowKit.intOf]; omega
      · have hjI : ¬ (j : Int) < (u : Int) := by omega
        obtain rfl : j = u := by omega
        rw [show l.take j = l by rw [← HU.out]; exact List.take_length] at HO
        obtain ⟨so, sc, rfl, hos⟩ := (HO.out.setV).ird
        have HOS := Lib.hid hos
        have HS5 := Lib.hid (HS4.out.step HO.out.below)
        have HB5 := Lib.hid HO.out.below
        clear HO hos hlt hj
        obtain ⟨af, rfl, hrf⟩ := HF.out (show 0 < k by omega)
        obtain ⟨ag, rfl, hrg⟩ := HG.out (show 0 < k by omega)
        have HRF := Lib.hid (hrf.below (HB4.out.trans (HB5.out.mono HB4.out.size)))
        have HRG := Lib.hid (hrg.below (HB4.out.trans (HB5.out.mono HB4.out.size)))
        have hoI : (out : Int) < (k : Int) := by omega
        have ho0 : (0 : Int) ≤ (out : Int) := Int.natCast_nonneg _
        obtain ⟨a2, ha2, hl2⟩ : ∃ a2 : Addr, (if ca = out + 1 then some af else some (⟨af.block, af.off + (out + 1), none⟩ : Addr)) = some a2 ∧ (k - (out + 1) ≠ 0 → a2 = af.add (out + 1)) := by
          by_cases hcc : ca = out + 1
          · exact ⟨af, if_pos hcc, fun h => by omega⟩
          · exact ⟨_, if_neg hcc, fun _ => by unfold Addr.add; rw [if_neg (by omega)]⟩
        obtain ⟨b2, hb2, hm2⟩ : ∃ a2 : Addr, (if cb = out + 1 then some ag else some (⟨ag.block, ag.off + (out + 1), none⟩ : Addr)) = some a2 ∧ (k - (out + 1) ≠ 0 → a2 = ag.add (out + 1)) := by
          by_cases hcc : cb = out + 1
          · exact ⟨ag, if_pos hcc, fun h => by omega⟩
          · exact ⟨_, if_neg hcc, fun _ => by unfold Addr.add; rw [if_neg (by omega)]⟩
        have HLA := Lib.hid hl2
        have HLB := Lib.hid hm2
        have HA2 := Lib.hid ha2
        have HB2 := Lib.hid hb2
        clear hrf hrg hl2 hm2 ha2 hb2
        go_upto_region 18 with fail
        refine RK.cut (fun a a' V => ∃ p1 v1 co cc, Rd V co (k - 1) (fun i => f (MM.skip out i)) ∧ Below wr.heap.size wr V ∧ a' = { a with tmps := (((((((((((a.tmps.setIfInBounds 96 (.slice (some af) k ca)).setIfInBounds 97 (.int .i64 (out : Int))).setIfInBounds 98 (.slice (some af) out ca)).setIfInBounds 100 (.slice (some af) k ca)).setIfInBounds 101 (.int .i64 (out : Int))).setIfInBounds 102 (.int .i64 ((out : Int) + 1))).setIfInBounds 103 (.slice (some a2) (k - (out + 1)) (ca - (out + 1)))).setIfInBounds 95 (.slice (some ⟨p1, 0, none⟩) 0 0)).setIfInBounds 99 v1).setIfInBounds 104 (.slice co (k - 1) cc)).setIfInBounds 20 (.slice co (k - 1) cc)) }) (RK.region (Below wr.heap.size wr) 100 (by kernel_rfl) ?_) ?_
        · have HS0 : Below wr.heap.size wr wr.drew := below_drewN' wr 1 _
          refine RK.Any.take 1 96 (.slice (some af) k ca) rfl rfl (by kernel_rfl) (by kernel_rfl) (by kernel_rfl) (by kernel_rfl) (fun _ _ _ h => by cases h.1) (by rfl) (fun W' hb => ?_) HS0 ?_
          · skip; go_simp
          simp only [List.setIfInBounds_toArray, List.set_cons_zero, List.set_cons_succ]
          refine RK.Any.take 2 97 (.int .i64 (out : Int)) rfl rfl (by kernel_rfl) (by kernel_rfl) (by kernel_rfl) (by kernel_rfl) (fun _ _ _ h => by cases h.1) (by rfl) (fun W' hb => ?_) HS0 ?_
          · skip; go_simp
          simp only [List.setIfInBounds_toArray, List.set_cons_zero, List.set_cons_succ]
          refine RK.Any.take 3 98 (.slice (some af) out ca) rfl rfl (by kernel_rfl) (by kernel_rfl) (by kernel_rfl) (by kernel_rfl) (fun _ _ _ h => by cases h.1) (by rfl) (fun W' hb => ?_) HS0 ?_
          · skip; go_simp
            intro h; omega
          simp only [List.setIfInBounds_toArray, List.set_cons_zero, List.set_cons_succ]
          refine RK.Any.take 5 100 (.slice (some af) k ca) rfl rfl (by kernel_rfl) (by kernel_rfl) (by kernel_rfl) (by kernel_rfl) (fun _ _ _ h => by cases h.1) (by rfl) (fun W' hb => ?_) HS0 ?_
          · skip; go_simp
          simp only [List.setIfInBounds_toArray, List.set_cons_zero, List.set_cons_succ]
          refine RK.Any.take 6 101 (.int .i64 (out : Int)) rfl rfl (by kernel_rfl) (by kernel_rfl) (by kernel_rfl) (by kernel_rfl) (fun _ _ _ h => by cases h.1) (by rfl) (fun W' hb => ?_) HS0 ?_
          · skip; go_simp
          simp only [List.setIfInBounds_toArray, List.set_cons_zero, List.set_cons_succ]
          refine RK.Any.take 7 102 (.int .i64 ((out : Int) + 1)) rfl rfl (by kernel_rfl) (by kernel_rfl) (by kernel_rfl) (by kernel_rfl) (fun _ _ _ h => by cases h.1) (by rfl) (fun W' hb => ?_) HS0 ?_
          · skip; go_simp
            exact IntWalk.i64_in _ (by omega)
          simp only [List.setIfInBounds_toArray, List.set_cons_zero, List.set_cons_succ]
          refine RK.Any.take 8 103 (.slice (some a2) (k - (out + 1)) (ca - (out + 1))) rfl rfl (by kernel_rfl) (by kernel_rfl) (by kernel_rfl) (by kernel_rfl) (fun _ _ _ h => by cases h.1) (by rfl) (fun W' hb => ?_) HS0 ?_
          · skip; go_simp
            rw [if_pos ⟨by omega, by omega⟩, HA2.out]
          simp only [List.setIfInBounds_toArray, List.set_cons_zero, List.set_cons_succ]
          generalize wr.drew = w0 at *
          have hrow := HRF.out.below HS0
          obtain ⟨v1, V1, co, cc, V2, r1, r2, hrd, bb1, bb2⟩ := cut_run w0 af a2 k out ca (ca - (out + 1)) f (by omega) hok HLA.out hrow
          have HS1 : Below wr.heap.size wr (w0.alloc (.cells #[] 23)) := HS0.trans ((below_box _ _).mono HS0.size)
          have HS2 : Below wr.heap.size wr V1 := HS0.trans (bb1.mono HS0.size)
          have HS3 : Below wr.heap.size wr V2 := HS0.trans (bb2.mono HS0.size)
          refine RK.Any.exec 0 95 (.slice (some ⟨w0.heap.size, 0, none⟩) 0 0) (w1 := w0.alloc (.cells #[] 23)) (by kernel_rfl) rfl rfl (by rfl) (by go_simp) HS1 ?_
          simp only [List.setIfInBounds_toArray, List.set_cons_zero, List.set_cons_succ]
          refine RK.Any.exec 4 99 v1 (w1 := V1) (by kernel_rfl) rfl rfl (by rfl) (RK.exec_append _ _ _ _ rfl _ _ rfl rfl r1) HS2 ?_
          simp only [List.setIfInBounds_toArray, List.set_cons_zero, List.set_cons_succ]
          refine RK.Any.exec 9 104 (.slice co (k - 1) cc) (w1 := V2) (by kernel_rfl) rfl rfl (by rfl) (RK.exec_append _ _ _ _ rfl _ _ rfl rfl r2) HS3 ?_
          simp only [List.setIfInBounds_toArray, List.set_cons_zero, List.set_cons_succ]
          refine RK.Any.take 10 20 (.slice co (k - 1) cc) rfl rfl (by kernel_rfl) (by kernel_rfl) (by kernel_rfl) (by kernel_rfl) (fun _ _ _ h => by cases h.1) (by rfl) (fun W' hb => ?_) HS3 ?_
          · skip; go_simp
          simp only [List.setIfInBounds_toArray, List.set_cons_zero, List.set_cons_succ]
          refine RK.Any.done (by kernel_rfl) ?_
          exact ⟨rfl, _, _, _, _, hrd, HS3, rfl⟩
        rintro a1 W6 ⟨p1, v1, xo6, xc6, hx6, hb6, rfl⟩
        simp only [List.setIfInBounds_toArray, List.set_cons_zero, List.set_cons_succ]
        have HX6 := Lib.hid hx6
        have HB6 := Lib.hid hb6
        clear hx6 hb6 HRF HLA HA2
        go_upto_region 19 with fail
        refine RK.cut (fun a a' V => ∃ p1 v1 co cc, Rd V co (k - 1) (fun i => g (MM.skip out i)) ∧ Below W6.heap.size W6 V ∧ a' = { a with tmps := (((((((((((a.tmps.setIfInBounds 106 (.slice (some ag) k cb)).setIfInBounds 107 (.int .i64 (out : Int))).setIfInBounds 108 (.slice (some ag) out cb)).setIfInBounds 110 (.slice (some ag) k cb)).setIfInBounds 111 (.int .i64 (out : Int))).setIfInBounds 112 (.int .i64 ((out : Int) + 1))).setIfInBounds 113 (.slice (some b2) (k - (out + 1)) (cb - (out + 1)))).setIfInBounds 105 (.slice (some ⟨p1, 0, none⟩) 0 0)).setIfInBounds 109 v1).setIfInBounds 114 (.slice co (k - 1) cc)).setIfInBounds 21 (.slice co (k - 1) cc)) }) (RK.region (Below W6.heap.size W6) 110 (by kernel_rfl) ?_) ?_
        · have HS0 : Below W6.heap.size W6 W6.drew := below_drewN' W6 1 _
          refine RK.Any.take 1 106 (.slice (some ag) k cb) rfl rfl (by kernel_rfl) (by kernel_rfl) (by kernel_rfl) (by kernel_rfl) (fun _ _ _ h => by cases h.1) (by rfl) (fun W' hb => ?_) HS0 ?_
          · skip; go_simp
          simp only [List.setIfInBounds_toArray, List.set_cons_zero, List.set_cons_succ]
          refine RK.Any.take 2 107 (.int .i64 (out : Int)) rfl rfl (by kernel_rfl) (by kernel_rfl) (by kernel_rfl) (by kernel_rfl) (fun _ _ _ h => by cases h.1) (by rfl) (fun W' hb => ?_) HS0 ?_
          · skip; go_simp
          simp only [List.setIfInBounds_toArray, List.set_cons_zero, List.set_cons_succ]
          refine RK.Any.take 3 108 (.slice (some ag) out cb) rfl rfl (by kernel_rfl) (by kernel_rfl) (by kernel_rfl) (by kernel_rfl) (fun _ _ _ h => by cases h.1) (by rfl) (fun W' hb => ?_) HS0 ?_
          · skip; go_simp
            intro h; omega
          simp only [List.setIfInBounds_toArray, List.set_cons_zero, List.set_cons_succ]
          refine RK.Any.take 5 110 (.slice (some ag) k cb) rfl rfl (by kernel_rfl) (by kernel_rfl) (by kernel_rfl) (by kernel_rfl) (fun _ _ _ h => by cases h.1) (by rfl) (fun W' hb => ?_) HS0 ?_
          · skip; go_simp
          simp only [List.setIfInBounds_toArray, List.set_cons_zero, List.set_cons_succ]
          refine RK.Any.take 6 111 (.int .i64 (out : Int)) rfl rfl (by kernel_rfl) (by kernel_rfl) (by kernel_rfl) (by kernel_rfl) (fun _ _ _ h => by cases h.1) (by rfl) (fun W' hb => ?_) HS0 ?_
          · skip; go_simp
          simp only [List.setIfInBounds_toArray, List.set_cons_zero, List.set_cons_succ]
          refine RK.Any.take 7 112 (.int .i64 ((out : Int) + 1)) rfl rfl (by kernel_rfl) (by kernel_rfl) (by kernel_rfl) (by kernel_rfl) (fun _ _ _ h => by cases h.1) (by rfl) (fun W' hb => ?_) HS0 ?_
          · skip; go_simp
            exact IntWalk.i64_in _ (by omega)
          simp only [List.setIfInBounds_toArray, List.set_cons_zero, List.set_cons_succ]
          refine RK.Any.take 8 113 (.slice (some b2) (k - (out + 1)) (cb - (out + 1))) rfl rfl (by kernel_rfl) (by kernel_rfl) (by kernel_rfl) (by kernel_rfl) (fun _ _ _ h => by cases h.1) (by rfl) (fun W' hb => ?_) HS0 ?_
          · skip; go_simp
            rw [if_pos ⟨by omega, by omega⟩, HB2.out]
          simp only [List.setIfInBounds_toArray, List.set_cons_zero, List.set_cons_succ]
          generalize W6.drew = w0 at *
          have hrow := (HRG.out.below HB6.out).below HS0
          obtain ⟨v1, V1, co, cc, V2, r1, r2, hrd, bb1, bb2⟩ := cut_run w0 ag b2 k out cb (cb - (out + 1)) g (by omega) hok HLB.out hrow
          have HS1 : Below W6.heap.size W6 (w0.alloc (.cells #[] 23)) := HS0.trans ((below_box _ _).mono HS0.size)
          have HS2 : Below W6.heap.size W6 V1 := HS0.trans (bb1.mono HS0.size)
          have HS3 : Below W6.heap.size W6 V2 := HS0.trans (bb2.mono HS0.size)
          refine RK.Any.exec 0 105 (.slice (some ⟨w0.heap.size, 0, none⟩) 0 0) (w1 := w0.alloc (.cells #[] 23)) (by kernel_rfl) rfl rfl (by rfl) (by go_simp) HS1 ?_
          simp only [List.setIfInBounds_toArray, List.set_cons_zero, List.set_cons_succ]
          refine RK.Any.exec 4 109 v1 (w1 := V1) (by kernel_rfl) rfl rfl (by rfl) (RK.exec_append _ _ _ _ rfl _ _ rfl rfl r1) HS2 ?_
          simp only [List.setIfInBounds_toArray, List.set_cons_zero, List.set_cons_succ]
          refine RK.Any.exec 9 114 (.slice co (k - 1) cc) (w1 := V2) (by kernel_rfl) rfl rfl (by rfl) (RK.exec_append _ _ _ _ rfl _ _ rfl rfl r2) HS3 ?_
          simp only [List.setIfInBounds_toArray, List.set_cons_zero, List.set_cons_succ]
          refine RK.Any.take 10 21 (.slice co (k - 1) cc) rfl rfl (by kernel_rfl) (by kernel_rfl) (by kernel_rfl) (by kernel_rfl) (fun _ _ _ h => by cases h.1) (by rfl) (fun W' hb => ?_) HS3 ?_
          · skip; go_simp
          simp only [List.setIfInBounds_toArray, List.set_cons_zero, List.set_cons_succ]
          refine RK.Any.done (by kernel_rfl) ?_
          exact ⟨rfl, _, _, _, _, hrd, HS3, rfl⟩
        rintro a1 W7 ⟨p2, v2, yo7, yc7, hy7, hb7, rfl⟩
        simp only [List.setIfInBounds_toArray, List.set_cons_zero, List.set_cons_succ]
        have hb67 := HB6.out.trans (hb7.mono HB6.out.size)
        have HS7 := Lib.hid (HS5.out.step hb67)
        obtain ⟨s1, e1, e2, e3, e4⟩ := MM.without_told H7.out HE.out HFI.out (by rw [HLL.out]; exact HM.out)
        rw [HLL.out] at e4
        have HIS := Lib.hid (is_true xo6 yo7 (some ⟨B, 0, none⟩) so (k - 1) xc6 yc7 s.length sc p t (fun i => f (MM.skip out i)) (fun i => g (MM.skip out i)) (MM.thruU p (MM.pick f s) (MM.pick g s) s.length) s1 (l.filterMap (MM.back out)) (fun j => HFL.out _) (fun j => HGL.out _) e1 e2 (fun k _ => e3 k) e4 W7 HS7.out.laid (HX6.out.below hb7) hy7 ((HC.out.below HB5.out).below hb67) ((HOS.out).below hb67))
        clear e1 e2 e3 e4 hy7 hb7 hb67 HX6 HB6 HOS HC HLL HFI HE HM HRG HLB HB2 HS5 HB5
        go_wp2_with (go_at_call 10; refine HIS.out.mono ?_; rintro e w9 ⟨rfl, b9⟩)
        go_ret
        exact ⟨rfl, (HS7.out.step b9).below⟩
end M
end Go.Proofs.YtaogdhpiiclejaaDoor

/- RobP5: RobustFits: the maths, and the walk of the points through which a polynomial goes. -/
namespace Go.Proofs.YtaogdhpiiclejaaDoor
open Go Go.RowKit Go.Lib
namespace MM
theorem hitL_succ (q m n : Nat) (z y c : Nat → Nat) : hitL q m (n + 1) z y c = if evalU c (z n) q m = y n % q then hitL q m n z y c ++ [n] else hitL q m n z y c := by
  unfold hitL
  rw [List.range_succ, List.filter_append]
  by_cases h : evalU c (z n) q m = y n % q
  · simp [h]
  · simp [h]
theorem hitL_len (q m n : Nat) (z y c : Nat → Nat) : (hitL q m n z y c).length ≤ n := by
  have := (List.range n).length_filter_le fun i => evalU c (z i) q m == y i % q
  unfold hitL; simpa using this
/-- What a row of numbers picked in their order holds at each of them. -/
theorem filt_at (P : Nat → Bool) : ∀ n i, i < n → P i = true → ((List.range n).filter P)[((List.range i).filter P).length]? = some i
  | 0, _, h, _ => absurd h (by omega)
  | n + 1, i, h, hP => by
    rw [List.range_succ, List.filter_append]
    by_cases e : i = n
    · subst e
      rw [List.getElem?_append_right (Nat.le_refl _), Nat.sub_self, List.filter_cons, if_pos hP]
      rfl
    · have ih := filt_at P n i (by omega) hP
      rw [List.getElem?_append_left (List.getElem?_eq_some_iff.1 ih).1]
      exact ih
theorem hit_at {q m n i : Nat} {z y c : Nat → Nat} (h : i < n) (he : evalU c (z i) q m = y i % q) : (hitL q m n z y c)[(hitL q m i z y c).length]? = some i := filt_at _ n i h (by simpa using he)
theorem miss_at {q m n i : Nat} {z y c : Nat → Nat} (h : i < n) (he : evalU c (z i) q m ≠ y i % q) : (missL q m n z y c)[(missL q m i z y c).length]? = some i := filt_at _ n i h (by simpa using he)
theorem miss_mem {q m n i j : Nat} {z y c : Nat → Nat} (h : (missL q m n z y c)[j]? = some i) : evalU c (z i) q m ≠ y i % q := by
  have h1 := List.mem_of_getElem? h
  have := (List.mem_filter.1 h1).2
  simpa using this
/-- Where no error but this may be: there is none, or it is this one. -/
theorem decErr_five {q t n : Nat} {z : Nat → Nat} (hp : primeOf q = true) (ht : t ≤ 2) (hn : n ≤ 7) (hd : ∀ i, i < n → ∀ j, j < i → z i % q ≠ z j % q) (h0 : decErr q t n n z ≠ 0) : decErr q t n n z = 5 := by
  have hq := M.good_of_prime hp
  unfold decErr at h0 ⊢
  have ht6 : tw6 q z n = 0 := by
    unfold tw6
    rw [if_neg]
    intro h
    obtain ⟨i, k, hi, hk, h0⟩ := (twAll_iff _).1 h
    have h1 := (cg_sub hq (z i) (z k))
    rw [h0] at h1
    have h2 : Cg q (z i) (z k) := cg_of_zero h1.symm
    exact hd i hi k hk h2.nat
  rw [if_neg (by rintro (h | h | h | h) <;> first | omega | (rw [hp] at h; cases h)), if_neg (by omega), if_neg (by rw [ht6]; decide)] at h0 ⊢
  by_cases h : noAll q z n = true
  · rw [if_pos h]
  · rw [if_neg h] at h0; exact absurd rfl h0
end MM
namespace M
theorem IRd.tail {W : World} {ad a2 : Addr} {x : Nat} {l : List Nat} (h : IRd W (some ad) (x :: l)) (h2 : l.length ≠ 0 → a2 = ad.add 1) : IRd W (some a2) l := fun k hk => ⟨a2, rfl, by
  obtain ⟨_, e, hc⟩ := h (k + 1) (by simpa using hk)
  cases e
  rw [h2 (by omega), Addr.add_add, show 1 + k = k + 1 by omega]
  simpa using hc⟩
set_option maxRecDepth 100000 in
set_option maxHeartbeats 4000000 in
theorem on_any (co xo yo : Option Addr) (m n cc cx cy q : Nat) (c z y : Nat → Nat) (hm : m ≤ 1000) (hn : n ≤ 1000) (hq : 0 < q) (hz : ∀ k, z k < 18446744073709551616) (hy : ∀ k, y k < 18446744073709551616) (w : World) (hc : Rd w co m c) (hr : Rd w xo n z) (hs : Rd w yo n y) :
    Calls Tryd.prog 9 #[.slice co m cc, .slice xo n cx, .slice yo n cy, .int .u64 (q : Int)] w fun e w' => ∃ v, e = .returned v ∧ OwnI w w.heap.size v (MM.hitL q m n z y c) w' := by
  have HC := Lib.hid hc
  have HR := Lib.hid hr
  have HS := Lib.hid hs
  have HZ := Lib.hid hz
  have HY := Lib.hid hy
  have hq2 : q ≠ 0 := by omega
  clear hc hr hs hz hy
  go_enter Tryd.func9, Tryd.ntmps9
  go_upto_region 3 with fail
  go_loopw [9, 10] (fun v i wr => ∃ k : Nat, k ≤ n ∧ i = .int .i64 (k : Int) ∧ Hid (OwnI w w.heap.size v (MM.hitL q m k z y c) wr)) (fun _ i _ => n - (RowKit.intOf i).toNat)
  case atStart => exact ⟨0, Nat.zero_le _, rfl, Lib.hid (OwnI.start w)⟩
  case round =>
    obtain ⟨k, hk, rfl, HJ⟩ := hrel
    by_cases hlt : k < n
    · obtain ⟨adx, rfl, hcx⟩ := (HR.out.below HJ.out.below).at_ hlt
      obtain ⟨ady, rfl, hcy⟩ := (HS.out.below HJ.out.below).at_ hlt
      have hcw := HC.out.below HJ.out.below
      have HEV : Hid (∀ W', Below wr.heap.size wr W' → Calls Tryd.prog 18 #[.slice co m cc, .int .u64 ((z k : Nat) : Int), .int .u64 (q : Int)] W' fun e w' => e = .returned (.int .u64 ((MM.evalU c (z k) q m : Nat) : Int)) ∧ Below W'.heap.size W' w') :=
        Lib.hid fun W' hb => by have := eval_any co m cc (z k) q c (by omega) (HZ.out k) W' (hcw.below hb); rwa [MM.horn_eval] at this
      have HSU := Lib.hid (MM.hitL_succ q m k z y c)
      have HLE := Lib.hid (MM.hitL_len q m k z y c)
      have hy0 := HY.out k
      have hk0 : (0 : Int) ≤ (k : Int) := Int.natCast_nonneg _
      have hk1 : (k : Int) < (n : Int) := by omega
      generalize MM.hitL q m k z y c = l at *
      generalize MM.evalU c (z k) q m = ev at *
      clear hcw
      go_upto_region 5 with fail
      refine RK.region (Below wr.heap.size wr) 100 (by kernel_rfl) ?_
      have HS0 : Below wr.heap.size wr wr.drew := below_drewN' wr 1 _
      refine RK.Any.take 0 17 (.slice co m cc) rfl rfl (by kernel_rfl) (by kernel_rfl) (by kernel_rfl) (by kernel_rfl) (fun _ _ _ h => h) (by rfl) (fun W' hb => ?_) HS0 ?_
      · go_simp
      simp only [List.setIfInBounds_toArray, List.set_cons_zero, List.set_cons_succ]
      refine RK.Any.take 1 18 (.slice (some adx) n cx) rfl rfl (by kernel_rfl) (by kernel_rfl) (by kernel_rfl) (by kernel_rfl) (fun _ _ _ h => h) (by rfl) (fun W' hb => ?_) HS0 ?_
      · go_simp
      simp only [List.setIfInBounds_toArray, List.set_cons_zero, List.set_cons_succ]
      refine RK.Any.take 2 19 (.int .i64 (k : Int)) rfl rfl (by kernel_rfl) (by kernel_rfl) (by kernel_rfl) (by kernel_rfl) (fun _ _ _ h => h) (by rfl) (fun W' hb => ?_) HS0 ?_
      · go_simp
      simp only [List.setIfInBounds_toArray, List.set_cons_zero, List.set_cons_succ]
      refine RK.Any.take 3 20 (.pointer (some (adx.add k))) rfl rfl (by kernel_rfl) (by kernel_rfl) (by kernel_rfl) (by kernel_rfl) (fun _ _ _ h => h) (by rfl) (fun W' hb => ?_) HS0 ?_
      · go_simp
      simp only [List.setIfInBounds_toArray, List.set_cons_zero, List.set_cons_succ]
      refine RK.Any.take 4 21 (.int .u64 ((z k : Nat) : Int)) rfl rfl (by kernel_rfl) (by kernel_rfl) (by kernel_rfl) (by kernel_rfl) (fun _ _ _ h => h) (by rfl) (fun W' hb => ?_) HS0 ?_
      · have c : W'.cell? (adx.add k) = some (.int .u64 ((z k : Nat) : Int)) := (hb.cell (World.block_lt_of_cell? wr _ hcx)).trans hcx
        go_simp
      simp only [List.setIfInBounds_toArray, List.set_cons_zero, List.set_cons_succ]
      refine RK.Any.take 5 22 (.int .u64 (q : Int)) rfl rfl (by kernel_rfl) (by kernel_rfl) (by kernel_rfl) (by kernel_rfl) (fun _ _ _ h => h) (by rfl) (fun W' hb => ?_) HS0 ?_
      · go_simp
      simp only [List.setIfInBounds_toArray, List.set_cons_zero, List.set_cons_succ]
      refine RK.Any.take 7 24 (.slice (some ady) n cy) rfl rfl (by kernel_rfl) (by kernel_rfl) (by kernel_rfl) (by kernel_rfl) (fun _ _ _ h => h) (by rfl) (fun W' hb => ?_) HS0 ?_
      · go_simp
      simp only [List.setIfInBounds_toArray, List.set_cons_zero, List.set_cons_succ]
      refine RK.Any.take 8 25 (.int .i64 (k : Int)) rfl rfl (by kernel_rfl) (by kernel_rfl) (by kernel_rfl) (by kernel_rfl) (fun _ _ _ h => h) (by rfl) (fun W' hb => ?_) HS0 ?_
      · go_simp
      simp only [List.setIfInBounds_toArray, List.set_cons_zero, List.set_cons_succ]
      refine RK.Any.take 9 26 (.pointer (some (ady.add k))) rfl rfl (by kernel_rfl) (by kernel_rfl) (by kernel_rfl) (by kernel_rfl) (fun _ _ _ h => h) (by rfl) (fun W' hb => ?_) HS0 ?_
      · go_simp
      simp only [List.setIfInBounds_toArray, List.set_cons_zero, List.set_cons_succ]
      refine RK.Any.take 10 27 (.int .u64 ((y k : Nat) : Int)) rfl rfl (by kernel_rfl) (by kernel_rfl) (by kernel_rfl) (by kernel_rfl) (fun _ _ _ h => h) (by rfl) (fun W' hb => ?_) HS0 ?_
      · have c : W'.cell? (ady.add k) = some (.int .u64 ((y k : Nat) : Int)) := (hb.cell (World.block_lt_of_cell? wr _ hcy)).trans hcy
        go_simp
      simp only [List.setIfInBounds_toArray, List.set_cons_zero, List.set_cons_succ]
      refine RK.Any.take 11 28 (.int .u64 (q : Int)) rfl rfl (by kernel_rfl) (by kernel_rfl) (by kernel_rfl) (by kernel_rfl) (fun _ _ _ h => h) (by rfl) (fun W' hb => ?_) HS0 ?_
      · go_simp
      simp only [List.setIfInBounds_toArray, List.set_cons_zero, List.set_cons_succ]
      refine RK.Any.take 12 29 (.int .u64 ((y k % q : Nat) : Int)) rfl rfl (by kernel_rfl) (by kernel_rfl) (by kernel_rfl) (by kernel_rfl) (fun _ _ _ h => h) (by rfl) (fun W' hb => ?_) HS0 ?_
      · go_simp
        exact (Int.tmod_eq_emod_of_nonneg (Int.natCast_nonneg _)).trans rfl
      simp only [List.setIfInBounds_toArray, List.set_cons_zero, List.set_cons_succ]
      refine RK.Any.call 6 23 18 #[.slice co m cc, .int .u64 ((z k : Nat) : Int), .int .u64 (q : Int)] (by kernel_rfl) rfl rfl (by rfl) (by go_simp) (Calls.mono (HEV.out _ HS0) ?_)
      rintro e w1 ⟨rfl, hb1⟩
      have HS1 : Below wr.heap.size wr w1 := HS0.trans (hb1.mono HS0.size)
      refine ⟨_, rfl, fun _ => HS1, ?_⟩
      simp only [List.setIfInBounds_toArray, List.set_cons_zero, List.set_cons_succ]
      refine RK.Any.take 13 30 (.bool ((ev : Int) == ((y k % q : Nat) : Int))) rfl rfl (by kernel_rfl) (by kernel_rfl) (by kernel_rfl) (by kernel_rfl) (fun _ _ _ h => h) (by rfl) (fun W' hb => ?_) HS1 ?_
      · go_simp
      simp only [List.setIfInBounds_toArray, List.set_cons_zero, List.set_cons_succ]
      refine RK.Any.done (by kernel_rfl) ?_
      have HJ1 := Lib.hid (HJ.out.step HS1)
      clear HEV HS1 HS0 HJ hb1 hcx hcy hy0
      by_cases he : ev = y k % q
      · rw [if_pos he] at HSU
        have e1 : ((ev : Int) == ((y k % q : Nat) : Int)) = true := by rw [he]; simp
        rw [e1]
        obtain ⟨v2, w2, hr2, ho2⟩ := (HJ1.out.alloc (.cells #[.int .i64 (k : Int)] 3)).more 1 (one_set w1 k) (by have := HLE.out; simp; omega)
        have HO := Lib.hid ho2
        clear he e1 ho2
        go_wp2_with (at_builtin; refine Lib.wpList_append_run _ rfl _ _ _ _ rfl _ _ rfl rfl _ _ hr2 ?_)
        go_roundw
        case rel => exact ⟨k + 1, by omega, by go_num, by rw [HSU.out]; exact HO⟩
        case measure => simp [RowKit.intOf]; omega
      · rw [if_neg he] at HSU
        have e1 : ((ev : Int) == ((y k % q : Nat) : Int)) = false := by simp; omega
        rw [e1]
        clear he e1
        go_wp2_with fail
        go_roundw
        case rel => exact ⟨k + 1, by omega, by go_num, by rw [HSU.out]; exact HJ1⟩
        case measure => simp [RowKit.intOf]; omega
    · obtain rfl : k = n := by omega
      go_wp2_with fail
      go_ret
      exact ⟨_, rfl, HJ.out⟩
end M
end Go.Proofs.YtaogdhpiiclejaaDoor

/- RobP6: RobustFits: the walk. -/
namespace Go.Proofs.YtaogdhpiiclejaaDoor
open Go Go.RowKit Go.Lib
namespace M
set_option maxRecDepth 100000 in
set_option maxHeartbeats 2000000 in
theorem fits_core (xo yo : Option Addr) (n m cx cy t0 nq : Nat) (z y : Nat → Nat) (ht0 : t0 < 256) (hnq : nq < 18446744073709551616) (hz : ∀ k, z k < 18446744073709551616) (hy : ∀ k, y k < 18446744073709551616) (hn : n ≤ 60) (hm : m ≤ 60) (W : World) (hL : Laid W) (hx : Rd W xo n z) (hv : Rd W yo m y) :
    Calls Tryd.prog 3 #[.slice xo n cx, .slice yo m cy, .int .u8 (t0 : Int), .int .u64 (nq : Int)] W fun e w' => e = .returned (.bool true) ∧ Below W.heap.size W w' := by
  have HAW := Lib.hid (awake_true W hL)
  have HPR := Lib.hid (fun w (h : St W w) => prime_pick nq hnq w h.laid)
  have HX := Lib.hid hx
  have HY := Lib.hid hv
  have HZ := Lib.hid hz
  have HV := Lib.hid hy
  have hnI : ¬ (60 : Int) < (n : Int) := by omega
  have hmI : ¬ (60 : Int) < (m : Int) := by omega
  obtain ⟨t, ht⟩ : ∃ t, t0 % 3 = t := ⟨_, rfl⟩
  have ht2 : t ≤ 2 := by omega
  have htI : (t0 : Int) % 3 = (t : Int) := by omega
  have HS0 := Lib.hid (St.start hL)
  clear hx hv hz hy hL
  go_enter Tryd.func3, Tryd.ntmps3
  go_upto_region 3 with (go_at_call 5; refine HAW.out.mono ?_; rintro e w1 ⟨rfl, b1⟩)
  go_upto_region 4 with (go_at_call 6; refine (HPR.out _ (HS0.out.step b1)).mono ?_; rintro e w2 ⟨p, rfl, hp, h7, b2⟩)
  have HS2 := Lib.hid ((HS0.out.step b1).step b2)
  have hq := good_of_prime hp
  have HPT := Lib.hid (points_any xo yo n m cx cy p z y HZ.out HV.out (by omega) hq.1 w2 (HX.out.below HS2.out.below) (HY.out.below HS2.out.below))
  have HP := Lib.hid hp
  clear h7
  clear b1 b2 HS0 HPR HAW hnI hmI HX HY hp hq
  go_upto_region 5 with (go_at_call 7; refine HPT.out.mono ?_; rintro e w3 ⟨ao, bo, k, ca, cb, f, g, rfl, hk7, hka, hkb, hf, hg, hfl, hgl, hun, b3⟩)
  have HS3 := Lib.hid (HS2.out.step b3)
  have HF := Lib.hid hf
  have HG := Lib.hid hg
  have HFL := Lib.hid hfl
  have HGL := Lib.hid hgl
  have HUN := Lib.hid hun
  have HDC := Lib.hid (decode_any ao bo k k ca cb p t f g hfl hgl w3 HS3.out.laid hf hg)
  clear b3 hf hg hfl hgl hun HS2 HPT
  go_upto_region 6 with (go_at_call 8; refine HDC.out.mono ?_; rintro e w4 ⟨vc, vw, ec, rfl, hd⟩)
  rcases hd with ⟨h0, rfl, rfl, rfl, b4⟩ | ⟨h0, b4, hT⟩
  · rw [MM.decErr_five HP.out ht2 hk7 HUN.out h0]
    clear h0 HDC
    go_wp2_with fail
    go_ret
    exact ⟨rfl, (HS3.out.step b4).below⟩
  have HS4 := Lib.hid (HS3.out.step b4)
  have HB4 := Lib.hid b4
  rw [show ((t : Int)).toNat = t by omega] at hT
  cases hf : (MM.setsF (2 * t + 1) 0 k).find? (MM.fitB p t f g) with
  | none =>
    rw [hf] at hT
    obtain ⟨rfl, rfl, rfl⟩ := hT
    clear hf HDC h0 b4
    go_wp2_with fail
    go_ret
    exact ⟨rfl, HS4.out.below⟩
  | some s =>
    rw [hf] at hT
    obtain ⟨rfl, ⟨B, rfl, _, hrow⟩, hv⟩ := hT
    have hUn := MM.un_of_err h0
    have HMANY := Lib.hid (MM.hit_many hUn.1 hUn.2 hf)
    have hrd : Rd w4 (some ⟨B, 0, none⟩) (t + 1) (MM.thruU p (MM.pick f s) (MM.pick g s) s.length) := fun _ => ⟨_, rfl, hrow⟩
    generalize MM.thruU p (MM.pick f s) (MM.pick g s) s.length = cF at *
    generalize s.length = sl at *
    obtain ⟨wo, wc, rfl, hi⟩ := hv.ird
    have HWI := Lib.hid hi
    have HON := Lib.hid (on_any (some ⟨B, 0, none⟩) ao bo (t + 1) k sl ca cb p cF f g (by omega) (by omega) hUn.1.1 HFL.out HGL.out w4 hrd (HF.out.below b4) (HG.out.below b4))
    obtain ⟨u, hu⟩ : ∃ u, (MM.missL p (t + 1) k f g cF).length = u := ⟨_, rfl⟩
    obtain ⟨v, hv2⟩ : ∃ v, (MM.hitL p (t + 1) k f g cF).length = v := ⟨_, rfl⟩
    have hsum := MM.hit_miss p (t + 1) k f g cF
    have hman := HMANY.out
    rw [hu, hv2] at hsum
    rw [hv2] at hman
    have HU := Lib.hid hu
    have HV2 := Lib.hid hv2
    rw [hu]
    clear hf h0 hrow hrd hv hi HDC b4 hUn HMANY hu hv2
    go_upto_region 9 with (go_at_call 9; refine HON.out.mono ?_; rintro e w5 ⟨vr, rfl, hor⟩)
    obtain ⟨ro, rc, rfl, hrc, hri⟩ : ∃ ro rc, vr = .slice ro v rc ∧ v ≤ rc ∧ IRd w5 ro (MM.hitL p (t + 1) k f g cF) := by
      rcases hor.val with ⟨_, e⟩ | ⟨b, c, e, _, h1, h2⟩
      · rw [e] at HV2
        have := HV2.out
        simp at this
        omega
      · rw [HV2.out] at e h1
        obtain ⟨_, _, e2, hi⟩ := (hor.setV).ird
        rw [HV2.out] at e2
        exact ⟨_, c, e, h1, by rw [e] at e2; cases e2; exact hi⟩
    have HS5 := Lib.hid (HS4.out.step hor.below)
    have HWI5 := Lib.hid (HWI.out.below hor.below)
    have HJ0 : Hid (IRd w5 ro ((MM.hitL p (t + 1) k f g cF).drop 0)) := Lib.hid hri
    have HK : Hid (2 * (t : Int) < (k : Int) - (u : Int)) := Lib.hid (by omega)
    clear hor hri HON HWI hman
    go_wp2_with fail
    go_loopw [14, 15, 16] (fun s14 s15 s16 wx => ∃ (i j d e : Nat) (ro : Option Addr) (rc : Nat), i ≤ k ∧ d + e = v ∧ e ≤ rc ∧ j ≤ 7 ∧ s14 = .slice ro e rc ∧ s15 = .int .i64 (j : Int) ∧ s16 = .int .i64 (i : Int) ∧ Hid ((MM.missL p (t + 1) i f g cF).length = j) ∧ Hid ((MM.hitL p (t + 1) i f g cF).length = d) ∧ Hid (IRd w5 ro ((MM.hitL p (t + 1) k f g cF).drop d)) ∧ wx = w5) (fun _ _ s16 _ => k - (RowKit.intOf s16).toNat)
    case atStart => exact ⟨0, 0, 0, v, ro, rc, Nat.zero_le _, by omega, hrc, by omega, rfl, rfl, rfl, Lib.hid rfl, Lib.hid rfl, HJ0, rfl⟩
    case round =>
      clear HJ0 hrc
      obtain ⟨i, j, d, e, ro, rc, hik, hde, herc, hj7, rfl, rfl, rfl, HM, HH, HR, rfl⟩ := hrel
      have hi0 : (0 : Int) ≤ (i : Int) := Int.natCast_nonneg _
      have hj0 : (0 : Int) ≤ (j : Int) := Int.natCast_nonneg _
      by_cases hlt : i < k
      · have hiI : (i : Int) < (k : Int) := by omega
        have HSM := Lib.hid (MM.missL_succ p (t + 1) i f g cF)
        have HSH := Lib.hid (MM.hitL_succ p (t + 1) i f g cF)
        by_cases hev : MM.evalU cF (f i) p (t + 1) = g i % p
        · have h1 := MM.hit_at (n := k) hlt hev
          rw [HH.out] at h1
          have hdv : d < v := by
            have := (List.getElem?_eq_some_iff.1 h1).1
            rwa [HV2.out] at this
          have hnot : ∀ x, (MM.missL p (t + 1) k f g cF)[j]? = some x → x ≠ i := fun x hx e => by
            subst e
            exact MM.miss_mem hx hev
          have hdrop : (MM.hitL p (t + 1) k f g cF).drop d = i :: (MM.hitL p (t + 1) k f g cF).drop (d + 1) := by
            obtain ⟨hl, e1⟩ := List.getElem?_eq_some_iff.1 h1
            rw [List.drop_eq_getElem_cons hl, e1]
          rw [hdrop] at HR
          obtain ⟨ar, rfl, hc0⟩ := HR.out 0 (by simp)
          have hc1 : wr.cell? (ar.add 0) = some (.int .i64 (i : Int)) := hc0
          rw [show ar.add 0 = ar by unfold Addr.add; simp] at hc1
          obtain ⟨a2, ha2, hl2⟩ : ∃ a2 : Addr, (if rc = 1 then some ar else some (⟨ar.block, ar.off + 1, none⟩ : Addr)) = some a2 ∧ (((MM.hitL p (t + 1) k f g cF).drop (d + 1)).length ≠ 0 → a2 = ar.add 1) := by
            by_cases hcc : rc = 1
            · exact ⟨ar, if_pos hcc, fun h => by rw [List.length_drop, HV2.out] at h; omega⟩
            · exact ⟨_, if_neg hcc, fun _ => by unfold Addr.add; rw [if_neg (by omega)]⟩
          have HT := Lib.hid (HR.out.tail hl2)
          rw [if_pos hev] at HSM HSH
          have HM2 : Hid ((MM.missL p (t + 1) (i + 1) f g cF).length = j) := Lib.hid (by rw [HSM.out]; exact HM.out)
          have HH2 : Hid ((MM.hitL p (t + 1) (i + 1) f g cF).length = d + 1) := Lib.hid (by rw [HSH.out, List.length_append, HH.out]; rfl)
          have he0 : 0 < e := by omega
          clear hc0 hdrop h1 hev HSM HSH HM HH HR hl2
          by_cases hju : j < u
          · have hjI : (j : Int) < (u : Int) := by omega
            obtain ⟨aw, rfl, hcw⟩ := HWI5.out j (by rw [HU.out]; exact hju)
            have hx1 : (MM.missL p (t + 1) k f g cF)[j]? = some ((MM.missL p (t + 1) k f g cF).getD j 0) := by
              rw [List.getD_eq_getElem?_getD, List.getElem?_eq_getElem (by rw [HU.out]; exact hju)]; rfl
            have hne := hnot _ hx1
            generalize (MM.missL p (t + 1) k f g cF).getD j 0 = x at *
            have hneI : ((x : Int) == (i : Int)) = false := by simp; omega
            clear hnot hx1 hne
            go_wp2_with fail
            go_roundw
            case rel => exact ⟨i + 1, j, d + 1, e - 1, some a2, rc - 1, by omega, by omega, by omega, hj7, rfl, rfl, by go_num, HM2, HH2, HT, by trivial⟩
            case measure => simp [RowKit.intOf]; omega
          · have hjI : ¬ (j : Int) < (u : Int) := by omega
            clear hnot
            go_wp2_with fail
            go_roundw
            case rel => exact ⟨i + 1, j, d + 1, e - 1, some a2, rc - 1, by omega, by omega, by omega, hj7, rfl, rfl, by go_num, HM2, HH2, HT, by trivial⟩
            case measure => simp [RowKit.intOf]; omega
        · have h1 := MM.miss_at (n := k) hlt hev
          rw [HM.out] at h1
          obtain ⟨hju, hel⟩ := List.getElem?_eq_some_iff.1 h1
          have hjd : (MM.missL p (t + 1) k f g cF).getD j 0 = i := by rw [MM.getD_at hju, hel]
          rw [HU.out] at hju
          obtain ⟨aw, rfl, hcw⟩ := HWI5.out j (by rw [HU.out]; exact hju)
          rw [hjd] at hcw
          have hjI : (j : Int) < (u : Int) := by omega
          rw [if_neg hev] at HSM HSH
          have HM2 : Hid ((MM.missL p (t + 1) (i + 1) f g cF).length = j + 1) := Lib.hid (by rw [HSM.out, List.length_append, HM.out]; rfl)
          have HH2 : Hid ((MM.hitL p (t + 1) (i + 1) f g cF).length = d) := Lib.hid (by rw [HSH.out]; exact HH.out)
          clear h1 hev HSM HSH HM HH hel hjd
          go_wp2_with fail
          go_roundw
          case rel => exact ⟨i + 1, j + 1, d, e, ro, rc, by omega, by omega, by omega, by omega, rfl, by go_num, by go_num, HM2, HH2, HR, by trivial⟩
          case measure => simp [RowKit.intOf]; omega
      · have hiI : ¬ (i : Int) < (k : Int) := by omega
        obtain rfl : i = k := by omega
        have h1 := HM.out
        have h2 := HH.out
        rw [HU.out] at h1
        rw [HV2.out] at h2
        subst h1
        subst h2
        obtain rfl : e = 0 := by omega
        have hk3 := HK.out
        clear HM HH HR HK
        go_wp2_with fail
        go_ret
        exact ⟨rfl, HS5.out.below⟩
end M
end Go.Proofs.YtaogdhpiiclejaaDoor

/- OpenN: How rows of numbers that come in are opened, where no parameters are about. -/
namespace Go.Proofs.YtaogdhpiiclejaaDoor
open Go.ChangeShapes Go.WideShapes Go.ChangeAt Go.RowKit
namespace M
theorem laidOut : laidOutB Tryd.prog = true := by kernel_rfl
/-- A row of numbers that came in: nil, or a slice whose cells read as numbers. -/
def NumsIn (w : World) (v : Value) : Prop := v = .slice none 0 0 ∨ ∃ (a : Addr) (n cap : Nat) (z : Nat → Nat), v = .slice (some a) n cap ∧ n ≤ 9223372036854775807 ∧ (∀ k, z k < 18446744073709551616) ∧ Row w a n z
set_option maxRecDepth 100000 in
theorem open_nums {H : Type} {enc : TypeId × Value → H} {w : World} {base : Nat} {spare : Nat → Bool} {held : Bool} {r : Reach} {b0 : Nat} {v : Value} {d : DataW H} {pl : List MemPlace}
    (hv : Value.okWide Tryd.prog w r b0 22 v) (h : DataW.Trod enc Tryd.prog w base spare held 22 v d pl) : NumsIn w v := by
  obtain ⟨ad, len0, cap0, rfl⟩ := okWide_slice Tryd.underlying22 hv
  obtain ⟨fuel, hf⟩ := h
  rcases open_ints Tryd.underlying22 Tryd.underlying23 (by kernel_rfl) hf with ⟨hcs, _⟩ | ⟨a, len, cap, zs, hcs, _, hl, hm, hz, _, hcell, hwf⟩
  · simp [Value.cells] at hcs
    obtain ⟨rfl, rfl, rfl⟩ := hcs
    exact .inl rfl
  · simp [Value.cells] at hcs
    obtain ⟨rfl, rfl, rfl⟩ := hcs
    have hle : len0 ≤ zs.length := by rw [hz]; split <;> omega
    unfold maxLen at hm
    have hb : ∀ k, k < zs.length → 0 ≤ zs.getD k 0 ∧ zs.getD k 0 ≤ 18446744073709551615 := fun k hk => by
      have hmem : zs.getD k 0 ∈ zs := by rw [List.getD_eq_getElem?_getD, List.getElem?_eq_getElem hk]; exact List.getElem_mem hk
      exact M.u64_bounds (hwf _ hmem)
    refine .inr ⟨a, len0, cap0, fun k => if k < zs.length then (zs.getD k 0).toNat else 0, rfl, by omega, fun k => ?_, fun k hk => ?_⟩
    · by_cases h : k < zs.length
      · have := hb k h; simp only [if_pos h]; omega
      · simp only [if_neg h]; omega
    · have h : k < zs.length := by omega
      have := hb k h
      rw [hcell k h]
      simp only [if_pos h]
      congr 2
      omega
end M
end Go.Proofs.YtaogdhpiiclejaaDoor

/- The texts RobS1, RobS2, RobS3, OpenN, one behind the other. -/
import Derived.Test.YtccpdjjgpkkkbaaDoorRob05
import Derived.Laws.OwnMore
import Derived.Lib.AppendZeros
import Derived.Test.YtccpdjjgpkkkbaaDoorNum
import Derived.ProofKit
import Derived.OpenShut
import Derived.ChangeOld
import Derived.ChangeSlices
/- RobS1: The walks of what the statements of layer 5 pick their cases by: a prime, places, whether they are unlike, a row. -/
namespace Go.Proofs.YtccpdjjgpkkkbaaDoor
open Go Go.RowKit Go.Lib
namespace MM
def primesT : List Nat := [11, 13, 23, 101, 65537, 2147483647, 2305843009213693951]
theorem primesT_ok : ∀ r, r < 7 → primeF (ofL primesT r) = true ∧ 7 < ofL primesT r := by decide +kernel
end MM
namespace M
set_option maxRecDepth 100000 in
set_option maxHeartbeats 2000000 in
theorem prime_pick (n : Nat) (hn : n < 18446744073709551616) (w : World) (hL : Laid w) : Calls Tryd.prog 12 #[.int .u64 (n : Int)] w fun e w' => ∃ p : Nat, e = .returned (.int .u64 (p : Int)) ∧ MM.primeOf p = true ∧ 7 < p ∧ Below w.heap.size w w' := by
  obtain ⟨r, hr⟩ : ∃ r, n % 7 = r := ⟨_, rfl⟩
  have hr7 : r < 7 := by omega
  have h1 : (n : Int) % 7 = (r : Int) := by omega
  have h2 : Int.tmod (n : Int) 7 = (r : Int) := by rw [Int.tmod_eq_emod_of_nonneg (Int.natCast_nonneg _)]; exact h1
  have hr0 : (0 : Int) ≤ (r : Int) := Int.natCast_nonneg _
  have hr1 : (r : Int) < 7 := by omega
  have HT := Lib.hid (MM.primesT_ok r hr7)
  have hcell : ∀ u : World, (u.alloc (.cells #[.int .u64 11, .int .u64 13, .int .u64 23, .int .u64 101, .int .u64 65537, .int .u64 2147483647, .int .u64 2305843009213693951] 22)).cell? ⟨u.heap.size, r, none⟩ = some (.int .u64 ((MM.ofL MM.primesT r : Nat) : Int)) := fun u => by
    obtain ⟨ad, e, h⟩ := new_u u MM.primesT (by decide)
    cases e
    have := row_cell h hr7
    exact this
  generalize MM.ofL MM.primesT r = p at *
  have HP : Hid (MM.primeOf p = true) := Lib.hid (by rw [← HT.out.1]; exact MM.primeF_eq p)
  by_cases h7 : 7 < n
  · have h7I : (7 : Int) < (n : Int) := by omega
    by_cases hp : MM.primeOf n = true
    · have HM := ret_prime n true hp
      clear hcell h1 h2
      go_enter Tryd.func12, Tryd.ntmps12
      go_wp2_with (go_at_call 21; refine (HM.at _ hL).mono ?_; rintro e w1 ⟨rfl, d, rfl⟩)
      go_ret
      exact ⟨n, rfl, hp, h7, below_drewN' _ _ _⟩
    · have HM := ret_prime n false (by simpa using hp)
      clear hp
      go_enter Tryd.func12, Tryd.ntmps12
      go_upto_region 3 with (go_at_call 21; refine (HM.at _ hL).mono ?_; rintro e w1 ⟨rfl, d, rfl⟩)
      have hc1 := hcell (w.drewN d)
      have HB := Lib.hid (below_drewN' w d w.heap.size)
      clear hcell HM
      generalize w.drewN d = w1 at *
      go_wp2_with fail
      go_ret
      exact ⟨p, rfl, HP.out, HT.out.2, HB.out.trans ((below_box _ _).mono HB.out.size)⟩
  · have h7I : ¬ (7 : Int) < (n : Int) := by omega
    have hc1 := hcell w
    clear hcell
    go_enter Tryd.func12, Tryd.ntmps12
    go_wp2_with fail
    go_ret
    exact ⟨p, rfl, HP.out, HT.out.2, below_box _ _⟩
/-- What is told of places: if they are told to be unlike, they are. -/
def UnlikeOut (n : Nat) (z : Nat → Nat) (w : World) (e : Ending) (w' : World) : Prop := ∃ b : Bool, e = .returned (.bool b) ∧ (b = true → ∀ i, i < n → ∀ k, k < i → z i ≠ z k) ∧ Below w.heap.size w w'
set_option maxRecDepth 100000 in
set_option maxHeartbeats 2000000 in
theorem unlike_any (ao : Option Addr) (n c : Nat) (z : Nat → Nat) (hn : n ≤ 1000) (w : World) (hr : Rd w ao n z) : Calls Tryd.prog 14 #[.slice ao n c] w fun e w' => UnlikeOut n z w e w' := by
  have HR := Lib.hid hr
  clear hr
  go_enter Tryd.func14, Tryd.ntmps14
  go_wp2_with fail
  go_loopw [3] (fun s3 wx => ∃ i d : Nat, i ≤ n ∧ s3 = .int .i64 (i : Int) ∧ Hid (∀ a, a < i → ∀ k, k < a → z a ≠ z k) ∧ wx = w.drewN d) (fun s3 _ => n - (RowKit.intOf s3).toNat)
  case atStart => exact ⟨0, 0, Nat.zero_le _, rfl, Lib.hid (fun a h => absurd h (by omega)), rfl⟩
  case round =>
    obtain ⟨i, d, hi, rfl, HI, hwr⟩ := hrel
    obtain ⟨wo, hwo⟩ : ∃ wo : World, wo = wr := ⟨_, rfl⟩
    subst hwo
    have HW := Lib.hid hwr
    clear hwr
    by_cases hlt : i < n
    · have hiI : (i : Int) < (n : Int) := by omega
      have hi0 : (0 : Int) ≤ (i : Int) := Int.natCast_nonneg _
      go_wp2_with fail
      go_loopw [4] (fun s4 wx => ∃ k d : Nat, k ≤ i ∧ s4 = .int .i64 (k : Int) ∧ Hid (∀ b, b < k → z i ≠ z b) ∧ wx = w.drewN d) (fun s4 _ => i - (RowKit.intOf s4).toNat)
      case atStart => exact ⟨0, d, Nat.zero_le _, rfl, Lib.hid (fun a h => absurd h (by omega)), HW.out⟩
      case round =>
        clear HW
        obtain ⟨k, e, hk, rfl, HK, hwr⟩ := hrel
        by_cases hlk : k < i
        · obtain ⟨ad, rfl, hc⟩ := HR.out.at_ hlt
          obtain ⟨_, e2, hd⟩ := HR.out.at_ (show k < n by omega)
          cases e2
          have hci : wr.cell? (ad.add i) = some (.int .u64 ((z i : Nat) : Int)) := by rw [hwr]; exact hc
          have hck : wr.cell? (ad.add k) = some (.int .u64 ((z k : Nat) : Int)) := by rw [hwr]; exact hd
          have HWR := Lib.hid hwr
          have hkI : (k : Int) < (i : Int) := by omega
          have hkn : (k : Int) < (n : Int) := by omega
          have hk0 : (0 : Int) ≤ (k : Int) := Int.natCast_nonneg _
          clear hwr hc hd
          by_cases he : z i = z k
          · rw [he] at hci
            go_upto_region 7 with fail
            go_quiet (fail)
            go_wp2_with fail
            go_ret
            exact ⟨false, rfl, fun h => (by cases h), by rw [HWR.out]; exact (below_drewN' w _ _).trans (below_drewN' _ _ _)⟩
          · have hne : ((z i : Int) == (z k : Int)) = false := by simp; omega
            have HK1 : Hid (∀ b, b < k + 1 → z i ≠ z b) := Lib.hid (fun b hb => by
              by_cases e : b = k
              · subst e; exact he
              · exact HK.out b (by omega))
            go_upto_region 7 with fail
            generalize hzi : z i = zi at *
            go_quiet (fail)
            go_wp2_with fail
            go_roundw
            case rel => exact ⟨k + 1, _, by omega, by go_num, (by rw [hzi]; exact HK1), by rw [HWR.out]; exact World.drewN_drewN _ _ _⟩
            case measure => simp [RowKit.intOf]; omega
        · have hkI : ¬ (k : Int) < (i : Int) := by omega
          obtain rfl : k = i := by omega
          have HWR := Lib.hid hwr
          have HI1 : Hid (∀ a, a < k + 1 → ∀ b, b < a → z a ≠ z b) := Lib.hid (fun a ha b hb => by
            by_cases e : a = k
            · subst e; exact HK.out b hb
            · exact HI.out a (by omega) b hb)
          clear hwr
          go_wp2_with fail
          go_roundw
          case rel => exact ⟨k + 1, e, by omega, by go_num, HI1, HWR.out⟩
          case measure => simp [RowKit.intOf]; omega
    · have hiI : ¬ (i : Int) < (n : Int) := by omega
      obtain rfl : i = n := by omega
      go_wp2_with fail
      go_ret
      exact ⟨true, rfl, fun _ => HI.out, by rw [HW.out]; exact below_drewN' _ _ _⟩
/-- What is told of places: so many, each from 1 to 7. -/
def PlacesOut (t : Nat) (w : World) (e : Ending) (w' : World) : Prop := ∃ (ao : Option Addr) (n c : Nat) (z : Nat → Nat), e = .returned (.slice ao n c) ∧ Rd w' ao n z ∧ 2 * t + 1 ≤ n ∧ n ≤ 7 ∧ (∀ k, 1 ≤ z k ∧ z k ≤ 7) ∧ Below w.heap.size w w'
theorem Own.push5 {w0 w : World} {B k : Nat} {v : Value} {z : Nat → Nat} (h : Own w0 B v k z w) (c : Nat) (hk : k ≤ 900000) :
    ∃ v' w', (Builtin.append_ #[23, 23] 23 #[v, .slice (some ⟨w.heap.size, 0, none⟩) 1 c]).run Tryd.prog (w.alloc (.cells #[.int .u64 ((z k : Nat) : Int)] 22)) = .ok v' w' ∧ Own w0 B v' (k + 1) z w' := by
  obtain ⟨i0, hi, hz0, hz1, hz2⟩ := info_parts info_u64
  have ha := h.alloc (.cells #[.int .u64 ((z k : Nat) : Int)] 22)
  obtain ⟨v', w', hr, ho, hg, _⟩ := run_append_own (P := Tryd.prog) _ B 23 23 22 i0 (.int .u64 0) 1 8 Tryd.underlying23 hi hz0 hz1 hz2 rfl (by decide) v k (zlist k z) ha.own ⟨w.heap.size, 0, none⟩ 1 c [.int .u64 ((z k : Nat) : Int)] rfl (fun j u hj => by
    have hl := (List.getElem?_eq_some_iff.1 hj).1
    obtain rfl : j = 0 := by simpa using hl
    cases hj
    have e : (⟨w.heap.size, 0, none⟩ : Addr).add 0 = ⟨w.heap.size, 0, none⟩ := rfl
    rw [e, cell_of_row _ _ _ _ _ _ (heap_alloc_new w _)]; rfl) (by simp [Value.oneCell']) (by unfold maxLen; omega) (by omega) ha.size
  exact ⟨v', w', hr, ha.grow ho (zlist_succ k z) hg⟩
def placeZ (s : Nat) (k : Nat) : Nat := 1 + (s + k * (1 + s % 3)) % 18446744073709551616 % 7
theorem place_eq (s i : Nat) (hi : i ≤ 7) : IntKind.u64.wrap (1 + (IntKind.u64.wrap ((s : Int) + IntKind.u64.wrap ((i : Int) * (1 + (s : Int) % 3)))).tmod 7) = ((placeZ s i : Nat) : Int) := by
  have h1 : (i : Int) * (1 + (s : Int) % 3) = ((i * (1 + s % 3) : Nat) : Int) := by simp
  have h2 : i * (1 + s % 3) ≤ 7 * 3 := Nat.mul_le_mul hi (by omega)
  have w64 : ∀ x : Int, IntKind.u64.wrap x = x % 18446744073709551616 := fun _ => rfl
  unfold placeZ
  rw [h1]
  generalize i * (1 + s % 3) = m at *
  rw [w64, w64, w64, Int.tmod_eq_emod_of_nonneg (Int.emod_nonneg _ (by decide))]
  omega
set_option maxRecDepth 100000 in
set_option maxHeartbeats 2000000 in
theorem places_any (s t : Nat) (many : Int) (hs : s < 18446744073709551616) (ht : t ≤ 2) (w : World) : Calls Tryd.prog 13 #[.int .u64 (s : Int), .int .i64 many, .int .i64 (t : Int)] w fun e w' => PlacesOut t w e w' := by
  go_enter Tryd.func13, Tryd.ntmps13
  go_upto_region 2 with fail
  obtain ⟨n, hn, hn1, hn2⟩ : ∃ n : Nat, wrap64 (2 * (t : Int) + 1 + wrap64 ((IntKind.u64.wrap many).tmod (7 - 2 * (t : Int)))) = (n : Int) ∧ 2 * t + 1 ≤ n ∧ n ≤ 7 := by
    have hX : 0 ≤ IntKind.u64.wrap many := by
      show 0 ≤ many % 18446744073709551616
      exact Int.emod_nonneg _ (by decide)
    have h0 := Int.emod_nonneg (IntKind.u64.wrap many) (show 7 - 2 * (t : Int) ≠ 0 by omega)
    have h1 := Int.emod_lt_of_pos (IntKind.u64.wrap many) (show 0 < 7 - 2 * (t : Int) by omega)
    rw [Int.tmod_eq_emod_of_nonneg hX]
    generalize IntKind.u64.wrap many % (7 - 2 * (t : Int)) = r at *
    rw [IntWalk.wrap64_in r (by omega), IntWalk.wrap64_in _ (by omega)]
    exact ⟨(2 * t + 1 + r.toNat), by omega, by omega, by omega⟩
  rw [hn]
  have HS := Lib.hid (Own.start w (placeZ s))
  clear hn
  go_wp2_with fail
  go_loopw [8, 9] (fun s8 s9 wx => ∃ i : Nat, i ≤ n ∧ s9 = .int .i64 (i : Int) ∧ Hid (Own w w.heap.size s8 i (placeZ s) wx)) (fun _ s9 _ => n - (RowKit.intOf s9).toNat)
  case atStart => exact ⟨0, Nat.zero_le _, rfl, HS⟩
  case round =>
    clear HS
    obtain ⟨i, hi, rfl, HI⟩ := hrel
    by_cases hlt : i < n
    · have hiI : (i : Int) < (n : Int) := by omega
      have hi0 : (0 : Int) ≤ (i : Int) := Int.natCast_nonneg _
      obtain ⟨v2, w2, hr2, ho2⟩ := HI.out.push5 1 (by omega)
      rw [← place_eq s i (by omega)] at hr2
      have HO := Lib.hid ho2
      clear ho2
      go_wp2_with (at_builtin; refine Lib.wpList_append_run _ rfl _ _ _ _ rfl _ _ rfl rfl _ _ hr2 ?_)
      go_roundw
      case rel => exact ⟨i + 1, by omega, by go_num, HO⟩
      case measure => simp [RowKit.intOf]; omega
    · have hiI : ¬ (i : Int) < (n : Int) := by omega
      obtain rfl : i = n := by omega
      obtain ⟨ao, c, rfl, _, _, hr⟩ := HI.out.rd
      have HR := Lib.hid hr
      clear hr
      go_wp2_with fail
      go_ret
      exact ⟨ao, i, c, placeZ s, rfl, HR.out, hn1, hn2, fun k => by unfold placeZ; omega, HI.out.below⟩
theorem Mine.next5 {w0 w : World} {B n k : Nat} {z : Nat → Nat} (h : Mine w0 B n (fun j => if j < k then z j else 0) w) : Mine w0 B n (fun j => if j < k + 1 then z j else 0) (w.setCell ⟨B, k, none⟩ (.int .u64 ((z k : Nat) : Int))) := h.set k _ fun j _ => by
  by_cases e : j = k
  · subst e; rw [if_pos (by omega), if_pos rfl]
  · rw [if_neg e]
    by_cases h : j < k
    · rw [if_pos (by omega), if_pos h]
    · rw [if_neg (by omega), if_neg h]
def rowZ (c : Nat → Nat) (lc q : Nat) (k : Nat) : Nat := if k < lc then c k % q else 0
theorem Mine.low5 {w0 w1 w : World} {B n : Nat} {z : Nat → Nat} (h : Mine w1 B n z w) (hb : Below w0.heap.size w0 w1) : Mine w0 B n z w := ⟨h.block, Nat.le_trans hb.size h.low, hb.trans (h.below.mono hb.size)⟩
set_option maxRecDepth 100000 in
set_option maxHeartbeats 2000000 in
theorem row5_any (co : Option Addr) (lc cc t q : Nat) (c : Nat → Nat) (ht : t ≤ 2) (hq : 0 < q) (w : World) (hr : Rd w co lc c) : Calls Tryd.prog 15 #[.slice co lc cc, .int .i64 (t : Int), .int .u64 (q : Int)] w fun e w' => e = .returned (.slice (some ⟨w.heap.size, 0, none⟩) (t + 1) (t + 1)) ∧ Mine w w.heap.size (t + 1) (rowZ c lc q) w' := by
  have HR := Lib.hid hr
  have HM0 := Mine.made w (t + 1)
  have hmk : (Instr.makeSlice 23 (.int .i64 ((t : Int) + 1)) (.int .i64 ((t : Int) + 1))).run Tryd.prog w = _ := run_made (t + 1) (by omega) w
  obtain ⟨W1, hW1⟩ : ∃ W1, w.alloc (.cells (madeCells (Value.int .u64 0).cells ((t + 1) * 1)) 22) = W1 := ⟨_, rfl⟩
  obtain ⟨B, hB⟩ : ∃ B, w.heap.size = B := ⟨_, rfl⟩
  rw [hW1] at HM0 hmk
  rw [hB] at HM0 hmk ⊢
  have HM1 : Hid (Mine w B (t + 1) (fun j => if j < 0 then rowZ c lc q j else 0) W1) := Lib.hid (HM0.congr fun k _ => by rw [if_neg (by omega)])
  have hq1 : (0 : Int) < (q : Int) := by omega
  clear hr HM0 hW1 hB
  go_enter Tryd.func15, Tryd.ntmps15
  go_wp2_with fail
  clear hmk
  go_loopw [8] (fun s8 wx => ∃ i : Nat, i ≤ t + 1 ∧ i ≤ lc ∧ s8 = .int .i64 (i : Int) ∧ Hid (Mine w B (t + 1) (fun j => if j < i then rowZ c lc q j else 0) wx)) (fun s8 _ => t + 1 - (RowKit.intOf s8).toNat)
  case atStart => exact ⟨0, Nat.zero_le _, Nat.zero_le _, rfl, HM1⟩
  case round =>
    clear HM1
    obtain ⟨i, hi, hil, rfl, HI⟩ := hrel
    have hi0 : (0 : Int) ≤ (i : Int) := Int.natCast_nonneg _
    by_cases h1 : i < t + 1
    · have h1I : (i : Int) < (t : Int) + 1 := by omega
      by_cases h2 : i < lc
      · have h2I : (i : Int) < (lc : Int) := by omega
        obtain ⟨ad, rfl, hc⟩ := (HR.out.below HI.out.below).at_ h2
        have hcl := HI.out.cell h1
        have hfr := HI.out.free i
        have hN := HI.out.next5
        rw [show rowZ c lc q i = c i % q from if_pos h2] at hN
        have HN := Lib.hid hN
        clear hN
        go_wp2_with fail
        go_roundw
        case rel => exact ⟨i + 1, by omega, by omega, by go_num, HN⟩
        case measure => simp [RowKit.intOf]; omega
      · have h2I : ¬ (i : Int) < (lc : Int) := by omega
        go_wp2_with fail
        go_ret
        refine ⟨rfl, HI.out.congr fun j _ => ?_⟩
        by_cases h : j < i
        · rw [if_pos h]
        · rw [if_neg h]; unfold rowZ; rw [if_neg (by omega)]
    · have h1I : ¬ (i : Int) < (t : Int) + 1 := by omega
      obtain rfl : i = t + 1 := by omega
      go_wp2_with fail
      go_ret
      exact ⟨rfl, HI.out.congr fun j hj => by rw [if_pos hj]⟩
end M
end Go.Proofs.YtccpdjjgpkkkbaaDoor

/- RobS2: RobustLies: places from 1 to 7 that are unlike have inverses of their differences modulo a prime above 7; which values are changed; rows of which cells are written. -/
namespace Go.Proofs.YtccpdjjgpkkkbaaDoor
open Go Go.RowKit Go.Lib
namespace MM
theorem primeL_step {n d t v : Nat} {l : List Nat} (h : primeL n d t (v :: l) = true) : n = v ∨ (n % v ≠ 0 ∧ primeL n d t l = true) := by
  unfold primeL at h
  by_cases h0 : n % v = 0
  · rw [if_pos h0] at h; exact .inl (by simpa using h)
  · rw [if_neg h0] at h
    split at h
    · exact .inr ⟨h0, h⟩
    · cases h
theorem no235 {q : Nat} (h : primeOf q = true) (h7 : 7 < q) : q % 2 ≠ 0 ∧ q % 3 ≠ 0 ∧ q % 5 ≠ 0 := by
  unfold primeOf primeB at h
  by_cases h1 : q < 2 ∨ 2305843009213693952 < q
  · rw [if_pos h1] at h; cases h
  · rw [if_neg h1] at h
    unfold wits at h
    rcases primeL_step h with e | ⟨a2, h⟩
    · omega
    rcases primeL_step h with e | ⟨a3, h⟩
    · omega
    rcases primeL_step h with e | ⟨a5, h⟩
    · omega
    exact ⟨a2, a3, a5⟩
theorem un_of {q d : Nat} (s : Nat) (hs : (q * s + 1) % d = 0) : Un q d := by
  obtain ⟨u, hu⟩ : ∃ u, q * s + 1 = d * u := ⟨(q * s + 1) / d, by have := Nat.div_add_mod (q * s + 1) d; omega⟩
  refine ⟨u, s, ?_⟩
  have e : ((q * s + 1 : Nat) : Int) = ((d * u : Nat) : Int) := by rw [hu]
  rw [Int.natCast_add, Int.natCast_mul, Int.natCast_mul] at e
  rw [← e]
  grind
theorem un_small {q : Nat} (h : q % 2 ≠ 0 ∧ q % 3 ≠ 0 ∧ q % 5 ≠ 0) (d : Nat) (h1 : 1 ≤ d) (h6 : d ≤ 6) : Un q d := by
  obtain ⟨h2, h3, h5⟩ := h
  have hd : d = 1 ∨ d = 2 ∨ d = 3 ∨ d = 4 ∨ d = 5 ∨ d = 6 := by omega
  rcases hd with rfl | rfl | rfl | rfl | rfl | rfl
  · exact un_of 0 (by omega)
  · exact un_of 1 (by omega)
  · by_cases e : q % 3 = 1
    · exact un_of 2 (by omega)
    · exact un_of 1 (by omega)
  · by_cases e : q % 4 = 1
    · exact un_of 3 (by omega)
    · exact un_of 1 (by omega)
  · by_cases e : q % 5 = 1
    · exact un_of 4 (by omega)
    · by_cases e : q % 5 = 2
      · exact un_of 2 (by omega)
      · by_cases e : q % 5 = 3
        · exact un_of 3 (by omega)
        · exact un_of 1 (by omega)
  · by_cases e : q % 6 = 1
    · exact un_of 5 (by omega)
    · have e5 : q % 6 = 5 := by
        obtain ⟨k, r, rfl, hr⟩ : ∃ k r, q = 6 * k + r ∧ r < 6 := ⟨q / 6, q % 6, by omega, by omega⟩
        have hr' : r = 0 ∨ r = 1 ∨ r = 2 ∨ r = 3 ∨ r = 4 ∨ r = 5 := by omega
        rcases hr' with rfl | rfl | rfl | rfl | rfl | rfl <;> omega
      clear h2 h3 h5 e
      exact un_of 1 (by omega)
theorem un_places {q n : Nat} {z : Nat → Nat} (hp : primeOf q = true) (h7 : 7 < q) (hz : ∀ k, 1 ≤ z k ∧ z k ≤ 7) (hu : ∀ i, i < n → ∀ k, k < i → z i ≠ z k) (i k : Nat) (hi : i < n) (hk : k < i) : Un q ((z i : Int) - z k) := by
  have h := no235 hp h7
  have h1 := hz i
  have h2 := hz k
  have h3 := hu i hi k hk
  rcases Nat.lt_or_ge (z k) (z i) with h4 | h4
  · have := un_small h (z i - z k) (by omega) (by omega)
    rwa [show ((z i - z k : Nat) : Int) = (z i : Int) - z k by omega] at this
  · have := un_small h (z k - z i) (by omega) (by omega)
    rw [show ((z k - z i : Nat) : Int) = (z k : Int) - z i by omega] at this
    exact Un.swap.1 this
theorem not_un_zero {q : Nat} (h : 1 < q) : ¬ Un q 0 := by
  rintro ⟨u, k, e⟩
  rw [Int.zero_mul] at e
  have h1 : (q : Int) * k = -1 := by omega
  have h2 : (q : Int) ∣ 1 := ⟨-k, by rw [Int.mul_neg, h1]; rfl⟩
  have := Int.le_of_dvd (by decide) h2
  omega
theorem decErr_zero {q t n : Nat} {z : Nat → Nat} (hq : Good q) (hp : primeOf q = true) (h7 : 7 < q) (ht : t ≤ 2) (hn : n ≤ 7) (hU : ∀ i k, i < n → k < i → Un q ((z i : Int) - z k)) : decErr q t n n z = 0 := by
  unfold decErr
  rw [if_neg (by rintro (h | h | h | h) <;> first | omega | (rw [hp] at h; cases h)), if_neg (by omega)]
  have ht6 : tw6 q z n = 0 := by
    unfold tw6
    rw [if_neg]
    intro h
    obtain ⟨i, k, hi, hk, h0⟩ := (twAll_iff _).1 h
    have h1 := cg_sub hq (z i) (z k)
    rw [h0] at h1
    exact not_un_zero (by omega) ((Un.cg h1).2 (hU i k hi hk))
  rw [if_neg (by simpa using ht6), (noAll_iff hq n).2 hU]
  rfl
/-! ### Which values are changed. -/
def cnt (lz : Nat → Nat) (ll q m : Nat) : Nat → Nat
  | 0 => 0
  | i + 1 => if i < ll ∧ lz i % q ≠ 0 ∧ cnt lz ll q m i < m then cnt lz ll q m i + 1 else cnt lz ll q m i
def bad (lz : Nat → Nat) (ll q m i : Nat) : Bool := decide (i < ll ∧ lz i % q ≠ 0 ∧ cnt lz ll q m i < m)
def badL (lz : Nat → Nat) (ll q m i : Nat) : List Nat := (List.range i).filter (bad lz ll q m)
theorem badL_len (lz : Nat → Nat) (ll q m : Nat) : ∀ i, (badL lz ll q m i).length = cnt lz ll q m i
  | 0 => rfl
  | i + 1 => by
    have ih := badL_len lz ll q m i
    unfold badL at ih ⊢
    rw [List.range_succ, List.filter_append, List.length_append, ih, show cnt lz ll q m (i + 1) = if i < ll ∧ lz i % q ≠ 0 ∧ cnt lz ll q m i < m then cnt lz ll q m i + 1 else cnt lz ll q m i from rfl]
    by_cases h : i < ll ∧ lz i % q ≠ 0 ∧ cnt lz ll q m i < m
    · have hb : bad lz ll q m i = true := decide_eq_true h
      rw [if_pos h, List.filter_cons, if_pos hb]; rfl
    · have hb : ¬ bad lz ll q m i = true := fun e => h (of_decide_eq_true e)
      rw [if_neg h, List.filter_cons, if_neg hb]; rfl
theorem cnt_le (lz : Nat → Nat) (ll q m : Nat) : ∀ i, cnt lz ll q m i ≤ m
  | 0 => Nat.zero_le _
  | i + 1 => by
    have := cnt_le lz ll q m i
    unfold cnt
    split <;> omega
theorem badL_yes {lz : Nat → Nat} {ll q m i : Nat} (h : bad lz ll q m i = true) : badL lz ll q m (i + 1) = badL lz ll q m i ++ [i] := by
  unfold badL
  rw [List.range_succ, List.filter_append, List.filter_cons, if_pos h]; rfl
theorem badL_no {lz : Nat → Nat} {ll q m i : Nat} (h : ¬ bad lz ll q m i = true) : badL lz ll q m (i + 1) = badL lz ll q m i := by
  unfold badL
  rw [List.range_succ, List.filter_append, List.filter_cons, if_neg h]; simp
theorem badL_end {lz : Nat → Nat} {ll q m i : Nat} (h : ll ≤ i) : ∀ n, i ≤ n → badL lz ll q m n = badL lz ll q m i
  | 0, h0 => by obtain rfl : i = 0 := by omega
                rfl
  | n + 1, h0 => by
    by_cases e : i = n + 1
    · subst e; rfl
    · rw [badL_no (by unfold bad; intro h1; have := of_decide_eq_true h1; omega)]
      exact badL_end h n (by omega)
/-- The values behind i rounds. -/
def lieY (y lz : Nat → Nat) (ll q m i k : Nat) : Nat := if k < i ∧ bad lz ll q m k = true then addU (y k) (lz k) q else y k
theorem lieY_zero (y lz : Nat → Nat) (ll q m k : Nat) : lieY y lz ll q m 0 k = y k := by unfold lieY; rw [if_neg (by omega)]
theorem lieY_here (y lz : Nat → Nat) (ll q m i : Nat) : lieY y lz ll q m i i = y i := by unfold lieY; rw [if_neg (by omega)]
theorem lieY_yes {y lz : Nat → Nat} {ll q m i : Nat} (h : bad lz ll q m i = true) (k : Nat) : lieY y lz ll q m (i + 1) k = if k = i then addU (y i) (lz i) q else lieY y lz ll q m i k := by
  unfold lieY
  by_cases e : k = i
  · subst e; rw [if_pos ⟨by omega, h⟩, if_pos rfl]
  · rw [if_neg e]
    by_cases h1 : k < i ∧ bad lz ll q m k = true
    · rw [if_pos h1, if_pos ⟨by omega, h1.2⟩]
    · rw [if_neg h1, if_neg (fun h2 => h1 ⟨by omega, h2.2⟩)]
theorem lieY_no {y lz : Nat → Nat} {ll q m i : Nat} (h : ¬ bad lz ll q m i = true) (k : Nat) : lieY y lz ll q m (i + 1) k = lieY y lz ll q m i k := by
  unfold lieY
  by_cases e : k = i
  · subst e; rw [if_neg (fun h2 => h h2.2), if_neg (by omega)]
  · by_cases h1 : k < i ∧ bad lz ll q m k = true
    · rw [if_pos h1, if_pos ⟨by omega, h1.2⟩]
    · rw [if_neg h1, if_neg (fun h2 => h1 ⟨by omega, h2.2⟩)]
theorem lieY_end {y lz : Nat → Nat} {ll q m i n k : Nat} (h : i = n ∨ ll ≤ i) (hk : k < n) : lieY y lz ll q m i k = if bad lz ll q m k = true then addU (y k) (lz k) q else y k := by
  unfold lieY
  by_cases hb : bad lz ll q m k = true
  · have h1 := of_decide_eq_true hb
    rw [if_pos hb, if_pos ⟨by omega, hb⟩]
  · rw [if_neg hb, if_neg (fun h => hb h.2)]
theorem lieY_lt {y lz : Nat → Nat} {ll q m i : Nat} (h : ∀ k, y k < 18446744073709551616) (k : Nat) : lieY y lz ll q m i k < 18446744073709551616 := by
  unfold lieY
  split
  · exact addU_lt _ _ _
  · exact h k
/-- What Decode tells of them. -/
theorem lies_told {q t n ll m i : Nat} (hq : Good q) {z lz c : Nat → Nat} (hU : ∀ i k, i < n → k < i → Un q ((z i : Int) - z k)) (hc : ∀ k, k < t + 1 → c k < q) (hm : m ≤ t) (hm2 : m + 2 * t + 1 ≤ n) (hi : i ≤ n) (he : i = n ∨ ll ≤ i) :
    ∃ s, (setsF (2 * t + 1) 0 n).find? (fitB q t z (lieY (fun k => evalU c (z k) q (t + 1)) lz ll q m i)) = some s ∧
      (∀ k, k < t + 1 → thruU q (pick z s) (pick (lieY (fun k => evalU c (z k) q (t + 1)) lz ll q m i) s) s.length k = c k) ∧
      missL q (t + 1) n z (lieY (fun k => evalU c (z k) q (t + 1)) lz ll q m i) (thruU q (pick z s) (pick (lieY (fun k => evalU c (z k) q (t + 1)) lz ll q m i) s) s.length) = badL lz ll q m i := by
  have hlen : ((List.range n).filter (bad lz ll q m)).length = cnt lz ll q m n := badL_len lz ll q m n
  have hle := cnt_le lz ll q m n
  have hsp := count_split (bad lz ll q m) (List.range n)
  rw [List.length_range] at hsp
  have hend : badL lz ll q m i = (List.range n).filter (bad lz ll q m) := by
    rcases he with rfl | h
    · rfl
    · exact (badL_end h n hi).symm
  rw [hend]
  refine lies hq (bad lz ll q m) hU hc (fun k hk hb => ?_) (fun k hk hb => ?_) (by omega) (by omega)
  · rw [lieY_end he hk, if_neg (by rw [hb]; decide)]
    exact (evalU_mod hq _).symm
  · rw [lieY_end he hk, if_pos hb, addU_of hq, Nat.mod_mod]
    intro e
    have hne := (of_decide_eq_true hb).2.1
    rw [← evalU_mod hq] at e
    generalize evalU c (z k) q (t + 1) = a at *
    apply hne
    have h1 : Cg q (((a % q : Nat) : Int) + lz k) a := by
      have := cg_nat e.symm
      rwa [Int.natCast_add] at this
    have h2 := h1.sub (cg_mod q a)
    have h3 : Cg q ((lz k : Nat) : Int) ((0 : Nat) : Int) := (Cg.of_eq (by omega)).trans (h2.trans (.of_eq (by simp)))
    have h4 := h3.nat
    rwa [Nat.zero_mod] at h4
end MM
namespace M
/-- Block B's first n cells hold the numbers z, none frozen; it lies behind all that was there at w0; nothing of that has changed. -/
structure Cel (w0 : World) (B n : Nat) (z : Nat → Nat) (w : World) : Prop where
  block : ∃ cs : Array Value, w.heap[B]? = some (.cells cs 22 (0, 0)) ∧ ∀ k, k < n → cs[k]? = some (.int .u64 ((z k : Nat) : Int))
  low : w0.heap.size ≤ B
  below : Below w0.heap.size w0 w
section
variable {w0 w w' : World} {B n : Nat} {z y : Nat → Nat}
theorem Cel.lt (h : Cel w0 B n z w) : B < w.heap.size := by obtain ⟨cs, h1, _⟩ := h.block; exact row_lt h1
theorem Cel.step (h : Cel w0 B n z w) (hb : Below w.heap.size w w') : Cel w0 B n z w' :=
  ⟨by obtain ⟨cs, h1, h2⟩ := h.block; exact ⟨cs, (hb.block B h.lt).trans h1, h2⟩, h.low, h.below.trans (hb.mono h.below.size)⟩
theorem Cel.congr (h : Cel w0 B n z w) (hz : ∀ k, k < n → z k = y k) : Cel w0 B n y w :=
  ⟨by obtain ⟨cs, h1, h3⟩ := h.block; exact ⟨cs, h1, fun k hk => by rw [h3 k hk, hz k hk]⟩, h.low, h.below⟩
theorem Cel.cell (h : Cel w0 B n z w) {k : Nat} (hk : k < n) : w.cell? ⟨B, k, none⟩ = some (.int .u64 ((z k : Nat) : Int)) := by
  obtain ⟨cs, h1, h3⟩ := h.block
  rw [cell_of_row w B k _ _ _ h1, h3 k hk]
theorem Cel.free (h : Cel w0 B n z w) (k : Nat) : w.frozen? ⟨B, k, none⟩ = false := by
  obtain ⟨cs, h1, _⟩ := h.block
  simp [World.frozen?, h1]
theorem Cel.set (h : Cel w0 B n z w) (k x : Nat) (hy : ∀ j, j < n → y j = if j = k then x else z j) (hk : k < n) : Cel w0 B n y (w.setCell ⟨B, k, none⟩ (.int .u64 (x : Int))) := by
  refine ⟨?_, h.low, h.below.setCell (p := ⟨B, k, none⟩) h.low _⟩
  obtain ⟨cs, h1, h3⟩ := h.block
  have hl : k < cs.size := (Array.getElem?_eq_some_iff.1 (h3 k hk)).1
  refine ⟨_, heap_setCell_same w B k cs _ _ h1, fun j hj => ?_⟩
  rw [hy j hj, Array.getElem?_setIfInBounds]
  by_cases e : k = j
  · subst e; rw [if_pos rfl, if_pos hl, if_pos rfl]
  · rw [if_neg e, if_neg (fun h => e h.symm), h3 j hj]
theorem Cel.rd (h : Cel w0 B n z w) : Rd w (some ⟨B, 0, none⟩) n z := fun _ => ⟨_, rfl, by
  obtain ⟨cs, h1, h3⟩ := h.block
  exact Row.of_block h1 h3⟩
theorem Own.cel {v : Value} {k C : Nat} (h : Own w0 C v k z w) (hk : 0 < k) : ∃ g c, v = .slice (some ⟨g, 0, none⟩) k c ∧ Cel w0 g k z w := by
  obtain ⟨_, ⟨_, h1⟩ | ⟨g, cap, cur, h1, h2, h3, h4, h5, _, h7⟩⟩ := h.own
  · omega
  · refine ⟨g, cap, h1, ⟨cur, h3, fun j hj => ?_⟩, Nat.le_trans h.low h2, h.below⟩
    have e1 : (cur.toList.take (k * 1))[j]? = (zlist k z)[j]? := by rw [h7]
    rw [zlist_get hj, List.getElem?_take_of_lt (by omega)] at e1
    simpa using e1
/-- Both the numbers, and the row of the ones that were changed. -/
def LieAt (w0 : World) (g n : Nat) (z : Nat → Nat) (C : Nat) (v : Value) (l : List Nat) (w : World) : Prop := g < C ∧ Cel w0 g n z w ∧ OwnI w0 C v l w
theorem LieAt.step {g C : Nat} {v : Value} {l : List Nat} (h : LieAt w0 g n z C v l w) (hb : Below w.heap.size w w') : LieAt w0 g n z C v l w' := ⟨h.1, h.2.1.step hb, h.2.2.step hb⟩
theorem LieAt.set {g C : Nat} {v : Value} {l : List Nat} (h : LieAt w0 g n z C v l w) (k x : Nat) (hy : ∀ j, j < n → y j = if j = k then x else z j) (hk : k < n) : LieAt w0 g n y C v l (w.setCell ⟨g, k, none⟩ (.int .u64 (x : Int))) := by
  obtain ⟨h1, h2, h3⟩ := h
  refine ⟨h1, h2.set k x hy hk, ⟨?_, ?_, h3.low, h3.below.setCell (p := ⟨g, k, none⟩) h2.low _⟩⟩
  · exact h3.own.kept (row := some g) ⟨rfl, rfl, rfl, by simp [World.setCell], fun j hj hne => Below.heap_setCell w ⟨g, k, none⟩ _ j (fun e => hne (by simp [e]))⟩ (by
      cases e : v.ownBlock with
      | none => simp
      | some b => have := (h3.own.lt b e).1; simp; omega)
  · have := h3.size
    simpa [World.setCell] using this
theorem LieAt.push {g C : Nat} {v : Value} {l : List Nat} (h : LieAt w0 g n z C v l w) (i c : Nat) (hl : l.length ≤ 1000) :
    ∃ v' w', (Builtin.append_ #[29, 29] 29 #[v, .slice (some ⟨w.heap.size, 0, none⟩) 1 c]).run Tryd.prog (w.alloc (.cells #[.int .i64 (i : Int)] 3)) = .ok v' w' ∧ LieAt w0 g n z C v' (l ++ [i]) w' := by
  obtain ⟨h1, h2, h3⟩ := h
  obtain ⟨i0, hi, hz0, hz1, hz2⟩ := info_parts info_i64
  have ha := h3.alloc (.cells #[.int .i64 (i : Int)] 3)
  have hc := h2.step (below_box w (.cells #[.int .i64 (i : Int)] 3))
  obtain ⟨v', w', hr, ho, hg, _⟩ := run_append_own (P := Tryd.prog) _ C 29 29 3 i0 (.int .i64 0) 1 8 Tryd.underlying29 hi hz0 hz1 hz2 rfl (by decide) v l.length (ilist l) ha.own ⟨w.heap.size, 0, none⟩ 1 c [.int .i64 (i : Int)] rfl (fun j u hj => by
    have hl := (List.getElem?_eq_some_iff.1 hj).1
    obtain rfl : j = 0 := by simpa using hl
    cases hj
    have e : (⟨w.heap.size, 0, none⟩ : Addr).add 0 = ⟨w.heap.size, 0, none⟩ := rfl
    rw [e, cell_of_row _ _ _ _ _ _ (heap_alloc_new w _)]; rfl) (by simp [Value.oneCell']) (by unfold maxLen; omega) (by omega) ha.size
  refine ⟨v', w', hr, h1, ⟨?_, h2.low, (ha.grow (l' := l ++ [i]) ho (by simp) (by simp [ilist]) hg).below⟩, ha.grow ho (by simp) (by simp [ilist]) hg⟩
  obtain ⟨cs, k1, k2⟩ := hc.block
  refine ⟨cs, (hg.block g hc.lt (fun e => ?_)).trans k1, k2⟩
  have := (ha.own.lt g e.symm).1
  omega
end
end M
end Go.Proofs.YtccpdjjgpkkkbaaDoor

/- RobS3: RobustLies: the walk. -/
namespace Go.Proofs.YtccpdjjgpkkkbaaDoor
open Go Go.RowKit Go.Lib
namespace M
set_option maxRecDepth 100000 in
set_option maxHeartbeats 800000 in
theorem lies_core (co lo : Option Addr) (lc cc ll cl t0 seed nq : Nat) (many : Int) (c lz : Nat → Nat) (ht0 : t0 < 256) (hs : seed < 18446744073709551616) (hn : nq < 18446744073709551616) (hlz : ∀ k, lz k < 18446744073709551616) (hlc : lc ≤ 100) (hll : ll ≤ 100) (W : World) (hL : Laid W) (hc : Rd W co lc c) (hl : Rd W lo ll lz) :
    Calls Tryd.prog 4 #[.slice co lc cc, .int .u8 (t0 : Int), .int .u64 (seed : Int), .int .i64 many, .slice lo ll cl, .int .u64 (nq : Int)] W fun e w' => e = .returned (.bool true) ∧ Below W.heap.size W w' := by
  have HAW := Lib.hid (awake_true W hL)
  have HPR := Lib.hid (fun w (h : St W w) => prime_pick nq hn w h.laid)
  have HC := Lib.hid hc
  have HLR := Lib.hid hl
  have HLZ := Lib.hid hlz
  have hlcI : ¬ (100 : Int) < (lc : Int) := by omega
  have hllI : ¬ (100 : Int) < (ll : Int) := by omega
  obtain ⟨t, ht⟩ : ∃ t, t0 % 3 = t := ⟨_, rfl⟩
  have ht2 : t ≤ 2 := by omega
  have htI : (t0 : Int) % 3 = (t : Int) := by omega
  have HS0 := Lib.hid (St.start hL)
  clear hc hl hlz hL
  go_enter Tryd.func4, Tryd.ntmps4
  go_upto_region 3 with (go_at_call 9; refine HAW.out.mono ?_; rintro e w1 ⟨rfl, b1⟩)
  go_upto_region 4 with (go_at_call 12; refine (HPR.out _ (HS0.out.step b1)).mono ?_; rintro e w2 ⟨p, rfl, hp, h7, b2⟩)
  have HS2 := Lib.hid ((HS0.out.step b1).step b2)
  clear b1 b2 HS0 HPR HAW hlcI hllI
  have HPL := Lib.hid (places_any seed t many hs ht2 w2)
  go_upto_region 5 with (go_at_call 13; refine HPL.out.mono ?_; rintro e w3 ⟨xo, n, cx, z, rfl, hx, hn1, hn2, hz, b3⟩)
  have HS3 := Lib.hid (HS2.out.step b3)
  have HX3 := Lib.hid hx
  have HUL := Lib.hid (unlike_any xo n cx z (by omega) w3 hx)
  clear b3 hx HS2 HPL
  go_wp2_with (go_at_call 14; refine HUL.out.mono ?_; rintro e w4 ⟨b, rfl, hun, b4⟩)
  · go_ret
    exact ⟨rfl, (HS3.out.step b4).below⟩
  have hb0 : (!b) = false := by assumption
  obtain rfl : b = true := by cases b with | true => rfl | false => cases hb0
  have HU := Lib.hid (MM.un_places hp h7 hz (hun rfl))
  have hq := good_of_prime hp
  have HE := Lib.hid (MM.decErr_zero hq hp h7 ht2 hn2 HU.out)
  have HS4 := Lib.hid (HS3.out.step b4)
  have HX4 := Lib.hid (HX3.out.below b4)
  have HRW := Lib.hid (row5_any co lc cc t p c ht2 hq.1 w4 (HC.out.below HS4.out.below))
  have HQ := Lib.hid hq
  have HZ := Lib.hid hz
  have HY7 := Lib.hid h7
  clear hb0 hun b4 HS3 HX3 HUL hq hp h7 hz HC
  refine HRW.out.mono ?_
  rintro e w5 ⟨rfl, hm5⟩
  have HS5 := Lib.hid (HS4.out.step hm5.below)
  have HX5 := Lib.hid (HX4.out.below hm5.below)
  have HR5 := Lib.hid hm5.rd
  have HL5 := Lib.hid (HLR.out.below HS5.out.below)
  generalize w4.heap.size = R at *
  obtain ⟨y0, hy0⟩ : ∃ y0 : Nat → Nat, y0 = fun k => MM.evalU (rowZ c lc p) (z k) p (t + 1) := ⟨_, rfl⟩
  have HY0 := Lib.hid hy0
  have HEV : Hid (∀ (k : Nat) (w : World), Below w5.heap.size w5 w → Calls Tryd.prog 16 #[.slice (some ⟨R, 0, none⟩) (t + 1) (t + 1), .int .u64 ((z k : Nat) : Int), .int .u64 (p : Int)] w fun e w' => e = .returned (.int .u64 ((y0 k : Nat) : Int)) ∧ Below w.heap.size w w') := Lib.hid fun k w h => by
    refine (eval_any (some ⟨R, 0, none⟩) (t + 1) (t + 1) (z k) p (rowZ c lc p) (by omega) (by have := HZ.out k; omega) w (HR5.out.below h)).mono ?_
    rintro e w' ⟨he, hb⟩
    rw [HY0.out]
    exact ⟨by rw [he, MM.horn_eval], hb⟩
  clear hm5 hy0 HS4 HX4 HRW HLR
  have HJ := Lib.hid (Own.start w5 y0)
  go_wp2_with fail
  go_loopw [16, 17] (fun s16 s17 wx => ∃ i : Nat, i ≤ n ∧ s17 = .int .i64 (i : Int) ∧ Hid (Own w5 w5.heap.size s16 i y0 wx)) (fun _ s17 _ => n - (RowKit.intOf s17).toNat)
  case atStart => exact ⟨0, Nat.zero_le _, rfl, HJ⟩
  case round =>
    clear HJ
    obtain ⟨i, hi, rfl, HI⟩ := hrel
    by_cases hlt : i < n
    · have hiI : (i : Int) < (n : Int) := by omega
      have hi0 : (0 : Int) ≤ (i : Int) := Int.natCast_nonneg _
      obtain ⟨ad, rfl, hcx⟩ := (HX5.out.below HI.out.below).at_ hlt
      go_wp2_with (first | (go_at_call 16; refine (HEV.out i _ HI.out.below).mono ?_; rintro e w6 ⟨rfl, b6⟩; obtain ⟨v7, w7, hr7, ho7⟩ := (HI.out.step b6).push5 1 (by omega); have HO := Lib.hid ho7; clear ho7) | (at_builtin; refine Lib.wpList_append_run _ rfl _ _ _ _ rfl _ _ rfl rfl _ _ hr7 ?_))
      go_roundw
      case rel => exact ⟨i + 1, by omega, by go_num, HO⟩
      case measure => simp [RowKit.intOf]; omega
    · have hiI : ¬ (i : Int) < (n : Int) := by omega
      obtain rfl : i = n := by omega
      obtain ⟨g, gc, rfl, hcel⟩ := HI.out.cel (by omega)
      obtain ⟨m, hm⟩ : ∃ m : Nat, m = min t (i - 2 * t - 1) := ⟨_, rfl⟩
      obtain ⟨C, hC⟩ : ∃ C, wr.heap.size = C := ⟨_, rfl⟩
      have HJ2 : Hid (LieAt w5 g i (MM.lieY y0 lz ll p m 0) C (.slice none 0 0) (MM.badL lz ll p m 0) wr) := Lib.hid ⟨by rw [← hC]; exact hcel.lt, hcel.congr fun k _ => (MM.lieY_zero y0 lz ll p m k).symm, ⟨⟨by simp [MM.badL, ilist], .inl ⟨rfl, rfl⟩⟩, by omega, by rw [← hC]; exact hcel.below.size, hcel.below⟩⟩
      have HM := Lib.hid hm
      have hmI : min (t : Int) ((i : Int) - 2 * (t : Int) - 1) = (m : Int) := by omega
      clear hcel HI HEV hC hm
      go_wp2_with fail
      go_loopw [18, 19] (fun s18 s19 wx => ∃ k : Nat, k ≤ i ∧ k ≤ ll ∧ s19 = .int .i64 (k : Int) ∧ Hid (LieAt w5 g i (MM.lieY y0 lz ll p m k) C s18 (MM.badL lz ll p m k) wx)) (fun _ s19 _ => i - (RowKit.intOf s19).toNat)
      case atStart => exact ⟨0, Nat.zero_le _, Nat.zero_le _, rfl, HJ2⟩
      case round =>
        clear HJ2
        obtain ⟨k, hk, hkl, rfl, HI⟩ := hrel
        have hk0 : (0 : Int) ≤ (k : Int) := Int.natCast_nonneg _
        obtain ⟨u, hu⟩ : ∃ u : Nat, (MM.badL lz ll p m k).length = u := ⟨_, rfl⟩
        obtain ⟨ao, ac, hv, hw⟩ := (HI.out.2.2.setV).ird
        rw [hu] at hv
        subst hv
        have HU2 := Lib.hid hu
        have HW2 := Lib.hid hw
        clear hu hw
        have HIS : k = i ∨ ll ≤ k → Hid (Calls Tryd.prog 10 #[.slice xo i cx, .slice (some ⟨g, 0, none⟩) i gc, .int .i64 (t : Int), .int .u64 (p : Int), .slice (some ⟨R, 0, none⟩) (t + 1) (t + 1), .slice ao u ac] wr fun e w' => e = .returned (.bool true) ∧ Below W.heap.size W w') := fun he => Lib.hid (by
          have hb := HI.out.2.1.below
          have hm1 : m ≤ t := by rw [HM.out]; exact Nat.min_le_left _ _
          have hm2 : m ≤ i - 2 * t - 1 := by rw [HM.out]; exact Nat.min_le_right _ _
          obtain ⟨sl, h1, h2, h3⟩ := MM.lies_told (lz := lz) (c := rowZ c lc p) (m := m) (i := k) HQ.out HU.out (fun j _ => by
            unfold rowZ
            split
            · exact Nat.mod_lt _ HQ.out.1
            · exact HQ.out.1) hm1 (by omega) hk he
          rw [← HY0.out] at h1 h2 h3
          have hi := is_true xo (some ⟨g, 0, none⟩) (some ⟨R, 0, none⟩) ao i cx gc (t + 1) ac p t z (MM.lieY y0 lz ll p m k) (rowZ c lc p) sl (MM.badL lz ll p m k) (fun j => by have := HZ.out j; omega) (MM.lieY_lt fun j => by rw [HY0.out]; exact MM.evalU_lt _ _ _ _) HE.out h1 h2 h3 wr (HS5.out.step hb).laid (HX5.out.below hb) HI.out.2.1.rd (HR5.out.below hb) HW2.out
          rw [HU2.out] at hi
          refine hi.mono ?_
          rintro e w' ⟨he, hb2⟩
          exact ⟨he, ((HS5.out.step hb).step hb2).below⟩)
        clear HW2
        by_cases hki : k < i
        · have hkI : (k : Int) < (i : Int) := by omega
          by_cases hkll : k < ll
          · clear HIS
            have hklI : (k : Int) < (ll : Int) := by omega
            have hu := HU2.out
            rw [MM.badL_len] at hu
            obtain ⟨ld, rfl, hcl⟩ := (HL5.out.below HI.out.2.1.below).at_ hkll
            obtain ⟨r, hr⟩ : ∃ r : Nat, lz k % p = r := ⟨_, rfl⟩
            have hrI : (lz k : Int) % (p : Int) = (r : Int) := by rw [← hr]; rfl
            have hp0 : (p : Int) ≠ 0 := by have := HY7.out; omega
            have hno : ¬ MM.bad lz ll p m k = true → Hid (LieAt w5 g i (MM.lieY y0 lz ll p m (k + 1)) C (.slice ao u ac) (MM.badL lz ll p m (k + 1)) wr) := fun hb => Lib.hid (by
              rw [MM.badL_no hb]
              exact ⟨HI.out.1, HI.out.2.1.congr fun j _ => (MM.lieY_no hb j).symm, HI.out.2.2⟩)
            by_cases hr0 : r = 0
            · subst hr0
              have HN := hno fun e => (of_decide_eq_true e).2.1 hr
              clear hno hr HI hu
              go_wp2_with fail
              go_roundw
              case rel => exact ⟨k + 1, by omega, by omega, by go_num, HN⟩
              case measure => simp [RowKit.intOf]; omega
            · have hr0I : ¬ (r : Int) = 0 := by omega
              by_cases hum : u < m
              · have humI : (u : Int) < (m : Int) := by omega
                have hb : MM.bad lz ll p m k = true := decide_eq_true ⟨hkll, by rw [hr]; exact hr0, by rw [hu]; exact hum⟩
                have HB := Lib.hid hb
                have hcg : wr.cell? ⟨g, k, none⟩ = some (.int .u64 ((y0 k : Nat) : Int)) := by
                  have := HI.out.2.1.cell hki
                  rwa [MM.lieY_here] at this
                have hfr := HI.out.2.1.free k
                have HNN : Hid (∀ a, LieAt w5 g i (MM.lieY y0 lz ll p m (k + 1)) C (.slice ao u ac) (MM.badL lz ll p m k) ((wr.drewN a).setCell ⟨g, k, none⟩ (.int .u64 ((MM.addU (y0 k) (lz k) p : Nat) : Int)))) := Lib.hid fun a => (HI.out.step (below_drewN' wr a _)).set k _ (fun j _ => MM.lieY_yes HB.out j) hki
                have HA := ret_addU (y0 k) (lz k) p
                generalize MM.addU (y0 k) (lz k) p = x2 at *
                generalize hyk : y0 k = yk at *
                generalize hlk : lz k = lk at *
                clear hno hr HI hu hb
                go_upto_region 18 with fail
                refine QT.region 12 (by kernel_rfl) (by kernel_rfl) ?_
                simp only [List.take_succ_cons, List.take_zero, List.drop_succ_cons, List.drop_zero]
                repeat (quiet_step ((first | (go_at_call 17; exact (HA).quiet))))
                refine wpQuiet_nil ?_
                intro na
                have h8 := HNN.out na
                clear HNN HA hyk hlk
                go_upto_region 19 with fail
                obtain ⟨W8, hW8⟩ : ∃ W8, (wr.drewN na).setCell ⟨g, k, none⟩ (.int .u64 (x2 : Int)) = W8 := ⟨_, rfl⟩
                rw [hW8] at h8 ⊢
                obtain ⟨v7, w7, hr7, ho7⟩ := h8.push k 1 (by rw [HU2.out]; omega)
                rw [← MM.badL_yes HB.out] at ho7
                have HO := Lib.hid ho7
                clear ho7 h8 hW8 hcg hfr
                go_wp2_with (at_builtin; refine Lib.wpList_append_run _ rfl _ _ _ _ rfl _ _ rfl rfl _ _ hr7 ?_)
                clear hr7
                go_roundw
                case rel => exact ⟨k + 1, by omega, by omega, by go_num, HO⟩
                case measure => simp [RowKit.intOf]; omega
              · have humI : ¬ (u : Int) < (m : Int) := by omega
                have HN := hno fun e => hum (hu ▸ (of_decide_eq_true e).2.2)
                clear hno hr HI hu
                go_wp2_with fail
                go_roundw
                case rel => exact ⟨k + 1, by omega, by omega, by go_num, HN⟩
                case measure => simp [RowKit.intOf]; omega
          · have hklI : ¬ (k : Int) < (ll : Int) := by omega
            have HIS2 := HIS (.inr (by omega))
            clear HIS
            go_wp2_with (go_at_call 10; refine HIS2.out.mono ?_; rintro e w9 ⟨rfl, b9⟩)
            go_ret
            exact ⟨rfl, b9⟩
        · have hkI : ¬ (k : Int) < (i : Int) := by omega
          have HIS2 := HIS (.inl (by omega))
          clear HIS
          go_wp2_with (go_at_call 10; refine HIS2.out.mono ?_; rintro e w9 ⟨rfl, b9⟩)
          go_ret
          exact ⟨rfl, b9⟩
end M
end Go.Proofs.YtccpdjjgpkkkbaaDoor

/- OpenN: How rows of numbers that come in are opened, where no parameters are about. -/
namespace Go.Proofs.YtccpdjjgpkkkbaaDoor
open Go.ChangeShapes Go.WideShapes Go.ChangeAt Go.RowKit
namespace M
theorem laidOut : laidOutB Tryd.prog = true := by kernel_rfl
/-- A row of numbers that came in: nil, or a slice whose cells read as numbers. -/
def NumsIn (w : World) (v : Value) : Prop := v = .slice none 0 0 ∨ ∃ (a : Addr) (n cap : Nat) (z : Nat → Nat), v = .slice (some a) n cap ∧ n ≤ 9223372036854775807 ∧ (∀ k, z k < 18446744073709551616) ∧ Row w a n z
set_option maxRecDepth 100000 in
theorem open_nums {H : Type} {enc : TypeId × Value → H} {w : World} {base : Nat} {spare : Nat → Bool} {held : Bool} {r : Reach} {b0 : Nat} {v : Value} {d : DataW H} {pl : List MemPlace}
    (hv : Value.okWide Tryd.prog w r b0 23 v) (h : DataW.Trod enc Tryd.prog w base spare held 23 v d pl) : NumsIn w v := by
  obtain ⟨ad, len0, cap0, rfl⟩ := okWide_slice Tryd.underlying23 hv
  obtain ⟨fuel, hf⟩ := h
  rcases open_ints Tryd.underlying23 Tryd.underlying22 (by kernel_rfl) hf with ⟨hcs, _⟩ | ⟨a, len, cap, zs, hcs, _, hl, hm, hz, _, hcell, hwf⟩
  · simp [Value.cells] at hcs
    obtain ⟨rfl, rfl, rfl⟩ := hcs
    exact .inl rfl
  · simp [Value.cells] at hcs
    obtain ⟨rfl, rfl, rfl⟩ := hcs
    have hle : len0 ≤ zs.length := by rw [hz]; split <;> omega
    unfold maxLen at hm
    have hb : ∀ k, k < zs.length → 0 ≤ zs.getD k 0 ∧ zs.getD k 0 ≤ 18446744073709551615 := fun k hk => by
      have hmem : zs.getD k 0 ∈ zs := by rw [List.getD_eq_getElem?_getD, List.getElem?_eq_getElem hk]; exact List.getElem_mem hk
      exact M.u64_bounds (hwf _ hmem)
    refine .inr ⟨a, len0, cap0, fun k => if k < zs.length then (zs.getD k 0).toNat else 0, rfl, by omega, fun k => ?_, fun k hk => ?_⟩
    · by_cases h : k < zs.length
      · have := hb k h; simp only [if_pos h]; omega
      · simp only [if_neg h]; omega
    · have h : k < zs.length := by omega
      have := hb k h
      rw [hcell k h]
      simp only [if_pos h]
      congr 2
      omega
end M
end Go.Proofs.YtccpdjjgpkkkbaaDoor

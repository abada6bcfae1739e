/- The texts WirSpec, RegX, WirLike, WirLoop, one behind the other. -/
import Derived.Test.YtaijnejbffnfpaaWB9
import Derived.Test.YtaijnejbffnfpaaWB4
import Derived.Test.YtaijnejbffnfpaaWB1
import Derived.Deep.MidRow
/- How many bytes a thing of a kind takes off, and what they are; things that were written, read. -/
namespace Go.Proofs.Ytaijnejbffnfpaa
open Go Go.RowKit Go.Lib
namespace MM
/-- How a thing of that kind is read off: what is wrong, or how many bytes it has. -/
def need (k : Nat) (x : List UInt8) : Int × Nat :=
  if k = 0 then (if x.length < 1 then (8, 0) else (0, 1))
  else if k = 3 then (if x.length < 2 then (8, 0) else if 2048 < val (x.take 2) then (40, 0) else if x.length - 2 < val (x.take 2) then (8, 0) else (0, 2 + val (x.take 2)))
  else if k = 4 then (if x.length < 2 then (8, 0) else if 1024 < val (x.take 2) then (40, 0) else if x.length - 2 < 8 * val (x.take 2) then (8, 0) else (0, 2 + 8 * val (x.take 2)))
  else if x.length < 8 then (8, 0) else if 5 ≤ k ∧ 4611686018427387904 < val (x.take 8) then (4, 0) else (0, 8)
theorem nums_num8 (t : List UInt8) : ∀ v, 8 * v ≤ t.length → nums (num8 t) v = t.take (8 * v)
  | 0, _ => by simp [nums]
  | v + 1, h => by
    rw [nums_succ, nums_num8 t v (by omega)]
    have h1 : dig (num8 t v) 8 = (t.drop (8 * v)).take 8 := by
      unfold num8
      exact dig_val 8 _ (by simp; omega)
    rw [h1, show 8 * (v + 1) = 8 * v + 8 by omega, List.take_add]
theorem dig_take (x : List UInt8) (n : Nat) (h : n ≤ x.length) : dig (val (x.take n)) n = x.take n := dig_val n _ (by simp; omega)
end MM
/-- What comes of reading a thing of kind k off the bytes x. -/
structure GotS (k : Nat) (x : List UInt8) (y : Th) (er : Int) (rest : List UInt8) : Prop where
  kind : y.k = k
  ok : y.Ok
  or : (er = 0 ∧ ∃ c, c ≤ x.length ∧ y.bytes = x.take c ∧ rest = x.drop c ∧ MM.need k x = (0, c)) ∨ (er ≠ 0 ∧ rest = [] ∧ y.n = 0 ∧ y.s = [] ∧ y.len = 0 ∧ (MM.need k x).1 = er)
namespace M
theorem num8_lt (t : List UInt8) (k : Nat) : MM.num8 t k < 18446744073709551616 := by
  unfold MM.num8
  have h := MM.val_lt ((t.drop (8 * k)).take 8).length _ rfl
  refine Nat.lt_of_lt_of_le h (Nat.le_trans (Nat.pow_le_pow_right (j := 8) (by omega) (by simp; omega)) (by decide))
theorem gotS_num (k : Nat) (hk : k = 1 ∨ k = 2) (x : List UInt8) : GotS k x ⟨k, (MM.rOff 8 x 0).1, [], none, 0, 0, fun _ => 0, 0⟩ (MM.rOff 8 x 0).2.1 (MM.rOff 8 x 0).2.2 := by
  refine ⟨rfl, ⟨by show k < 256; omega, rOff_lt64 8 x, fun _ => by show (0 : Nat) < _; omega, by show (0 : Int) ≤ _; omega, by simp, by show (0 : Nat) ≤ _; omega⟩, ?_⟩
  have hn : MM.need k x = if x.length < 8 then (8, 0) else (0, 8) := by
    unfold MM.need
    rw [if_neg (by omega), if_neg (by omega), if_neg (by omega), if_neg (by omega : ¬ (5 ≤ k ∧ _))]
  have hb : ∀ n, (⟨k, n, [], none, 0, 0, fun _ => 0, 0⟩ : Th).bytes = MM.dig n 8 := fun n => by
    unfold Th.bytes
    simp only
    rw [if_neg (by omega), if_neg (by omega), if_neg (by omega)]
  by_cases h : x.length < 8
  · rw [MM.rOff_short h]
    exact .inr ⟨by decide, rfl, rfl, rfl, rfl, by rw [hn, if_pos h]⟩
  · rw [MM.rOff_good (Nat.le_of_not_lt h)]
    exact .inl ⟨rfl, 8, Nat.le_of_not_lt h, by rw [hb]; exact MM.dig_take x 8 (Nat.le_of_not_lt h), rfl, by rw [hn, if_neg h]⟩
theorem gotS_byte (x : List UInt8) : GotS 0 x ⟨0, (MM.rOff 1 x 0).1, [], none, 0, 0, fun _ => 0, 0⟩ (MM.rOff 1 x 0).2.1 (MM.rOff 1 x 0).2.2 := by
  refine ⟨rfl, ⟨by show 0 < 256; omega, rOff_lt64 1 x, fun _ => by show (0 : Nat) < _; omega, by show (0 : Int) ≤ _; omega, by simp, by show (0 : Nat) ≤ _; omega⟩, ?_⟩
  have hn : MM.need 0 x = if x.length < 1 then (8, 0) else (0, 1) := by unfold MM.need; rw [if_pos rfl]
  have hlt := rOff_lt 1 x 0
  have hb : ∀ n, n < 256 → (⟨0, n, [], none, 0, 0, fun _ => 0, 0⟩ : Th).bytes = MM.dig n 1 := fun n h => by
    unfold Th.bytes
    simp only [if_true]
    rw [Nat.mod_eq_of_lt h]
  by_cases h : x.length < 1
  · rw [MM.rOff_short h]
    exact .inr ⟨by decide, rfl, rfl, rfl, rfl, by rw [hn, if_pos h]⟩
  · rw [MM.rOff_good (Nat.le_of_not_lt h)] at hlt ⊢
    exact .inl ⟨rfl, 1, Nat.le_of_not_lt h, by rw [hb _ (by simpa using hlt)]; exact MM.dig_take x 1 (Nat.le_of_not_lt h), rfl, by rw [hn, if_neg h]⟩
theorem gotS_count (k : Nat) (hk : 5 ≤ k) (hk2 : k < 256) (x : List UInt8) : GotS k x ⟨k, (MM.rCount 4611686018427387904 x 0).1, [], none, 0, 0, fun _ => 0, 0⟩ (MM.rCount 4611686018427387904 x 0).2.1 (MM.rCount 4611686018427387904 x 0).2.2 := by
  refine ⟨rfl, ⟨hk2, rCount_lt _ x, fun _ => by show (0 : Nat) < _; omega, by show (0 : Int) ≤ _; omega, by simp, by show (0 : Nat) ≤ _; omega⟩, ?_⟩
  have hn : MM.need k x = if x.length < 8 then (8, 0) else if 4611686018427387904 < MM.val (x.take 8) then (4, 0) else (0, 8) := by
    unfold MM.need
    rw [if_neg (by omega), if_neg (by omega), if_neg (by omega)]
    simp [hk]
  have hb : ∀ n, (⟨k, n, [], none, 0, 0, fun _ => 0, 0⟩ : Th).bytes = MM.dig n 8 := fun n => by
    unfold Th.bytes
    simp only
    rw [if_neg (by omega), if_neg (by omega), if_neg (by omega)]
  by_cases h : x.length < 8
  · rw [MM.rCount_short h]
    exact .inr ⟨by decide, rfl, rfl, rfl, rfl, by rw [hn, if_pos h]⟩
  have h := Nat.le_of_not_lt h
  by_cases hm : 4611686018427387904 < MM.val (x.take 8)
  · rw [MM.rCount_form h (.inr (by omega))]
    exact .inr ⟨by decide, rfl, rfl, rfl, rfl, by rw [hn, if_neg (by omega), if_pos hm]⟩
  · rw [MM.rCount_good h (by omega)]
    exact .inl ⟨rfl, 8, h, by rw [hb]; exact MM.dig_take x 8 h, rfl, by rw [hn, if_neg (by omega), if_neg hm]⟩
theorem gotS_text (x : List UInt8) : GotS 3 x ⟨3, 0, (MM.rText x 0).1, none, 0, 0, fun _ => 0, 0⟩ (MM.rText x 0).2.1 (MM.rText x 0).2.2 := by
  have hn : MM.need 3 x = if x.length < 2 then (8, 0) else if 2048 < MM.val (x.take 2) then (40, 0) else if x.length - 2 < MM.val (x.take 2) then (8, 0) else (0, 2 + MM.val (x.take 2)) := by
    unfold MM.need
    rw [if_neg (by omega), if_pos rfl]
  have ok : ∀ s : List UInt8, s.length ≤ 2048 → (⟨3, 0, s, none, 0, 0, fun _ => 0, 0⟩ : Th).Ok := fun s hs => ⟨by show 3 < 256; omega, by show 0 < _; omega, fun _ => by show (0 : Nat) < _; omega, by show (0 : Int) ≤ _; omega, by show s.length ≤ _; omega, by show (0 : Nat) ≤ _; omega⟩
  by_cases h : x.length < 2
  · rw [MM.rText_short h]
    exact ⟨rfl, ok [] (by simp), .inr ⟨by decide, rfl, rfl, rfl, rfl, by rw [hn, if_pos h]⟩⟩
  have h := Nat.le_of_not_lt h
  by_cases hm : 2048 < MM.val (x.take 2)
  · rw [MM.rText_large h hm]
    exact ⟨rfl, ok [] (by simp), .inr ⟨by decide, rfl, rfl, rfl, rfl, by rw [hn, if_neg (by omega), if_pos hm]⟩⟩
  have hm := Nat.le_of_not_lt hm
  by_cases hl : x.length - 2 < MM.val (x.take 2)
  · rw [MM.rText_less h hm hl]
    exact ⟨rfl, ok [] (by simp), .inr ⟨by decide, rfl, rfl, rfl, rfl, by rw [hn, if_neg (by omega), if_neg (by omega), if_pos hl]⟩⟩
  have hl := Nat.le_of_not_lt hl
  rw [MM.rText_good h hm hl]
  have hlen : ((x.drop 2).take (MM.val (x.take 2))).length = MM.val (x.take 2) := by simp; omega
  refine ⟨rfl, ok _ (by rw [hlen]; exact hm), .inl ⟨rfl, 2 + MM.val (x.take 2), by omega, ?_, ?_, by rw [hn, if_neg (by omega), if_neg (by omega), if_neg (by omega)]⟩⟩
  · unfold Th.bytes
    simp only
    rw [if_neg (by omega), if_pos trivial, if_pos (by rw [hlen]; exact hm)]
    unfold MM.textB
    rw [hlen, MM.dig_take x 2 h, List.take_add]
  · simp only [List.drop_drop]
theorem gotS_list (x : List UInt8) (bo : Option Addr) (cp : Nat) : GotS 4 x ⟨4, 0, [], bo, (MM.rList x 0).2.1, cp, (MM.rList x 0).2.2.1, 0⟩ (MM.rList x 0).1 (MM.rList x 0).2.2.2 := by
  have hn : MM.need 4 x = if x.length < 2 then (8, 0) else if 1024 < MM.val (x.take 2) then (40, 0) else if x.length - 2 < 8 * MM.val (x.take 2) then (8, 0) else (0, 2 + 8 * MM.val (x.take 2)) := by
    unfold MM.need
    rw [if_neg (by omega), if_neg (by omega), if_pos rfl]
  have ok : ∀ (n : Nat) (z : Nat → Nat), n ≤ 1024 → (∀ k, z k < 18446744073709551616) → (⟨4, 0, [], bo, n, cp, z, 0⟩ : Th).Ok := fun n z hn hz => ⟨by show 4 < 256; omega, by show 0 < _; omega, hz, by show (0 : Int) ≤ _; omega, by simp, by show n ≤ _; omega⟩
  have hz0 : ∀ k : Nat, (fun _ : Nat => (0 : Nat)) k < 18446744073709551616 := fun _ => by show (0 : Nat) < _; omega
  by_cases h : x.length < 2
  · rw [MM.rList_short h]
    exact ⟨rfl, ok 0 _ (by omega) hz0, .inr ⟨by decide, rfl, rfl, rfl, rfl, by rw [hn, if_pos h]⟩⟩
  have h := Nat.le_of_not_lt h
  by_cases hm : 1024 < MM.val (x.take 2)
  · rw [MM.rList_large h hm]
    exact ⟨rfl, ok 0 _ (by omega) hz0, .inr ⟨by decide, rfl, rfl, rfl, rfl, by rw [hn, if_neg (by omega), if_pos hm]⟩⟩
  have hm := Nat.le_of_not_lt hm
  by_cases hl : x.length - 2 < 8 * MM.val (x.take 2)
  · rw [MM.rList_less h hm hl]
    exact ⟨rfl, ok 0 _ (by omega) hz0, .inr ⟨by decide, rfl, rfl, rfl, rfl, by rw [hn, if_neg (by omega), if_neg (by omega), if_pos hl]⟩⟩
  have hl := Nat.le_of_not_lt hl
  rw [MM.rList_good h hm hl]
  refine ⟨rfl, ok _ _ hm (num8_lt _), .inl ⟨rfl, 2 + 8 * MM.val (x.take 2), by omega, ?_, ?_, by rw [hn, if_neg (by omega), if_neg (by omega), if_neg (by omega)]⟩⟩
  · unfold Th.bytes
    simp only
    rw [if_neg (by omega), if_neg (by omega), if_pos trivial, if_pos hm]
    unfold MM.listB
    rw [MM.dig_take x 2 h, MM.nums_num8 _ _ (by simp; omega), List.take_add]
  · simp only [List.drop_drop]
theorem need_bytes (t : Th) (ok : t.Ok) (hm : t.may = true) (more : List UInt8) : MM.need t.k (t.bytes ++ more) = (0, t.bytes.length) := by
  obtain ⟨k, n, s, ao, len, cap, z, m⟩ := t
  have hn := ok.n
  simp only at hn
  unfold Th.may at hm
  simp only [Bool.and_eq_true, Bool.or_eq_true, bne_iff_ne, ne_eq, decide_eq_true_eq] at hm
  obtain ⟨⟨h3, h4⟩, h5⟩ := hm
  unfold Th.bytes MM.need
  simp only
  by_cases k0 : k = 0
  · subst k0
    simp
  rw [if_neg k0, if_neg k0]
  by_cases k3 : k = 3
  · subst k3
    have hs := h3.resolve_left (by simp)
    rw [if_pos rfl, if_pos rfl, if_pos hs]
    have ht : (MM.textB s ++ more).take 2 = MM.dig s.length 2 := by unfold MM.textB; rw [List.append_assoc, List.take_left' (by simp)]
    have hv : MM.val ((MM.textB s ++ more).take 2) = s.length := by rw [ht, MM.val_dig]; omega
    have hl : (MM.textB s ++ more).length = 2 + s.length + more.length := by unfold MM.textB; simp; omega
    rw [hv, hl, if_neg (by omega), if_neg (by omega), if_neg (by omega)]
    unfold MM.textB; simp
  rw [if_neg k3, if_neg k3]
  by_cases k4 : k = 4
  · subst k4
    have hs := h4.resolve_left (by simp)
    rw [if_pos rfl, if_pos rfl, if_pos hs]
    have ht : (MM.listB len z ++ more).take 2 = MM.dig len 2 := by unfold MM.listB; rw [List.append_assoc, List.take_left' (by simp)]
    have hv : MM.val ((MM.listB len z ++ more).take 2) = len := by rw [ht, MM.val_dig]; omega
    have hl : (MM.listB len z ++ more).length = 2 + 8 * len + more.length := by unfold MM.listB; simp; omega
    rw [hv, hl, if_neg (by omega), if_neg (by omega), if_neg (by omega)]
    unfold MM.listB; simp
  rw [if_neg k4, if_neg k4]
  have ht : (MM.dig n 8 ++ more).take 8 = MM.dig n 8 := List.take_left' (by simp)
  have hv : MM.val ((MM.dig n 8 ++ more).take 8) = n := by rw [ht, MM.val_dig]; omega
  rw [hv, if_neg (by simp), if_neg (fun h => by
    have := h5.resolve_left (by omega)
    omega)]
  simp
theorem need_cut (t : Th) (ok : t.Ok) (hm : t.may = true) (j : Nat) (hj : j < t.bytes.length) : (MM.need t.k (t.bytes.take j)).1 = 8 := by
  obtain ⟨k, n, s, ao, len, cap, z, m⟩ := t
  have hn := ok.n
  simp only at hn
  unfold Th.may at hm
  simp only [Bool.and_eq_true, Bool.or_eq_true, bne_iff_ne, ne_eq, decide_eq_true_eq] at hm
  obtain ⟨⟨h3, h4⟩, h5⟩ := hm
  unfold Th.bytes at hj ⊢
  unfold MM.need
  simp only at hj ⊢
  by_cases k0 : k = 0
  · subst k0
    simp only [if_true, MM.dig_len] at hj ⊢
    rw [if_pos (by simp; omega)]
  rw [if_neg k0] at hj ⊢
  rw [if_neg k0]
  by_cases k3 : k = 3
  · subst k3
    have hs := h3.resolve_left (by simp)
    rw [if_pos rfl, if_pos hs] at hj ⊢
    rw [if_pos rfl]
    have hl : ((MM.textB s).take j).length = j := by rw [List.length_take]; omega
    have hL : (MM.textB s).length = 2 + s.length := by unfold MM.textB; simp
    by_cases h2 : j < 2
    · rw [if_pos (by rw [hl]; exact h2)]
    · have ht : ((MM.textB s).take j).take 2 = MM.dig s.length 2 := by rw [List.take_take, Nat.min_eq_left (by omega)]; unfold MM.textB; exact List.take_left' (by simp)
      have hv : MM.val (((MM.textB s).take j).take 2) = s.length := by rw [ht, MM.val_dig]; omega
      rw [hv, hl, if_neg h2, if_neg (by omega), if_pos (by omega)]
  rw [if_neg k3] at hj ⊢
  rw [if_neg k3]
  by_cases k4 : k = 4
  · subst k4
    have hs := h4.resolve_left (by simp)
    rw [if_pos rfl, if_pos hs] at hj ⊢
    rw [if_pos rfl]
    have hl : ((MM.listB len z).take j).length = j := by rw [List.length_take]; omega
    have hL : (MM.listB len z).length = 2 + 8 * len := by unfold MM.listB; simp
    by_cases h2 : j < 2
    · rw [if_pos (by rw [hl]; exact h2)]
    · have ht : ((MM.listB len z).take j).take 2 = MM.dig len 2 := by rw [List.take_take, Nat.min_eq_left (by omega)]; unfold MM.listB; exact List.take_left' (by simp)
      have hv : MM.val (((MM.listB len z).take j).take 2) = len := by rw [ht, MM.val_dig]; omega
      rw [hv, hl, if_neg h2, if_neg (by omega), if_pos (by omega)]
  rw [if_neg k4] at hj ⊢
  rw [if_neg k4]
  simp only [MM.dig_len] at hj
  rw [if_pos (by simp; omega)]
theorem GotS.whole {t y : Th} {er : Int} {rest more : List UInt8} (h : GotS t.k (t.bytes ++ more) y er rest) (ok : t.Ok) (hm : t.may = true) : er = 0 ∧ y.bytes = t.bytes ∧ rest = more := by
  have hn := need_bytes t ok hm more
  rcases h.or with ⟨h0, c, _, hb, hr, hc⟩ | ⟨h0, _, _, _, _, he⟩
  · rw [hn] at hc
    obtain rfl : t.bytes.length = c := by injection hc
    exact ⟨h0, by rw [hb, List.take_left' rfl], by rw [hr, List.drop_left' rfl]⟩
  · rw [hn] at he
    exact absurd he.symm h0
theorem GotS.cut {t y : Th} {er : Int} {rest : List UInt8} {j : Nat} (h : GotS t.k (t.bytes.take j) y er rest) (ok : t.Ok) (hm : t.may = true) (hj : j < t.bytes.length) : er = 8 ∧ rest = [] ∧ y.n = 0 ∧ y.s = [] ∧ y.len = 0 := by
  have hn := need_cut t ok hm j hj
  rcases h.or with ⟨h0, c, _, _, _, hc⟩ | ⟨_, h1, h2, h3, h4, he⟩
  · rw [hc] at hn
    cases hn
  · exact ⟨he.symm.trans hn, h1, h2, h3, h4⟩
theorem rd_none (W : World) (z : Nat → Nat) : Rd W none 0 z := fun h => absurd h (by omega)
theorem got_any (t : Th) (hk : t.k < 256) (g : Nat) (x : List UInt8) (W : World) (h : RAt WR g x 0 W) :
    Calls Try.prog 21 #[.agg t.cells, .pointer (some ⟨g, 0, none⟩)] W fun e w' => ∃ (y : Th) (er : Int) (rest : List UInt8), e = .returned (.tuple #[.agg y.cells, .int .i64 er]) ∧ RAt WR g rest er w' ∧ Turn g W w' ∧ Rd w' y.ao y.len y.z ∧ GotS t.k x y er rest := by
  obtain ⟨k, n, s, ao, len, cap, z, m⟩ := t
  simp only at hk ⊢
  match k with
  | 0 => exact (got_0 n s ao len cap m g x W h).mono fun _ w' ⟨a, b, c⟩ => ⟨⟨0, _, [], none, 0, 0, fun _ => 0, 0⟩, _, _, a, b, c, rd_none _ _, gotS_byte x⟩
  | 1 => exact (got_1 n s ao len cap m g x W h).mono fun _ w' ⟨a, b, c⟩ => ⟨⟨1, _, [], none, 0, 0, fun _ => 0, 0⟩, _, _, a, b, c, rd_none _ _, gotS_num 1 (.inl rfl) x⟩
  | 2 => exact (got_2 n s ao len cap m g x W h).mono fun _ w' ⟨a, b, c⟩ => ⟨⟨2, _, [], none, 0, 0, fun _ => 0, 0⟩, _, _, a, b, c, rd_none _ _, gotS_num 2 (.inr rfl) x⟩
  | 3 => exact (got_3 n s ao len cap m g x W h).mono fun _ w' ⟨a, b, c⟩ => ⟨⟨3, 0, _, none, 0, 0, fun _ => 0, 0⟩, _, _, a, b, c, rd_none _ _, gotS_text x⟩
  | 4 => exact (got_4 n s ao len cap m g x W h).mono fun _ w' ⟨bo, cp, a, b, c, d⟩ => ⟨⟨4, 0, [], bo, _, cp, _, 0⟩, _, _, a, b, c, d, gotS_list x bo cp⟩
  | k + 5 => exact (got_5 (k + 5) n s ao len cap m g x (by omega) W h).mono fun _ w' ⟨a, b, c⟩ => ⟨⟨k + 5, _, [], none, 0, 0, fun _ => 0, 0⟩, _, _, a, b, c, rd_none _ _, gotS_count (k + 5) (by omega) hk x⟩
end M
end Go.Proofs.Ytaijnejbffnfpaa
/- Drawn regions in which more than one operation may come, and operations that make memory: for regions that are walked by hand. -/
namespace Go.Proofs.Ytaijnejbffnfpaa
open Go Go.RowKit Go.Lib
namespace RK
/-- Number i alone may come, and makes a value and a world. -/
theorem Any.exec {P : Program} {md : Region.Mode} {ops : Array Oper} {Q : Exit → Act → World → Prop} {S : World → Prop} {st : Nat} {s : Array Bool} {a : Act} {w w1 : World} {f : Nat} (i t : Nat) {o : Oper} (v : Value) (hr : Region.ready md ops s = [i]) (hi : ops[i]? = some o) (hd : o.dst = some t) (hw : Region.wanted o (yielded ops a.tmps) = true)
    (he : (execOp a.eval o).run P w = .ok (.value v) w1) (hS : S w1) (h : Any P md ops Q S st f (s.setIfInBounds i true) { a with tmps := a.tmps.setIfInBounds t v } w1) : Any P md ops Q S st (f + 1) s a w :=
  ⟨fun e => (by rw [hr] at e; cases e), fun j hj => by
    rw [hr] at hj
    obtain rfl : j = i := by simpa using hj
    unfold wpOp
    simp only [hi, hw, if_true]
    refine .inl ?_
    unfold Oper.wp
    rw [he, Oper.upon_value, hd]
    exact ⟨fun _ => hS, h⟩⟩
theorem exec_append {P : Program} {o : Oper} {a : Act} {w w' : World} {v' : Value} (s x : Operand) (t tn : TypeId) (ho : o.op = .call { callee := .builtin .append, args := #[s, x], argTypes := #[t, tn] }) (vs vx : Value) (hs : a.eval s = vs) (hx : a.eval x = vx)
    (hr : (Builtin.append_ #[t, tn] o.type #[vs, vx]).run P w = .ok v' w') : (execOp a.eval o).run P w = .ok (.value v') w' := by
  unfold execOp
  simp only [ho, resolve, invoke, builtin, Sem.run_bind, Sem.run_pure, Result.andThen_ok, List.map_toArray, List.map_cons, List.map_nil, hs, hx, hr]
section
variable {P : Program} {md : Region.Mode} {ops : Array Oper} {Q : Exit → Act → World → Prop} {S : World → Prop} {st : Nat}
/-- Each of some operations may come. -/
theorem Any.each {s : Array Bool} {a : Act} {w : World} {f : Nat} (l : List Nat) (hr : Region.ready md ops s = l) (h0 : l ≠ []) (h : ∀ i ∈ l, wpOp P ops Q i (fun a' w' => (i ≠ st → S w') ∧ Any P md ops Q S st f (s.setIfInBounds i true) a' w') a w) : Any P md ops Q S st (f + 1) s a w :=
  ⟨fun e => absurd (hr.symm.trans e) h0, fun i hi => h i (hr ▸ hi)⟩
theorem wpOp_exec {i t : Nat} {o : Oper} {v : Value} {a : Act} {w w1 : World} {K : Act → World → Prop} (hi : ops[i]? = some o) (hd : o.dst = some t) (hw : Region.wanted o (yielded ops a.tmps) = true) (he : (execOp a.eval o).run P w = .ok (.value v) w1) (h : K { a with tmps := a.tmps.setIfInBounds t v } w1) : wpOp P ops Q i K a w := by
  unfold wpOp
  simp only [hi, hw, if_true]
  refine .inl ?_
  unfold Oper.wp
  rw [he, Oper.upon_value, hd]
  exact h
theorem wpOp_call {i t : Nat} {o : Oper} {g : FuncId} {args : Array Value} {a : Act} {w : World} {K : Act → World → Prop} (hi : ops[i]? = some o) (hd : o.dst = some t) (hw : Region.wanted o (yielded ops a.tmps) = true) (he : (execOp a.eval o).run P w = .ok (.enter g args) w)
    (h : Calls P g args w fun e w' => ∃ v, e = .returned v ∧ K { a with tmps := a.tmps.setIfInBounds t v } w') : wpOp P ops Q i K a w := by
  unfold wpOp
  simp only [hi, hw, if_true]
  refine .inl ?_
  unfold Oper.wp
  rw [he, Oper.upon_enter]
  refine h.mono ?_
  rintro e w' ⟨v, rfl, h1⟩
  rw [hd]
  exact h1
end
/-- A region, cut off from what follows. -/
theorem cut {P : Program} {c : Code} {Q : Exit → Act → World → Prop} {a : Act} {w : World} (R : Act → Act → World → Prop) (h1 : c.wp P (fun e a' w' => e = .normal ∧ R a a' w') a w) (h2 : ∀ a' w', R a a' w' → Q .normal a' w') : c.wp P Q a w :=
  wp_mono h1 fun e a' w' ⟨he, hr⟩ => by subst he; exact h2 a' w' hr
theorem Any.race {P : Program} {md : Region.Mode} {ops : Array Oper} {Q : Exit → Act → World → Prop} {S : World → Prop} {st : Nat} {s : Array Bool} {a : Act} {w : World} {f : Nat} (i j ti tj : Nat) {oi oj : Oper} (R : Value → Value → World → Prop)
    (hr : Region.ready md ops s = [i, j]) (hr1 : Region.ready md ops (s.setIfInBounds i true) = [j]) (hr2 : Region.ready md ops (s.setIfInBounds j true) = [i]) (hi : ops[i]? = some oi) (hj : ops[j]? = some oj) (hdi : oi.dst = some ti) (hdj : oj.dst = some tj)
    (hwi : Region.wanted oi (yielded ops a.tmps) = true) (hwj : Region.wanted oj (yielded ops a.tmps) = true) (hij : i ≠ j) (hne : ti ≠ tj)
    (h1 : ∃ v1 v2 w1 w2, (execOp a.eval oi).run P w = .ok (.value v1) w1 ∧ (execOp (Act.eval { a with tmps := a.tmps.setIfInBounds ti v1 }) oj).run P w1 = .ok (.value v2) w2 ∧ R v1 v2 w2 ∧ Region.wanted oj (yielded ops (a.tmps.setIfInBounds ti v1)) = true ∧ S w1)
    (h2 : ∃ v1 v2 w1 w2, (execOp a.eval oj).run P w = .ok (.value v2) w1 ∧ (execOp (Act.eval { a with tmps := a.tmps.setIfInBounds tj v2 }) oi).run P w1 = .ok (.value v1) w2 ∧ R v1 v2 w2 ∧ Region.wanted oi (yielded ops (a.tmps.setIfInBounds tj v2)) = true ∧ S w1)
    (hS : ∀ v1 v2 W, R v1 v2 W → S W)
    (h : ∀ v1 v2 W, R v1 v2 W → Any P md ops Q S st f ((s.setIfInBounds i true).setIfInBounds j true) { a with tmps := (a.tmps.setIfInBounds ti v1).setIfInBounds tj v2 } W) : Any P md ops Q S st (f + 1 + 1) s a w := by
  refine Any.each [i, j] hr (by simp) fun x hx => ?_
  simp only [List.mem_cons, List.not_mem_nil, or_false] at hx
  rcases hx with rfl | rfl
  · obtain ⟨v1, v2, w1, w2, e1, e2, hR, hw, hs⟩ := h1
    exact wpOp_exec hi hdi hwi e1 ⟨fun _ => hs, Any.exec j tj v2 hr1 hj hdj hw e2 (hS _ _ _ hR) (h v1 v2 w2 hR)⟩
  · obtain ⟨v1, v2, w1, w2, e1, e2, hR, hw, hs⟩ := h2
    have h3 := h v1 v2 w2 hR
    rw [Array.setIfInBounds_comm _ _ hij, Array.setIfInBounds_comm _ _ hne] at h3
    exact wpOp_exec hj hdj hwj e1 ⟨fun _ => hs, Any.exec i ti v1 hr2 hi hdi hw e2 (hS _ _ _ hR) h3⟩
/-- Three that make a block each may come in whatever row. -/
theorem Any.race3 {P : Program} {md : Region.Mode} {ops : Array Oper} {Q : Exit → Act → World → Prop} {S : World → Prop} {st : Nat} {s : Array Bool} {a : Act} {w : World} {f : Nat} (i j k ti tj tk ni nj nk : Nat) {oi oj ok : Oper} (ci cj ck : Array Value) (t : TypeId)
    (hij : i ≠ j) (hik : i ≠ k) (hjk : j ≠ k) (hr : Region.ready md ops s = [i, j, k]) (hri : Region.ready md ops (s.setIfInBounds i true) = [j, k]) (hrj : Region.ready md ops (s.setIfInBounds j true) = [i, k]) (hrk : Region.ready md ops (s.setIfInBounds k true) = [i, j])
    (hrij : Region.ready md ops ((s.setIfInBounds i true).setIfInBounds j true) = [k]) (hrik : Region.ready md ops ((s.setIfInBounds i true).setIfInBounds k true) = [j]) (hrjk : Region.ready md ops ((s.setIfInBounds j true).setIfInBounds k true) = [i])
    (hi : ops[i]? = some oi) (hj : ops[j]? = some oj) (hk : ops[k]? = some ok) (hdi : oi.dst = some ti) (hdj : oj.dst = some tj) (hdk : ok.dst = some tk) (htij : ti ≠ tj) (htik : ti ≠ tk) (htjk : tj ≠ tk)
    (hgi : oi.guard = none) (hgj : oj.guard = none) (hgk : ok.guard = none)
    (ei : ∀ (b : Act) (u : World), (execOp b.eval oi).run P u = .ok (.value (.slice (some ⟨u.heap.size, 0, none⟩) ni ni)) (u.alloc (.cells ci t)))
    (ej : ∀ (b : Act) (u : World), (execOp b.eval oj).run P u = .ok (.value (.slice (some ⟨u.heap.size, 0, none⟩) nj nj)) (u.alloc (.cells cj t)))
    (ek : ∀ (b : Act) (u : World), (execOp b.eval ok).run P u = .ok (.value (.slice (some ⟨u.heap.size, 0, none⟩) nk nk)) (u.alloc (.cells ck t)))
    (hS : ∀ u, Below w.heap.size w u → S u)
    (h : ∀ x y z W, Below w.heap.size w W → W.heap[x]? = some (.cells ci t (0, 0)) → W.heap[y]? = some (.cells cj t (0, 0)) → W.heap[z]? = some (.cells ck t (0, 0)) →
      Any P md ops Q S st f (((s.setIfInBounds i true).setIfInBounds j true).setIfInBounds k true) { a with tmps := ((a.tmps.setIfInBounds ti (.slice (some ⟨x, 0, none⟩) ni ni)).setIfInBounds tj (.slice (some ⟨y, 0, none⟩) nj nj)).setIfInBounds tk (.slice (some ⟨z, 0, none⟩) nk nk) } W) : Any P md ops Q S st (f + 1 + 1 + 1) s a w := by
  have wi : ∀ tm, Region.wanted oi (yielded ops tm) = true := fun tm => by simp [Region.wanted, hgi]
  have wj : ∀ tm, Region.wanted oj (yielded ops tm) = true := fun tm => by simp [Region.wanted, hgj]
  have wk : ∀ tm, Region.wanted ok (yielded ops tm) = true := fun tm => by simp [Region.wanted, hgk]
  have bb := fun (u : World) (c : Array Value) => M.below_box u (.cells c t)
  have hn := fun (u : World) (c : Array Value) => heap_alloc_new u (.cells c t)
  have st1 : ∀ (u : World) (c : Array Value) (x : Nat) (o : Obj), u.heap[x]? = some o → (u.alloc (.cells c t)).heap[x]? = some o := fun u c x o hx => ((bb u c).block x (M.row_lt hx)).trans hx
  have b2 : ∀ (c d : Array Value), Below w.heap.size w ((w.alloc (.cells c t)).alloc (.cells d t)) := fun c d => (bb _ _).trans ((bb _ _).mono (bb _ _).size)
  have b3 : ∀ (c d e : Array Value), Below w.heap.size w (((w.alloc (.cells c t)).alloc (.cells d t)).alloc (.cells e t)) := fun c d e => (b2 c d).trans ((bb _ _).mono (b2 c d).size)
  have cs := fun {x y : Nat} (hxy : x ≠ y) (q : Array Bool) => Array.setIfInBounds_comm (xs := q) true true hxy
  refine Any.each [i, j, k] hr (by simp) fun x hx => ?_
  simp only [List.mem_cons, List.not_mem_nil, or_false] at hx
  rcases hx with rfl | rfl | rfl
  · refine wpOp_exec hi hdi (wi _) (ei _ _) ⟨fun _ => hS _ (bb _ _), Any.each [j, k] hri (by simp) fun y hy => ?_⟩
    simp only [List.mem_cons, List.not_mem_nil, or_false] at hy
    rcases hy with rfl | rfl
    · refine wpOp_exec hj hdj (wj _) (ej _ _) ⟨fun _ => hS _ (b2 _ _), Any.exec k tk _ hrij hk hdk (wk _) (ek _ _) (hS _ (b3 _ _ _)) ?_⟩
      exact h _ _ _ _ (b3 _ _ _) (st1 _ _ _ _ (st1 _ _ _ _ (hn _ _))) (st1 _ _ _ _ (hn _ _)) (hn _ _)
    · refine wpOp_exec hk hdk (wk _) (ek _ _) ⟨fun _ => hS _ (b2 _ _), Any.exec j tj _ hrik hj hdj (wj _) (ej _ _) (hS _ (b3 _ _ _)) ?_⟩
      have h3 := h _ _ _ _ (b3 ci ck cj) (st1 _ _ _ _ (st1 _ _ _ _ (hn _ _))) (hn _ _) (st1 _ _ _ _ (hn _ _))
      rw [Array.setIfInBounds_comm _ _ hjk, Array.setIfInBounds_comm _ _ htjk] at h3
      exact h3
  · refine wpOp_exec hj hdj (wj _) (ej _ _) ⟨fun _ => hS _ (bb _ _), Any.each [i, k] hrj (by simp) fun y hy => ?_⟩
    simp only [List.mem_cons, List.not_mem_nil, or_false] at hy
    rcases hy with rfl | rfl
    · refine wpOp_exec hi hdi (wi _) (ei _ _) ⟨fun _ => hS _ (b2 _ _), Any.exec k tk _ (by rw [← hrij, Array.setIfInBounds_comm _ _ hij]) hk hdk (wk _) (ek _ _) (hS _ (b3 _ _ _)) ?_⟩
      have h3 := h _ _ _ _ (b3 cj ci ck) (st1 _ _ _ _ (hn _ _)) (st1 _ _ _ _ (st1 _ _ _ _ (hn _ _))) (hn _ _)
      rw [Array.setIfInBounds_comm (xs := s) _ _ hij, Array.setIfInBounds_comm (xs := a.tmps) _ _ htij] at h3
      exact h3
    · refine wpOp_exec hk hdk (wk _) (ek _ _) ⟨fun _ => hS _ (b2 _ _), Any.exec i ti _ hrjk hi hdi (wi _) (ei _ _) (hS _ (b3 _ _ _)) ?_⟩
      have h3 := h _ _ _ _ (b3 cj ck ci) (hn _ _) (st1 _ _ _ _ (st1 _ _ _ _ (hn _ _))) (st1 _ _ _ _ (hn _ _))
      rw [Array.setIfInBounds_comm (xs := s) _ _ hij, Array.setIfInBounds_comm _ _ hik, Array.setIfInBounds_comm (xs := a.tmps) _ _ htij, Array.setIfInBounds_comm _ _ htik] at h3
      exact h3
  · refine wpOp_exec hk hdk (wk _) (ek _ _) ⟨fun _ => hS _ (bb _ _), Any.each [i, j] hrk (by simp) fun y hy => ?_⟩
    simp only [List.mem_cons, List.not_mem_nil, or_false] at hy
    rcases hy with rfl | rfl
    · refine wpOp_exec hi hdi (wi _) (ei _ _) ⟨fun _ => hS _ (b2 _ _), Any.exec j tj _ (by rw [← hrik, Array.setIfInBounds_comm _ _ hik]) hj hdj (wj _) (ej _ _) (hS _ (b3 _ _ _)) ?_⟩
      have h3 := h _ _ _ _ (b3 ck ci cj) (st1 _ _ _ _ (hn _ _)) (hn _ _) (st1 _ _ _ _ (st1 _ _ _ _ (hn _ _)))
      rw [Array.setIfInBounds_comm _ _ hjk, Array.setIfInBounds_comm (xs := s) _ _ hik, Array.setIfInBounds_comm _ _ htjk, Array.setIfInBounds_comm (xs := a.tmps) _ _ htik] at h3
      exact h3
    · refine wpOp_exec hj hdj (wj _) (ej _ _) ⟨fun _ => hS _ (b2 _ _), Any.exec i ti _ (by rw [← hrjk, Array.setIfInBounds_comm _ _ hjk]) hi hdi (wi _) (ei _ _) (hS _ (b3 _ _ _)) ?_⟩
      have h3 := h _ _ _ _ (b3 ck cj ci) (hn _ _) (st1 _ _ _ _ (hn _ _)) (st1 _ _ _ _ (st1 _ _ _ _ (hn _ _)))
      rw [Array.setIfInBounds_comm (xs := s) _ _ hij, Array.setIfInBounds_comm _ _ hik, Array.setIfInBounds_comm (xs := s) _ _ hjk, Array.setIfInBounds_comm (xs := a.tmps) _ _ htij, Array.setIfInBounds_comm _ _ htik, Array.setIfInBounds_comm (xs := a.tmps) _ _ htjk] at h3
      exact h3
end RK
end Go.Proofs.Ytaijnejbffnfpaa
/- Whether two things are alike; whether a thing may be. -/
namespace Go.Proofs.Ytaijnejbffnfpaa
open Go Go.RowKit Go.Lib
namespace M
/-- Two things in two boxes of their own. -/
structure LB (W : World) (b : Nat) (t o : Th) (w : World) : Prop where
  a : w.heap[b]? = some (.cells t.cells 45 (0, 0))
  c : w.heap[b + 1]? = some (.cells o.cells 45 (0, 0))
  below : Below W.heap.size W w
theorem LB.step {W w w' : World} {b : Nat} {t o : Th} (h : LB W b t o w) (hb : Below w.heap.size w w') : LB W b t o w' :=
  ⟨(hb.block _ (row_lt h.a)).trans h.a, (hb.block _ (row_lt h.c)).trans h.c, h.below.trans (hb.mono h.below.size)⟩
theorem load_th {w : World} {b : Nat} {cs : Array Value} (h : w.heap[b]? = some (.cells cs 45 (0, 0))) (hs : cs.size = 5) {ρ : Operand → Value} {o : Oper} {x : Operand} (ho : o.op = .load 45 x) (hx : ρ x = .pointer (some ⟨b, 0, none⟩)) :
    (execOp ρ o).run Try.prog w = .ok (.value (.agg cs)) w := by
  have hl := run_loadVar_row (P := Try.prog) w b _ 45 cs (0, 0) _ h Try.underlying45 rfl (by rw [hs]; exact info_th)
  unfold execOp
  simp only [ho, hx, Instr.loadAt, Instr.sureAddr, Sem.run_bind, Sem.run_pure, Result.andThen_ok, hl]
set_option maxHeartbeats 4000000 in
set_option maxRecDepth 100000 in
theorem like_yes (t o : Th) (ht : t.Ok) (ho : o.Ok) (hk : t.k = o.k) (hb : t.bytes = o.bytes) (W : World) (hrt : Rd W t.ao t.len t.z) (hro : Rd W o.ao o.len o.z) :
    Calls Try.prog 44 #[.agg t.cells, .agg o.cells] W fun e w' => e = .returned (.bool true) ∧ Below W.heap.size W w' := by
  have hP := fun (y : Th) (hy : y.Ok) (w : World) (hr : Rd w y.ao y.len y.z) => put_any y hy [] (by simp) w hr
  simp only [List.nil_append] at hP
  have HI : Hid (LB W W.heap.size t o ((W.alloc (.cells t.cells 45)).alloc (.cells o.cells 45))) := Lib.hid ⟨heap_alloc2_old _ _ _, heap_alloc2_new _ _ _, (below_box _ _).alloc (by simp) _⟩
  have HK := Lib.hid hk
  have HB := Lib.hid hb
  have HRT := Lib.hid hrt
  have HRO := Lib.hid hro
  clear hk hb hrt hro
  go_enter Try.func44, Try.ntmps44
  go_upto_region 1 with fail
  generalize (W.alloc (.cells t.cells 45)).alloc (.cells o.cells 45) = w2 at *
  generalize hbs : W.heap.size = b at *
  have HBS : Hid (W.heap.size = b) := Lib.hid hbs
  clear hbs
  have hkt : decide ((t.k : Int) = (t.k : Int)) = true := by simp
  refine RK.region (LB W b t o) 100 (by kernel_rfl) ?_
  have hS0 : LB W b t o w2.drew := HI.out.step (below_drewN _ 1)
  refine RK.Any.take 0 5 (.pointer (some ⟨b, 0, none⟩)) rfl rfl (by kernel_rfl) (by kernel_rfl) (by kernel_rfl) (by kernel_rfl) (fun _ _ _ h => h) (by rfl) (fun W' hb => ?_) hS0 ?_
  · go_simp
  simp only [List.setIfInBounds_toArray, List.set_cons_zero, List.set_cons_succ]
  refine RK.Any.take 1 6 (.int .u8 (t.k : Int)) rfl rfl (by kernel_rfl) (by kernel_rfl) (by kernel_rfl) (by kernel_rfl) (fun _ _ _ h => h) (by rfl) (fun W' hb => ?_) hS0 ?_
  · (have hc := (cell_of_row W' b 0 _ _ _ hb.a).trans rfl; go_simp)
  simp only [List.setIfInBounds_toArray, List.set_cons_zero, List.set_cons_succ]
  refine RK.Any.take 2 7 (.pointer (some ⟨b + 1, 0, none⟩)) rfl rfl (by kernel_rfl) (by kernel_rfl) (by kernel_rfl) (by kernel_rfl) (fun _ _ _ h => h) (by rfl) (fun W' hb => ?_) hS0 ?_
  · go_simp
  simp only [List.setIfInBounds_toArray, List.set_cons_zero, List.set_cons_succ]
  refine RK.Any.take 3 8 (.int .u8 (t.k : Int)) rfl rfl (by kernel_rfl) (by kernel_rfl) (by kernel_rfl) (by kernel_rfl) (fun _ _ _ h => h) (by rfl) (fun W' hb => ?_) hS0 ?_
  · (have hc : W'.cell? ⟨b + 1, 0, none⟩ = some (.int .u8 (t.k : Int)) := (cell_of_row W' (b + 1) 0 _ _ _ hb.c).trans (by rw [HK.out]; rfl)); go_simp
  simp only [List.setIfInBounds_toArray, List.set_cons_zero, List.set_cons_succ]
  refine RK.Any.take 4 9 (.bool true) rfl rfl (by kernel_rfl) (by kernel_rfl) (by kernel_rfl) (by kernel_rfl) (fun _ _ _ h => h) (by rfl) (fun W' hb => ?_) hS0 ?_
  · go_simp
  simp only [List.setIfInBounds_toArray, List.set_cons_zero, List.set_cons_succ]
  refine RK.Any.take 5 10 (.bool true) rfl rfl (by kernel_rfl) (by kernel_rfl) (by kernel_rfl) (by kernel_rfl) (fun _ _ _ h => h) (by rfl) (fun W' hb => ?_) hS0 ?_
  · go_simp
  simp only [List.setIfInBounds_toArray, List.set_cons_zero, List.set_cons_succ]
  refine RK.Any.take 6 11 (.agg t.cells) rfl rfl (by kernel_rfl) (by kernel_rfl) (by kernel_rfl) (by kernel_rfl) (fun _ _ _ h => h) (by rfl) (fun W' hb => ?_) hS0 ?_
  · exact load_th hb.a rfl rfl rfl
  simp only [List.setIfInBounds_toArray, List.set_cons_zero, List.set_cons_succ]
  refine RK.Any.take 8 13 (.agg o.cells) rfl rfl (by kernel_rfl) (by kernel_rfl) (by kernel_rfl) (by kernel_rfl) (fun _ _ _ h => h) (by rfl) (fun W' hb => ?_) hS0 ?_
  · exact load_th hb.c rfl rfl rfl
  simp only [List.setIfInBounds_toArray, List.set_cons_zero, List.set_cons_succ]
  refine RK.Any.call 7 12 43 #[.agg t.cells, .string ⟨#[]⟩] (by kernel_rfl) rfl rfl (by rfl) (by go_simp) (Calls.mono (hP t ht _ (HRT.out.below (by exact hS0.below))) ?_)
  rintro e w3 ⟨rfl, hb3⟩
  have hS3 := hS0.step hb3
  refine ⟨_, rfl, fun _ => hS3, ?_⟩
  simp only [List.setIfInBounds_toArray, List.set_cons_zero, List.set_cons_succ]
  refine RK.Any.call 9 14 43 #[.agg o.cells, .string ⟨#[]⟩] (by kernel_rfl) rfl rfl (by rfl) (by go_simp) (Calls.mono (hP o ho _ (HRO.out.below (by exact hS3.below))) ?_)
  rintro e w4 ⟨rfl, hb4⟩
  have hS4 := hS3.step hb4
  rw [← HB.out]
  refine ⟨_, rfl, fun _ => hS4, ?_⟩
  simp only [List.setIfInBounds_toArray, List.set_cons_zero, List.set_cons_succ]
  refine RK.Any.exec 10 15 (.bool true) (w1 := w4) (by kernel_rfl) rfl rfl (by rfl) (by go_simp) hS4 ?_
  simp only [List.setIfInBounds_toArray, List.set_cons_zero, List.set_cons_succ]
  refine RK.Any.exec 11 16 (.bool true) (w1 := w4) (by kernel_rfl) rfl rfl (by rfl) (by go_simp) hS4 ?_
  simp only [List.setIfInBounds_toArray, List.set_cons_zero, List.set_cons_succ]
  refine RK.Any.exec 12 4 (.bool true) (w1 := w4) (by kernel_rfl) rfl rfl (by rfl) (by go_simp) hS4 ?_
  simp only [List.setIfInBounds_toArray, List.set_cons_zero, List.set_cons_succ]
  refine RK.Any.done (by kernel_rfl) ?_
  go_wp2_with fail
  go_ret
  exact ⟨rfl, hS4.below⟩
end M
end Go.Proofs.Ytaijnejbffnfpaa
/- What the loops over things carry along; a thing as it lies in the row that came in; whether it may be. -/
namespace Go.Proofs.Ytaijnejbffnfpaa
open Go Go.RowKit Go.Lib
namespace M
/-- The reader stands; nothing that came in has changed. -/
structure InG (W : World) (g : Nat) (s : List UInt8) (e : Int) (w : World) : Prop where
  rg : RAt WR g s e w
  below : Below W.heap.size W w
  hg : W.heap.size ≤ g
section
variable {W w w1 : World} {g : Nat} {s s' : List UInt8} {e e' : Int}
theorem InG.next (h : InG W g s e w) (hr : RAt WR g s' e' w1) (ht : Turn g w w1) : InG W g s' e' w1 := ⟨hr, h.below.trans (ht.below h.hg h.below.size), h.hg⟩
theorem InG.step (h : InG W g s e w) (hb : Below w.heap.size w w1) : InG W g s e w1 := ⟨h.rg.step hb, h.below.trans (hb.mono h.below.size), h.hg⟩
end
/-- Five zero cells. -/
abbrev zTh : Array Value := #[.int .u8 0, .int .u64 0, .string ⟨#[]⟩, .slice none 0 0, .int .i64 0]
theorem th_one (t : Th) : (t.cells : Array Value).all (·.oneCell') = true := by simp [Value.oneCell']
theorem boxed_at (w : World) (cs : Array Value) : ((w.alloc (.cells zTh 45)).setRow w.heap.size cs).heap[w.heap.size]? = some (.cells cs 45 (0, 0)) :=
  setRow_heap _ _ _ _ _ _ (heap_alloc_new w _)
theorem boxed_below (w : World) (cs : Array Value) : Below w.heap.size w ((w.alloc (.cells zTh 45)).setRow w.heap.size cs) := by
  have h := below_box w (.cells zTh 45)
  exact ⟨h.os, h.tape, h.output, by simp [World.setRow], fun k hk => (setRow_other _ _ _ _ (by omega)).trans (h.block k hk)⟩
/-- A thing of a row, as it lies. -/
theorem thing_range {w : World} {a : Addr} {i : Nat} {t : Th} (h : ∀ (j : Nat) (u : Value), t.cells[j]? = some u → w.cell? (a.add (i * 5 + j)) = some u) :
    ∃ B O, a.add (i * 5) = ⟨B, O, none⟩ ∧ w.rangeAt B O t.cells.toList := by
  refine ⟨(a.add (i * 5)).block, (a.add (i * 5)).off, ?_, fun j v hv => cell_add (h j v (by simpa using hv))⟩
  have h0 := h 0 _ rfl
  rw [Nat.add_zero] at h0
  cases hs : (a.add (i * 5)).spot with
  | none => rw [← hs]
  | some x =>
    unfold World.cell? at h0
    rw [hs] at h0
    simp at h0
    split at h0 <;> cases h0
theorem range_below {W w : World} {B O : Nat} {cs : List Value} (h : W.rangeAt B O cs) (hb : Below W.heap.size W w) : w.rangeAt B O cs := fun j v hv => by
  rw [hb.cell (World.block_lt_of_cell? W _ (h j v hv))]
  exact h j v hv
theorem info_th2 (t : Th) : (Try.prog.info? 45).map (·.size) = some t.cells.toList.length := by kernel_rfl
end M
end Go.Proofs.Ytaijnejbffnfpaa

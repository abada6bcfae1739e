/- The texts ThruE, RobMath2, Law05a, Law05b, Law05c, one behind the other. -/
import Derived.Test.YtccpdjjgpkkkbaaDoorPolyEq3
import Derived.Test.YtccpdjjgpkkkbaaDoorRobW6
import Derived.Test.YtccpdjjgpkkkbaaDoorRegX
/- ThruE: The polynomial through points as it is reckoned, for closed statements. Nothing here speaks of the program. -/
namespace Go.Proofs.YtccpdjjgpkkkbaaDoor
namespace MM
/-! ### As it is reckoned. -/
def eu (m : Nat) : Nat → Nat → Nat → Nat → Nat → Nat
  | 0, _, _, inv, _ => inv
  | k + 1, rest, next, inv, aft => if next = 0 then inv else eu m k next (rest % next) aft (subm inv (rest / next * aft % m) m)
theorem eu_inv {a m : Nat} (hg : Nat.gcd a m = 1) : ∀ k rest next inv aft, next < k → InvAt a m rest next inv aft → IsInv a m (eu m k rest next inv aft)
  | 0, _, _, _, _, h, _ => absurd h (by omega)
  | k + 1, rest, next, inv, aft, hk, h => by
    unfold eu
    by_cases e : next = 0
    · subst e
      rw [if_pos rfl]
      obtain ⟨h1, h2⟩ := h.done
      exact h2 (by rw [h1, hg])
    · rw [if_neg e]
      exact eu_inv hg k _ _ _ _ (by have := Nat.mod_lt rest (Nat.pos_of_ne_zero e); omega) (h.step (Nat.pos_of_ne_zero e))
def invE (a m : Nat) : Nat := if Good m ∧ Nat.gcd a m = 1 then eu m (m + 1) m (a % m) 0 1 else 0
theorem invU_eq (a m : Nat) : invU a m = invE a m := by
  by_cases h : Good m ∧ Nat.gcd a m = 1
  · have h1 := eu_inv h.2 (m + 1) m (a % m) 0 1 (by have := Nat.mod_lt a h.1.1; omega) (InvAt.start a m h.1.1)
    rw [invU_of h.1 h1]; unfold invE; rw [if_pos h]
  · unfold invU invE; rw [if_neg h, if_neg h]
def facE (q : Nat) (z y : Nat → Nat) (i : Nat) (o : Nat → Nat) : Nat := mulU (subU (y i) (evalU o (z i) q i) q) (invE (evalU (noneU q z i) (z i) q (i + 1)) q) q
def thruE (q : Nat) (z y : Nat → Nat) : Nat → Nat → Nat
  | 0 => fun _ => 0
  | i + 1 => sumU i (i + 1) q (thruE q z y i) (scaleU (facE q z y i (thruE q z y i)) q (noneU q z i))
theorem thruE_eq (q : Nat) (z y : Nat → Nat) : ∀ n, thruU q z y n = thruE q z y n
  | 0 => rfl
  | n + 1 => by
    rw [thruU, thruE, thruE_eq q z y n]
    unfold facU facE
    rw [invU_eq]
end MM
end Go.Proofs.YtccpdjjgpkkkbaaDoor

/- RobMath2: The first set that fits, as it is reckoned; and what becomes of sets where one point is taken out. -/
namespace Go.Proofs.YtccpdjjgpkkkbaaDoor
namespace MM
def fitE (q t : Nat) (z y : Nat → Nat) (s : List Nat) : Bool := decide (degU (thruE q (pick z s) (pick y s) s.length) q s.length ≤ t)
theorem fitE_eq (q t : Nat) (z y : Nat → Nat) : fitB q t z y = fitE q t z y := by
  funext s
  unfold fitB fitE
  rw [thruE_eq]
/-! ### One point less. -/
def skip (out i : Nat) : Nat := if i < out then i else i + 1
def back (out i : Nat) : Option Nat := if i < out then some i else if out < i then some (i - 1) else none
theorem back_skip (out i : Nat) : back out (skip out i) = some i := by
  unfold back skip
  by_cases h : i < out
  · rw [if_pos h, if_pos h]
  · rw [if_neg h, if_neg (by omega), if_pos (by omega)]; rfl
theorem sets_skip : ∀ t, t < 3 → ∀ n, n < 8 → ∀ out, out < n → (setsF (2 * t + 1) 0 (n - 1)).map (·.map (skip out)) = (setsF (2 * t + 1) 0 n).filter fun s => !s.contains out := by decide +kernel
theorem pick_skip (z : Nat → Nat) (out : Nat) (s : List Nat) (k : Nat) (hk : k < s.length) : pick (fun i => z (skip out i)) s k = pick z (s.map (skip out)) k := by
  unfold pick
  rw [getD_at hk, getD_at (by simpa using hk), List.getElem_map]
theorem thru_skip (q : Nat) (z y : Nat → Nat) (out : Nat) (s : List Nat) :
    thruU q (pick (fun i => z (skip out i)) s) (pick (fun i => y (skip out i)) s) s.length = thruU q (pick z (s.map (skip out))) (pick y (s.map (skip out))) (s.map (skip out)).length := by
  rw [List.length_map]
  exact thruU_congr s.length fun i hi => ⟨pick_skip z out s i hi, pick_skip y out s i hi⟩
theorem fit_skip (q t : Nat) (z y : Nat → Nat) (out : Nat) (s : List Nat) : fitB q t (fun i => z (skip out i)) (fun i => y (skip out i)) s = fitB q t z y (s.map (skip out)) := by
  unfold fitB
  rw [thru_skip, List.length_map]
theorem find_skip {q t n out : Nat} (ht : t < 3) (hn : n < 8) (ho : out < n) {z y : Nat → Nat} {s0 : List Nat} (h : (setsF (2 * t + 1) 0 n).find? (fitB q t z y) = some s0) (hs : out ∉ s0) :
    ∃ s1, (setsF (2 * t + 1) 0 (n - 1)).find? (fitB q t (fun i => z (skip out i)) (fun i => y (skip out i))) = some s1 ∧ s1.map (skip out) = s0 := by
  have h1 : ((setsF (2 * t + 1) 0 n).filter fun s => !s.contains out).find? (fitB q t z y) = some s0 := by
    obtain ⟨hf, l1, l2, e, hno⟩ := List.find?_eq_some_iff_append.1 h
    rw [List.find?_filter]
    exact List.find?_eq_some_iff_append.2 ⟨by simp [hf, hs], l1, l2, e, fun a ha => by simp [hno a ha]⟩
  rw [← sets_skip t ht n hn out ho, List.find?_map] at h1
  obtain ⟨s1, h2, h3⟩ := Option.map_eq_some_iff.1 h1
  refine ⟨s1, ?_, h3⟩
  rw [← h2]
  congr 1
  funext s
  exact fit_skip q t z y out s
theorem range_skip : ∀ n, n < 8 → ∀ out, out < n → (List.range (n - 1)).map (skip out) = (List.range n).filter (· != out) := by decide +kernel
theorem missL_skip {q m n out : Nat} (hn : n < 8) (ho : out < n) (z y c : Nat → Nat) : missL q m (n - 1) (fun i => z (skip out i)) (fun i => y (skip out i)) c = (missL q m n z y c).filterMap (back out) := by
  have e : ∀ l : List Nat, l.filterMap (back out) = (l.filter (· != out)).filterMap (back out) := fun l => by
    induction l with
    | nil => rfl
    | cons a l ih =>
      by_cases h : a = out
      · subst h
        have hb : back a a = none := by unfold back; rw [if_neg (by omega), if_neg (by omega)]
        rw [List.filterMap_cons, hb, List.filter_cons, if_neg (by simp), ih]
      · rw [List.filter_cons, if_pos (by simpa using h), List.filterMap_cons, List.filterMap_cons, ih]
  unfold missL
  rw [e, List.filter_filter]
  have e2 : (fun a => (a != out) && (evalU c (z a) q m != y a % q)) = fun a => ((evalU c (z a) q m != y a % q)) && (a != out) := by funext a; exact Bool.and_comm _ _
  rw [e2, ← List.filter_filter, ← range_skip n hn out ho, List.filter_map, List.filterMap_map]
  have e3 : (back out ∘ skip out) = some := by funext i; exact back_skip out i
  rw [e3, List.filterMap_some]
  rfl
end MM
end Go.Proofs.YtccpdjjgpkkkbaaDoor

/- Law05a: The statements' own small functions: the same numbers; what Decode tells is what is given. -/
namespace Go.Proofs.YtccpdjjgpkkkbaaDoor
open Go Go.RowKit Go.Lib
namespace M
set_option maxHeartbeats 1000000 in
theorem nums_yes (ao bo : Option Addr) (n ca cb : Nat) (z : Nat → Nat) (hn : n ≤ 9223372036854775807) (W : World) (ha : Rd W ao n z) (hb : Rd W bo n z) :
    Calls Tryd.prog 32 #[.slice ao n ca, .slice bo n cb] W fun e w' => e = .returned (.bool true) ∧ Below W.heap.size W w' := by
  have HA := Lib.hid ha
  have HB := Lib.hid hb
  clear ha hb
  go_enter Tryd.func32, Tryd.ntmps32
  go_wp2_with fail
  go_loopw [5] (fun s5 wx => ∃ k m : Nat, k ≤ n ∧ s5 = .int .i64 (k : Int) ∧ wx = W.drewN m) (fun s5 _ => n - (RowKit.intOf s5).toNat)
  case atStart => exact ⟨0, 0, Nat.zero_le _, rfl, rfl⟩
  case round =>
    obtain ⟨k, m, hk, rfl, rfl⟩ := hrel
    by_cases hlt : k < n
    · obtain ⟨ad, rfl, hc⟩ := HA.out.at_ hlt
      obtain ⟨bd, rfl, hd⟩ := HB.out.at_ hlt
      go_upto_region 6 with fail
      generalize hwr : W.drewN m = wr
      have hcell : wr.cell? (ad.add k) = some (.int .u64 ((z k : Nat) : Int)) := by rw [← hwr]; exact hc
      have hdell : wr.cell? (bd.add k) = some (.int .u64 ((z k : Nat) : Int)) := by rw [← hwr]; exact hd
      have HWR := Lib.hid hwr
      clear hwr hc hd
      have hk0 : (0 : Int) ≤ (k : Int) := Int.natCast_nonneg _
      have hk1 : (k : Int) < (n : Int) := by omega
      go_quiet (fail)
      go_wp2_with fail
      go_roundw
      case rel => exact ⟨k + 1, _, by omega, by go_num, by rw [← HWR.out]; exact World.drewN_drewN _ _ _⟩
      case measure => simp [RowKit.intOf]; omega
    · obtain rfl : k = n := by omega
      go_wp2_with fail
      go_ret
      exact ⟨rfl, below_drewN' _ _ _⟩
/-- A row of whole numbers, as it is read. -/
def IRd (W : World) (ao : Option Addr) (l : List Nat) : Prop := ∀ k, k < l.length → ∃ ad, ao = some ad ∧ W.cell? (ad.add k) = some (.int .i64 ((l.getD k 0 : Nat) : Int))
theorem SetV.ird {W : World} {v : Value} {l : List Nat} (h : SetV W v l) : ∃ ao c, v = .slice ao l.length c ∧ IRd W ao l := by
  obtain ⟨rfl, rfl⟩ | ⟨g, c, rfl, hs⟩ := h
  · exact ⟨none, 0, rfl, fun k hk => absurd hk (by simp)⟩
  · refine ⟨_, c, rfl, fun k hk => ?_⟩
    obtain ⟨ad, e, hc⟩ := hs.cell
    exact ⟨ad, e, hc k hk⟩
theorem IRd.below {W W' : World} {ao : Option Addr} {l : List Nat} (h : IRd W ao l) (hb : Below W.heap.size W W') : IRd W' ao l := fun k hk => by
  obtain ⟨ad, e, hc⟩ := h k hk
  exact ⟨ad, e, (hb.cell (World.block_lt_of_cell? W _ hc)).trans hc⟩
set_option maxHeartbeats 1000000 in
theorem ints_yes (ao bo : Option Addr) (ca cb : Nat) (l : List Nat) (hl : l.length ≤ 1000) (W : World) (ha : IRd W ao l) (hb : IRd W bo l) :
    Calls Tryd.prog 33 #[.slice ao l.length ca, .slice bo l.length cb] W fun e w' => e = .returned (.bool true) ∧ Below W.heap.size W w' := by
  obtain ⟨n, hn⟩ : ∃ n, l.length = n := ⟨_, rfl⟩
  have HA : Hid (∀ k, k < n → ∃ ad, ao = some ad ∧ W.cell? (ad.add k) = some (.int .i64 ((l.getD k 0 : Nat) : Int))) := Lib.hid (hn ▸ ha)
  have HB : Hid (∀ k, k < n → ∃ ad, bo = some ad ∧ W.cell? (ad.add k) = some (.int .i64 ((l.getD k 0 : Nat) : Int))) := Lib.hid (hn ▸ hb)
  rw [hn] at hl ⊢
  clear ha hb hn
  go_enter Tryd.func33, Tryd.ntmps33
  go_wp2_with fail
  go_loopw [5] (fun s5 wx => ∃ k m : Nat, k ≤ n ∧ s5 = .int .i64 (k : Int) ∧ wx = W.drewN m) (fun s5 _ => n - (RowKit.intOf s5).toNat)
  case atStart => exact ⟨0, 0, Nat.zero_le _, rfl, rfl⟩
  case round =>
    obtain ⟨k, m, hk, rfl, rfl⟩ := hrel
    by_cases hlt : k < n
    · obtain ⟨ad, rfl, hc⟩ := HA.out k hlt
      obtain ⟨bd, rfl, hd⟩ := HB.out k hlt
      go_upto_region 6 with fail
      generalize hwr : W.drewN m = wr
      generalize l.getD k 0 = x at hc hd
      have hcell : wr.cell? (ad.add k) = some (.int .i64 ((x : Nat) : Int)) := by rw [← hwr]; exact hc
      have hdell : wr.cell? (bd.add k) = some (.int .i64 ((x : Nat) : Int)) := by rw [← hwr]; exact hd
      have HWR := Lib.hid hwr
      clear hwr hc hd
      have hk0 : (0 : Int) ≤ (k : Int) := Int.natCast_nonneg _
      have hk1 : (k : Int) < (n : Int) := by omega
      go_quiet (fail)
      go_wp2_with fail
      go_roundw
      case rel => exact ⟨k + 1, _, by omega, by go_num, by rw [← HWR.out]; exact World.drewN_drewN _ _ _⟩
      case measure => simp [RowKit.intOf]; omega
    · obtain rfl : k = n := by omega
      go_wp2_with fail
      go_ret
      exact ⟨rfl, below_drewN' _ _ _⟩
/-- What is given is what Decode tells. -/
theorem is_true (xo yo co wo : Option Addr) (n cx cy cc cw q t : Nat) (z y cf : Nat → Nat) (s l : List Nat) (hz : ∀ k, z k < 18446744073709551616) (hy : ∀ k, y k < 18446744073709551616) (hE : MM.decErr q t n n z = 0)
    (hf : (MM.setsF (2 * t + 1) 0 n).find? (MM.fitB q t z y) = some s) (hc : ∀ k, k < t + 1 → MM.thruU q (MM.pick z s) (MM.pick y s) s.length k = cf k) (hw : MM.missL q (t + 1) n z y (MM.thruU q (MM.pick z s) (MM.pick y s) s.length) = l)
    (w : World) (hL : Laid w) (hr : Rd w xo n z) (hs : Rd w yo n y) (hrc : Rd w co (t + 1) cf) (hrw : IRd w wo l) :
    Calls Tryd.prog 10 #[.slice xo n cx, .slice yo n cy, .int .i64 (t : Int), .int .u64 (q : Int), .slice co (t + 1) cc, .slice wo l.length cw] w fun e w' => e = .returned (.bool true) ∧ Below w.heap.size w w' := by
  have hll : l.length ≤ 7 := by
    have := MM.missL_len q (t + 1) n z y (MM.thruU q (MM.pick z s) (MM.pick y s) s.length)
    rw [hw] at this
    have := (decErr_none hE).2.2.2.2.1
    omega
  have htt := (decErr_none hE).2.2.1
  have hD : Calls Tryd.prog 11 #[.slice xo n cx, .slice yo n cy, .int .i64 (t : Int), .int .u64 (q : Int)] w fun e w' => ∃ B ao c c2, e = .returned (.tuple #[.slice (some ⟨B, 0, none⟩) (t + 1) c, .slice ao l.length c2, .int .i64 0]) ∧ Rd w' (some ⟨B, 0, none⟩) (t + 1) cf ∧ IRd w' ao l ∧ Below w.heap.size w w' := by
    refine (decode_any xo yo n n cx cy q t z y hz hy w hL hr hs).mono ?_
    rintro e w' ⟨vc, vw, ec, rfl, ⟨h0, _⟩ | ⟨_, hb, hT⟩⟩
    · exact absurd hE h0
    · rw [show ((t : Int)).toNat = t by omega, hf] at hT
      obtain ⟨rfl, ⟨B, rfl, _, hrow⟩, hv⟩ := hT
      rw [hw] at hv
      obtain ⟨ao, c2, rfl, hi⟩ := hv.ird
      exact ⟨B, ao, _, c2, rfl, fun _ => ⟨_, rfl, fun k hk => by rw [hrow k hk, hc k hk]⟩, hi, hb⟩
  have HD := Lib.hid hD
  have HC := Lib.hid hrc
  have HW := Lib.hid hrw
  clear hD hrc hrw hc hw hf hr hs hL hz hy hE
  go_enter Tryd.func10, Tryd.ntmps10
  go_upto_region 2 with (go_at_call 11; refine HD.out.mono ?_; rintro e w1 ⟨B, ao, c, c2, rfl, h1, h2, b1⟩; have H1 := Lib.hid h1; have H2 := Lib.hid h2; have B1 := Lib.hid b1; clear h1 h2 b1)
  have hN := nums_yes co (some ⟨B, 0, none⟩) (t + 1) cc c cf (by omega) w1 (HC.out.below B1.out) H1.out
  have HN := Lib.hid hN
  have HI := Lib.hid (fun W' (hb : Below w1.heap.size w1 W') => ints_yes wo ao cw c2 l (by omega) W' ((HW.out.below B1.out).below hb) (H2.out.below hb))
  clear hN
  go_wp2_with (first | (go_at_call 32; refine HN.out.mono ?_; rintro e w2 ⟨rfl, b2⟩) | (go_at_call 33; refine (HI.out _ b2).mono ?_; rintro e w3 ⟨rfl, b3⟩))
  go_ret
  exact ⟨rfl, (B1.out.trans (b2.mono B1.out.size)).trans (b3.mono (by have := B1.out.size; have := b2.size; omega))⟩
end M
end Go.Proofs.YtccpdjjgpkkkbaaDoor

/- Law05b: The examples that each statement asks for ahead of its own. -/
namespace Go.Proofs.YtccpdjjgpkkkbaaDoor
open Go Go.RowKit Go.Lib
namespace MM
def ofL (l : List Nat) (k : Nat) : Nat := l.getD k 0
theorem ofL_lt {l : List Nat} (h : l.all (· < 18446744073709551616) = true) (k : Nat) : ofL l k < 18446744073709551616 := by
  unfold ofL
  by_cases hk : k < l.length
  · rw [List.getD_eq_getElem?_getD, List.getElem?_eq_getElem hk]
    have := List.all_eq_true.1 h _ (List.getElem_mem hk)
    simpa using this
  · rw [List.getD_eq_getElem?_getD, List.getElem?_eq_none (by omega)]; show (0 : Nat) < _; omega
end MM
namespace M
def uarr (l : List Nat) : Array Value := (l.map fun (x : Nat) => Value.int .u64 (x : Int)).toArray
def iarr (l : List Nat) : Array Value := (l.map fun (x : Nat) => Value.int .i64 (x : Int)).toArray
theorem new_u (W : World) (l : List Nat) : Rd (W.alloc (.cells (uarr l) 22)) (some ⟨W.heap.size, 0, none⟩) l.length (MM.ofL l) := fun _ => ⟨_, rfl, Row.of_block (heap_alloc_new _ _) fun k hk => by
  unfold uarr MM.ofL
  rw [List.getD_eq_getElem?_getD]
  simp [hk]⟩
theorem new_i (W : World) (l : List Nat) : IRd (W.alloc (.cells (iarr l) 3)) (some ⟨W.heap.size, 0, none⟩) l := fun k hk => ⟨_, rfl, by
  have e : Addr.add ⟨W.heap.size, 0, none⟩ k = ⟨W.heap.size, k, none⟩ := by simp [Addr.add]; exact fun h => h.symm
  rw [e, cell_of_row _ _ _ _ _ _ (heap_alloc_new W _)]
  unfold iarr
  rw [List.getD_eq_getElem?_getD]
  simp [hk]⟩
/-- What is given at lists is what Decode tells, as it is reckoned. -/
theorem is_at (lx ly lc l s : List Nat) (q t n m u : Nat) (ti qi : Int) (hn : lx.length = n) (hm : t + 1 = m) (hu : l.length = u) (ht : (t : Int) = ti) (hq : (q : Int) = qi) (xo yo co wo : Option Addr) (cx cy cc cw : Nat) (hx : lx.all (· < 18446744073709551616) = true) (hy : ly.all (· < 18446744073709551616) = true)
    (h : MM.decErr q t n n (MM.ofL lx) = 0 ∧ (MM.setsF (2 * t + 1) 0 n).find? (MM.fitE q t (MM.ofL lx) (MM.ofL ly)) = some s ∧ (∀ k, k < m → MM.thruE q (MM.pick (MM.ofL lx) s) (MM.pick (MM.ofL ly) s) s.length k = MM.ofL lc k) ∧ MM.missL q m n (MM.ofL lx) (MM.ofL ly) (MM.thruE q (MM.pick (MM.ofL lx) s) (MM.pick (MM.ofL ly) s) s.length) = l)
    (w : World) (hL : Laid w) (hr : Rd w xo n (MM.ofL lx)) (hs : Rd w yo n (MM.ofL ly)) (hrc : Rd w co m (MM.ofL lc)) (hrw : IRd w wo l) :
    Calls Tryd.prog 10 #[.slice xo n cx, .slice yo n cy, .int .i64 ti, .int .u64 qi, .slice co m cc, .slice wo u cw] w fun e w' => e = .returned (.bool true) ∧ Below w.heap.size w w' := by
  subst hn hm hu ht hq
  exact is_true xo yo co wo lx.length cx cy cc cw q t _ _ _ s l (MM.ofL_lt hx) (MM.ofL_lt hy) h.1 (by rw [MM.fitE_eq]; exact h.2.1) (fun k hk => by rw [MM.thruE_eq]; exact h.2.2.1 k hk) (by rw [MM.thruE_eq]; exact h.2.2.2) w hL hr hs hrc hrw
/-- Three rows laid one behind the other. -/
theorem three (W : World) (l1 l2 l3 : List Nat) : ∃ W', ((W.alloc (.cells (uarr l1) 22)).alloc (.cells (uarr l2) 22)).alloc (.cells (iarr l3) 3) = W' ∧ Below W.heap.size W W' ∧ Rd W' (some ⟨W.heap.size, 0, none⟩) l1.length (MM.ofL l1) ∧ Rd W' (some ⟨W.heap.size + 1, 0, none⟩) l2.length (MM.ofL l2) ∧ IRd W' (some ⟨W.heap.size + 1 + 1, 0, none⟩) l3 := by
  have b1 := below_box W (.cells (uarr l1) 22)
  have r1 := new_u W l1
  have s1 : (W.alloc (.cells (uarr l1) 22)).heap.size = W.heap.size + 1 := World.size_alloc _ _
  obtain ⟨W1, h1⟩ : ∃ W1, W.alloc (.cells (uarr l1) 22) = W1 := ⟨_, rfl⟩
  rw [h1] at b1 r1 s1 ⊢
  have b2 := below_box W1 (.cells (uarr l2) 22)
  have r2 := new_u W1 l2
  have s2 : (W1.alloc (.cells (uarr l2) 22)).heap.size = W1.heap.size + 1 := World.size_alloc _ _
  obtain ⟨W2, h2⟩ : ∃ W2, W1.alloc (.cells (uarr l2) 22) = W2 := ⟨_, rfl⟩
  rw [h2] at b2 r2 s2 ⊢
  have b3 := below_box W2 (.cells (iarr l3) 3)
  have r3 := new_i W2 l3
  refine ⟨_, rfl, b1.trans ((b2.mono b1.size).trans (b3.mono (by have := b1.size; have := b2.size; omega))), (r1.below b2).below b3, ?_, ?_⟩
  · rw [← s1]; exact r2.below b3
  · rw [← s1, ← s2]; exact r3
/-- No set of points has a polynomial that fits. -/
theorem dec_none (lx ly : List Nat) (q t n : Nat) (ti qi : Int) (hn : lx.length = n) (ht : (t : Int) = ti) (hq : (q : Int) = qi) (xo yo : Option Addr) (cx cy : Nat) (hx : lx.all (· < 18446744073709551616) = true) (hy : ly.all (· < 18446744073709551616) = true)
    (h : MM.decErr q t n n (MM.ofL lx) = 0 ∧ (MM.setsF (2 * t + 1) 0 n).find? (MM.fitE q t (MM.ofL lx) (MM.ofL ly)) = none) (w : World) (hL : Laid w) (hr : Rd w xo n (MM.ofL lx)) (hs : Rd w yo n (MM.ofL ly)) :
    Calls Tryd.prog 11 #[.slice xo n cx, .slice yo n cy, .int .i64 ti, .int .u64 qi] w fun e w' => e = .returned (.tuple #[.slice none 0 0, .slice none 0 0, .int .i64 5]) ∧ Below w.heap.size w w' := by
  subst hn ht hq
  refine (decode_any xo yo lx.length lx.length cx cy q t _ _ (MM.ofL_lt hx) (MM.ofL_lt hy) w hL hr hs).mono ?_
  rintro e w' ⟨vc, vw, ec, rfl, ⟨h0, _⟩ | ⟨_, hb, hT⟩⟩
  · exact absurd h.1 h0
  · rw [show ((t : Int)).toNat = t by omega, MM.fitE_eq, h.2] at hT
    obtain ⟨rfl, rfl, rfl⟩ := hT
    exact ⟨rfl, hb⟩
theorem aw_none : MM.decErr 11 1 4 4 (MM.ofL [1, 2, 3, 4]) = 0 ∧ (MM.setsF (2 * 1 + 1) 0 4).find? (MM.fitE 11 1 (MM.ofL [1, 2, 3, 4]) (MM.ofL [5, 7, 0, 1])) = none := by decide +kernel
theorem aw_one : MM.decErr 11 1 4 4 (MM.ofL [1, 2, 3, 4]) = 0 ∧ (MM.setsF (2 * 1 + 1) 0 4).find? (MM.fitE 11 1 (MM.ofL [1, 2, 3, 4]) (MM.ofL [5, 7, 9, 1])) = some [0, 1, 2] ∧ (∀ k, k < 2 → MM.thruE 11 (MM.pick (MM.ofL [1, 2, 3, 4]) [0, 1, 2]) (MM.pick (MM.ofL [5, 7, 9, 1]) [0, 1, 2]) [0, 1, 2].length k = MM.ofL [3, 2] k) ∧ MM.missL 11 2 4 (MM.ofL [1, 2, 3, 4]) (MM.ofL [5, 7, 9, 1]) (MM.thruE 11 (MM.pick (MM.ofL [1, 2, 3, 4]) [0, 1, 2]) (MM.pick (MM.ofL [5, 7, 9, 1]) [0, 1, 2]) [0, 1, 2].length) = [3] := by decide +kernel
theorem aw_two : MM.decErr 11 0 4 4 (MM.ofL [1, 2, 3, 4]) = 0 ∧ (MM.setsF (2 * 0 + 1) 0 4).find? (MM.fitE 11 0 (MM.ofL [1, 2, 3, 4]) (MM.ofL [4, 6, 6, 4])) = some [0] ∧ (∀ k, k < 1 → MM.thruE 11 (MM.pick (MM.ofL [1, 2, 3, 4]) [0]) (MM.pick (MM.ofL [4, 6, 6, 4]) [0]) [0].length k = MM.ofL [4] k) ∧ MM.missL 11 1 4 (MM.ofL [1, 2, 3, 4]) (MM.ofL [4, 6, 6, 4]) (MM.thruE 11 (MM.pick (MM.ofL [1, 2, 3, 4]) [0]) (MM.pick (MM.ofL [4, 6, 6, 4]) [0]) [0].length) = [1, 2] := by decide +kernel
set_option maxRecDepth 100000 in
set_option maxHeartbeats 4000000 in
theorem awake_true (w : World) (hL : Laid w) : Calls Tryd.prog 9 #[] w fun e w' => e = .returned (.bool true) ∧ Below w.heap.size w w' := by
  obtain ⟨B, hB⟩ : ∃ B, w.heap.size = B := ⟨_, rfl⟩
  have r0 := new_u w [1, 2, 3, 4]
  have b0 := below_box w (.cells (uarr [1, 2, 3, 4]) 22)
  obtain ⟨W0, hW0⟩ : ∃ W0, w.alloc (.cells #[.int .u64 1, .int .u64 2, .int .u64 3, .int .u64 4] 22) = W0 := ⟨_, rfl⟩
  have hW0' : w.alloc (.cells (uarr [1, 2, 3, 4]) 22) = W0 := hW0
  rw [hW0', hB] at r0 b0
  have hL0 : Laid W0 := laid_below hL (by rw [hB]; exact b0)
  have sB : B < W0.heap.size := by rw [← hW0, World.size_alloc]; omega
  have hD : Calls Tryd.prog 11 #[.slice (some ⟨B, 0, none⟩) 4 4, .slice (some ⟨W0.heap.size, 0, none⟩) 4 4, .int .i64 1, .int .u64 11] (W0.alloc (.cells #[.int .u64 5, .int .u64 7, .int .u64 0, .int .u64 1] 22)) fun e w' => e = .returned (.tuple #[.slice none 0 0, .slice none 0 0, .int .i64 5]) ∧ Below W0.heap.size W0 w' := by
    have b := below_box W0 (.cells (uarr [5, 7, 0, 1]) 22)
    refine Calls.mono (dec_none [1, 2, 3, 4] [5, 7, 0, 1] 11 1 4 1 11 rfl rfl rfl (some ⟨B, 0, none⟩) (some ⟨W0.heap.size, 0, none⟩) 4 4 (by decide) (by decide) aw_none (W0.alloc (.cells (uarr [5, 7, 0, 1]) 22)) (laid_below hL0 b) (r0.below b) (new_u W0 [5, 7, 0, 1])) ?_
    rintro e w' ⟨h1, h2⟩
    exact ⟨h1, b.trans (h2.mono b.size)⟩
  have HI1 : Hid (∀ W, Below W0.heap.size W0 W → Calls Tryd.prog 10 #[.slice (some ⟨B, 0, none⟩) 4 4, .slice (some ⟨W.heap.size, 0, none⟩) 4 4, .int .i64 1, .int .u64 11, .slice (some ⟨W.heap.size + 1, 0, none⟩) 2 2, .slice (some ⟨W.heap.size + 1 + 1, 0, none⟩) 1 1] (((W.alloc (.cells #[.int .u64 5, .int .u64 7, .int .u64 9, .int .u64 1] 22)).alloc (.cells #[.int .u64 3, .int .u64 2] 22)).alloc (.cells #[.int .i64 3] 3)) fun e w' => e = .returned (.bool true) ∧ Below W.heap.size W w') := Lib.hid fun W hb => by
    obtain ⟨W', h', b', r1, r2, r3⟩ := three W [5, 7, 9, 1] [3, 2] [3]
    have h'' : ((W.alloc (.cells #[.int .u64 5, .int .u64 7, .int .u64 9, .int .u64 1] 22)).alloc (.cells #[.int .u64 3, .int .u64 2] 22)).alloc (.cells #[.int .i64 3] 3) = W' := h'
    rw [h'']
    refine Calls.mono (is_at [1, 2, 3, 4] [5, 7, 9, 1] [3, 2] [3] [0, 1, 2] 11 1 4 2 1 1 11 rfl rfl rfl rfl rfl (some ⟨B, 0, none⟩) (some ⟨W.heap.size, 0, none⟩) (some ⟨W.heap.size + 1, 0, none⟩) (some ⟨W.heap.size + 1 + 1, 0, none⟩) 4 4 2 1 (by decide) (by decide) aw_one W' (laid_below hL0 (hb.trans (b'.mono hb.size))) ((r0.below hb).below b') r1 r2 r3) ?_
    rintro e w' ⟨h1, h2⟩
    exact ⟨h1, b'.trans (h2.mono b'.size)⟩
  have HI2 : Hid (∀ W, Below W0.heap.size W0 W → Calls Tryd.prog 10 #[.slice (some ⟨B, 0, none⟩) 4 4, .slice (some ⟨W.heap.size, 0, none⟩) 4 4, .int .i64 0, .int .u64 11, .slice (some ⟨W.heap.size + 1, 0, none⟩) 1 1, .slice (some ⟨W.heap.size + 1 + 1, 0, none⟩) 2 2] (((W.alloc (.cells #[.int .u64 4, .int .u64 6, .int .u64 6, .int .u64 4] 22)).alloc (.cells #[.int .u64 4] 22)).alloc (.cells #[.int .i64 1, .int .i64 2] 3)) fun e w' => e = .returned (.bool true) ∧ Below W.heap.size W w') := Lib.hid fun W hb => by
    obtain ⟨W', h', b', r1, r2, r3⟩ := three W [4, 6, 6, 4] [4] [1, 2]
    have h'' : ((W.alloc (.cells #[.int .u64 4, .int .u64 6, .int .u64 6, .int .u64 4] 22)).alloc (.cells #[.int .u64 4] 22)).alloc (.cells #[.int .i64 1, .int .i64 2] 3) = W' := h'
    rw [h'']
    refine Calls.mono (is_at [1, 2, 3, 4] [4, 6, 6, 4] [4] [1, 2] [0] 11 0 4 1 2 0 11 rfl rfl rfl rfl rfl (some ⟨B, 0, none⟩) (some ⟨W.heap.size, 0, none⟩) (some ⟨W.heap.size + 1, 0, none⟩) (some ⟨W.heap.size + 1 + 1, 0, none⟩) 4 4 1 2 (by decide) (by decide) aw_two W' (laid_below hL0 (hb.trans (b'.mono hb.size))) ((r0.below hb).below b') r1 r2 r3) ?_
    rintro e w' ⟨h1, h2⟩
    exact ⟨h1, b'.trans (h2.mono b'.size)⟩
  have HD := Lib.hid hD
  have HB0 := Lib.hid b0
  clear hD r0 b0 hW0' hL hL0
  go_enter Tryd.func9, Tryd.ntmps9
  go_upto_region 3 with (go_at_call 11; refine HD.out.mono ?_; rintro e w1 ⟨rfl, b1⟩; have HB1 := Lib.hid b1; clear b1)
  go_wp2_with (go_at_call 10; first | (refine (HI2.out _ HB2.out).mono ?_; rintro e w3 ⟨rfl, b3⟩; have HB3 := Lib.hid (HB2.out.trans (b3.mono HB2.out.size)); clear b3) | (refine (HI1.out _ HB1.out).mono ?_; rintro e w2 ⟨rfl, b2⟩; have HB2 := Lib.hid (HB1.out.trans (b2.mono HB1.out.size)); clear b2))
  go_ret
  exact ⟨rfl, by rw [hB]; exact HB0.out.trans (HB3.out.mono (by omega))⟩
end M
end Go.Proofs.YtccpdjjgpkkkbaaDoor

/- Law05c: The closed statement of layer 5, call by call. -/
namespace Go.Proofs.YtccpdjjgpkkkbaaDoor
open Go Go.RowKit Go.Lib
namespace M
/-- What was there at w stands, and the tables of primes are laid. -/
structure St (w W : World) : Prop where
  below : Below w.heap.size w W
  laid : Laid W
theorem St.start {w : World} (h : Laid w) : St w w := ⟨Below.refl _ _, h⟩
theorem St.step {w W W' : World} (h : St w W) (hb : Below W.heap.size W W') : St w W' := ⟨h.below.trans (hb.mono h.below.size), laid_below h.laid hb⟩
theorem St.alloc {w W : World} (h : St w W) (o : Obj) : St w (W.alloc o) := h.step (below_box _ _)
theorem Rd.alloc {W : World} {ao : Option Addr} {n : Nat} {z : Nat → Nat} (h : Rd W ao n z) (o : Obj) : Rd (W.alloc o) ao n z := h.below (below_box _ _)
theorem IRd.alloc {W : World} {ao : Option Addr} {l : List Nat} (h : IRd W ao l) (o : Obj) : IRd (W.alloc o) ao l := h.below (below_box _ _)
theorem IRd.nil (W : World) (ao : Option Addr) : IRd W ao [] := fun k hk => absurd hk (by simp)
theorem rd_at {W : World} (l : List Nat) {b n : Nat} (hb : W.heap.size = b) (hn : l.length = n) : Rd (W.alloc (.cells (uarr l) 22)) (some ⟨b, 0, none⟩) n (MM.ofL l) := by subst hb hn; exact new_u W l
theorem ird_at {W : World} (l : List Nat) {b : Nat} (hb : W.heap.size = b) : IRd (W.alloc (.cells (iarr l) 3)) (some ⟨b, 0, none⟩) l := by subst hb; exact new_i W l
theorem Rd.part {W : World} {ao : Option Addr} {n m : Nat} {z y : Nat → Nat} (h : Rd W ao n z) (hm : m ≤ n) (e : ∀ k, k < m → z k = y k) : Rd W ao m y := fun h0 => by
  obtain ⟨ad, ha, hr⟩ := h (by omega)
  exact ⟨ad, ha, fun k hk => by rw [hr k (by omega), e k hk]⟩
theorem nm_one : MM.decErr 11 1 6 6 (MM.ofL [1, 2, 3, 4, 5, 6]) = 0 ∧ (MM.setsF (2 * 1 + 1) 0 6).find? (MM.fitE 11 1 (MM.ofL [1, 2, 3, 4, 5, 6]) (MM.ofL [1, 1, 1, 2, 2, 2])) = some [0, 1, 2] ∧ (∀ k, k < 2 → MM.thruE 11 (MM.pick (MM.ofL [1, 2, 3, 4, 5, 6]) [0, 1, 2]) (MM.pick (MM.ofL [1, 1, 1, 2, 2, 2]) [0, 1, 2]) [0, 1, 2].length k = MM.ofL [1, 0] k) ∧ MM.missL 11 2 6 (MM.ofL [1, 2, 3, 4, 5, 6]) (MM.ofL [1, 1, 1, 2, 2, 2]) (MM.thruE 11 (MM.pick (MM.ofL [1, 2, 3, 4, 5, 6]) [0, 1, 2]) (MM.pick (MM.ofL [1, 1, 1, 2, 2, 2]) [0, 1, 2]) [0, 1, 2].length) = [3, 4, 5] := by decide +kernel
theorem nm_two : MM.decErr 11 1 4 4 (MM.ofL [1, 2, 3, 4]) = 0 ∧ (MM.setsF (2 * 1 + 1) 0 4).find? (MM.fitE 11 1 (MM.ofL [1, 2, 3, 4]) (MM.ofL [5, 7, 9, 0])) = some [0, 1, 2] ∧ (∀ k, k < 2 → MM.thruE 11 (MM.pick (MM.ofL [1, 2, 3, 4]) [0, 1, 2]) (MM.pick (MM.ofL [5, 7, 9, 0]) [0, 1, 2]) [0, 1, 2].length k = MM.ofL [3, 2] k) ∧ MM.missL 11 2 4 (MM.ofL [1, 2, 3, 4]) (MM.ofL [5, 7, 9, 0]) (MM.thruE 11 (MM.pick (MM.ofL [1, 2, 3, 4]) [0, 1, 2]) (MM.pick (MM.ofL [5, 7, 9, 0]) [0, 1, 2]) [0, 1, 2].length) = [] := by decide +kernel
theorem nm_three : MM.decErr 2 0 1 1 (MM.ofL [3]) = 0 ∧ (MM.setsF (2 * 0 + 1) 0 1).find? (MM.fitE 2 0 (MM.ofL [3]) (MM.ofL [9])) = some [0] ∧ (∀ k, k < 1 → MM.thruE 2 (MM.pick (MM.ofL [3]) [0]) (MM.pick (MM.ofL [9]) [0]) [0].length k = MM.ofL [1] k) ∧ MM.missL 2 1 1 (MM.ofL [3]) (MM.ofL [9]) (MM.thruE 2 (MM.pick (MM.ofL [3]) [0]) (MM.pick (MM.ofL [9]) [0]) [0].length) = [] := by decide +kernel
theorem nm_four : MM.decErr 11 2 5 5 (MM.ofL [1, 2, 3, 4, 5]) = 0 ∧ (MM.setsF (2 * 2 + 1) 0 5).find? (MM.fitE 11 2 (MM.ofL [1, 2, 3, 4, 5]) (MM.ofL [0, 0, 0, 0, 0])) = some [0, 1, 2, 3, 4] ∧ (∀ k, k < 3 → MM.thruE 11 (MM.pick (MM.ofL [1, 2, 3, 4, 5]) [0, 1, 2, 3, 4]) (MM.pick (MM.ofL [0, 0, 0, 0, 0]) [0, 1, 2, 3, 4]) [0, 1, 2, 3, 4].length k = MM.ofL [0, 0, 0] k) ∧ MM.missL 11 3 5 (MM.ofL [1, 2, 3, 4, 5]) (MM.ofL [0, 0, 0, 0, 0]) (MM.thruE 11 (MM.pick (MM.ofL [1, 2, 3, 4, 5]) [0, 1, 2, 3, 4]) (MM.pick (MM.ofL [0, 0, 0, 0, 0]) [0, 1, 2, 3, 4]) [0, 1, 2, 3, 4].length) = [] := by decide +kernel
/-- The table of what Decode refuses, or finds nothing for. -/
def rowsT : List (Nat × Nat × Int × Nat × Int) := [(2, 2, 1, 11, 5), (0, 0, 0, 11, 5), (3, 3, 1, 9, 1), (3, 3, 1, 0, 1), (3, 3, 1, 1, 1), (3, 3, -1, 11, 1), (3, 3, 3, 11, 1), (3, 2, 1, 11, 1), (8, 8, 1, 11, 40), (4, 4, 1, 3, 6), (4, 4, 2, 11, 5), (8, 8, 1, 3, 40)]
def okRow (r : Nat × Nat × Int × Nat × Int) : Bool := decide (r.1 ≤ 8) && decide (r.2.1 ≤ 8) && ((decide (MM.decErr r.2.2.2.1 r.2.2.1 r.1 r.2.1 (MM.ofL [0, 1, 2, 3, 4, 5, 6, 7]) = r.2.2.2.2) && decide (r.2.2.2.2 ≠ 0)) ||
  (decide (MM.decErr r.2.2.2.1 r.2.2.1 r.1 r.2.1 (MM.ofL [0, 1, 2, 3, 4, 5, 6, 7]) = 0) && ((MM.setsF (2 * r.2.2.1.toNat + 1) 0 r.1).find? (MM.fitE r.2.2.2.1 r.2.2.1.toNat (MM.ofL [0, 1, 2, 3, 4, 5, 6, 7]) (MM.ofL []))).isNone && decide (r.2.2.2.2 = 5)))
theorem rows_ok : rowsT.all okRow = true := by decide +kernel
def tabC : Array Value := #[.int .i64 2, .int .i64 2, .int .i64 1, .int .u64 11, .int .i64 5, .int .i64 0, .int .i64 0, .int .i64 0, .int .u64 11, .int .i64 5, .int .i64 3, .int .i64 3, .int .i64 1, .int .u64 9, .int .i64 1, .int .i64 3, .int .i64 3, .int .i64 1, .int .u64 0, .int .i64 1, .int .i64 3, .int .i64 3, .int .i64 1, .int .u64 1, .int .i64 1, .int .i64 3, .int .i64 3, .int .i64 (-1), .int .u64 11, .int .i64 1, .int .i64 3, .int .i64 3, .int .i64 3, .int .u64 11, .int .i64 1, .int .i64 3, .int .i64 2, .int .i64 1, .int .u64 11, .int .i64 1, .int .i64 8, .int .i64 8, .int .i64 1, .int .u64 11, .int .i64 40, .int .i64 4, .int .i64 4, .int .i64 1, .int .u64 3, .int .i64 6, .int .i64 4, .int .i64 4, .int .i64 2, .int .u64 11, .int .i64 5, .int .i64 8, .int .i64 8, .int .i64 1, .int .u64 3, .int .i64 40]
theorem tab_get : ∀ k, k < 12 → tabC[k * 5]? = some (.int .i64 (((rowsT.getD k (0, 0, 0, 0, 0)).1 : Nat) : Int)) ∧ tabC[k * 5 + 1]? = some (.int .i64 (((rowsT.getD k (0, 0, 0, 0, 0)).2.1 : Nat) : Int)) ∧ tabC[k * 5 + 2]? = some (.int .i64 (rowsT.getD k (0, 0, 0, 0, 0)).2.2.1) ∧ tabC[k * 5 + 3]? = some (.int .u64 (((rowsT.getD k (0, 0, 0, 0, 0)).2.2.2.1 : Nat) : Int)) ∧ tabC[k * 5 + 4]? = some (.int .i64 (rowsT.getD k (0, 0, 0, 0, 0)).2.2.2.2)
  | 0, _ => ⟨rfl, rfl, rfl, rfl, rfl⟩
  | 1, _ => ⟨rfl, rfl, rfl, rfl, rfl⟩
  | 2, _ => ⟨rfl, rfl, rfl, rfl, rfl⟩
  | 3, _ => ⟨rfl, rfl, rfl, rfl, rfl⟩
  | 4, _ => ⟨rfl, rfl, rfl, rfl, rfl⟩
  | 5, _ => ⟨rfl, rfl, rfl, rfl, rfl⟩
  | 6, _ => ⟨rfl, rfl, rfl, rfl, rfl⟩
  | 7, _ => ⟨rfl, rfl, rfl, rfl, rfl⟩
  | 8, _ => ⟨rfl, rfl, rfl, rfl, rfl⟩
  | 9, _ => ⟨rfl, rfl, rfl, rfl, rfl⟩
  | 10, _ => ⟨rfl, rfl, rfl, rfl, rfl⟩
  | 11, _ => ⟨rfl, rfl, rfl, rfl, rfl⟩
  | k + 12, h => absurd h (by omega)
theorem row_ok : ∀ k, k < 12 → okRow (rowsT.getD k (0, 0, 0, 0, 0)) = true := by decide +kernel
theorem okRow_le {n m q : Nat} {t er : Int} (h : okRow (n, m, t, q, er) = true) : n ≤ 8 ∧ m ≤ 8 := by
  unfold okRow at h
  rw [Bool.and_eq_true, Bool.and_eq_true] at h
  exact ⟨of_decide_eq_true h.1.1, of_decide_eq_true h.1.2⟩
theorem one_rd (x : Nat) {u : World} {b : Nat} (h : u.heap[b]? = some (.cells #[.int .u64 (x : Int)] 22 (0, 0))) : Rd u (some ⟨b, 0, none⟩) 1 (MM.ofL [x]) := fun _ => ⟨_, rfl, Row.of_block h fun k hk => by
  obtain rfl : k = 0 := by omega
  rfl⟩
theorem ofL_eight : ∀ j, j < 8 → MM.ofL [0, 1, 2, 3, 4, 5, 6, 7] j = j := by decide
/-- What Decode tells of a row of the table. -/
theorem dec_row {n m q : Nat} {t er : Int} (h : okRow (n, m, t, q, er) = true) (b c : Nat) (W : World) (hL : Laid W) (hr : Rd W (some ⟨b, 0, none⟩) n (MM.ofL [0, 1, 2, 3, 4, 5, 6, 7])) (hs : Rd W (some ⟨c, 0, none⟩) m (fun _ => 0)) :
    Calls Tryd.prog 11 #[.slice (some ⟨b, 0, none⟩) n n, .slice (some ⟨c, 0, none⟩) m m, .int .i64 t, .int .u64 (q : Int)] W fun e w' => e = .returned (.tuple #[.slice none 0 0, .slice none 0 0, .int .i64 er]) ∧ Below W.heap.size W w' := by
  have hy : (fun _ => 0 : Nat → Nat) = MM.ofL [] := by funext k; rfl
  rw [hy] at hs
  unfold okRow at h
  rw [Bool.and_eq_true, Bool.or_eq_true, Bool.and_eq_true, Bool.and_eq_true, Bool.and_eq_true] at h
  refine (decode_any _ _ n m n m q t _ _ (MM.ofL_lt (by decide)) (MM.ofL_lt (by decide)) W hL hr hs).mono ?_
  rintro e w' ⟨vc, vw, ec, rfl, hD⟩
  rcases h.2 with ⟨h1, h2⟩ | ⟨h1, h2⟩
  · have e1 := of_decide_eq_true h1
    have e2 := of_decide_eq_true h2
    simp only at e1 e2
    rcases hD with ⟨_, rfl, rfl, rfl, hb⟩ | ⟨h0, _⟩
    · exact ⟨by rw [e1], hb⟩
    · exact absurd (e1.symm.trans h0) e2
  · rw [Bool.and_eq_true] at h1
    have e1 := of_decide_eq_true h1.1
    have e2 := of_decide_eq_true h2
    have e3 := h1.2
    simp only at e1 e2 e3
    rcases hD with ⟨h0, _⟩ | ⟨_, hb, hT⟩
    · exact absurd e1 h0
    · rw [MM.fitE_eq, Option.isNone_iff_eq_none.1 e3] at hT
      obtain ⟨rfl, rfl, rfl⟩ := hT
      exact ⟨by rw [e2], hb⟩
theorem Mine.low' {w0 w1 w : World} {B n : Nat} {z : Nat → Nat} (h : Mine w1 B n z w) (hb : Below w0.heap.size w0 w1) : Mine w0 B n z w := ⟨h.block, Nat.le_trans hb.size h.low, hb.trans (h.below.mono hb.size)⟩
set_option maxRecDepth 100000 in
set_option maxHeartbeats 4000000 in
theorem names_any (w : World) (hl : Laid w) : Calls Tryd.prog 3 #[] w fun e w' => e = .returned (.bool true) ∧ Below w.heap.size w w' := by
  have hS := (St.start hl).alloc (.cells (uarr [1, 2, 3, 4, 5, 6]) 22)
  have hX := rd_at (W := w) [1, 2, 3, 4, 5, 6] rfl rfl
  change St w (w.alloc (.cells #[.int .u64 1, .int .u64 2, .int .u64 3, .int .u64 4, .int .u64 5, .int .u64 6] 22)) at hS
  change Rd (w.alloc (.cells #[.int .u64 1, .int .u64 2, .int .u64 3, .int .u64 4, .int .u64 5, .int .u64 6] 22)) _ 6 _ at hX
  clear hl
  go_enter Tryd.func3, Tryd.ntmps3
  go_upto_region 2 with fail
  generalize w.alloc (.cells #[.int .u64 1, .int .u64 2, .int .u64 3, .int .u64 4, .int .u64 5, .int .u64 6] 22) = W1 at *
  generalize w.heap.size = B at hX ⊢
  have HS := Lib.hid hS
  have HX := Lib.hid hX
  clear hS hX
  go_wp2_with fail
  refine (awake_true _ HS.out.laid).mono ?_
  rintro e w2 ⟨rfl, hb⟩
  have HS2 := Lib.hid (HS.out.step hb)
  have HX2 := Lib.hid (HX.out.below hb)
  clear hb HS HX
  go_wp2_with fail
  refine (is_at [1, 2, 3, 4, 5, 6] [1, 1, 1, 2, 2, 2] [1, 0] [3, 4, 5] [0, 1, 2] 11 1 6 2 3 1 11 rfl rfl rfl rfl rfl _ _ _ _ 6 6 2 3 (by decide) (by decide) nm_one _ ((HS2.out.alloc _).alloc _ |>.alloc _).laid (((HX2.out.alloc _).alloc _).alloc _) (((rd_at [1, 1, 1, 2, 2, 2] rfl rfl).alloc _).alloc _) ((rd_at [1, 0] (by simp) rfl).alloc _) (ird_at [3, 4, 5] (by simp))).mono ?_
  rintro e w3 ⟨rfl, hb⟩
  have HS3 := Lib.hid ((((HS2.out.alloc _).alloc _).alloc _).step hb)
  have HX3 := Lib.hid ((((HX2.out.alloc _).alloc _).alloc _).below hb)
  clear hb HS2 HX2
  go_wp2_with fail
  refine (is_at [1, 2, 3, 4] [5, 7, 9, 0] [3, 2] [] [0, 1, 2] 11 1 4 2 0 1 11 rfl rfl rfl rfl rfl _ _ _ _ 6 4 2 0 (by decide) (by decide) nm_two _ ((HS3.out.alloc _).alloc _).laid (((HX3.out.part (by decide) (by decide)).alloc _).alloc _) ((rd_at [5, 7, 9, 0] rfl rfl).alloc _) (rd_at [3, 2] (by simp) rfl) (IRd.nil _ _)).mono ?_
  rintro e w4 ⟨rfl, hb⟩
  have HS4 := Lib.hid (((HS3.out.alloc _).alloc _).step hb)
  have HX4 := Lib.hid (((HX3.out.alloc _).alloc _).below hb)
  clear hb HS3 HX3
  go_upto_region 5 with fail
  have hT : (w4.alloc (.cells tabC 27)).heap[w4.heap.size]? = some (.cells tabC 27 (0, 0)) := heap_alloc_new _ _
  have hS5 := HS4.out.alloc (.cells tabC 27)
  have hX5 := HX4.out.alloc (.cells tabC 27)
  clear HS4 HX4
  unfold tabC at hT hS5 hX5
  generalize w4.alloc (.cells #[.int .i64 2, .int .i64 2, .int .i64 1, .int .u64 11, .int .i64 5, .int .i64 0, .int .i64 0, .int .i64 0, .int .u64 11, .int .i64 5, .int .i64 3, .int .i64 3, .int .i64 1, .int .u64 9, .int .i64 1, .int .i64 3, .int .i64 3, .int .i64 1, .int .u64 0, .int .i64 1, .int .i64 3, .int .i64 3, .int .i64 1, .int .u64 1, .int .i64 1, .int .i64 3, .int .i64 3, .int .i64 (-1), .int .u64 11, .int .i64 1, .int .i64 3, .int .i64 3, .int .i64 3, .int .u64 11, .int .i64 1, .int .i64 3, .int .i64 2, .int .i64 1, .int .u64 11, .int .i64 1, .int .i64 8, .int .i64 8, .int .i64 1, .int .u64 11, .int .i64 40, .int .i64 4, .int .i64 4, .int .i64 1, .int .u64 3, .int .i64 6, .int .i64 4, .int .i64 4, .int .i64 2, .int .u64 11, .int .i64 5, .int .i64 8, .int .i64 8, .int .i64 1, .int .u64 3, .int .i64 40] 27) = W5 at *
  change W5.heap[w4.heap.size]? = some (.cells tabC 27 (0, 0)) at hT
  generalize w4.heap.size = T at *
  have HJ0 : Hid (St w W5 ∧ Rd W5 (some ⟨B, 0, none⟩) 6 (MM.ofL [1, 2, 3, 4, 5, 6]) ∧ W5.heap[T]? = some (.cells tabC 27 (0, 0))) := Lib.hid ⟨hS5, hX5, hT⟩
  clear hS5 hX5 hT
  go_loopw [43] (fun s43 wx => ∃ k : Nat, k ≤ 12 ∧ s43 = .int .i64 (k : Int) ∧ Hid (St w wx ∧ Rd wx (some ⟨B, 0, none⟩) 6 (MM.ofL [1, 2, 3, 4, 5, 6]) ∧ wx.heap[T]? = some (.cells tabC 27 (0, 0)))) (fun s43 _ => 12 - (RowKit.intOf s43).toNat)
  case atStart => exact ⟨0, by omega, rfl, HJ0⟩
  case round =>
    clear HJ0
    obtain ⟨k, hk, rfl, HJ⟩ := hrel
    by_cases hlt : k < 12
    · have hkI : (k : Int) < 12 := by omega
      have hk0 : (0 : Int) ≤ (k : Int) := Int.natCast_nonneg _
      obtain ⟨g0, g1, g2, g3, g4⟩ := tab_get k hlt
      have HOK := Lib.hid (row_ok k hlt)
      obtain ⟨⟨n, m, t, q, er⟩, hrow⟩ : ∃ r, rowsT.getD k (0, 0, 0, 0, 0) = r := ⟨_, rfl⟩
      rw [hrow] at g0 g1 g2 g3 g4 HOK
      simp only at g0 g1 g2 g3 g4
      have c0 : wr.cell? ⟨T, k * 5, none⟩ = some (.int .i64 (n : Int)) := (cell_of_row wr T _ _ _ _ HJ.out.2.2).trans g0
      have c1 : wr.cell? ⟨T, k * 5 + 1, none⟩ = some (.int .i64 (m : Int)) := (cell_of_row wr T _ _ _ _ HJ.out.2.2).trans g1
      have c2 : wr.cell? ⟨T, k * 5 + 2, none⟩ = some (.int .i64 t) := (cell_of_row wr T _ _ _ _ HJ.out.2.2).trans g2
      have c3 : wr.cell? ⟨T, k * 5 + 3, none⟩ = some (.int .u64 (q : Int)) := (cell_of_row wr T _ _ _ _ HJ.out.2.2).trans g3
      have c4 : wr.cell? ⟨T, k * 5 + 4, none⟩ = some (.int .i64 er) := (cell_of_row wr T _ _ _ _ HJ.out.2.2).trans g4
      clear hrow g0 g1 g2 g3 g4
      go_upto_region 7 with fail
      have hS6 := HJ.out.1.alloc (.cells #[.int .i64 (n : Int), .int .i64 (m : Int), .int .i64 t, .int .u64 (q : Int), .int .i64 er] 27)
      have hX6 := HJ.out.2.1.alloc (.cells #[.int .i64 (n : Int), .int .i64 (m : Int), .int .i64 t, .int .u64 (q : Int), .int .i64 er] 27)
      have hb6 := below_box wr (.cells #[.int .i64 (n : Int), .int .i64 (m : Int), .int .i64 t, .int .u64 (q : Int), .int .i64 er] 27)
      have hT6 := (hb6.block T (row_lt HJ.out.2.2)).trans HJ.out.2.2
      have hR6 := heap_alloc_new wr (.cells #[.int .i64 (n : Int), .int .i64 (m : Int), .int .i64 t, .int .u64 (q : Int), .int .i64 er] 27)
      generalize wr.alloc (.cells #[.int .i64 (n : Int), .int .i64 (m : Int), .int .i64 t, .int .u64 (q : Int), .int .i64 er] 27) = W6 at *
      generalize wr.heap.size = X at hR6 ⊢
      have HS6 := Lib.hid hS6
      have HX6 := Lib.hid hX6
      have HT6 := Lib.hid hT6
      have HR6 := Lib.hid (fun (u : World) (hb : Below W6.heap.size W6 u) (j : Nat) => (cell_of_row u X j _ _ _ ((hb.block X (row_lt hR6)).trans hR6)))
      clear hS6 hX6 hb6 hT6 hR6 HJ c0 c1 c2 c3 c4
      have HLE := Lib.hid (okRow_le HOK.out)
      refine RK.cut (fun a a' u => ∃ b c, (b ≠ c ∧ Mine W6 b n (fun _ => 0) u ∧ Mine W6 c m (fun _ => 0) u) ∧ a' = { a with tmps := (((((((a.tmps.setIfInBounds 47 (.pointer (some ⟨X, 0, none⟩))).setIfInBounds 48 (.int .i64 (n : Int))).setIfInBounds 50 (.pointer (some ⟨X, 1, none⟩))).setIfInBounds 51 (.int .i64 (m : Int))).setIfInBounds 49 (.slice (some ⟨b, 0, none⟩) n n)).setIfInBounds 52 (.slice (some ⟨c, 0, none⟩) m m)).setIfInBounds 4 (.slice (some ⟨b, 0, none⟩) n n)).setIfInBounds 5 (.slice (some ⟨c, 0, none⟩) m m) }) (RK.region (Below W6.heap.size W6) 100 (by kernel_rfl) ?_) ?_
      · have HS0 : Below W6.heap.size W6 W6.drew := below_drewN' W6 1 _
        refine RK.Any.take 0 47 (.pointer (some ⟨X, 0, none⟩)) rfl rfl (by kernel_rfl) (by kernel_rfl) (by kernel_rfl) (by kernel_rfl) (fun _ _ _ h => by cases h.1) (by rfl) (fun W' hb => ?_) HS0 ?_
        · skip; go_simp
        simp only [List.setIfInBounds_toArray, List.set_cons_zero, List.set_cons_succ]
        refine RK.Any.take 1 48 (.int .i64 (n : Int)) rfl rfl (by kernel_rfl) (by kernel_rfl) (by kernel_rfl) (by kernel_rfl) (fun _ _ _ h => by cases h.1) (by rfl) (fun W' hb => ?_) HS0 ?_
        · have c := HR6.out W' hb 0; simp only [List.getElem?_toArray, List.getElem?_cons_zero] at c; go_simp
        simp only [List.setIfInBounds_toArray, List.set_cons_zero, List.set_cons_succ]
        refine RK.Any.take 3 50 (.pointer (some ⟨X, 1, none⟩)) rfl rfl (by kernel_rfl) (by kernel_rfl) (by kernel_rfl) (by kernel_rfl) (fun _ _ _ h => by cases h.1) (by rfl) (fun W' hb => ?_) HS0 ?_
        · skip; go_simp
        simp only [List.setIfInBounds_toArray, List.set_cons_zero, List.set_cons_succ]
        refine RK.Any.take 4 51 (.int .i64 (m : Int)) rfl rfl (by kernel_rfl) (by kernel_rfl) (by kernel_rfl) (by kernel_rfl) (fun _ _ _ h => by cases h.1) (by rfl) (fun W' hb => ?_) HS0 ?_
        · have c := HR6.out W' hb 1; simp only [List.getElem?_toArray, List.getElem?_cons_zero, List.getElem?_cons_succ] at c; go_simp
        simp only [List.setIfInBounds_toArray, List.set_cons_zero, List.set_cons_succ]
        have hn1 := HLE.out.1
        have hm1 := HLE.out.2
        generalize W6.drew = w0 at *
        have hmn := fun u => run_made n (by omega) u
        have hmm := fun u => run_made m (by omega) u
        have hMn := fun u => Mine.made u n
        have hMm := fun u => Mine.made u m
        generalize Obj.cells (madeCells (Value.int .u64 0).cells (n * 1)) 22 = An at hmn hMn
        generalize Obj.cells (madeCells (Value.int .u64 0).cells (m * 1)) 22 = Am at hmm hMm
        have hmn0 := hmn w0
        have hmm1 := hmm (w0.alloc An)
        have hmm0 := hmm w0
        have hmn1 := hmn (w0.alloc Am)
        have hM1 := hMm (w0.alloc An)
        have hM2 := hMn (w0.alloc Am)
        rw [World.size_alloc] at hmm1 hmn1 hM1 hM2
        refine RK.Any.each [2, 5] (by kernel_rfl) (by simp) fun x hx => ?_
        simp only [List.mem_cons, List.not_mem_nil, or_false] at hx
        rcases hx with rfl | rfl
        · refine RK.wpOp_exec (t := 49) (v := .slice (some ⟨w0.heap.size, 0, none⟩) n n) (w1 := w0.alloc An) rfl rfl (by rfl) (by go_simp) ?_
          have HS1 : Below W6.heap.size W6 (w0.alloc An) := HS0.trans ((below_box _ _).mono HS0.size)
          refine ⟨fun _ => HS1, ?_⟩
          simp only [List.setIfInBounds_toArray, List.set_cons_zero, List.set_cons_succ]
          refine RK.Any.take 6 4 (.slice (some ⟨w0.heap.size, 0, none⟩) n n) rfl rfl (by kernel_rfl) (by kernel_rfl) (by kernel_rfl) (by kernel_rfl) (fun _ _ _ h => by cases h.1) (by rfl) (fun W' hb => ?_) HS1 ?_
          · go_simp
          simp only [List.setIfInBounds_toArray, List.set_cons_zero, List.set_cons_succ]
          have hm1 := ((hMn w0).low' HS0).alloc Am
          have hm2 := hM1.low' HS1
          refine RK.Any.exec 5 52 (.slice (some ⟨w0.heap.size + 1, 0, none⟩) m m) (w1 := (w0.alloc An).alloc Am) (by kernel_rfl) rfl rfl (by rfl) (by go_simp) hm2.below ?_
          simp only [List.setIfInBounds_toArray, List.set_cons_zero, List.set_cons_succ]
          refine RK.Any.take 7 5 (.slice (some ⟨w0.heap.size + 1, 0, none⟩) m m) rfl rfl (by kernel_rfl) (by kernel_rfl) (by kernel_rfl) (by kernel_rfl) (fun _ _ _ h => by cases h.1) (by rfl) (fun W' hb => ?_) hm2.below ?_
          · go_simp
          simp only [List.setIfInBounds_toArray, List.set_cons_zero, List.set_cons_succ]
          refine RK.Any.done (by kernel_rfl) ?_
          exact ⟨rfl, w0.heap.size, w0.heap.size + 1, ⟨by omega, hm1, hm2⟩, rfl⟩
        · refine RK.wpOp_exec (t := 52) (v := .slice (some ⟨w0.heap.size, 0, none⟩) m m) (w1 := w0.alloc Am) rfl rfl (by rfl) (by go_simp) ?_
          have HS1 : Below W6.heap.size W6 (w0.alloc Am) := HS0.trans ((below_box _ _).mono HS0.size)
          refine ⟨fun _ => HS1, ?_⟩
          simp only [List.setIfInBounds_toArray, List.set_cons_zero, List.set_cons_succ]
          have hm2 := ((hMm w0).low' HS0).alloc An
          have hm1 := hM2.low' HS1
          refine RK.Any.exec 2 49 (.slice (some ⟨w0.heap.size + 1, 0, none⟩) n n) (w1 := (w0.alloc Am).alloc An) (by kernel_rfl) rfl rfl (by rfl) (by go_simp) hm1.below ?_
          simp only [List.setIfInBounds_toArray, List.set_cons_zero, List.set_cons_succ]
          refine RK.Any.take 6 4 (.slice (some ⟨w0.heap.size + 1, 0, none⟩) n n) rfl rfl (by kernel_rfl) (by kernel_rfl) (by kernel_rfl) (by kernel_rfl) (fun _ _ _ h => by cases h.1) (by rfl) (fun W' hb => ?_) hm1.below ?_
          · go_simp
          simp only [List.setIfInBounds_toArray, List.set_cons_zero, List.set_cons_succ]
          refine RK.Any.take 7 5 (.slice (some ⟨w0.heap.size, 0, none⟩) m m) rfl rfl (by kernel_rfl) (by kernel_rfl) (by kernel_rfl) (by kernel_rfl) (fun _ _ _ h => by cases h.1) (by rfl) (fun W' hb => ?_) hm1.below ?_
          · go_simp
          simp only [List.setIfInBounds_toArray, List.set_cons_zero, List.set_cons_succ]
          refine RK.Any.done (by kernel_rfl) ?_
          exact ⟨rfl, w0.heap.size + 1, w0.heap.size, ⟨by omega, hm1, hm2⟩, rfl⟩
      rintro a1 W7 ⟨b, c, ⟨hbc, hm1, hm2⟩, rfl⟩
      simp only [List.setIfInBounds_toArray, List.set_cons_zero, List.set_cons_succ]
      have HJ1 : Hid (Mine W6 b n (fun j => if j < 0 then j else 0) W7 ∧ Mine W6 c m (fun _ => 0) W7) := Lib.hid ⟨hm1.congr fun j _ => by rw [if_neg (by omega)], hm2⟩
      clear hm1 hm2
      go_upto_region 9 with fail
      go_loopw [6] (fun s6 wx => ∃ i : Nat, i ≤ n ∧ s6 = .int .i64 (i : Int) ∧ Hid (Mine W6 b n (fun j => if j < i then j else 0) wx ∧ Mine W6 c m (fun _ => 0) wx)) (fun s6 _ => n - (RowKit.intOf s6).toNat)
      case atStart => exact ⟨0, Nat.zero_le _, rfl, HJ1⟩
      case round =>
        clear HJ1
        obtain ⟨i, hi, rfl, HI⟩ := hrel
        have r0 := HR6.out _ HI.out.1.below 0
        simp only [List.getElem?_toArray, List.getElem?_cons_zero] at r0
        by_cases hli : i < n
        · have hiI : (i : Int) < (n : Int) := by omega
          have hi0 : (0 : Int) ≤ (i : Int) := Int.natCast_nonneg _
          have hcl := HI.out.1.cell hli
          have hfr := HI.out.1.free i
          have hle := HLE.out.1
          have hwu : IntKind.u64.wrap (i : Int) = (i : Int) := IntWalk.u64_in _ (by omega)
          have HN : Hid (Mine W6 b n (fun j => if j < i + 1 then j else 0) (wr.setCell ⟨b, i, none⟩ (.int .u64 ((i : Nat) : Int))) ∧ Mine W6 c m (fun _ => 0) (wr.setCell ⟨b, i, none⟩ (.int .u64 ((i : Nat) : Int)))) := Lib.hid ⟨HI.out.1.set i i fun j _ => by
            by_cases e : j = i
            · subst e; rw [if_pos (by omega), if_pos rfl]
            · rw [if_neg e]
              by_cases h : j < i
              · rw [if_pos (by omega), if_pos h]
              · rw [if_neg (by omega), if_neg h], ⟨by
            obtain ⟨cs, h1, h2⟩ := HI.out.2.block
            exact ⟨cs, (Below.heap_setCell wr ⟨b, i, none⟩ _ c (fun e => hbc e.symm)).trans h1, h2⟩, HI.out.2.low, HI.out.2.below.setCell (p := ⟨b, i, none⟩) HI.out.1.low _⟩⟩
          go_wp2_with fail
          clear hwu
          go_roundw
          case rel => exact ⟨i + 1, by omega, by go_num, HN⟩
          case measure => simp [RowKit.intOf]; omega
        · have hiI : ¬ (i : Int) < (n : Int) := by omega
          obtain rfl : i = n := by omega
          have r2 := HR6.out _ HI.out.1.below 2
          have r3 := HR6.out _ HI.out.1.below 3
          simp only [List.getElem?_toArray, List.getElem?_cons_zero, List.getElem?_cons_succ] at r2 r3
          have hSr := HS6.out.step HI.out.1.below
          have HDC := Lib.hid (dec_row HOK.out b c wr hSr.laid (HI.out.1.congr (y := MM.ofL [0, 1, 2, 3, 4, 5, 6, 7]) fun j hj => by rw [if_pos hj]; exact (ofL_eight j (by have := HLE.out.1; omega)).symm).rd HI.out.2.rd)
          have HB := Lib.hid HI.out.1.below
          clear HI
          go_upto_region 13 with (go_at_call 11; refine HDC.out.mono ?_; rintro e w9 ⟨rfl, hb9⟩)
          have hb69 := HB.out.trans (hb9.mono HB.out.size)
          have r4 := HR6.out _ hb69 4
          simp only [List.getElem?_toArray, List.getElem?_cons_zero, List.getElem?_cons_succ] at r4
          have HE : Hid (St w w9 ∧ Rd w9 (some ⟨B, 0, none⟩) 6 (MM.ofL [1, 2, 3, 4, 5, 6]) ∧ w9.heap[T]? = some (.cells tabC 27 (0, 0))) := Lib.hid ⟨HS6.out.step hb69, HX6.out.below hb69, (hb69.block T (row_lt HT6.out)).trans HT6.out⟩
          have d1 : (er != er) = false := by simp
          clear hb9 hb69 hSr HB HDC r0 r2 r3
          go_wp2_with fail
          go_roundw
          case rel => exact ⟨k + 1, by omega, by go_num, HE⟩
          case measure => simp [RowKit.intOf]; omega
    · have hkI : ¬ (k : Int) < 12 := by omega
      obtain rfl : k = 12 := by omega
      go_upto_region 16 with fail
      have hSr := HJ.out.1
      have hXr := HJ.out.2.1
      clear HJ
      refine RK.region (fun _ => True) 100 (by kernel_rfl) ?_
      have hS0 := hSr.step (below_drewN' wr 1 _)
      have hX0 := hXr.below (below_drewN' wr 1 wr.heap.size)
      change St w wr.drew at hS0
      change Rd wr.drew _ _ _ at hX0
      generalize wr.drew = w0 at *
      refine RK.Any.race3 0 1 2 88 89 90 1 1 1 #[.int .u64 3] #[.int .u64 9] #[.int .u64 1] 22 (by decide) (by decide) (by decide) (by kernel_rfl) (by kernel_rfl) (by kernel_rfl) (by kernel_rfl) (by kernel_rfl) (by kernel_rfl) (by kernel_rfl) rfl rfl rfl rfl rfl rfl (by decide) (by decide) (by decide) rfl rfl rfl (fun b u => by go_simp) (fun b u => by go_simp) (fun b u => by go_simp) (fun _ _ => trivial) ?_
      intro x y z u hbu hx hy hz
      simp only [List.setIfInBounds_toArray, List.set_cons_zero, List.set_cons_succ]
      have hS1 := hS0.step hbu
      have hX1 := hX0.below hbu
      have rx : Rd u (some ⟨x, 0, none⟩) 1 (MM.ofL [3]) := one_rd 3 hx
      have ry : Rd u (some ⟨y, 0, none⟩) 1 (MM.ofL [9]) := one_rd 9 hy
      have rz : Rd u (some ⟨z, 0, none⟩) 1 (MM.ofL [1]) := one_rd 1 hz
      have hi1 := is_at [3] [9] [1] [] [0] 2 0 1 1 0 0 2 rfl rfl rfl rfl rfl (some ⟨x, 0, none⟩) (some ⟨y, 0, none⟩) (some ⟨z, 0, none⟩) none 1 1 1 0 (by decide) (by decide) nm_three u hS1.laid rx ry rz (IRd.nil _ _)
      refine RK.Any.call 3 91 10 #[.slice (some ⟨x, 0, none⟩) 1 1, .slice (some ⟨y, 0, none⟩) 1 1, .int .i64 0, .int .u64 2, .slice (some ⟨z, 0, none⟩) 1 1, .slice none 0 0] (by kernel_rfl) rfl rfl (by rfl) (by go_simp) (Calls.mono hi1 ?_)
      rintro e u1 ⟨rfl, hb1⟩
      have hS2 := hS1.step hb1
      have hX2 := hX1.below hb1
      refine ⟨_, rfl, fun _ => trivial, ?_⟩
      simp only [List.setIfInBounds_toArray, List.set_cons_zero, List.set_cons_succ]
      refine RK.Any.take 4 92 (.bool true) rfl rfl (by kernel_rfl) (by kernel_rfl) (by kernel_rfl) (by kernel_rfl) (fun _ _ _ h => h) (by rfl) (fun W' hb => ?_) trivial ?_
      · skip; go_simp
      simp only [List.setIfInBounds_toArray, List.set_cons_zero, List.set_cons_succ]
      refine RK.Any.take 5 93 (.slice (some ⟨B, 0, none⟩) 6 6) rfl rfl (by kernel_rfl) (by kernel_rfl) (by kernel_rfl) (by kernel_rfl) (fun _ _ _ h => h) (by rfl) (fun W' hb => ?_) trivial ?_
      · skip; go_simp
      simp only [List.setIfInBounds_toArray, List.set_cons_zero, List.set_cons_succ]
      refine RK.Any.take 6 94 (.slice (some ⟨B, 0, none⟩) 5 6) rfl rfl (by kernel_rfl) (by kernel_rfl) (by kernel_rfl) (by kernel_rfl) (fun _ _ _ h => h) (by rfl) (fun W' hb => ?_) trivial ?_
      · skip; go_simp
      simp only [List.setIfInBounds_toArray, List.set_cons_zero, List.set_cons_succ]
      have hm5 : ∀ v, (Instr.makeSlice 23 (.int .i64 5) (.int .i64 5)).run Tryd.prog v = _ := fun v => run_made 5 (by omega) v
      have hm3 : ∀ v, (Instr.makeSlice 23 (.int .i64 3) (.int .i64 3)).run Tryd.prog v = _ := fun v => run_made 3 (by omega) v
      have hM5 := fun v => Mine.made v 5
      have hM3 := fun v => Mine.made v 3
      generalize Obj.cells (madeCells (Value.int .u64 0).cells (5 * 1)) 22 = A5 at hm5 hM5
      generalize Obj.cells (madeCells (Value.int .u64 0).cells (3 * 1)) 22 = A3 at hm3 hM3
      have e50 := hm5 u1
      have e30 := hm3 u1
      have e31 := hm3 (u1.alloc A5)
      have e51 := hm5 (u1.alloc A3)
      have hM31 := hM3 (u1.alloc A5)
      have hM51 := hM5 (u1.alloc A3)
      rw [World.size_alloc] at e31 e51 hM31 hM51
      clear hm5 hm3
      refine RK.Any.race 7 8 95 96 (fun v1 v2 u => ∃ p r, v1 = .slice (some ⟨p, 0, none⟩) 5 5 ∧ v2 = .slice (some ⟨r, 0, none⟩) 3 3 ∧ Mine u1 p 5 (fun _ => 0) u ∧ Mine u1 r 3 (fun _ => 0) u) (by kernel_rfl) (by kernel_rfl) (by kernel_rfl) rfl rfl rfl rfl (by rfl) (by rfl) (by decide) (by decide)
        ⟨.slice (some ⟨u1.heap.size, 0, none⟩) 5 5, .slice (some ⟨u1.heap.size + 1, 0, none⟩) 3 3, u1.alloc A5, (u1.alloc A5).alloc A3, by go_simp, by go_simp, ⟨_, _, rfl, rfl, (hM5 u1).alloc _, hM31.low' (below_box _ _)⟩, by rfl, trivial⟩
        ⟨.slice (some ⟨u1.heap.size + 1, 0, none⟩) 5 5, .slice (some ⟨u1.heap.size, 0, none⟩) 3 3, u1.alloc A3, (u1.alloc A3).alloc A5, by go_simp, by go_simp, ⟨_, _, rfl, rfl, hM51.low' (below_box _ _), (hM3 u1).alloc _⟩, by rfl, trivial⟩
        (fun _ _ _ _ => trivial) ?_
      rintro v1 v2 u2 ⟨p, r, rfl, rfl, hp, hr⟩
      simp only [List.setIfInBounds_toArray, List.set_cons_zero, List.set_cons_succ]
      have hS3 := hS2.step hp.below
      have hX3 := hX2.below hp.below
      have hi2 := is_at [1, 2, 3, 4, 5] [0, 0, 0, 0, 0] [0, 0, 0] [] [0, 1, 2, 3, 4] 11 2 5 3 0 2 11 rfl rfl rfl rfl rfl (some ⟨B, 0, none⟩) (some ⟨p, 0, none⟩) (some ⟨r, 0, none⟩) none 6 5 3 0 (by decide) (by decide) nm_four u2 hS3.laid (hX3.part (by decide) (by decide)) (hp.congr (y := MM.ofL [0, 0, 0, 0, 0]) (by decide)).rd (hr.congr (y := MM.ofL [0, 0, 0]) (by decide)).rd (IRd.nil _ _)
      refine RK.Any.call 9 97 10 #[.slice (some ⟨B, 0, none⟩) 5 6, .slice (some ⟨p, 0, none⟩) 5 5, .int .i64 2, .int .u64 11, .slice (some ⟨r, 0, none⟩) 3 3, .slice none 0 0] (by kernel_rfl) rfl rfl (by rfl) (by go_simp) (Calls.mono hi2 ?_)
      rintro e u3 ⟨rfl, hb3⟩
      have hS4 := hS3.step hb3
      refine ⟨_, rfl, fun _ => trivial, ?_⟩
      simp only [List.setIfInBounds_toArray, List.set_cons_zero, List.set_cons_succ]
      refine RK.Any.take 10 98 (.bool true) rfl rfl (by kernel_rfl) (by kernel_rfl) (by kernel_rfl) (by kernel_rfl) (fun _ _ _ h => h) (by rfl) (fun W' hb => ?_) trivial ?_
      · skip; go_simp
      simp only [List.setIfInBounds_toArray, List.set_cons_zero, List.set_cons_succ]
      refine RK.Any.take 11 0 (.bool true) rfl rfl (by kernel_rfl) (by kernel_rfl) (by kernel_rfl) (by kernel_rfl) (fun _ _ _ h => h) (by rfl) (fun W' hb => ?_) trivial ?_
      · skip; go_simp
      simp only [List.setIfInBounds_toArray, List.set_cons_zero]
      refine RK.Any.done (by kernel_rfl) ?_
      have HSE := Lib.hid hS4.below
      clear hS0 hS1 hS2 hS3 hS4 hX0 hX1 hX2 hX3 hb1 hb3 hi1 hi2 hp hr rx ry rz hx hy hz hbu e50 e30 e31 e51 hM5 hM3 hM31 hM51 hSr hXr
      go_wp2_with fail
      go_ret
      exact ⟨rfl, HSE.out⟩
end M
end Go.Proofs.YtccpdjjgpkkkbaaDoor

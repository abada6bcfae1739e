/- The texts ThruE, RobMath2, Law05a, Law05b, Law05c, one behind the other. -/
import Derived.Test.YtaogdhpiiclejaaDoorPolyEq3
import Derived.Test.YtaogdhpiiclejaaDoorRobW6
import Derived.Test.YtaogdhpiiclejaaDoorRegX
/- ThruE: The polynomial through points as it is reckoned, for closed statements. Nothing here speaks of the program. -/
namespace Go.Proofs.YtaogdhpiiclejaaDoor
namespace MM
/-! ### As it is reckoned. -/
def eu (m : Nat) : Nat → Nat → Nat → Nat → Nat → Nat
  | 0, _, _, inv, _ => inv
  | k + 1, rest, next, inv, aft => if next = 0 then inv else eu m k next (rest % next) aft (subm inv (rest / next * aft % m) m)
theorem eu_inv {a m : Nat} (hg : Nat.gcd a m = 1) : ∀ k rest next inv aft, next < k → InvAt a m rest next inv aft → IsInv a m (eu m k rest next inv aft)
  | 0, _, _, _, _, h, _ => absurd h (by omega)
  | k + 1, rest, next, inv, aft, hk, h => by
    unfold eu
    by_cases e : next = 0
    · subst e
      rw [if_pos rfl]
      obtain ⟨h1, h2⟩ := h.done
      exact h2 (by rw [h1, hg])
    · rw [if_neg e]
      exact eu_inv hg k _ _ _ _ (by have := Nat.mod_lt rest (Nat.pos_of_ne_zero e); omega) (h.step (Nat.pos_of_ne_zero e))
def invE (a m : Nat) : Nat := if Good m ∧ Nat.gcd a m = 1 then eu m (m + 1) m (a % m) 0 1 else 0
theorem invU_eq (a m : Nat) : invU a m = invE a m := by
  by_cases h : Good m ∧ Nat.gcd a m = 1
  · have h1 := eu_inv h.2 (m + 1) m (a % m) 0 1 (by have := Nat.mod_lt a h.1.1; omega) (InvAt.start a m h.1.1)
    rw [invU_of h.1 h1]; unfold invE; rw [if_pos h]
  · unfold invU invE; rw [if_neg h, if_neg h]
def facE (q : Nat) (z y : Nat → Nat) (i : Nat) (o : Nat → Nat) : Nat := mulU (subU (y i) (evalU o (z i) q i) q) (invE (evalU (noneU q z i) (z i) q (i + 1)) q) q
def thruE (q : Nat) (z y : Nat → Nat) : Nat → Nat → Nat
  | 0 => fun _ => 0
  | i + 1 => sumU i (i + 1) q (thruE q z y i) (scaleU (facE q z y i (thruE q z y i)) q (noneU q z i))
theorem thruE_eq (q : Nat) (z y : Nat → Nat) : ∀ n, thruU q z y n = thruE q z y n
  | 0 => rfl
  | n + 1 => by
    rw [thruU, thruE, thruE_eq q z y n]
    unfold facU facE
    rw [invU_eq]
end MM
end Go.Proofs.YtaogdhpiiclejaaDoor

/- RobMath2: The first set that fits, as it is reckoned; and what becomes of sets where one point is taken out. -/
namespace Go.Proofs.YtaogdhpiiclejaaDoor
namespace MM
def fitE (q t : Nat) (z y : Nat → Nat) (s : List Nat) : Bool := decide (degU (thruE q (pick z s) (pick y s) s.length) q s.length ≤ t)
theorem fitE_eq (q t : Nat) (z y : Nat → Nat) : fitB q t z y = fitE q t z y := by
  funext s
  unfold fitB fitE
  rw [thruE_eq]
/-! ### One point less. -/
def skip (out i : Nat) : Nat := if i < out then i else i + 1
def back (out i : Nat) : Option Nat := if i < out then some i else if out < i then some (i - 1) else none
theorem back_skip (out i : Nat) : back out (skip out i) = some i := by
  unfold back skip
  by_cases h : i < out
  · rw [if_pos h, if_pos h]
  · rw [if_neg h, if_neg (by omega), if_pos (by omega)]; rfl
theorem sets_skip : ∀ t, t < 3 → ∀ n, n < 8 → ∀ out, out < n → (setsF (2 * t + 1) 0 (n - 1)).map (·.map (skip out)) = (setsF (2 * t + 1) 0 n).filter fun s => !s.contains out := by decide +kernel
theorem pick_skip (z : Nat → Nat) (out : Nat) (s : List Nat) (k : Nat) (hk : k < s.length) : pick (fun i => z (skip out i)) s k = pick z (s.map (skip out)) k := by
  unfold pick
  rw [getD_at hk, getD_at (by simpa using hk), List.getElem_map]
theorem thru_skip (q : Nat) (z y : Nat → Nat) (out : Nat) (s : List Nat) :
    thruU q (pick (fun i => z (skip out i)) s) (pick (fun i => y (skip out i)) s) s.length = thruU q (pick z (s.map (skip out))) (pick y (s.map (skip out))) (s.map (skip out)).length := by
  rw [List.length_map]
  exact thruU_congr s.length fun i hi => ⟨pick_skip z out s i hi, pick_skip y out s i hi⟩
theorem fit_skip (q t : Nat) (z y : Nat → Nat) (out : Nat) (s : List Nat) : fitB q t (fun i => z (skip out i)) (fun i => y (skip out i)) s = fitB q t z y (s.map (skip out)) := by
  unfold fitB
  rw [thru_skip, List.length_map]
theorem find_skip {q t n out : Nat} (ht : t < 3) (hn : n < 8) (ho : out < n) {z y : Nat → Nat} {s0 : List Nat} (h : (setsF (2 * t + 1) 0 n).find? (fitB q t z y) = some s0) (hs : out ∉ s0) :
    ∃ s1, (setsF (2 * t + 1) 0 (n - 1)).find? (fitB q t (fun i => z (skip out i)) (fun i => y (skip out i))) = some s1 ∧ s1.map (skip out) = s0 := by
  have h1 : ((setsF (2 * t + 1) 0 n).filter fun s => !s.contains out).find? (fitB q t z y) = some s0 := by
    obtain ⟨hf, l1, l2, e, hno⟩ := List.find?_eq_some_iff_append.1 h
    rw [List.find?_filter]
    exact List.find?_eq_some_iff_append.2 ⟨by simp [hf, hs], l1, l2, e, fun a ha => by simp [hno a ha]⟩
  rw [← sets_skip t ht n hn out ho, List.find?_map] at h1
  obtain ⟨s1, h2, h3⟩ := Option.map_eq_some_iff.1 h1
  refine ⟨s1, ?_, h3⟩
  rw [← h2]
  congr 1
  funext s
  exact fit_skip q t z y out s
theorem range_skip : ∀ n, n < 8 → ∀ out, out < n → (List.range (n - 1)).map (skip out) = (List.range n).filter (· != out) := by decide +kernel
theorem missL_skip {q m n out : Nat} (hn : n < 8) (ho : out < n) (z y c : Nat → Nat) : missL q m (n - 1) (fun i => z (skip out i)) (fun i => y (skip out i)) c = (missL q m n z y c).filterMap (back out) := by
  have e : ∀ l : List Nat, l.filterMap (back out) = (l.filter (· != out)).filterMap (back out) := fun l => by
    induction l with
    | nil => rfl
    | cons a l ih =>
      by_cases h : a = out
      · subst h
        have hb : back a a = none := by unfold back; rw [if_neg (by omega), if_neg (by omega)]
        rw [List.filterMap_cons, hb, List.filter_cons, if_neg (by simp), ih]
      · rw [List.filter_cons, if_pos (by simpa using h), List.filterMap_cons, List.filterMap_cons, ih]
  unfold missL
  rw [e, List.filter_filter]
  have e2 : (fun a => (a != out) && (evalU c (z a) q m != y a % q)) = fun a => ((evalU c (z a) q m != y a % q)) && (a != out) := by funext a; exact Bool.and_comm _ _
  rw [e2, ← List.filter_filter, ← range_skip n hn out ho, List.filter_map, List.filterMap_map]
  have e3 : (back out ∘ skip out) = some := by funext i; exact back_skip out i
  rw [e3, List.filterMap_some]
  rfl
end MM
end Go.Proofs.YtaogdhpiiclejaaDoor

/- Law05a: The statements' own small functions: the same numbers; what Decode tells is what is given. -/
namespace Go.Proofs.YtaogdhpiiclejaaDoor
open Go Go.RowKit Go.Lib
namespace M
set_option maxHeartbeats 1000000 in
theorem nums_yes (ao bo : Option Addr) (n ca cb : Nat) (z : Nat → Nat) (hn : n ≤ 9223372036854775807) (W : World) (ha : Rd W ao n z) (hb : Rd W bo n z) :
    Calls Tryd.prog 19 #[.slice ao n ca, .slice bo n cb] W fun e w' => e = .returned (.bool true) ∧ Below W.heap.size W w' := by
  have HA := Lib.hid ha
  have HB := Lib.hid hb
  clear ha hb
  go_enter Tryd.func19, Tryd.ntmps19
  go_wp2_with fail
  go_loopw [5] (fun s5 wx => ∃ k m : Nat, k ≤ n ∧ s5 = .int .i64 (k : Int) ∧ wx = W.drewN m) (fun s5 _ => n - (RowKit.intOf s5).toNat)
  case atStart => exact ⟨0, 0, Nat.zero_le _, rfl, rfl⟩
  case round =>
    obtain ⟨k, m, hk, rfl, rfl⟩ := hrel
    by_cases hlt : k < n
    · obtain ⟨ad, rfl, hc⟩ := HA.out.at_ hlt
      obtain ⟨bd, rfl, hd⟩ := HB.out.at_ hlt
      go_upto_region 6 with fail
      generalize hwr : W.drewN m = wr
      have hcell : wr.cell? (ad.add k) = some (.int .u64 ((z k : Nat) : Int)) := by rw [← hwr]; exact hc
      have hdell : wr.cell? (bd.add k) = some (.int .u64 ((z k : Nat) : Int)) := by rw [← hwr]; exact hd
      have HWR := Lib.hid hwr
      clear hwr hc hd
      have hk0 : (0 : Int) ≤ (k : Int) := Int.natCast_nonneg _
      have hk1 : (k : Int) < (n : Int) := by omega
      go_quiet (fail)
      go_wp2_with fail
      go_roundw
      case rel => exact ⟨k + 1, _, by omega, by go_num, by rw [← HWR.out]; exact World.drewN_drewN _ _ _⟩
      case measure => simp [RowKit.intOf]; omega
    · obtain rfl : k = n := by omega
      go_wp2_with fail
      go_ret
      exact ⟨rfl, below_drewN' _ _ _⟩
/-- A row of whole numbers, as it is read. -/
def IRd (W : World) (ao : Option Addr) (l : List Nat) : Prop := ∀ k, k < l.length → ∃ ad, ao = some ad ∧ W.cell? (ad.add k) = some (.int .i64 ((l.getD k 0 : Nat) : Int))
theorem SetV.ird {W : World} {v : Value} {l : List Nat} (h : SetV W v l) : ∃ ao c, v = .slice ao l.length c ∧ IRd W ao l := by
  obtain ⟨rfl, rfl⟩ | ⟨g, c, rfl, hs⟩ := h
  · exact ⟨none, 0, rfl, fun k hk => absurd hk (by simp)⟩
  · refine ⟨_, c, rfl, fun k hk => ?_⟩
    obtain ⟨ad, e, hc⟩ := hs.cell
    exact ⟨ad, e, hc k hk⟩
theorem IRd.below {W W' : World} {ao : Option Addr} {l : List Nat} (h : IRd W ao l) (hb : Below W.heap.size W W') : IRd W' ao l := fun k hk => by
  obtain ⟨ad, e, hc⟩ := h k hk
  exact ⟨ad, e, (hb.cell (World.block_lt_of_cell? W _ hc)).trans hc⟩
set_option maxHeartbeats 1000000 in
theorem ints_yes (ao bo : Option Addr) (ca cb : Nat) (l : List Nat) (hl : l.length ≤ 1000) (W : World) (ha : IRd W ao l) (hb : IRd W bo l) :
    Calls Tryd.prog 20 #[.slice ao l.length ca, .slice bo l.length cb] W fun e w' => e = .returned (.bool true) ∧ Below W.heap.size W w' := by
  obtain ⟨n, hn⟩ : ∃ n, l.length = n := ⟨_, rfl⟩
  have HA : Hid (∀ k, k < n → ∃ ad, ao = some ad ∧ W.cell? (ad.add k) = some (.int .i64 ((l.getD k 0 : Nat) : Int))) := Lib.hid (hn ▸ ha)
  have HB : Hid (∀ k, k < n → ∃ ad, bo = some ad ∧ W.cell? (ad.add k) = some (.int .i64 ((l.getD k 0 : Nat) : Int))) := Lib.hid (hn ▸ hb)
  rw [hn] at hl ⊢
  clear ha hb hn
  go_enter Tryd.func20, Tryd.ntmps20
  go_wp2_with fail
  go_loopw [5] (fun s5 wx => ∃ k m : Nat, k ≤ n ∧ s5 = .int .i64 (k : Int) ∧ wx = W.drewN m) (fun s5 _ => n - (RowKit.intOf s5).toNat)
  case atStart => exact ⟨0, 0, Nat.zero_le _, rfl, rfl⟩
  case round =>
    obtain ⟨k, m, hk, rfl, rfl⟩ := hrel
    by_cases hlt : k < n
    · obtain ⟨ad, rfl, hc⟩ := HA.out k hlt
      obtain ⟨bd, rfl, hd⟩ := HB.out k hlt
      go_upto_region 6 with fail
      generalize hwr : W.drewN m = wr
      generalize l.getD k 0 = x at hc hd
      have hcell : wr.cell? (ad.add k) = some (.int .i64 ((x : Nat) : Int)) := by rw [← hwr]; exact hc
      have hdell : wr.cell? (bd.add k) = some (.int .i64 ((x : Nat) : Int)) := by rw [← hwr]; exact hd
      have HWR := Lib.hid hwr
      clear hwr hc hd
      have hk0 : (0 : Int) ≤ (k : Int) := Int.natCast_nonneg _
      have hk1 : (k : Int) < (n : Int) := by omega
      go_quiet (fail)
      go_wp2_with fail
      go_roundw
      case rel => exact ⟨k + 1, _, by omega, by go_num, by rw [← HWR.out]; exact World.drewN_drewN _ _ _⟩
      case measure => simp [RowKit.intOf]; omega
    · obtain rfl : k = n := by omega
      go_wp2_with fail
      go_ret
      exact ⟨rfl, below_drewN' _ _ _⟩
/-- What is given is what Decode tells. -/
theorem is_true (xo yo co wo : Option Addr) (n cx cy cc cw q t : Nat) (z y cf : Nat → Nat) (s l : List Nat) (hz : ∀ k, z k < 18446744073709551616) (hy : ∀ k, y k < 18446744073709551616) (hE : MM.decErr q t n n z = 0)
    (hf : (MM.setsF (2 * t + 1) 0 n).find? (MM.fitB q t z y) = some s) (hc : ∀ k, k < t + 1 → MM.thruU q (MM.pick z s) (MM.pick y s) s.length k = cf k) (hw : MM.missL q (t + 1) n z y (MM.thruU q (MM.pick z s) (MM.pick y s) s.length) = l)
    (w : World) (hL : Laid w) (hr : Rd w xo n z) (hs : Rd w yo n y) (hrc : Rd w co (t + 1) cf) (hrw : IRd w wo l) :
    Calls Tryd.prog 10 #[.slice xo n cx, .slice yo n cy, .int .i64 (t : Int), .int .u64 (q : Int), .slice co (t + 1) cc, .slice wo l.length cw] w fun e w' => e = .returned (.bool true) ∧ Below w.heap.size w w' := by
  have hll : l.length ≤ 7 := by
    have := MM.missL_len q (t + 1) n z y (MM.thruU q (MM.pick z s) (MM.pick y s) s.length)
    rw [hw] at this
    have := (decErr_none hE).2.2.2.2.1
    omega
  have htt := (decErr_none hE).2.2.1
  have hD : Calls Tryd.prog 8 #[.slice xo n cx, .slice yo n cy, .int .i64 (t : Int), .int .u64 (q : Int)] w fun e w' => ∃ B ao c c2, e = .returned (.tuple #[.slice (some ⟨B, 0, none⟩) (t + 1) c, .slice ao l.length c2, .int .i64 0]) ∧ Rd w' (some ⟨B, 0, none⟩) (t + 1) cf ∧ IRd w' ao l ∧ Below w.heap.size w w' := by
    refine (decode_any xo yo n n cx cy q t z y hz hy w hL hr hs).mono ?_
    rintro e w' ⟨vc, vw, ec, rfl, ⟨h0, _⟩ | ⟨_, hb, hT⟩⟩
    · exact absurd hE h0
    · rw [show ((t : Int)).toNat = t by omega, hf] at hT
      obtain ⟨rfl, ⟨B, rfl, _, hrow⟩, hv⟩ := hT
      rw [hw] at hv
      obtain ⟨ao, c2, rfl, hi⟩ := hv.ird
      exact ⟨B, ao, _, c2, rfl, fun _ => ⟨_, rfl, fun k hk => by rw [hrow k hk, hc k hk]⟩, hi, hb⟩
  have HD := Lib.hid hD
  have HC := Lib.hid hrc
  have HW := Lib.hid hrw
  clear hD hrc hrw hc hw hf hr hs hL hz hy hE
  go_enter Tryd.func10, Tryd.ntmps10
  go_upto_region 2 with (go_at_call 8; refine HD.out.mono ?_; rintro e w1 ⟨B, ao, c, c2, rfl, h1, h2, b1⟩; have H1 := Lib.hid h1; have H2 := Lib.hid h2; have B1 := Lib.hid b1; clear h1 h2 b1)
  have hN := nums_yes co (some ⟨B, 0, none⟩) (t + 1) cc c cf (by omega) w1 (HC.out.below B1.out) H1.out
  have HN := Lib.hid hN
  have HI := Lib.hid (fun W' (hb : Below w1.heap.size w1 W') => ints_yes wo ao cw c2 l (by omega) W' ((HW.out.below B1.out).below hb) (H2.out.below hb))
  clear hN
  go_wp2_with (first | (go_at_call 19; refine HN.out.mono ?_; rintro e w2 ⟨rfl, b2⟩) | (go_at_call 20; refine (HI.out _ b2).mono ?_; rintro e w3 ⟨rfl, b3⟩))
  go_ret
  exact ⟨rfl, (B1.out.trans (b2.mono B1.out.size)).trans (b3.mono (by have := B1.out.size; have := b2.size; omega))⟩
end M
end Go.Proofs.YtaogdhpiiclejaaDoor

/- Law05b: The examples that each statement asks for ahead of its own. -/
namespace Go.Proofs.YtaogdhpiiclejaaDoor
open Go Go.RowKit Go.Lib
namespace MM
def ofL (l : List Nat) (k : Nat) : Nat := l.getD k 0
theorem ofL_lt {l : List Nat} (h : l.all (· < 18446744073709551616) = true) (k : Nat) : ofL l k < 18446744073709551616 := by
  unfold ofL
  by_cases hk : k < l.length
  · rw [List.getD_eq_getElem?_getD, List.getElem?_eq_getElem hk]
    have := List.all_eq_true.1 h _ (List.getElem_mem hk)
    simpa using this
  · rw [List.getD_eq_getElem?_getD, List.getElem?_eq_none (by omega)]; show (0 : Nat) < _; omega
end MM
namespace M
def uarr (l : List Nat) : Array Value := (l.map fun (x : Nat) => Value.int .u64 (x : Int)).toArray
def iarr (l : List Nat) : Array Value := (l.map fun (x : Nat) => Value.int .i64 (x : Int)).toArray
theorem new_u (W : World) (l : List Nat) : Rd (W.alloc (.cells (uarr l) 23)) (some ⟨W.heap.size, 0, none⟩) l.length (MM.ofL l) := fun _ => ⟨_, rfl, Row.of_block (heap_alloc_new _ _) fun k hk => by
  unfold uarr MM.ofL
  rw [List.getD_eq_getElem?_getD]
  simp [hk]⟩
theorem new_i (W : World) (l : List Nat) : IRd (W.alloc (.cells (iarr l) 3)) (some ⟨W.heap.size, 0, none⟩) l := fun k hk => ⟨_, rfl, by
  have e : Addr.add ⟨W.heap.size, 0, none⟩ k = ⟨W.heap.size, k, none⟩ := by simp [Addr.add]; exact fun h => h.symm
  rw [e, cell_of_row _ _ _ _ _ _ (heap_alloc_new W _)]
  unfold iarr
  rw [List.getD_eq_getElem?_getD]
  simp [hk]⟩
/-- What is given at lists is what Decode tells, as it is reckoned. -/
theorem is_at (lx ly lc l s : List Nat) (q t n m u : Nat) (ti qi : Int) (hn : lx.length = n) (hm : t + 1 = m) (hu : l.length = u) (ht : (t : Int) = ti) (hq : (q : Int) = qi) (xo yo co wo : Option Addr) (cx cy cc cw : Nat) (hx : lx.all (· < 18446744073709551616) = true) (hy : ly.all (· < 18446744073709551616) = true)
    (h : MM.decErr q t n n (MM.ofL lx) = 0 ∧ (MM.setsF (2 * t + 1) 0 n).find? (MM.fitE q t (MM.ofL lx) (MM.ofL ly)) = some s ∧ (∀ k, k < m → MM.thruE q (MM.pick (MM.ofL lx) s) (MM.pick (MM.ofL ly) s) s.length k = MM.ofL lc k) ∧ MM.missL q m n (MM.ofL lx) (MM.ofL ly) (MM.thruE q (MM.pick (MM.ofL lx) s) (MM.pick (MM.ofL ly) s) s.length) = l)
    (w : World) (hL : Laid w) (hr : Rd w xo n (MM.ofL lx)) (hs : Rd w yo n (MM.ofL ly)) (hrc : Rd w co m (MM.ofL lc)) (hrw : IRd w wo l) :
    Calls Tryd.prog 10 #[.slice xo n cx, .slice yo n cy, .int .i64 ti, .int .u64 qi, .slice co m cc, .slice wo u cw] w fun e w' => e = .returned (.bool true) ∧ Below w.heap.size w w' := by
  subst hn hm hu ht hq
  exact is_true xo yo co wo lx.length cx cy cc cw q t _ _ _ s l (MM.ofL_lt hx) (MM.ofL_lt hy) h.1 (by rw [MM.fitE_eq]; exact h.2.1) (fun k hk => by rw [MM.thruE_eq]; exact h.2.2.1 k hk) (by rw [MM.thruE_eq]; exact h.2.2.2) w hL hr hs hrc hrw
/-- Three rows laid one behind the other. -/
theorem three (W : World) (l1 l2 l3 : List Nat) : ∃ W', ((W.alloc (.cells (uarr l1) 23)).alloc (.cells (uarr l2) 23)).alloc (.cells (iarr l3) 3) = W' ∧ Below W.heap.size W W' ∧ Rd W' (some ⟨W.heap.size, 0, none⟩) l1.length (MM.ofL l1) ∧ Rd W' (some ⟨W.heap.size + 1, 0, none⟩) l2.length (MM.ofL l2) ∧ IRd W' (some ⟨W.heap.size + 1 + 1, 0, none⟩) l3 := by
  have b1 := below_box W (.cells (uarr l1) 23)
  have r1 := new_u W l1
  have s1 : (W.alloc (.cells (uarr l1) 23)).heap.size = W.heap.size + 1 := World.size_alloc _ _
  obtain ⟨W1, h1⟩ : ∃ W1, W.alloc (.cells (uarr l1) 23) = W1 := ⟨_, rfl⟩
  rw [h1] at b1 r1 s1 ⊢
  have b2 := below_box W1 (.cells (uarr l2) 23)
  have r2 := new_u W1 l2
  have s2 : (W1.alloc (.cells (uarr l2) 23)).heap.size = W1.heap.size + 1 := World.size_alloc _ _
  obtain ⟨W2, h2⟩ : ∃ W2, W1.alloc (.cells (uarr l2) 23) = W2 := ⟨_, rfl⟩
  rw [h2] at b2 r2 s2 ⊢
  have b3 := below_box W2 (.cells (iarr l3) 3)
  have r3 := new_i W2 l3
  refine ⟨_, rfl, b1.trans ((b2.mono b1.size).trans (b3.mono (by have := b1.size; have := b2.size; omega))), (r1.below b2).below b3, ?_, ?_⟩
  · rw [← s1]; exact r2.below b3
  · rw [← s1, ← s2]; exact r3
/-- No set of points has a polynomial that fits. -/
theorem dec_none (lx ly : List Nat) (q t n : Nat) (ti qi : Int) (hn : lx.length = n) (ht : (t : Int) = ti) (hq : (q : Int) = qi) (xo yo : Option Addr) (cx cy : Nat) (hx : lx.all (· < 18446744073709551616) = true) (hy : ly.all (· < 18446744073709551616) = true)
    (h : MM.decErr q t n n (MM.ofL lx) = 0 ∧ (MM.setsF (2 * t + 1) 0 n).find? (MM.fitE q t (MM.ofL lx) (MM.ofL ly)) = none) (w : World) (hL : Laid w) (hr : Rd w xo n (MM.ofL lx)) (hs : Rd w yo n (MM.ofL ly)) :
    Calls Tryd.prog 8 #[.slice xo n cx, .slice yo n cy, .int .i64 ti, .int .u64 qi] w fun e w' => e = .returned (.tuple #[.slice none 0 0, .slice none 0 0, .int .i64 5]) ∧ Below w.heap.size w w' := by
  subst hn ht hq
  refine (decode_any xo yo lx.length lx.length cx cy q t _ _ (MM.ofL_lt hx) (MM.ofL_lt hy) w hL hr hs).mono ?_
  rintro e w' ⟨vc, vw, ec, rfl, ⟨h0, _⟩ | ⟨_, hb, hT⟩⟩
  · exact absurd h.1 h0
  · rw [show ((t : Int)).toNat = t by omega, MM.fitE_eq, h.2] at hT
    obtain ⟨rfl, rfl, rfl⟩ := hT
    exact ⟨rfl, hb⟩
theorem aw_none : MM.decErr 11 1 4 4 (MM.ofL [1, 2, 3, 4]) = 0 ∧ (MM.setsF (2 * 1 + 1) 0 4).find? (MM.fitE 11 1 (MM.ofL [1, 2, 3, 4]) (MM.ofL [5, 7, 0, 1])) = none := by decide +kernel
theorem aw_one : MM.decErr 11 1 4 4 (MM.ofL [1, 2, 3, 4]) = 0 ∧ (MM.setsF (2 * 1 + 1) 0 4).find? (MM.fitE 11 1 (MM.ofL [1, 2, 3, 4]) (MM.ofL [5, 7, 9, 1])) = some [0, 1, 2] ∧ (∀ k, k < 2 → MM.thruE 11 (MM.pick (MM.ofL [1, 2, 3, 4]) [0, 1, 2]) (MM.pick (MM.ofL [5, 7, 9, 1]) [0, 1, 2]) [0, 1, 2].length k = MM.ofL [3, 2] k) ∧ MM.missL 11 2 4 (MM.ofL [1, 2, 3, 4]) (MM.ofL [5, 7, 9, 1]) (MM.thruE 11 (MM.pick (MM.ofL [1, 2, 3, 4]) [0, 1, 2]) (MM.pick (MM.ofL [5, 7, 9, 1]) [0, 1, 2]) [0, 1, 2].length) = [3] := by decide +kernel
theorem aw_two : MM.decErr 11 0 4 4 (MM.ofL [1, 2, 3, 4]) = 0 ∧ (MM.setsF (2 * 0 + 1) 0 4).find? (MM.fitE 11 0 (MM.ofL [1, 2, 3, 4]) (MM.ofL [4, 6, 6, 4])) = some [0] ∧ (∀ k, k < 1 → MM.thruE 11 (MM.pick (MM.ofL [1, 2, 3, 4]) [0]) (MM.pick (MM.ofL [4, 6, 6, 4]) [0]) [0].length k = MM.ofL [4] k) ∧ MM.missL 11 1 4 (MM.ofL [1, 2, 3, 4]) (MM.ofL [4, 6, 6, 4]) (MM.thruE 11 (MM.pick (MM.ofL [1, 2, 3, 4]) [0]) (MM.pick (MM.ofL [4, 6, 6, 4]) [0]) [0].length) = [1, 2] := by decide +kernel
set_option maxRecDepth 100000 in
set_option maxHeartbeats 4000000 in
theorem awake_true (w : World) (hL : Laid w) : Calls Tryd.prog 5 #[] w fun e w' => e = .returned (.bool true) ∧ Below w.heap.size w w' := by
  obtain ⟨B, hB⟩ : ∃ B, w.heap.size = B := ⟨_, rfl⟩
  have r0 := new_u w [1, 2, 3, 4]
  have b0 := below_box w (.cells (uarr [1, 2, 3, 4]) 23)
  obtain ⟨W0, hW0⟩ : ∃ W0, w.alloc (.cells #[.int .u64 1, .int .u64 2, .int .u64 3, .int .u64 4] 23) = W0 := ⟨_, rfl⟩
  have hW0' : w.alloc (.cells (uarr [1, 2, 3, 4]) 23) = W0 := hW0
  rw [hW0', hB] at r0 b0
  have hL0 : Laid W0 := laid_below hL (by rw [hB]; exact b0)
  have sB : B < W0.heap.size := by rw [← hW0, World.size_alloc]; omega
  have hD : Calls Tryd.prog 8 #[.slice (some ⟨B, 0, none⟩) 4 4, .slice (some ⟨W0.heap.size, 0, none⟩) 4 4, .int .i64 1, .int .u64 11] (W0.alloc (.cells #[.int .u64 5, .int .u64 7, .int .u64 0, .int .u64 1] 23)) fun e w' => e = .returned (.tuple #[.slice none 0 0, .slice none 0 0, .int .i64 5]) ∧ Below W0.heap.size W0 w' := by
    have b := below_box W0 (.cells (uarr [5, 7, 0, 1]) 23)
    refine Calls.mono (dec_none [1, 2, 3, 4] [5, 7, 0, 1] 11 1 4 1 11 rfl rfl rfl (some ⟨B, 0, none⟩) (some ⟨W0.heap.size, 0, none⟩) 4 4 (by decide) (by decide) aw_none (W0.alloc (.cells (uarr [5, 7, 0, 1]) 23)) (laid_below hL0 b) (r0.below b) (new_u W0 [5, 7, 0, 1])) ?_
    rintro e w' ⟨h1, h2⟩
    exact ⟨h1, b.trans (h2.mono b.size)⟩
  have HI1 : Hid (∀ W, Below W0.heap.size W0 W → Calls Tryd.prog 10 #[.slice (some ⟨B, 0, none⟩) 4 4, .slice (some ⟨W.heap.size, 0, none⟩) 4 4, .int .i64 1, .int .u64 11, .slice (some ⟨W.heap.size + 1, 0, none⟩) 2 2, .slice (some ⟨W.heap.size + 1 + 1, 0, none⟩) 1 1] (((W.alloc (.cells #[.int .u64 5, .int .u64 7, .int .u64 9, .int .u64 1] 23)).alloc (.cells #[.int .u64 3, .int .u64 2] 23)).alloc (.cells #[.int .i64 3] 3)) fun e w' => e = .returned (.bool true) ∧ Below W.heap.size W w') := Lib.hid fun W hb => by
    obtain ⟨W', h', b', r1, r2, r3⟩ := three W [5, 7, 9, 1] [3, 2] [3]
    have h'' : ((W.alloc (.cells #[.int .u64 5, .int .u64 7, .int .u64 9, .int .u64 1] 23)).alloc (.cells #[.int .u64 3, .int .u64 2] 23)).alloc (.cells #[.int .i64 3] 3) = W' := h'
    rw [h'']
    refine Calls.mono (is_at [1, 2, 3, 4] [5, 7, 9, 1] [3, 2] [3] [0, 1, 2] 11 1 4 2 1 1 11 rfl rfl rfl rfl rfl (some ⟨B, 0, none⟩) (some ⟨W.heap.size, 0, none⟩) (some ⟨W.heap.size + 1, 0, none⟩) (some ⟨W.heap.size + 1 + 1, 0, none⟩) 4 4 2 1 (by decide) (by decide) aw_one W' (laid_below hL0 (hb.trans (b'.mono hb.size))) ((r0.below hb).below b') r1 r2 r3) ?_
    rintro e w' ⟨h1, h2⟩
    exact ⟨h1, b'.trans (h2.mono b'.size)⟩
  have HI2 : Hid (∀ W, Below W0.heap.size W0 W → Calls Tryd.prog 10 #[.slice (some ⟨B, 0, none⟩) 4 4, .slice (some ⟨W.heap.size, 0, none⟩) 4 4, .int .i64 0, .int .u64 11, .slice (some ⟨W.heap.size + 1, 0, none⟩) 1 1, .slice (some ⟨W.heap.size + 1 + 1, 0, none⟩) 2 2] (((W.alloc (.cells #[.int .u64 4, .int .u64 6, .int .u64 6, .int .u64 4] 23)).alloc (.cells #[.int .u64 4] 23)).alloc (.cells #[.int .i64 1, .int .i64 2] 3)) fun e w' => e = .returned (.bool true) ∧ Below W.heap.size W w') := Lib.hid fun W hb => by
    obtain ⟨W', h', b', r1, r2, r3⟩ := three W [4, 6, 6, 4] [4] [1, 2]
    have h'' : ((W.alloc (.cells #[.int .u64 4, .int .u64 6, .int .u64 6, .int .u64 4] 23)).alloc (.cells #[.int .u64 4] 23)).alloc (.cells #[.int .i64 1, .int .i64 2] 3) = W' := h'
    rw [h'']
    refine Calls.mono (is_at [1, 2, 3, 4] [4, 6, 6, 4] [4] [1, 2] [0] 11 0 4 1 2 0 11 rfl rfl rfl rfl rfl (some ⟨B, 0, none⟩) (some ⟨W.heap.size, 0, none⟩) (some ⟨W.heap.size + 1, 0, none⟩) (some ⟨W.heap.size + 1 + 1, 0, none⟩) 4 4 1 2 (by decide) (by decide) aw_two W' (laid_below hL0 (hb.trans (b'.mono hb.size))) ((r0.below hb).below b') r1 r2 r3) ?_
    rintro e w' ⟨h1, h2⟩
    exact ⟨h1, b'.trans (h2.mono b'.size)⟩
  have HD := Lib.hid hD
  have HB0 := Lib.hid b0
  clear hD r0 b0 hW0' hL hL0
  go_enter Tryd.func5, Tryd.ntmps5
  go_upto_region 3 with (go_at_call 8; refine HD.out.mono ?_; rintro e w1 ⟨rfl, b1⟩; have HB1 := Lib.hid b1; clear b1)
  go_wp2_with (go_at_call 10; first | (refine (HI2.out _ HB2.out).mono ?_; rintro e w3 ⟨rfl, b3⟩; have HB3 := Lib.hid (HB2.out.trans (b3.mono HB2.out.size)); clear b3) | (refine (HI1.out _ HB1.out).mono ?_; rintro e w2 ⟨rfl, b2⟩; have HB2 := Lib.hid (HB1.out.trans (b2.mono HB1.out.size)); clear b2))
  go_ret
  exact ⟨rfl, by rw [hB]; exact HB0.out.trans (HB3.out.mono (by omega))⟩
end M
end Go.Proofs.YtaogdhpiiclejaaDoor

/- Law05c: The closed statement of layer 5, call by call. -/
namespace Go.Proofs.YtaogdhpiiclejaaDoor
open Go Go.RowKit Go.Lib
namespace M
/-- What was there at w stands, and the tables of primes are laid. -/
structure St (w W : World) : Prop where
  below : Below w.heap.size w W
  laid : Laid W
theorem St.start {w : World} (h : Laid w) : St w w := ⟨Below.refl _ _, h⟩
theorem St.step {w W W' : World} (h : St w W) (hb : Below W.heap.size W W') : St w W' := ⟨h.below.trans (hb.mono h.below.size), laid_below h.laid hb⟩
theorem St.alloc {w W : World} (h : St w W) (o : Obj) : St w (W.alloc o) := h.step (below_box _ _)
theorem Rd.alloc {W : World} {ao : Option Addr} {n : Nat} {z : Nat → Nat} (h : Rd W ao n z) (o : Obj) : Rd (W.alloc o) ao n z := h.below (below_box _ _)
theorem IRd.alloc {W : World} {ao : Option Addr} {l : List Nat} (h : IRd W ao l) (o : Obj) : IRd (W.alloc o) ao l := h.below (below_box _ _)
theorem IRd.nil (W : World) (ao : Option Addr) : IRd W ao [] := fun k hk => absurd hk (by simp)
theorem rd_at {W : World} (l : List Nat) {b n : Nat} (hb : W.heap.size = b) (hn : l.length = n) : Rd (W.alloc (.cells (uarr l) 23)) (some ⟨b, 0, none⟩) n (MM.ofL l) := by subst hb hn; exact new_u W l
theorem ird_at {W : World} (l : List Nat) {b : Nat} (hb : W.heap.size = b) : IRd (W.alloc (.cells (iarr l) 3)) (some ⟨b, 0, none⟩) l := by subst hb; exact new_i W l
theorem Rd.part {W : World} {ao : Option Addr} {n m : Nat} {z y : Nat → Nat} (h : Rd W ao n z) (hm : m ≤ n) (e : ∀ k, k < m → z k = y k) : Rd W ao m y := fun h0 => by
  obtain ⟨ad, ha, hr⟩ := h (by omega)
  exact ⟨ad, ha, fun k hk => by rw [hr k (by omega), e k hk]⟩
theorem nm_one : MM.decErr 11 1 6 6 (MM.ofL [1, 2, 3, 4, 5, 6]) = 0 ∧ (MM.setsF (2 * 1 + 1) 0 6).find? (MM.fitE 11 1 (MM.ofL [1, 2, 3, 4, 5, 6]) (MM.ofL [1, 1, 1, 2, 2, 2])) = some [0, 1, 2] ∧ (∀ k, k < 2 → MM.thruE 11 (MM.pick (MM.ofL [1, 2, 3, 4, 5, 6]) [0, 1, 2]) (MM.pick (MM.ofL [1, 1, 1, 2, 2, 2]) [0, 1, 2]) [0, 1, 2].length k = MM.ofL [1, 0] k) ∧ MM.missL 11 2 6 (MM.ofL [1, 2, 3, 4, 5, 6]) (MM.ofL [1, 1, 1, 2, 2, 2]) (MM.thruE 11 (MM.pick (MM.ofL [1, 2, 3, 4, 5, 6]) [0, 1, 2]) (MM.pick (MM.ofL [1, 1, 1, 2, 2, 2]) [0, 1, 2]) [0, 1, 2].length) = [3, 4, 5] := by decide +kernel
theorem nm_two : MM.decErr 11 1 4 4 (MM.ofL [1, 2, 3, 4]) = 0 ∧ (MM.setsF (2 * 1 + 1) 0 4).find? (MM.fitE 11 1 (MM.ofL [1, 2, 3, 4]) (MM.ofL [5, 7, 9, 0])) = some [0, 1, 2] ∧ (∀ k, k < 2 → MM.thruE 11 (MM.pick (MM.ofL [1, 2, 3, 4]) [0, 1, 2]) (MM.pick (MM.ofL [5, 7, 9, 0]) [0, 1, 2]) [0, 1, 2].length k = MM.ofL [3, 2] k) ∧ MM.missL 11 2 4 (MM.ofL [1, 2, 3, 4]) (MM.ofL [5, 7, 9, 0]) (MM.thruE 11 (MM.pick (MM.ofL [1, 2, 3, 4]) [0, 1, 2]) (MM.pick (MM.ofL [5, 7, 9, 0]) [0, 1, 2]) [0, 1, 2].length) = [] := by decide +kernel
theorem nm_three : MM.decErr 2 0 1 1 (MM.ofL [3]) = 0 ∧ (MM.setsF (2 * 0 + 1) 0 1).find? (MM.fitE 2 0 (MM.ofL [3]) (MM.ofL [9])) = some [0] ∧ (∀ k, k < 1 → MM.thruE 2 (MM.pick (MM.ofL [3]) [0]) (MM.pick (MM.ofL [9]) [0]) [0].length k = MM.ofL [1] k) ∧ MM.missL 2 1 1 (MM.ofL [3]) (MM.ofL [9]) (MM.thruE 2 (MM.pick (MM.ofL [3]) [0]) (MM.pick (MM.ofL [9]) [0]) [0].length) = [] := by decide +kernel
theorem nm_four : MM.decErr 11 2 5 5 (MM.ofL [1, 2, 3, 4, 5]) = 0 ∧ (MM.setsF (2 * 2 + 1) 0 5).find? (MM.fitE 11 2 (MM.ofL [1, 2, 3, 4, 5]) (MM.ofL [0, 0, 0, 0, 0])) = some [0, 1, 2, 3, 4] ∧ (∀ k, k < 3 → MM.thruE 11 (MM.pick (MM.ofL [1, 2, 3, 4, 5]) [0, 1, 2, 3, 4]) (MM.pick (MM.ofL [0, 0, 0, 0, 0]) [0, 1, 2, 3, 4]) [0, 1, 2, 3, 4].length k = MM.ofL [0, 0, 0] k) ∧ MM.missL 11 3 5 (MM.ofL [1, 2, 3, 4, 5]) (MM.ofL [0, 0, 0, 0, 0]) (MM.thruE 11 (MM.pick (MM.ofL [1, 2, 3, 4, 5]) [0, 1, 2, 3, 4]) (MM.pick (MM.ofL [0, 0, 0, 0, 0]) [0, 1, 2, 3, 4]) [0, 1, 2, 3, 4].length) = [] := by decide +kernel
/-- The table of what Decode refuses, or finds nothing for. -/
def rowsT : List (Nat × Nat × Int × Nat × Int) := [(2, 2, 1, 11, 5), (0, 0, 0, 11, 5), (3, 3, 1, 9, 1), (3, 3, 1, 0, 1), (3, 3, 1, 1, 1), (3, 3, -1, 11, 1), (3, 3, 3, 11, 1), (3, 2, 1, 11, 1), (8, 8, 1, 11, 40), (4, 4, 1, 3, 6), (4, 4, 2, 11, 5), (8, 8, 1, 3, 40)]
def okRow (r : Nat × Nat × Int × Nat × Int) : Bool := decide (r.1 ≤ 8) && decide (r.2.1 ≤ 8) && ((decide (MM.decErr r.2.2.2.1 r.2.2.1 r.1 r.2.1 (MM.ofL [0, 1, 2, 3, 4, 5, 6, 7]) = r.2.2.2.2) && decide (r.2.2.2.2 ≠ 0)) ||
  (decide (MM.decErr r.2.2.2.1 r.2.2.1 r.1 r.2.1 (MM.ofL [0, 1, 2, 3, 4, 5, 6, 7]) = 0) && ((MM.setsF (2 * r.2.2.1.toNat + 1) 0 r.1).find? (MM.fitE r.2.2.2.1 r.2.2.1.toNat (MM.ofL [0, 1, 2, 3, 4, 5, 6, 7]) (MM.ofL []))).isNone && decide (r.2.2.2.2 = 5)))
theorem rows_ok : rowsT.all okRow = true := by decide +kernel
def tabC : Array Value := #[.int .i64 2, .int .i64 2, .int .i64 1, .int .u64 11, .int .i64 5, .int .i64 0, .int .i64 0, .int .i64 0, .int .u64 11, .int .i64 5, .int .i64 3, .int .i64 3, .int .i64 1, .int .u64 9, .int .i64 1, .int .i64 3, .int .i64 3, .int .i64 1, .int .u64 0, .int .i64 1, .int .i64 3, .int .i64 3, .int .i64 1, .int .u64 1, .int .i64 1, .int .i64 3, .int .i64 3, .int .i64 (-1), .int .u64 11, .int .i64 1, .int .i64 3, .int .i64 3, .int .i64 3, .int .u64 11, .int .i64 1, .int .i64 3, .int .i64 2, .int .i64 1, .int .u64 11, .int .i64 1, .int .i64 8, .int .i64 8, .int .i64 1, .int .u64 11, .int .i64 40, .int .i64 4, .int .i64 4, .int .i64 1, .int .u64 3, .int .i64 6, .int .i64 4, .int .i64 4, .int .i64 2, .int .u64 11, .int .i64 5, .int .i64 8, .int .i64 8, .int .i64 1, .int .u64 3, .int .i64 40]
theorem tab_get : ∀ k, k < 12 → tabC[k * 5]? = some (.int .i64 (((rowsT.getD k (0, 0, 0, 0, 0)).1 : Nat) : Int)) ∧ tabC[k * 5 + 1]? = some (.int .i64 (((rowsT.getD k (0, 0, 0, 0, 0)).2.1 : Nat) : Int)) ∧ tabC[k * 5 + 2]? = some (.int .i64 (rowsT.getD k (0, 0, 0, 0, 0)).2.2.1) ∧ tabC[k * 5 + 3]? = some (.int .u64 (((rowsT.getD k (0, 0, 0, 0, 0)).2.2.2.1 : Nat) : Int)) ∧ tabC[k * 5 + 4]? = some (.int .i64 (rowsT.getD k (0, 0, 0, 0, 0)).2.2.2.2)
  | 0, _ => ⟨rfl, rfl, rfl, rfl, rfl⟩
  | 1, _ => ⟨rfl, rfl, rfl, rfl, rfl⟩
  | 2, _ => ⟨rfl, rfl, rfl, rfl, rfl⟩
  | 3, _ => ⟨rfl, rfl, rfl, rfl, rfl⟩
  | 4, _ => ⟨rfl, rfl, rfl, rfl, rfl⟩
  | 5, _ => ⟨rfl, rfl, rfl, rfl, rfl⟩
  | 6, _ => ⟨rfl, rfl, rfl, rfl, rfl⟩
  | 7, _ => ⟨rfl, rfl, rfl, rfl, rfl⟩
  | 8, _ => ⟨rfl, rfl, rfl, rfl, rfl⟩
  | 9, _ => ⟨rfl, rfl, rfl, rfl, rfl⟩
  | 10, _ => ⟨rfl, rfl, rfl, rfl, rfl⟩
  | 11, _ => ⟨rfl, rfl, rfl, rfl, rfl⟩
  | k + 12, h => absurd h (by omega)
theorem row_ok : ∀ k, k < 12 → okRow (rowsT.getD k (0, 0, 0, 0, 0)) = true := by decide +kernel
theorem okRow_le {n m q : Nat} {t er : Int} (h : okRow (n, m, t, q, er) = true) : n ≤ 8 ∧ m ≤ 8 := by
  unfold okRow at h
  rw [Bool.and_eq_true, Bool.and_eq_true] at h
  exact ⟨of_decide_eq_true h.1.1, of_decide_eq_true h.1.2⟩
theorem one_rd (x : Nat) {u : World} {b : Nat} (h : u.heap[b]? = some (.cells #[.int .u64 (x : Int)] 23 (0, 0))) : Rd u (some ⟨b, 0, none⟩) 1 (MM.ofL [x]) := fun _ => ⟨_, rfl, Row.of_block h fun k hk => by
  obtain rfl : k = 0 := by omega
  rfl⟩
theorem ofL_eight : ∀ j, j < 8 → MM.ofL [0, 1, 2, 3, 4, 5, 6, 7] j = j := by decide
/-- What Decode tells of a row of the table. -/
theorem dec_row {n m q : Nat} {t er : Int} (h : okRow (n, m, t, q, er) = true) (b c : Nat) (W : World) (hL : Laid W) (hr : Rd W (some ⟨b, 0, none⟩) n (MM.ofL [0, 1, 2, 3, 4, 5, 6, 7])) (hs : Rd W (some ⟨c, 0, none⟩) m (fun _ => 0)) :
    Calls Tryd.prog 8 #[.slice (some ⟨b, 0, none⟩) n n, .slice (some ⟨c, 0, none⟩) m m, .int .i64 t, .int .u64 (q : Int)] W fun e w' => e = .returned (.tuple #[.slice none 0 0, .slice none 0 0, .int .i64 er]) ∧ Below W.heap.size W w' := by
  have hy : (fun _ => 0 : Nat → Nat) = MM.ofL [] := by funext k; rfl
  rw [hy] at hs
  unfold okRow at h
  rw [Bool.and_eq_true, Bool.or_eq_true, Bool.and_eq_true, Bool.and_eq_true, Bool.and_eq_true] at h
  refine (decode_any _ _ n m n m q t _ _ (MM.ofL_lt (by decide)) (MM.ofL_lt (by decide)) W hL hr hs).mono ?_
  rintro e w' ⟨vc, vw, ec, rfl, hD⟩
  rcases h.2 with ⟨h1, h2⟩ | ⟨h1, h2⟩
  · have e1 := of_decide_eq_true h1
    have e2 := of_decide_eq_true h2
    simp only at e1 e2
    rcases hD with ⟨_, rfl, rfl, rfl, hb⟩ | ⟨h0, _⟩
    · exact ⟨by rw [e1], hb⟩
    · exact absurd (e1.symm.trans h0) e2
  · rw [Bool.and_eq_true] at h1
    have e1 := of_decide_eq_true h1.1
    have e2 := of_decide_eq_true h2
    have e3 := h1.2
    simp only at e1 e2 e3
    rcases hD with ⟨h0, _⟩ | ⟨_, hb, hT⟩
    · exact absurd e1 h0
    · rw [MM.fitE_eq, Option.isNone_iff_eq_none.1 e3] at hT
      obtain ⟨rfl, rfl, rfl⟩ := hT
      exact ⟨by rw [e2], hb⟩
theorem Mine.low' {w0 w1 w : World} {B n : Nat} {z : Nat → Nat} (h : Mine w1 B n z w) (hb : Below w0.heap.size w0 w1) : Mine w0 B n z w := ⟨h.block, Nat.le_trans hb.size h.low, hb.trans (h.below.mono hb.size)⟩
end M
end Go.Proofs.YtaogdhpiiclejaaDoor

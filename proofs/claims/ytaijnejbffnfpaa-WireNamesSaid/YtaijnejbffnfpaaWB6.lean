/- The texts WirOff, WirX2, WirX3, ByteRow, one behind the other. -/
import Derived.Test.YtaijnejbffnfpaaWB5
import Derived.Laws.OwnMore
import Derived.Deep.AppendLies
import Derived.Test.YtaijnejbffnfpaaWB1
import Derived.Laws.Cells
/- The walks of the document's own reader: bytes off, a byte, a number, a whole number, a count, a text, its end. -/
namespace Go.Proofs.Ytaijnejbffnfpaa
open Go Go.RowKit Go.Lib
namespace M
abbrev XR : TypeId := 60
theorem xopen_any (s : List UInt8) (W : World) :
    Calls Try.prog 32 #[.string ⟨s.toArray⟩] W fun e' w' => ∃ g, e' = .returned (.pointer (some ⟨g, 0, none⟩)) ∧ W.heap.size ≤ g ∧ RAt XR g s 0 w' ∧ Below W.heap.size W w' := by
  have hB := below_box W (.cells #[.string ⟨s.toArray⟩, .int .i64 0] XR)
  have HB := Lib.hid hB
  clear hB
  go_enter Try.func32, Try.ntmps32
  go_wp2_with fail
  go_ret
  exact ⟨_, rfl, Nat.le_refl _, RAt.new _ _ _, HB.out⟩
set_option maxHeartbeats 1000000 in
theorem xwrong_any (g : Nat) (s : List UInt8) (e k : Int) (W : World) (h : RAt XR g s e W) :
    Calls Try.prog 68 #[.pointer (some ⟨g, 0, none⟩), .int .i64 k] W fun e w' => e = .returned (.int .i64 k) ∧ RAt XR g [] k w' ∧ Turn g W w' := by
  have h0 := h.rest
  have h1 := h.wrong
  have hf0 := h.free 0
  have hf1 := h.free 1
  go_enter Try.func68, Try.ntmps68
  go_wp2_with fail
  go_ret
  exact ⟨rfl, (h.put0 []).put1 k, ((Turn.refl g W).set 0 _).set 1 _⟩
set_option maxHeartbeats 1000000 in
theorem xoff_old (g : Nat) (s : List UInt8) (e : Int) (n : Nat) (W : World) (h : RAt XR g s e W) (he : e ≠ 0) :
    Calls Try.prog 67 #[.pointer (some ⟨g, 0, none⟩), .int .i64 (n : Int)] W fun e' w' => e' = .returned (.tuple #[.int .u64 0, .int .i64 e]) ∧ Below W.heap.size W w' := by
  have h1 := h.wrong
  go_enter Try.func67, Try.ntmps67
  go_wp2_with fail
  go_quiet (fail)
  go_wp2_with fail
  go_ret2
  exact ⟨rfl, below_drewN _ _⟩
set_option maxHeartbeats 1000000 in
theorem xoff_short (g : Nat) (s : List UInt8) (n : Nat) (W : World) (h : RAt XR g s 0 W) (hn : s.length < n) :
    Calls Try.prog 67 #[.pointer (some ⟨g, 0, none⟩), .int .i64 (n : Int)] W fun e' w' => e' = .returned (.tuple #[.int .u64 0, .int .i64 8]) ∧ RAt XR g [] 8 w' ∧ Turn g W w' := by
  have h1 := h.wrong
  have h0 := h.rest
  have hl : (s.length : Int) < (n : Int) := by omega
  have H := xwrong_any g s 0 8 W h
  go_enter Try.func67, Try.ntmps67
  go_wp2_with (go_at_call 68; (with_reducible refine H.mono ?_); rintro e w' ⟨rfl, hr, ht⟩)
  go_ret2
  exact ⟨rfl, hr, ht⟩
theorem add_val (l : List UInt8) (k x : Nat) (hk : k < l.length) (hx : x = MM.val (l.take k)) (hx2 : x < 72057594037927936) {h : k < (ByteArray.mk l.toArray).size} :
    IntKind.u64.wrap ((x : Int) * 256 + IntKind.u64.wrap (((ByteArray.mk l.toArray)[k]'h).toNat : Int)) = ((MM.val (l.take (k + 1)) : Nat) : Int) := by
  have hb := ((ByteArray.mk l.toArray)[k]'h).toNat_lt
  have hw : IntKind.u64.wrap (((ByteArray.mk l.toArray)[k]'h).toNat : Int) = (((ByteArray.mk l.toArray)[k]'h).toNat : Int) := by simp [IntKind.wrap, IntKind.bits, IntKind.signed]; omega
  have hg : (l.getD k 0).toNat = ((ByteArray.mk l.toArray)[k]'h).toNat := by
    rw [List.getD_eq_getElem?_getD, List.getElem?_eq_getElem hk]; rfl
  rw [hw, MM.val_take l k hk, ← hx, hg]
  generalize ((ByteArray.mk l.toArray)[k]'h).toNat = b at *
  simp [IntKind.wrap, IntKind.bits, IntKind.signed]
  omega
set_option maxHeartbeats 1000000 in
theorem xoff_good (g : Nat) (s : List UInt8) (n : Nat) (W : World) (h : RAt XR g s 0 W) (hn : n ≤ s.length) (hn8 : n ≤ 8) :
    Calls Try.prog 67 #[.pointer (some ⟨g, 0, none⟩), .int .i64 (n : Int)] W fun e' w' => e' = .returned (.tuple #[.int .u64 ((MM.val (s.take n) : Nat) : Int), .int .i64 0]) ∧ RAt XR g (s.drop n) 0 w' ∧ Turn g W w' := by
  have h1 := h.wrong
  have h0 := h.rest
  have hf := h.free 0
  have hl : ¬ (s.length : Int) < (n : Int) := by omega
  have hx2 : (⟨s.toArray⟩ : ByteArray).extract n s.length = ⟨(s.drop n).toArray⟩ := by rw [ByteArray.extract_mk, List.take_of_length_le (by simp)]
  have HR := Lib.hid h
  clear h
  go_enter Try.func67, Try.ntmps67
  go_wp2_with fail
  go_loopw [6, 7] (fun s6 s7 wx => ∃ k x : Nat, k ≤ n ∧ s7 = .int .i64 (k : Int) ∧ s6 = .int .u64 (x : Int) ∧ Hid (x = MM.val (s.take k)) ∧ wx = W) (fun _ s7 _ => n - (RowKit.intOf s7).toNat)
  case atStart => exact ⟨0, 0, Nat.zero_le _, rfl, rfl, Lib.hid rfl, rfl⟩
  case round =>
    obtain ⟨k, x, hk, rfl, rfl, hx, rfl⟩ := hrel
    by_cases hlt : k < n
    · have hx56 : x < 72057594037927936 := by
        rw [hx.out]
        refine Nat.lt_of_lt_of_le (MM.val_lt k _ (by rw [List.length_take]; omega)) ?_
        exact Nat.le_trans (Nat.pow_le_pow_right (by omega) (by omega : k ≤ 7)) (by decide)
      have hkl : k < s.length := by omega
      go_wp2_with fail
      go_roundw
      case rel => exact ⟨k + 1, MM.val (s.take (k + 1)), by omega, by go_num, by rw [add_val s k x hkl hx.out hx56], Lib.hid rfl, trivial⟩
      case measure => simp [RowKit.intOf]; omega
    · obtain rfl : k = n := by omega
      have hx2 : x = MM.val (s.take k) := hx.out
      subst hx2
      go_wp2_with fail
      go_ret2
      exact ⟨rfl, HR.out.put0 _, (Turn.refl g _).set 0 _⟩
theorem xoff_any (g : Nat) (s : List UInt8) (e : Int) (n : Nat) (W : World) (h : RAt XR g s e W) (hn8 : n ≤ 8) :
    Calls Try.prog 67 #[.pointer (some ⟨g, 0, none⟩), .int .i64 (n : Int)] W fun e' w' => e' = .returned (.tuple #[.int .u64 (((MM.rOff n s e).1 : Nat) : Int), .int .i64 (MM.rOff n s e).2.1]) ∧ RAt XR g (MM.rOff n s e).2.2 (MM.rOff n s e).2.1 w' ∧ Turn g W w' := by
  by_cases he : e = 0
  · subst he
    by_cases hs : s.length < n
    · rw [MM.rOff_short hs]; exact xoff_short g s n W h hs
    · rw [MM.rOff_good (Nat.le_of_not_lt hs)]; exact xoff_good g s n W h (Nat.le_of_not_lt hs) hn8
  · rw [MM.rOff_old he]
    exact (xoff_old g s e n W h he).mono fun _ _ ⟨a, b⟩ => ⟨a, h.step b, Turn.of b⟩
theorem rOff_lt (n : Nat) (s : List UInt8) (e : Int) : (MM.rOff n s e).1 < 256 ^ n := by
  unfold MM.rOff
  split
  · exact Nat.pow_pos (by omega)
  · split
    · exact Nat.pow_pos (by omega)
    · exact MM.val_lt n _ (by simp; omega)
set_option maxHeartbeats 1000000 in
theorem xbyte_ask (g : Nat) (s : List UInt8) (e : Int) (W : World) (h : RAt XR g s e W) :
    Calls Try.prog 33 #[.pointer (some ⟨g, 0, none⟩)] W fun e' w' => e' = .returned (.tuple #[.int .u8 (((MM.rOff 1 s e).1 : Nat) : Int), .int .i64 (MM.rOff 1 s e).2.1]) ∧ RAt XR g (MM.rOff 1 s e).2.2 (MM.rOff 1 s e).2.1 w' ∧ Turn g W w' := by
  have H : Calls Try.prog 67 #[.pointer (some ⟨g, 0, none⟩), .int .i64 1] W fun e' w' => e' = .returned (.tuple #[.int .u64 (((MM.rOff 1 s e).1 : Nat) : Int), .int .i64 (MM.rOff 1 s e).2.1]) ∧ RAt XR g (MM.rOff 1 s e).2.2 (MM.rOff 1 s e).2.1 w' ∧ Turn g W w' := xoff_any g s e 1 W h (by omega)
  have hlt := rOff_lt 1 s e
  generalize MM.rOff 1 s e = r at *
  obtain ⟨v, k, t⟩ := r
  simp only at H hlt ⊢
  have hw : IntKind.u8.wrap (v : Int) = (v : Int) := by simp [IntKind.wrap, IntKind.bits, IntKind.signed]; omega
  go_enter Try.func33, Try.ntmps33
  go_wp2_with (go_at_call 67; (with_reducible refine H.mono ?_); rintro e w' ⟨rfl, hr, ht⟩)
  go_ret2
  exact ⟨rfl, hr, ht⟩
set_option maxHeartbeats 1000000 in
theorem xnum_ask (g : Nat) (s : List UInt8) (e : Int) (W : World) (h : RAt XR g s e W) :
    Calls Try.prog 34 #[.pointer (some ⟨g, 0, none⟩)] W fun e' w' => e' = .returned (.tuple #[.int .u64 (((MM.rOff 8 s e).1 : Nat) : Int), .int .i64 (MM.rOff 8 s e).2.1]) ∧ RAt XR g (MM.rOff 8 s e).2.2 (MM.rOff 8 s e).2.1 w' ∧ Turn g W w' := by
  have H : Calls Try.prog 67 #[.pointer (some ⟨g, 0, none⟩), .int .i64 8] W fun e' w' => e' = .returned (.tuple #[.int .u64 (((MM.rOff 8 s e).1 : Nat) : Int), .int .i64 (MM.rOff 8 s e).2.1]) ∧ RAt XR g (MM.rOff 8 s e).2.2 (MM.rOff 8 s e).2.1 w' ∧ Turn g W w' := xoff_any g s e 8 W h (by omega)
  generalize MM.rOff 8 s e = r at *
  obtain ⟨v, k, t⟩ := r
  simp only at H ⊢
  go_enter Try.func34, Try.ntmps34
  go_wp2_with (go_at_call 67; (with_reducible refine H.mono ?_); rintro e w' ⟨rfl, hr, ht⟩)
  go_ret2
  exact ⟨rfl, hr, ht⟩
set_option maxHeartbeats 1000000 in
theorem xint_ask (g : Nat) (s : List UInt8) (e : Int) (W : World) (h : RAt XR g s e W) :
    Calls Try.prog 35 #[.pointer (some ⟨g, 0, none⟩)] W fun e' w' => e' = .returned (.tuple #[.int .i64 (MM.i64 (MM.rOff 8 s e).1), .int .i64 (MM.rOff 8 s e).2.1]) ∧ RAt XR g (MM.rOff 8 s e).2.2 (MM.rOff 8 s e).2.1 w' ∧ Turn g W w' := by
  have H : Calls Try.prog 67 #[.pointer (some ⟨g, 0, none⟩), .int .i64 8] W fun e' w' => e' = .returned (.tuple #[.int .u64 (((MM.rOff 8 s e).1 : Nat) : Int), .int .i64 (MM.rOff 8 s e).2.1]) ∧ RAt XR g (MM.rOff 8 s e).2.2 (MM.rOff 8 s e).2.1 w' ∧ Turn g W w' := xoff_any g s e 8 W h (by omega)
  generalize MM.rOff 8 s e = r at *
  obtain ⟨v, k, t⟩ := r
  simp only at H ⊢
  have hw : IntKind.i64.wrap (v : Int) = MM.i64 v := rfl
  go_enter Try.func35, Try.ntmps35
  go_wp2_with (go_at_call 67; (with_reducible refine H.mono ?_); rintro e w' ⟨rfl, hr, ht⟩)
  go_ret2
  exact ⟨rfl, hr, ht⟩
end M
end Go.Proofs.Ytaijnejbffnfpaa
/- The walks of the document's own reader: a count, a text, a list, its end; whether two rows of numbers are alike. -/
namespace Go.Proofs.Ytaijnejbffnfpaa
open Go Go.RowKit Go.Lib
namespace M
section
variable (g : Nat) (s : List UInt8) (e : Int) (W : World)
/-- The first bytes off, where that ends the call. -/
theorem off_case (n : Nat) (h : RAt XR g s e W) (hn8 : n ≤ 8) (hb : e ≠ 0 ∨ s.length < n) : ∃ (k : Int) (t : List UInt8), k ≠ 0 ∧ MM.rOff n s e = (0, k, t) ∧
    Calls Try.prog 67 #[.pointer (some ⟨g, 0, none⟩), .int .i64 (n : Int)] W fun e' w' => e' = .returned (.tuple #[.int .u64 0, .int .i64 k]) ∧ RAt XR g t k w' ∧ Turn g W w' := by
  have H := xoff_any g s e n W h hn8
  by_cases he : e = 0
  · subst he
    have hs : s.length < n := hb.resolve_left (by simp)
    rw [MM.rOff_short hs] at H ⊢
    exact ⟨8, [], by decide, rfl, H⟩
  · rw [MM.rOff_old he] at H ⊢
    exact ⟨e, s, he, rfl, H⟩
end
set_option maxHeartbeats 1000000 in
theorem xcount_off (g : Nat) (most : Int) (W : World) (k : Int) (t : List UInt8) (hk : k ≠ 0)
    (H : Calls Try.prog 67 #[.pointer (some ⟨g, 0, none⟩), .int .i64 8] W fun e' w' => e' = .returned (.tuple #[.int .u64 0, .int .i64 k]) ∧ RAt XR g t k w' ∧ Turn g W w') :
    Calls Try.prog 39 #[.pointer (some ⟨g, 0, none⟩), .int .i64 most] W fun e' w' => e' = .returned (.tuple #[.int .i64 0, .int .i64 k]) ∧ RAt XR g t k w' ∧ Turn g W w' := by
  go_enter Try.func39, Try.ntmps39
  go_wp2_with (go_at_call 67; (with_reducible refine H.mono ?_); rintro e w' ⟨rfl, hr, ht⟩)
  go_ret2
  exact ⟨rfl, hr, ht⟩
set_option maxHeartbeats 1000000 in
theorem xcount_form (g : Nat) (s : List UInt8) (most : Int) (W : World) (h : RAt XR g s 0 W) (hs : 8 ≤ s.length) (hm : most < 0 ∨ most < (MM.val (s.take 8) : Int)) (hm2 : most ≤ 9223372036854775807) :
    Calls Try.prog 39 #[.pointer (some ⟨g, 0, none⟩), .int .i64 most] W fun e' w' => e' = .returned (.tuple #[.int .i64 0, .int .i64 4]) ∧ RAt XR g [] 4 w' ∧ Turn g W w' := by
  have H : Calls Try.prog 67 #[.pointer (some ⟨g, 0, none⟩), .int .i64 8] W fun e' w' => e' = .returned (.tuple #[.int .u64 ((MM.val (s.take 8) : Nat) : Int), .int .i64 0]) ∧ RAt XR g (s.drop 8) 0 w' ∧ Turn g W w' := xoff_good g s 8 W h hs (by omega)
  generalize MM.val (s.take 8) = v at *
  by_cases h0 : most < 0
  · go_enter Try.func39, Try.ntmps39
    go_wp2_with (first
      | (go_at_call 67; (with_reducible refine H.mono ?_); rintro e w1 ⟨rfl, hr, ht⟩; have HR := Lib.hid hr; have HT := Lib.hid ht; clear hr ht)
      | (go_at_call 68; (with_reducible refine (xwrong_any g _ 0 4 _ HR.out).mono ?_); rintro e w2 ⟨rfl, hr2, ht2⟩; have HR2 := Lib.hid hr2; have HT2 := Lib.hid (HT.out.trans ht2); clear hr2 ht2))
    go_ret2
    exact ⟨rfl, HR2.out, HT2.out⟩
  · have hw : IntKind.u64.wrap most = most := by simp [IntKind.wrap, IntKind.bits, IntKind.signed]; omega
    have hlt : most < (v : Int) := hm.resolve_left h0
    have hlt2 : decide (most < (v : Int)) = true := decide_eq_true hlt
    clear hm
    go_enter Try.func39, Try.ntmps39
    go_wp2_with (first
      | (go_at_call 67; (with_reducible refine H.mono ?_); rintro e w1 ⟨rfl, hr, ht⟩; have HR := Lib.hid hr; have HT := Lib.hid ht; clear hr ht)
      | (go_at_call 68; (with_reducible refine (xwrong_any g _ 0 4 _ HR.out).mono ?_); rintro e w2 ⟨rfl, hr2, ht2⟩; have HR2 := Lib.hid hr2; have HT2 := Lib.hid (HT.out.trans ht2); clear hr2 ht2))
    go_ret2
    exact ⟨rfl, HR2.out, HT2.out⟩
set_option maxHeartbeats 1000000 in
theorem xcount_good (g : Nat) (s : List UInt8) (most : Int) (W : World) (h : RAt XR g s 0 W) (hs : 8 ≤ s.length) (hm : ¬ (most < 0 ∨ most < (MM.val (s.take 8) : Int))) (hm2 : most ≤ 9223372036854775807) :
    Calls Try.prog 39 #[.pointer (some ⟨g, 0, none⟩), .int .i64 most] W fun e' w' => e' = .returned (.tuple #[.int .i64 ((MM.val (s.take 8) : Nat) : Int), .int .i64 0]) ∧ RAt XR g (s.drop 8) 0 w' ∧ Turn g W w' := by
  have H : Calls Try.prog 67 #[.pointer (some ⟨g, 0, none⟩), .int .i64 8] W fun e' w' => e' = .returned (.tuple #[.int .u64 ((MM.val (s.take 8) : Nat) : Int), .int .i64 0]) ∧ RAt XR g (s.drop 8) 0 w' ∧ Turn g W w' := xoff_good g s 8 W h hs (by omega)
  generalize MM.val (s.take 8) = v at *
  have h0 : ¬ most < 0 := fun h => hm (.inl h)
  have hlt : ¬ most < (v : Int) := fun h => hm (.inr h)
  have hlt2 : decide (most < (v : Int)) = false := decide_eq_false hlt
  have hw : IntKind.u64.wrap most = most := by simp [IntKind.wrap, IntKind.bits, IntKind.signed]; omega
  have hv : IntKind.i64.wrap (v : Int) = (v : Int) := by simp [IntKind.wrap, IntKind.bits, IntKind.signed]; omega
  clear hm
  go_enter Try.func39, Try.ntmps39
  go_wp2_with (go_at_call 67; (with_reducible refine H.mono ?_); rintro e w1 ⟨rfl, hr, ht⟩; have HR := Lib.hid hr; have HT := Lib.hid ht; clear hr ht)
  go_ret2
  exact ⟨rfl, HR.out, HT.out⟩
theorem xcount_ask (g : Nat) (s : List UInt8) (e most : Int) (hm2 : most ≤ 9223372036854775807) (W : World) (h : RAt XR g s e W) :
    Calls Try.prog 39 #[.pointer (some ⟨g, 0, none⟩), .int .i64 most] W fun e' w' => e' = .returned (.tuple #[.int .i64 (((MM.rCount most s e).1 : Nat) : Int), .int .i64 (MM.rCount most s e).2.1]) ∧ RAt XR g (MM.rCount most s e).2.2 (MM.rCount most s e).2.1 w' ∧ Turn g W w' := by
  by_cases hb : e ≠ 0 ∨ s.length < 8
  · obtain ⟨k, t, hk, hr, H⟩ := off_case g s e W 8 h (by omega) hb
    have hr2 : MM.rCount most s e = (0, k, t) := by
      by_cases he : e = 0
      · subst he
        have hs : s.length < 8 := hb.resolve_left (by simp)
        rw [MM.rOff_short hs] at hr
        rw [MM.rCount_short hs]; exact hr
      · rw [MM.rOff_old he] at hr
        rw [MM.rCount_old he]; exact hr
    rw [hr2]
    exact xcount_off g most W k t hk H
  · obtain rfl : e = 0 := Classical.byContradiction fun he => hb (.inl he)
    have hs : 8 ≤ s.length := Nat.le_of_not_lt fun h => hb (.inr h)
    by_cases hm : most < 0 ∨ most < (MM.val (s.take 8) : Int)
    · rw [MM.rCount_form hs hm]; exact xcount_form g s most W h hs hm hm2
    · rw [MM.rCount_good hs hm]; exact xcount_good g s most W h hs hm hm2
set_option maxHeartbeats 1000000 in
theorem xtext_off (g : Nat) (W : World) (k : Int) (t : List UInt8) (hk : k ≠ 0)
    (H : Calls Try.prog 67 #[.pointer (some ⟨g, 0, none⟩), .int .i64 2] W fun e' w' => e' = .returned (.tuple #[.int .u64 0, .int .i64 k]) ∧ RAt XR g t k w' ∧ Turn g W w') :
    Calls Try.prog 36 #[.pointer (some ⟨g, 0, none⟩)] W fun e' w' => e' = .returned (.tuple #[.string ⟨#[]⟩, .int .i64 k]) ∧ RAt XR g t k w' ∧ Turn g W w' := by
  go_enter Try.func36, Try.ntmps36
  go_wp2_with (go_at_call 67; (with_reducible refine H.mono ?_); rintro e w' ⟨rfl, hr, ht⟩)
  go_ret2
  exact ⟨rfl, hr, ht⟩
set_option maxHeartbeats 1000000 in
theorem xtext_large (g : Nat) (s : List UInt8) (W : World) (h : RAt XR g s 0 W) (hs : 2 ≤ s.length) (hm : 2048 < MM.val (s.take 2)) :
    Calls Try.prog 36 #[.pointer (some ⟨g, 0, none⟩)] W fun e' w' => e' = .returned (.tuple #[.string ⟨#[]⟩, .int .i64 40]) ∧ RAt XR g [] 40 w' ∧ Turn g W w' := by
  have H : Calls Try.prog 67 #[.pointer (some ⟨g, 0, none⟩), .int .i64 2] W fun e' w' => e' = .returned (.tuple #[.int .u64 ((MM.val (s.take 2) : Nat) : Int), .int .i64 0]) ∧ RAt XR g (s.drop 2) 0 w' ∧ Turn g W w' := xoff_good g s 2 W h hs (by omega)
  generalize MM.val (s.take 2) = v at *
  have hl : (2048 : Int) < (v : Int) := by omega
  go_enter Try.func36, Try.ntmps36
  go_wp2_with (first
    | (go_at_call 67; (with_reducible refine H.mono ?_); rintro e w1 ⟨rfl, hr, ht⟩; have HR := Lib.hid hr; have HT := Lib.hid ht; clear hr ht)
    | (go_at_call 68; (with_reducible refine (xwrong_any g _ 0 40 _ HR.out).mono ?_); rintro e w2 ⟨rfl, hr2, ht2⟩; have HR2 := Lib.hid hr2; have HT2 := Lib.hid (HT.out.trans ht2); clear hr2 ht2))
  go_ret2
  exact ⟨rfl, HR2.out, HT2.out⟩
set_option maxHeartbeats 1000000 in
theorem xtext_less (g : Nat) (s : List UInt8) (W : World) (h : RAt XR g s 0 W) (hs : 2 ≤ s.length) (hm : MM.val (s.take 2) ≤ 2048) (hlt : s.length - 2 < MM.val (s.take 2)) :
    Calls Try.prog 36 #[.pointer (some ⟨g, 0, none⟩)] W fun e' w' => e' = .returned (.tuple #[.string ⟨#[]⟩, .int .i64 8]) ∧ RAt XR g [] 8 w' ∧ Turn g W w' := by
  have H : Calls Try.prog 67 #[.pointer (some ⟨g, 0, none⟩), .int .i64 2] W fun e' w' => e' = .returned (.tuple #[.int .u64 ((MM.val (s.take 2) : Nat) : Int), .int .i64 0]) ∧ RAt XR g (s.drop 2) 0 w' ∧ Turn g W w' := xoff_good g s 2 W h hs (by omega)
  generalize MM.val (s.take 2) = v at *
  have hrl : (s.drop 2).length < v := by simpa using hlt
  generalize s.drop 2 = t at *
  clear hlt
  have hl : ¬ (2048 : Int) < (v : Int) := by omega
  have hv : IntKind.i64.wrap (v : Int) = (v : Int) := by simp [IntKind.wrap, IntKind.bits, IntKind.signed]; omega
  have hrl2 : (t.length : Int) < (v : Int) := by omega
  go_enter Try.func36, Try.ntmps36
  go_wp2_with (first
    | (go_at_call 67; (with_reducible refine H.mono ?_); rintro e w1 ⟨rfl, hr, ht⟩; have hc1 := hr.rest; have HR := Lib.hid hr; have HT := Lib.hid ht; clear hr ht)
    | (go_at_call 68; (with_reducible refine (xwrong_any g _ 0 8 _ HR.out).mono ?_); rintro e w2 ⟨rfl, hr2, ht2⟩; have HR2 := Lib.hid hr2; have HT2 := Lib.hid (HT.out.trans ht2); clear hr2 ht2))
  go_ret2
  exact ⟨rfl, HR2.out, HT2.out⟩
set_option maxHeartbeats 1000000 in
theorem xtext_good (g : Nat) (s : List UInt8) (W : World) (h : RAt XR g s 0 W) (hs : 2 ≤ s.length) (hm : MM.val (s.take 2) ≤ 2048) (hlt : MM.val (s.take 2) ≤ s.length - 2) :
    Calls Try.prog 36 #[.pointer (some ⟨g, 0, none⟩)] W fun e' w' => e' = .returned (.tuple #[.string ⟨((s.drop 2).take (MM.val (s.take 2))).toArray⟩, .int .i64 0]) ∧ RAt XR g ((s.drop 2).drop (MM.val (s.take 2))) 0 w' ∧ Turn g W w' := by
  have H : Calls Try.prog 67 #[.pointer (some ⟨g, 0, none⟩), .int .i64 2] W fun e' w' => e' = .returned (.tuple #[.int .u64 ((MM.val (s.take 2) : Nat) : Int), .int .i64 0]) ∧ RAt XR g (s.drop 2) 0 w' ∧ Turn g W w' := xoff_good g s 2 W h hs (by omega)
  generalize MM.val (s.take 2) = v at *
  have hrl : v ≤ (s.drop 2).length := by simpa using hlt
  generalize s.drop 2 = t at *
  clear hlt
  have hl : ¬ (2048 : Int) < (v : Int) := by omega
  have hv : IntKind.i64.wrap (v : Int) = (v : Int) := by simp [IntKind.wrap, IntKind.bits, IntKind.signed]; omega
  have hrl2 : ¬ (t.length : Int) < (v : Int) := by omega
  have hx1 : (⟨t.toArray⟩ : ByteArray).extract 0 v = ⟨(t.take v).toArray⟩ := by rw [ByteArray.extract_mk]; simp
  have hx2 : (⟨t.toArray⟩ : ByteArray).extract v t.length = ⟨(t.drop v).toArray⟩ := by rw [ByteArray.extract_mk, List.take_of_length_le (by simp)]
  go_enter Try.func36, Try.ntmps36
  go_wp2_with (go_at_call 67; (with_reducible refine H.mono ?_); rintro e w1 ⟨rfl, hr, ht⟩; have hc1 := hr.rest; have hf1 := hr.free 0; have HR := Lib.hid hr; have HT := Lib.hid ht; clear hr ht)
  go_ret2
  exact ⟨rfl, HR.out.put0 _, HT.out.set 0 _⟩
theorem xtext_ask (g : Nat) (s : List UInt8) (e : Int) (W : World) (h : RAt XR g s e W) :
    Calls Try.prog 36 #[.pointer (some ⟨g, 0, none⟩)] W fun e' w' => e' = .returned (.tuple #[.string ⟨(MM.rText s e).1.toArray⟩, .int .i64 (MM.rText s e).2.1]) ∧ RAt XR g (MM.rText s e).2.2 (MM.rText s e).2.1 w' ∧ Turn g W w' := by
  by_cases hb : e ≠ 0 ∨ s.length < 2
  · obtain ⟨k, t, hk, hr, H⟩ := off_case g s e W 2 h (by omega) hb
    have hr2 : MM.rText s e = ([], k, t) := by
      by_cases he : e = 0
      · subst he
        have hs : s.length < 2 := hb.resolve_left (by simp)
        rw [MM.rOff_short hs] at hr
        rw [MM.rText_short hs]; cases hr; rfl
      · rw [MM.rOff_old he] at hr
        rw [MM.rText_old he]; cases hr; rfl
    rw [hr2]
    exact xtext_off g W k t hk H
  · obtain rfl : e = 0 := Classical.byContradiction fun he => hb (.inl he)
    have hs : 2 ≤ s.length := Nat.le_of_not_lt fun h => hb (.inr h)
    by_cases hm : 2048 < MM.val (s.take 2)
    · rw [MM.rText_large hs hm]; exact xtext_large g s W h hs hm
    have hm := Nat.le_of_not_lt hm
    by_cases hl : s.length - 2 < MM.val (s.take 2)
    · rw [MM.rText_less hs hm hl]; exact xtext_less g s W h hs hm hl
    · rw [MM.rText_good hs hm (Nat.le_of_not_lt hl)]; exact xtext_good g s W h hs hm (Nat.le_of_not_lt hl)
theorem xend_none (g : Nat) (e : Int) (W : World) (h : RAt XR g [] e W) : Calls Try.prog 40 #[.pointer (some ⟨g, 0, none⟩)] W fun e' w' => e' = .returned (.int .i64 e) ∧ w' = W := by
  have h0 := h.rest
  have h1 := h.wrong
  by_cases he : e = 0
  · subst he
    go_enter Try.func40, Try.ntmps40
    go_wp2_with fail
    go_ret
    exact ⟨rfl, rfl⟩
  · go_enter Try.func40, Try.ntmps40
    go_wp2_with fail
    go_ret
    exact ⟨rfl, rfl⟩
theorem xend_some (g : Nat) (s : List UInt8) (W : World) (h : RAt XR g s 0 W) (hs : s ≠ []) : Calls Try.prog 40 #[.pointer (some ⟨g, 0, none⟩)] W fun e' w' => e' = .returned (.int .i64 10) ∧ RAt XR g [] 10 w' ∧ Turn g W w' := by
  have h0 := h.rest
  have h1 := h.wrong
  have H := xwrong_any g s 0 10 W h
  have hne : s.isEmpty = false := by cases s <;> simp_all
  go_enter Try.func40, Try.ntmps40
  go_wp2_with (go_at_call 68; (with_reducible refine H.mono ?_); rintro e w2 ⟨rfl, hr2, ht2⟩)
  go_ret
  exact ⟨rfl, hr2, ht2⟩
end M
end Go.Proofs.Ytaijnejbffnfpaa
/- The walk of the document's own reader's list; whether two rows of numbers are alike. -/
namespace Go.Proofs.Ytaijnejbffnfpaa
open Go Go.RowKit Go.Lib
namespace M
theorem owns_rd {w : World} {B k : Nat} {v : Value} {z : Nat → Nat} (h : w.ownsRow B 26 1 v k (zlist k z)) : ∃ ao c, v = .slice ao k c ∧ k ≤ c ∧ c ≤ maxLen ∧ Rd w ao k z := by
  obtain ⟨_, ⟨rfl, rfl⟩ | ⟨g, cap, cur, h1, h2, h3, h4, h5, _, h7⟩⟩ := h
  · exact ⟨none, 0, rfl, Nat.le_refl _, Nat.zero_le _, fun hn => absurd hn (by omega)⟩
  · refine ⟨_, cap, h1, h4, h5, fun _ => ⟨_, rfl, Row.of_block h3 fun j hj => ?_⟩⟩
    have e1 : (cur.toList.take (k * 1))[j]? = (zlist k z)[j]? := by rw [h7]
    rw [zlist_get hj, List.getElem?_take_of_lt (by omega)] at e1
    simpa using e1
/-- What the loop of a list carries along. -/
structure InX (w0 : World) (g : Nat) (t : List UInt8) (k : Nat) (v : Value) (w : World) : Prop where
  rd : RAt XR g (t.drop (8 * k)) 0 w
  turn : Turn g w0 w
  own : w.ownsRow w0.heap.size 26 1 v k (zlist k (MM.num8 t))
  old : g < w0.heap.size
section
variable {w0 w w' : World} {g k : Nat} {t : List UInt8} {v : Value}
theorem InX.apart (h : InX w0 g t k v w) : v.ownBlock ≠ some g := fun e => by have := (h.own.lt g e).1; have := h.old; omega
theorem InX.turned (h : InX w0 g t k v w) (ht : Turn g w w') : Turn g w0 w' ∧ w'.ownsRow w0.heap.size 26 1 v k (zlist k (MM.num8 t)) :=
  ⟨h.turn.trans ht, h.own.kept (row := some g) ⟨ht.os, ht.tape, ht.output, ht.size, fun k hk hne => ht.block k hk (fun e => hne (by simp [e]))⟩ (Or.inr h.apart)⟩
theorem InX.good (h : InX w0 g t k v w) (hk : 8 * (k + 1) ≤ t.length) :
    Calls Try.prog 67 #[.pointer (some ⟨g, 0, none⟩), .int .i64 8] w fun e' w' => e' = .returned (.tuple #[.int .u64 ((MM.num8 t k : Nat) : Int), .int .i64 0]) ∧ RAt XR g (t.drop (8 * (k + 1))) 0 w' ∧ Turn g w w' := by
  have h1 := xoff_good g (t.drop (8 * k)) 8 w h.rd (by simp; omega) (by omega)
  rw [List.drop_drop, show 8 * k + 8 = 8 * (k + 1) by omega] at h1
  exact h1
theorem InX.bad (h : InX w0 g t k v w) (hk : t.length < 8 * (k + 1)) :
    Calls Try.prog 67 #[.pointer (some ⟨g, 0, none⟩), .int .i64 8] w fun e' w' => e' = .returned (.tuple #[.int .u64 0, .int .i64 8]) ∧ RAt XR g [] 8 w' ∧ Turn g w w' :=
  xoff_short g (t.drop (8 * k)) 8 w h.rd (by simp; omega)
end
/-- A list as the document's reader hands it out: numbers that a slice reads. -/
def ListX (n : Nat) (z : Nat → Nat) (v : Value) (w' : World) : Prop := ∃ ao c, v = .slice ao n c ∧ Rd w' ao n z
theorem ListX.none (w : World) (z : Nat → Nat) : ListX 0 z (.slice none 0 0) w := ⟨.none, 0, rfl, fun h => absurd h (by omega)⟩
set_option maxHeartbeats 1000000 in
theorem xlist_off (g : Nat) (W : World) (k : Int) (t : List UInt8) (hk : k ≠ 0)
    (H : Calls Try.prog 67 #[.pointer (some ⟨g, 0, none⟩), .int .i64 2] W fun e' w' => e' = .returned (.tuple #[.int .u64 0, .int .i64 k]) ∧ RAt XR g t k w' ∧ Turn g W w') :
    Calls Try.prog 37 #[.pointer (some ⟨g, 0, none⟩)] W fun e' w' => e' = .returned (.tuple #[.slice none 0 0, .int .i64 k]) ∧ RAt XR g t k w' ∧ Turn g W w' := by
  go_enter Try.func37, Try.ntmps37
  go_wp2_with (go_at_call 67; (with_reducible refine H.mono ?_); rintro e w' ⟨rfl, hr, ht⟩)
  go_ret2
  exact ⟨rfl, hr, ht⟩
set_option maxHeartbeats 1000000 in
theorem xlist_large (g : Nat) (s : List UInt8) (W : World) (h : RAt XR g s 0 W) (hs : 2 ≤ s.length) (hm : 1024 < MM.val (s.take 2)) :
    Calls Try.prog 37 #[.pointer (some ⟨g, 0, none⟩)] W fun e' w' => e' = .returned (.tuple #[.slice none 0 0, .int .i64 40]) ∧ RAt XR g [] 40 w' ∧ Turn g W w' := by
  have H : Calls Try.prog 67 #[.pointer (some ⟨g, 0, none⟩), .int .i64 2] W fun e' w' => e' = .returned (.tuple #[.int .u64 ((MM.val (s.take 2) : Nat) : Int), .int .i64 0]) ∧ RAt XR g (s.drop 2) 0 w' ∧ Turn g W w' := xoff_good g s 2 W h hs (by omega)
  generalize MM.val (s.take 2) = v at *
  have hl : (1024 : Int) < (v : Int) := by omega
  go_enter Try.func37, Try.ntmps37
  go_wp2_with (first
    | (go_at_call 67; (with_reducible refine H.mono ?_); rintro e w1 ⟨rfl, hr, ht⟩; have HR := Lib.hid hr; have HT := Lib.hid ht; clear hr ht)
    | (go_at_call 68; (with_reducible refine (xwrong_any g _ 0 40 _ HR.out).mono ?_); rintro e w2 ⟨rfl, hr2, ht2⟩; have HR2 := Lib.hid hr2; have HT2 := Lib.hid (HT.out.trans ht2); clear hr2 ht2))
  go_ret2
  exact ⟨rfl, HR2.out, HT2.out⟩
/-- What the list's loop comes to. A plain definition: the walk does not look into it. -/
def XPost (W : World) (g n : Nat) (t : List UInt8) (e' : Ending) (w' : World) : Prop :=
  ((t.length < 8 * n ∧ e' = .returned (.tuple #[.slice none 0 0, .int .i64 8]) ∧ RAt XR g [] 8 w') ∨
    (8 * n ≤ t.length ∧ ∃ v, e' = .returned (.tuple #[v, .int .i64 0]) ∧ ListX n (MM.num8 t) v w' ∧ RAt XR g (t.drop (8 * n)) 0 w')) ∧ Turn g W w'
theorem InX.grow {w0 w w' : World} {g k : Nat} {t : List UInt8} {v v' : Value} (hr : RAt XR g (t.drop (8 * (k + 1))) 0 w) (h : Turn g w0 w) (ho : w.ownsRow w0.heap.size 26 1 v k (zlist k (MM.num8 t))) (hold : g < w0.heap.size)
    (hown : w'.ownsRow w0.heap.size 26 1 v' (k + 1) (zlist (k + 1) (MM.num8 t))) (hg : w.grownBy w' v.ownBlock) : InX w0 g t (k + 1) v' w' :=
  ⟨(hg.block g hr.lt (fun e => by have := (ho.lt g e.symm).1; omega)).trans hr,
   ⟨hg.os.trans h.os, hg.tape.trans h.tape, hg.output.trans h.output, Nat.le_trans h.size hg.size, fun j hj hne => (hg.block j (Nat.lt_of_lt_of_le hj h.size) (fun e => by have := (ho.lt j e.symm).1; omega)).trans (h.block j hj hne)⟩, hown, hold⟩
set_option maxRecDepth 100000 in
set_option maxHeartbeats 2000000 in
theorem xlist_loop (g : Nat) (s : List UInt8) (W : World) (h : RAt XR g s 0 W) (hs : 2 ≤ s.length) (hm : MM.val (s.take 2) ≤ 1024) :
    Calls Try.prog 37 #[.pointer (some ⟨g, 0, none⟩)] W (XPost W g (MM.val (s.take 2)) (s.drop 2)) := by
  obtain ⟨i0, hi, hz0, hz1, hz2⟩ := info_parts info_u64
  have H : Calls Try.prog 67 #[.pointer (some ⟨g, 0, none⟩), .int .i64 2] W fun e' w' => e' = .returned (.tuple #[.int .u64 ((MM.val (s.take 2) : Nat) : Int), .int .i64 0]) ∧ RAt XR g (s.drop 2) 0 w' ∧ Turn g W w' := xoff_good g s 2 W h hs (by omega)
  have hgl := Lib.hid h.lt
  generalize MM.val (s.take 2) = n at *
  generalize s.drop 2 = t at *
  have hl : ¬ (1024 : Int) < (n : Int) := by omega
  have hv : IntKind.i64.wrap (n : Int) = (n : Int) := by simp [IntKind.wrap, IntKind.bits, IntKind.signed]; omega
  clear h hs
  go_enter Try.func37, Try.ntmps37
  go_wp2_with (go_at_call 67; (with_reducible refine H.mono ?_); rintro e w1 ⟨rfl, hr, ht⟩; have HI : Hid (InX W g t 0 (.slice none 0 0) w1) := Lib.hid ⟨hr, ht, ⟨by simp [zlist], .inl ⟨rfl, rfl⟩⟩, hgl.out⟩; clear hr ht)
  go_loopw [6, 7] (fun s6 s7 wx => ∃ (k : Nat) (ao : Option Addr) (c : Nat), k ≤ n ∧ 8 * k ≤ t.length ∧ s7 = .int .i64 (k : Int) ∧ s6 = .slice ao k c ∧ InX W g t k (.slice ao k c) wx) (fun _ s7 _ => n - (RowKit.intOf s7).toNat)
  case atStart => exact ⟨0, none, 0, Nat.zero_le _, Nat.zero_le _, rfl, rfl, HI.out⟩
  case round =>
    obtain ⟨k, ao, c, hk, hkt, rfl, rfl, hM⟩ := hrel
    have HK := Lib.hid hM
    clear hM
    by_cases hlt : k < n
    · by_cases hr8 : 8 * (k + 1) ≤ t.length
      · have Hk := HK.out.good hr8
        have HZ : Hid (zlist k (MM.num8 t) ++ [.int .u64 ((MM.num8 t k : Nat) : Int)] = zlist (k + 1) (MM.num8 t)) := Lib.hid (zlist_succ k _)
        generalize MM.num8 t k = x at *
        go_wp2_with (first
          | (go_at_call 67; (with_reducible refine Hk.mono ?_); rintro e w5 ⟨rfl, hr5, ht5⟩; have HR5 := Lib.hid hr5; have HT5 := Lib.hid (HK.out.turned ht5); clear hr5 ht5)
          | (at_builtin; refine wpList_append_own _ rfl _ _ 35 rfl W.heap.size 26 i0 (.int .u64 0) 1 8 Try.underlying35 hi hz0 hz1 hz2 rfl (by decide) (.slice ao k c) k (zlist k (MM.num8 t)) rfl (HT5.out.2.alloc _) ⟨w5.heap.size, 0, none⟩ 1 1 [.int .u64 (x : Int)] rfl rfl (World.news_of_block (cs := #[.int .u64 (x : Int)]) (t := 26) (fr := (0, 0)) (heap_alloc_new _ _)) (by simp [Value.oneCell']) (by unfold maxLen; omega) (by omega) (by have := HT5.out.1.size; simp; omega) ?_; intro v2 w6 hown2 hgr2 hnil2; have HN : Hid (InX W g t (k + 1) v2 w6) := Lib.hid (InX.grow (HR5.out.step (below_box _ _)) (HT5.out.1.trans (Turn.of (below_box _ _))) (HT5.out.2.alloc _) hgl.out (HZ.out ▸ hown2) hgr2); clear hown2 hgr2 hnil2))
        obtain ⟨ao2, c2, hv2, _⟩ := owns_rd HN.out.own
        subst hv2
        go_roundw
        case rel => exact ⟨k + 1, ao2, c2, by omega, by omega, by go_num, rfl, HN.out⟩
        case measure => simp [RowKit.intOf]; omega
      · have Hk := HK.out.bad (Nat.lt_of_not_le hr8)
        have HT := HK.out.turn
        go_wp2_with (go_at_call 67; (with_reducible refine Hk.mono ?_); rintro e w5 ⟨rfl, hr5, ht5⟩)
        go_ret2
        exact ⟨.inl ⟨by omega, rfl, hr5⟩, HT.trans ht5⟩
    · obtain rfl : k = n := by omega
      obtain ⟨ao3, c3, hv3, _, _, hrd⟩ := owns_rd HK.out.own
      cases hv3
      go_wp2_with fail
      go_ret2
      exact ⟨.inr ⟨hkt, _, rfl, ⟨ao, c, rfl, hrd⟩, HK.out.rd⟩, HK.out.turn⟩
theorem xlist_ask (g : Nat) (s : List UInt8) (e : Int) (W : World) (h : RAt XR g s e W) :
    Calls Try.prog 37 #[.pointer (some ⟨g, 0, none⟩)] W fun e' w' => ∃ v, e' = .returned (.tuple #[v, .int .i64 (MM.rList s e).1]) ∧ ListX (MM.rList s e).2.1 (MM.rList s e).2.2.1 v w' ∧ RAt XR g (MM.rList s e).2.2.2 (MM.rList s e).1 w' ∧ Turn g W w' := by
  by_cases hb : e ≠ 0 ∨ s.length < 2
  · obtain ⟨k, t, hk, hr, H⟩ := off_case g s e W 2 h (by omega) hb
    have hr2 : MM.rList s e = (k, 0, fun _ => 0, t) := by
      by_cases he : e = 0
      · subst he
        have hs : s.length < 2 := hb.resolve_left (by simp)
        rw [MM.rOff_short hs] at hr
        rw [MM.rList_short hs]; cases hr; rfl
      · rw [MM.rOff_old he] at hr
        rw [MM.rList_old he]; cases hr; rfl
    rw [hr2]
    exact (xlist_off g W k t hk H).mono fun _ w' ⟨a, b, c⟩ => ⟨_, a, ListX.none w' _, b, c⟩
  · obtain rfl : e = 0 := Classical.byContradiction fun he => hb (.inl he)
    have hs : 2 ≤ s.length := Nat.le_of_not_lt fun h => hb (.inr h)
    by_cases hm : 1024 < MM.val (s.take 2)
    · rw [MM.rList_large hs hm]
      exact (xlist_large g s W h hs hm).mono fun _ w' ⟨a, b, c⟩ => ⟨_, a, ListX.none w' _, b, c⟩
    have hm := Nat.le_of_not_lt hm
    refine (xlist_loop g s W h hs hm).mono ?_
    rintro e' w' ⟨⟨hl, he, hr⟩ | ⟨hl, v, he, hv, hr⟩, ht⟩
    · rw [List.length_drop] at hl
      rw [MM.rList_less hs hm hl]
      exact ⟨_, he, ListX.none w' _, hr, ht⟩
    · rw [List.length_drop] at hl
      rw [MM.rList_good hs hm hl]
      exact ⟨v, he, hv, hr, ht⟩
set_option maxHeartbeats 1000000 in
theorem numbers_yes (ao bo : Option Addr) (n ca cb : Nat) (z : Nat → Nat) (hn : n ≤ 1000000) (W : World) (ha : Rd W ao n z) (hb : Rd W bo n z) :
    Calls Try.prog 38 #[.slice ao n ca, .slice bo n cb] W fun e w' => e = .returned (.bool true) ∧ ∃ m, w' = W.drewN m := by
  have HA := Lib.hid ha
  have HB := Lib.hid hb
  clear ha hb
  go_enter Try.func38, Try.ntmps38
  go_wp2_with fail
  go_loopw [5] (fun s5 wx => ∃ k m : Nat, k ≤ n ∧ s5 = .int .i64 (k : Int) ∧ wx = W.drewN m) (fun s5 _ => n - (RowKit.intOf s5).toNat)
  case atStart => exact ⟨0, 0, Nat.zero_le _, rfl, rfl⟩
  case round =>
    obtain ⟨k, m, hk, rfl, rfl⟩ := hrel
    by_cases hlt : k < n
    · obtain ⟨ad, had, hca⟩ := HA.out.at_ hlt
      obtain ⟨bd, hbd, hcb⟩ := HB.out.at_ hlt
      subst had hbd
      go_wp2_with fail
      go_quiet (fail)
      go_wp2_with fail
      go_roundw
      case rel => exact ⟨k + 1, _, by omega, by go_num, rfl⟩
      case measure => simp [RowKit.intOf]; omega
    · obtain rfl : k = n := by omega
      go_wp2_with fail
      go_ret
      exact ⟨rfl, m, rfl⟩
end M
end Go.Proofs.Ytaijnejbffnfpaa
/- A row of bytes that a call itself makes whole, and writes cell by cell; as a text. -/
namespace Go.Proofs.Ytaijnejbffnfpaa
open Go Go.RowKit Go.Lib
namespace M
/-- Block B holds the n bytes z, one a cell, none frozen; it lies behind all that was there at w0; nothing of that has changed. -/
structure MineB (w0 : World) (B n : Nat) (z : Nat → UInt8) (w : World) : Prop where
  block : ∃ cs : Array Value, w.heap[B]? = some (.cells cs 5 (0, 0)) ∧ cs.size = n ∧ ∀ k, k < n → cs[k]? = some (.int .u8 ((z k).toNat : Int))
  low : w0.heap.size ≤ B
  below : Below w0.heap.size w0 w
section
variable {w0 w w' : World} {B n : Nat} {z y : Nat → UInt8}
theorem MineB.lt (h : MineB w0 B n z w) : B < w.heap.size := by obtain ⟨cs, h1, _⟩ := h.block; exact row_lt h1
theorem MineB.drewN (h : MineB w0 B n z w) (m : Nat) : MineB w0 B n z (w.drewN m) := ⟨h.block, h.low, Below.drawn h.below m⟩
theorem MineB.congr (h : MineB w0 B n z w) (hz : ∀ k, k < n → z k = y k) : MineB w0 B n y w :=
  ⟨by obtain ⟨cs, h1, h2, h3⟩ := h.block; exact ⟨cs, h1, h2, fun k hk => by rw [h3 k hk, hz k hk]⟩, h.low, h.below⟩
theorem MineB.cell (h : MineB w0 B n z w) {k : Nat} (hk : k < n) : w.cell? ⟨B, k, none⟩ = some (.int .u8 ((z k).toNat : Int)) := by
  obtain ⟨cs, h1, _, h3⟩ := h.block
  rw [cell_of_row w B k _ _ _ h1, h3 k hk]
theorem MineB.free (h : MineB w0 B n z w) (k : Nat) : w.frozen? ⟨B, k, none⟩ = false := by
  obtain ⟨cs, h1, _⟩ := h.block
  simp [World.frozen?, h1]
/-- One cell is written. -/
theorem MineB.set (h : MineB w0 B n z w) (k : Nat) (x : UInt8) (u : Int) (hu : u = (x.toNat : Int)) (hy : ∀ j, j < n → y j = if j = k then x else z j) : MineB w0 B n y (w.setCell ⟨B, k, none⟩ (.int .u8 u)) := by
  subst hu
  refine ⟨?_, h.low, h.below.setCell (p := ⟨B, k, none⟩) h.low _⟩
  obtain ⟨cs, h1, h2, h3⟩ := h.block
  refine ⟨_, heap_setCell_same w B k cs _ _ h1, by simpa using h2, fun j hj => ?_⟩
  rw [hy j hj, Array.getElem?_setIfInBounds]
  by_cases e : k = j
  · subst e; rw [if_pos rfl, if_pos (by omega), if_pos rfl]
  · rw [if_neg e, if_neg (fun h => e h.symm), h3 j hj]
/-- The row as make leaves it. -/
theorem MineB.made (w0 : World) (n : Nat) : MineB w0 w0.heap.size n (fun _ => 0) (w0.alloc (.cells (madeCells #[.int .u8 0] n) 5)) := by
  refine ⟨⟨_, heap_alloc_new _ _, by rw [size_madeCells], fun k hk => ?_⟩, Nat.le_refl _, below_box _ _⟩
  simp [madeCells, hk, Nat.mod_one]
/-- As a text. -/
theorem push_all : ∀ (l : List UInt8) (r : List UInt8), (l.map fun b => (b.toNat : Int)).foldl (fun (r : ByteArray) n => r.push (UInt8.ofNat n.toNat)) ⟨r.toArray⟩ = ⟨(r ++ l).toArray⟩
  | [], r => by simp
  | b :: l, r => by
    simp only [List.map_cons, List.foldl_cons]
    have e : (⟨r.toArray⟩ : ByteArray).push (UInt8.ofNat (b.toNat : Int).toNat) = ⟨(r ++ [b]).toArray⟩ := by
      simp [ByteArray.push, UInt8.ofNat_toNat]
    rw [e, push_all l (r ++ [b]), List.append_assoc]
    rfl
theorem run_text (w : World) (a : Addr) (l : List UInt8) (cap : Nat) (h : ∀ j, j < l.length → w.cell? (a.add j) = some (.int .u8 ((l.getD j 0).toNat : Int))) :
    (convert 49 9 (.slice (some a) l.length cap)).run Try.prog w = .ok (.string ⟨l.toArray⟩) w := by
  rw [run_convert_bytes_string w _ _ _ _ _ _ Try.underlying49 Try.underlying5 Try.underlying9]
  rw [run_bytesToString w a l.length cap (l.map fun b => (b.toNat : Int))]
  · rw [show ByteArray.empty = ⟨([] : List UInt8).toArray⟩ from rfl, push_all]
    rfl
  · have hl := run_loadCells_list (P := Try.prog) (w := w) a ((l.map fun b => (b.toNat : Int)).map (Value.int .u8)) (fun j v hj => by
      have hlt : j < l.length := by have := (List.getElem?_eq_some_iff.1 hj).1; simpa using this
      rw [h j hlt, ← hj, List.getD_eq_getElem?_getD, List.getElem?_eq_getElem hlt]
      simp [hlt])
    simpa using hl
theorem MineB.text (h : MineB w0 B n z w) (l : List UInt8) (cap : Nat) (hl : l.length = n) (hz : ∀ k, k < n → z k = l.getD k 0) :
    (convert 49 9 (.slice (some ⟨B, 0, none⟩) n cap)).run Try.prog w = .ok (.string ⟨l.toArray⟩) w := by
  subst hl
  refine run_text w _ l cap fun j hj => ?_
  have e : (⟨B, 0, none⟩ : Addr).add j = ⟨B, j, none⟩ := by
    unfold Addr.add
    by_cases h0 : j = 0
    · subst h0; rfl
    · rw [if_neg h0]; simp
  rw [e, h.cell hj, hz j hj]
end
theorem info_u8 : (Try.prog.info? 5).map (fun i => (i.zero, i.size, i.bytes)) = some (some (.int .u8 0), 1, 1) := by kernel_rfl
theorem run_made8 (n : Nat) (hn : n ≤ 1000000000) (w : World) :
    (Instr.makeSlice 49 (.int .i64 (n : Int)) (.int .i64 (n : Int))).run Try.prog w = .ok (.slice (some ⟨w.heap.size, 0, none⟩) n n) (w.alloc (.cells (madeCells #[.int .u8 0] n) 5)) := by
  obtain ⟨i0, hi, hz0, hz1, hz2⟩ := info_parts info_u8
  have hr := run_make (P := Try.prog) w 49 5 i0 (.int .u8 0) Try.underlying49 hi hz0 .i64 .i64 n n (by omega) (by omega) (by rw [hz2]; omega) (by omega)
  simp only [Int.toNat_natCast, hz1, Nat.mul_one] at hr
  exact hr
end M
end Go.Proofs.Ytaijnejbffnfpaa

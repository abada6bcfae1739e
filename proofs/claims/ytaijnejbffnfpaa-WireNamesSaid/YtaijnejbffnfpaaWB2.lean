/- The texts WirTake, WirRec, QuietTail, one behind the other. -/
import Derived.Test.YtaijnejbffnfpaaWB1
import Derived.Laws.Bits64b
import Derived.WalkLawsBesides
import Derived.Defers
import Derived.Recover
import Derived.Tactics
import Derived.Tactics2
import Derived.Laws.Pointers
import Derived.StillTail
import Derived.Deep.QuietTactic
/- The walks of the reader's inner methods: fail, Wrong, Left, take, number, length, Open; what panics there. -/
namespace Go.Proofs.Ytaijnejbffnfpaa
open Go Go.RowKit Go.Lib
namespace M
/-- An error that panics. -/
abbrev ErrP (k : Int) : List PanicEntry := [{ v := .iface 23 (.int .i64 k), recovered := false }]
abbrev WR : TypeId := 85
set_option maxHeartbeats 1000000 in
theorem fail_any (g : Nat) (s : List UInt8) (e k : Int) (W : World) (h : RAt WR g s e W) :
    Calls Try.prog 61 #[.pointer (some ⟨g, 0, none⟩), .int .i64 k] W fun e w' => e = .returned (.tuple #[]) ∧ RAt WR g [] k w' ∧ Turn g W w' := by
  have h0 := h.rest
  have h1 := h.wrong
  have hf0 := h.free 0
  have hf1 := h.free 1
  go_enter Try.func61, Try.ntmps61
  go_wp2_with fail
  go_end0
  exact ⟨rfl, (h.put0 []).put1 k, ((Turn.refl g W).set 0 _).set 1 _⟩
theorem wrong_any (g : Nat) (s : List UInt8) (e : Int) (W : World) (h : RAt WR g s e W) :
    Calls Try.prog 18 #[.pointer (some ⟨g, 0, none⟩)] W fun e' w' => e' = .returned (.int .i64 e) ∧ w' = W := by
  have h1 := h.wrong
  go_enter Try.func18, Try.ntmps18
  go_wp2_with fail
  go_ret
  exact ⟨rfl, rfl⟩
theorem wrong_nil (W : World) :
    Calls Try.prog 18 #[.pointer none] W fun e' w' => e' = .returned (.int .i64 2) ∧ w' = W := by
  go_enter Try.func18, Try.ntmps18
  go_wp2_with fail
  go_ret
  exact ⟨rfl, rfl⟩
theorem left_any (g : Nat) (s : List UInt8) (e : Int) (W : World) (h : RAt WR g s e W) :
    Calls Try.prog 19 #[.pointer (some ⟨g, 0, none⟩)] W fun e' w' => e' = .returned (.int .i64 (s.length : Int)) ∧ w' = W := by
  have h1 := h.rest
  go_enter Try.func19, Try.ntmps19
  go_wp2_with fail
  go_ret
  exact ⟨rfl, rfl⟩
theorem left_nil (W : World) :
    Calls Try.prog 19 #[.pointer none] W fun e' w' => e' = .returned (.int .i64 0) ∧ w' = W := by
  go_enter Try.func19, Try.ntmps19
  go_wp2_with fail
  go_ret
  exact ⟨rfl, rfl⟩
set_option maxHeartbeats 1000000 in
theorem open_any (s : List UInt8) (hs : s.length ≤ 281474976710656) (W : World) :
    Calls Try.prog 20 #[.string ⟨s.toArray⟩] W fun e' w' => ∃ g, e' = .returned (.pointer (some ⟨g, 0, none⟩)) ∧ W.heap.size ≤ g ∧ RAt WR g s 0 w' ∧ Below W.heap.size W w' := by
  have H := clone_any s hs
  go_enter Try.func20, Try.ntmps20
  go_wp2_with (go_at_call 56; (with_reducible refine (H.at _).mono ?_); rintro e w' ⟨rfl, hb⟩)
  go_ret
  exact ⟨_, rfl, hb.size, RAt.new _ _ _, hb.trans ((below_box _ _).mono hb.size)⟩
set_option maxHeartbeats 1000000 in
theorem take_bad (g : Nat) (s : List UInt8) (e : Int) (n : Nat) (W : World) (h : RAt WR g s e W) (hn : s.length < n) :
    Calls Try.prog 57 #[.pointer (some ⟨g, 0, none⟩), .int .i64 (n : Int)] W fun e' w' => e' = .panicked (ErrP 8) ∧ RAt WR g s e w' ∧ Turn g W w' := by
  have h1 := h.rest
  have hl : (s.length : Int) < (n : Int) := by omega
  have HR := Lib.hid h
  clear h
  go_enter Try.func57, Try.ntmps57
  go_wp2_with fail
  exact ⟨rfl, rfl, HR.out, Turn.refl _ _⟩
set_option maxHeartbeats 1000000 in
theorem take_good (g : Nat) (s : List UInt8) (e : Int) (n : Nat) (W : World) (h : RAt WR g s e W) (hn : n ≤ s.length) :
    Calls Try.prog 57 #[.pointer (some ⟨g, 0, none⟩), .int .i64 (n : Int)] W fun e' w' => e' = .returned (.string ⟨(s.take n).toArray⟩) ∧ RAt WR g (s.drop n) e w' ∧ Turn g W w' := by
  have h1 := h.rest
  have hf := h.free 0
  have hl : ¬ (s.length : Int) < (n : Int) := by omega
  have hx1 : (⟨s.toArray⟩ : ByteArray).extract 0 n = ⟨(s.take n).toArray⟩ := by rw [ByteArray.extract_mk]; simp
  have hx2 : (⟨s.toArray⟩ : ByteArray).extract n s.length = ⟨(s.drop n).toArray⟩ := by rw [ByteArray.extract_mk, List.take_of_length_le (by simp)]
  have HR := Lib.hid h
  clear h
  go_enter Try.func57, Try.ntmps57
  go_wp2_with fail
  go_ret
  exact ⟨rfl, HR.out.put0 _, (Turn.refl g W).set 0 _⟩
set_option maxHeartbeats 1000000 in
theorem number_bad (g : Nat) (s : List UInt8) (e : Int) (n : Nat) (W : World) (h : RAt WR g s e W) (hn : s.length < n) :
    Calls Try.prog 47 #[.pointer (some ⟨g, 0, none⟩), .int .i64 (n : Int)] W fun e' w' => e' = .panicked (ErrP 8) ∧ RAt WR g s e w' ∧ Turn g W w' := by
  have H := take_bad g s e n W h hn
  go_enter Try.func47, Try.ntmps47
  go_wp2_with (go_at_call 57; (with_reducible refine H.mono ?_); rintro e w' ⟨rfl, hr, ht⟩)
  exact ⟨rfl, rfl, hr, ht⟩
theorem or_val (l : List UInt8) (k x : Nat) (hk : k < l.length) (hx : x = MM.val (l.take k)) (hx2 : x < 72057594037927936) {h : k < (ByteArray.mk l.toArray).size} :
    bits .or .u64 ((x : Int) * 256) (IntKind.u64.wrap (((ByteArray.mk l.toArray)[k]'h).toNat : Int)) = ((MM.val (l.take (k + 1)) : Nat) : Int) := by
  have hb := ((ByteArray.mk l.toArray)[k]'h).toNat_lt
  have hw : IntKind.u64.wrap (((ByteArray.mk l.toArray)[k]'h).toNat : Int) = (((ByteArray.mk l.toArray)[k]'h).toNat : Int) := by simp [IntKind.wrap, IntKind.bits, IntKind.signed]; omega
  have hm : (x : Int) * 256 = ((x * 256 : Nat) : Int) := by omega
  rw [hw, hm, bits_or_u64_nat _ _ (by omega) (by omega), MM.val_take l k hk, ← hx]
  have hg : (l.getD k 0).toNat = ((ByteArray.mk l.toArray)[k]'h).toNat := by
    rw [List.getD_eq_getElem?_getD, List.getElem?_eq_getElem hk]; rfl
  rw [hg]
  have := MM.shl_or x ((ByteArray.mk l.toArray)[k]'h).toNat hx2 (by omega)
  rw [Nat.mod_eq_of_lt (by omega)] at this
  rw [this]
set_option maxHeartbeats 1000000 in
theorem number_good (g : Nat) (s : List UInt8) (e : Int) (n : Nat) (W : World) (h : RAt WR g s e W) (hn : n ≤ s.length) (hn8 : n ≤ 8) :
    Calls Try.prog 47 #[.pointer (some ⟨g, 0, none⟩), .int .i64 (n : Int)] W fun e' w' => e' = .returned (.int .u64 ((MM.val (s.take n) : Nat) : Int)) ∧ RAt WR g (s.drop n) e w' ∧ Turn g W w' := by
  have H := take_good g s e n W h hn
  obtain ⟨l, hl⟩ : ∃ l, l = s.take n := ⟨_, rfl⟩
  have hln : l.length = n := by subst hl; simp; omega
  rw [← hl] at H ⊢
  have HN := Lib.hid hln
  clear hl hln
  go_enter Try.func47, Try.ntmps47
  go_wp2_with (go_at_call 57; (with_reducible refine H.mono ?_); rintro e w' ⟨rfl, hr, ht⟩; have HR := Lib.hid hr; have HT := Lib.hid ht; clear hr ht)
  go_loopw [6, 12] (fun s6 s12 wx => ∃ k x : Nat, k ≤ n ∧ s12 = .int .i64 (k : Int) ∧ s6 = .int .u64 (x : Int) ∧ Hid (x = MM.val (l.take k)) ∧ ∃ m, wx = w'.drewN m) (fun _ s12 _ => n - (RowKit.intOf s12).toNat)
  case atStart => exact ⟨0, 0, Nat.zero_le _, rfl, rfl, Lib.hid rfl, 0, rfl⟩
  case round =>
    obtain ⟨k, x, hk, rfl, rfl, hx, m, rfl⟩ := hrel
    by_cases hlt : k < n
    · have hx56 : x < 72057594037927936 := by
        rw [hx.out]
        refine Nat.lt_of_lt_of_le (MM.val_lt k _ (by rw [List.length_take, HN.out]; omega)) ?_
        exact Nat.le_trans (Nat.pow_le_pow_right (by omega) (by omega : k ≤ 7)) (by decide)
      have hkl : k < l.length := by rw [HN.out]; exact hlt
      go_wp2_with fail
      go_roundw
      case rel => exact ⟨k + 1, MM.val (l.take (k + 1)), by omega, by go_num, by rw [or_val l k x hkl hx.out hx56], Lib.hid rfl, m, rfl⟩
      case measure => simp [RowKit.intOf]; omega
    · obtain rfl : k = n := by omega
      have hx2 : x = MM.val l := by rw [hx.out, List.take_of_length_le (by rw [HN.out]; omega)]
      subst hx2
      go_wp2_with fail
      go_ret
      exact ⟨rfl, HR.out.drewN m, HT.out.drewN m⟩
theorem length_short (g : Nat) (s : List UInt8) (e : Int) (most : Nat) (W : World) (h : RAt WR g s e W) (hs : s.length < 2) :
    Calls Try.prog 58 #[.pointer (some ⟨g, 0, none⟩), .int .i64 (most : Int)] W fun e' w' => e' = .panicked (ErrP 8) ∧ RAt WR g s e w' ∧ Turn g W w' := by
  have H : Calls Try.prog 47 #[.pointer (some ⟨g, 0, none⟩), .int .i64 2] W fun e' w' => e' = .panicked (ErrP 8) ∧ RAt WR g s e w' ∧ Turn g W w' := number_bad g s e 2 W h hs
  go_enter Try.func58, Try.ntmps58
  go_wp2_with (go_at_call 47; (with_reducible refine H.mono ?_); rintro e w' ⟨rfl, hr, ht⟩)
  exact ⟨rfl, rfl, hr, ht⟩
theorem length_large (g : Nat) (s : List UInt8) (e : Int) (most : Nat) (W : World) (h : RAt WR g s e W) (hs : 2 ≤ s.length) (hm : most < MM.val (s.take 2)) :
    Calls Try.prog 58 #[.pointer (some ⟨g, 0, none⟩), .int .i64 (most : Int)] W fun e' w' => e' = .panicked (ErrP 40) ∧ RAt WR g (s.drop 2) e w' ∧ Turn g W w' := by
  have H : Calls Try.prog 47 #[.pointer (some ⟨g, 0, none⟩), .int .i64 2] W fun e' w' => e' = .returned (.int .u64 ((MM.val (s.take 2) : Nat) : Int)) ∧ RAt WR g (s.drop 2) e w' ∧ Turn g W w' := number_good g s e 2 W h hs (by omega)
  have hv := MM.val_lt 2 (s.take 2) (by simp; omega)
  generalize MM.val (s.take 2) = v at *
  have hw : IntKind.i64.wrap (v : Int) = (v : Int) := by simp [IntKind.wrap, IntKind.bits, IntKind.signed]; omega
  have hl : (most : Int) < (v : Int) := by omega
  go_enter Try.func58, Try.ntmps58
  go_wp2_with (go_at_call 47; (with_reducible refine H.mono ?_); rintro e w' ⟨rfl, hr, ht⟩)
  exact ⟨rfl, rfl, hr, ht⟩
theorem length_good (g : Nat) (s : List UInt8) (e : Int) (most : Nat) (W : World) (h : RAt WR g s e W) (hs : 2 ≤ s.length) (hm : MM.val (s.take 2) ≤ most) :
    Calls Try.prog 58 #[.pointer (some ⟨g, 0, none⟩), .int .i64 (most : Int)] W fun e' w' => e' = .returned (.int .i64 ((MM.val (s.take 2) : Nat) : Int)) ∧ RAt WR g (s.drop 2) e w' ∧ Turn g W w' := by
  have H : Calls Try.prog 47 #[.pointer (some ⟨g, 0, none⟩), .int .i64 2] W fun e' w' => e' = .returned (.int .u64 ((MM.val (s.take 2) : Nat) : Int)) ∧ RAt WR g (s.drop 2) e w' ∧ Turn g W w' := number_good g s e 2 W h hs (by omega)
  have hv := MM.val_lt 2 (s.take 2) (by simp; omega)
  generalize MM.val (s.take 2) = v at *
  have hw : IntKind.i64.wrap (v : Int) = (v : Int) := by simp [IntKind.wrap, IntKind.bits, IntKind.signed]; omega
  have hl : ¬ (most : Int) < (v : Int) := by omega
  go_enter Try.func58, Try.ntmps58
  go_wp2_with (go_at_call 47; (with_reducible refine H.mono ?_); rintro e w' ⟨rfl, hr, ht⟩)
  go_ret
  exact ⟨rfl, hr, ht⟩
end M
end Go.Proofs.Ytaijnejbffnfpaa
/- A deferred function's first statement that recovers: behind recover the statement goes on as any. -/
namespace Go.Proofs.Ytaijnejbffnfpaa
open Go Go.RowKit Go.Lib
namespace M
/-- What recover hands back, and how the frames below stand behind it. -/
def recV (cs : List Frame) : Value × List Frame := match recoverD cs with | some r => r | none => (.nilIface, cs)
theorem wpS_region_recover {P : Program} {id : Nat} {o : Oper} {l : List Oper} {Q : Exit → Act → List Frame → World → Prop} {a : Act} {cs : List Frame} {w : World}
    (hg : o.guard = none) (hr : (execOp a.eval o).run P w = .ok .recover w)
    (h : wpList P (o :: l).toArray (fun e a' w' => Q e a' (recV cs).2 w') l (a.put o.dst (recV cs).1) w) : (Code.region id (o :: l).toArray false).wpS P Q a cs w := by
  intro b k hb hro
  have hwp : wpOps P (o :: l).toArray (fun e a' w' => Q e a' (recV cs).2 w') (List.range' 1 l.length) (a.put o.dst (recV cs).1) w := by
    rw [wpOps_eq_wpList l 1 (fun j => by rw [Nat.add_comm]; simp)]
    exact h
  obtain ⟨e, a', w', hq, harr⟩ := wp_ops _ _ _ hwp b k (recV cs).2
  refine ⟨e, a', _, w', hq, .of_steps (.head step_region (.one ?_)) harr⟩
  have hrange : List.range (o :: l).toArray.size = 0 :: List.range' 1 l.length := by
    rw [List.range_eq_range']; simp [List.range'_succ]
  rw [hrange]
  have ho : (o :: l).toArray[0]? = some o := by simp
  have hw : Region.wanted o (yielded (o :: l).toArray a.tmps) = true := by simp [Region.wanted, hg]
  have hs := stepG_op (P := P) (b := b) (k := k) (cs := cs) (w := w) (rest := List.range' 1 l.length) ho hw
  have hfin : ∀ v, (b.at a (.inRegion (o :: l).toArray (0 :: List.range' 1 l.length) :: k)).finish v = b.at (a.put o.dst v) (.inRegion (o :: l).toArray (List.range' 1 l.length) :: k) := by
    intro v; rw [Frame.finish_at, ho]; rfl
  have hk : (b.at a (.inRegion (o :: l).toArray (0 :: List.range' 1 l.length) :: k)).kind = .deferred := hb
  have htr := tryRecover_deferred hk cs
  unfold recV
  cases hrec : recoverD cs with
  | none =>
    refine step_lone_go ?_
    rw [hs, ← hfin]
    simp only [Frame.at] at htr ⊢
    simp [stepG.apply, hr, htr, hrec]
  | some p =>
    obtain ⟨v, cs'⟩ := p
    refine step_lone_go ?_
    rw [hs, ← hfin]
    simp only [Frame.at] at htr ⊢
    simp [stepG.apply, hr, htr, hrec]
theorem ta_nil (w : World) : (Instr.typeAssert .nilIface 20 23 true).run Try.prog w = .ok (.tuple #[.int .i64 0, .bool false]) w := by
  simp [Instr.typeAssert, run_underlying Try.underlying23, Try.zeroValue23, go_sem]
theorem ta_err (k : Int) (w : World) : (Instr.typeAssert (.iface 23 (.int .i64 k)) 20 23 true).run Try.prog w = .ok (.tuple #[.int .i64 k, .bool true]) w := by
  simp [Instr.typeAssert, run_underlying Try.underlying23, go_sem]
end M
end Go.Proofs.Ytaijnejbffnfpaa
/- A region that draws its order, whose operations but the last ones only read, and call what only draws, and whose last ones come in one forced order behind all others (a store of what was reckoned): one walk of the text's order serves every order. -/
namespace Go.Proofs.Ytaijnejbffnfpaa
open Go
namespace QT
section
variable {P : Program} {ops : Array Oper} {md : Region.Mode} {C : World → Prop}
/-- Whatever order the head's operations come up in; behind f of them, L. -/
def Head (P : Program) (md : Region.Mode) (ops : Array Oper) (C : World → Prop) (n : Nat) (L : Array Bool → Act → Prop) : Nat → Array Bool → Act → Prop
  | 0, s, a => L s a
  | f + 1, s, a => (Region.ready md ops s = [] → False) ∧ ∀ i, i ∈ Region.ready md ops s → i < n ∧ qOp P ops C i (fun a' => Head P md ops C n L f (s.setIfInBounds i true) a') a

theorem Head.any {n g : Nat} {L : Array Bool → Act → Prop} {Q : Exit → Act → World → Prop} (hL : ∀ s a w, C w → L s a → wpAny P md ops Q g s a w) (f : Nat) :
    ∀ s a w, C w → Head P md ops C n L f s a → wpAny P md ops Q (f + g) s a w := by
  induction f with
  | zero => intro s a w hw h; rw [Nat.zero_add]; exact hL s a w hw h
  | succ f ih =>
    intro s a w hw h
    rw [Nat.add_right_comm]
    exact ⟨fun e => (h.1 e).elim, fun i hi => wpOp_of_qOp hw (fun a' w' hw' h' => ih _ a' w' hw' h') (h.2 i hi).2⟩

/-- Nothing of the tail comes up as long as one of the head is left. -/
def Waits (md : Region.Mode) (ops : Array Oper) (n : Nat) : Prop := ∀ s, HeadInv md ops n s → ∀ i, i < n → s.getD i true = false → ∀ t, t ∈ Region.ready md ops s → t < n

theorem Head.first {n i : Nat} {oi : Oper} {v : Value} {L : Array Bool → Act → Prop} (hi : ops[i]? = some oi) (hin : i < n) (hsel : ∀ (j : Nat) (o : Oper) cs b, ops[j]? = some o → o.op ≠ .select cs b)
    (hwait : Waits md ops n) (hdone : ∀ s a, L s a → ∀ j ∈ Region.ready md ops s, n ≤ j) (f : Nat) :
    ∀ s a, HeadInv md ops n s →
      (∀ j oj, ops[j]? = some oj → j ≠ i → s.getD j true = false → (∀ e ∈ oj.after, Region.binds md e = true → e.on ≠ i) → oi.apart ops oj = true) →
      i ∈ Region.ready md ops s → YieldsIn P ops C oi v a → Head P md ops C n L f (s.setIfInBounds i true) (a.put oi.dst v) → Head P md ops C n L (f + 1) s a := by
  induction f with
  | zero =>
    intro s a inv _ hr hy H
    have hun := (mem_ready.1 hr).1
    refine ⟨fun e => (by rw [e] at hr; cases hr), fun j hj => ?_⟩
    have hjn := hwait s inv i hin hun j hj
    refine ⟨hjn, ?_⟩
    rcases Nat.decEq j i with hji | rfl
    · exact absurd (hdone _ _ H j (ready_mono hj hji)) (by omega)
    · exact hy.qOp hi H
  | succ f ih =>
    intro s a inv hfree hr hy H
    have hun := (mem_ready.1 hr).1
    refine ⟨fun e => (by rw [e] at hr; cases hr), fun j hj => ?_⟩
    have hjn := hwait s inv i hin hun j hj
    refine ⟨hjn, ?_⟩
    rcases Nat.decEq j i with hji | rfl
    · obtain ⟨hju, oj, hoj, hall⟩ := mem_ready.1 hj
      have hno : ∀ e ∈ oj.after, Region.binds md e = true → e.on ≠ i := fun e he hb e1 => by
        have h1 := hall e he hb
        rw [e1, getD_both hun] at h1
        cases h1
      have hnext := qOp_put hoj (hfree j oj hoj hji hju hno) (fun cs b => hsel i oi cs b hi) (fun cs b => hsel j oj cs b hoj) hy (H.2 j (ready_mono hj hji)).2
      refine qOp_mono (fun a' h3 => ?_) hnext
      refine ih _ a' (inv.set hj hjn) (fun k ok hk hki hku => hfree k ok hk hki ?_) (ready_mono hr (Ne.symm hji)) h3.1 (by rw [Array.setIfInBounds_comm _ _ hji]; exact h3.2)
      rcases Nat.decEq j k with hjk | rfl
      · rwa [getD_set_ne true hjk] at hku
      · exact hju
    · exact hy.qOp hi H

theorem Head.lex {n g : Nat} {Lq : Act → Prop} (hsel : Region.noSelect ops = true) (hwait : Waits md ops n) (l : List Oper) :
    ∀ (k : Nat) (s : Array Bool) (a : Act), (∀ j, j < l.length → l[j]? = ops[k + j]?) → k + l.length = n → HeadInv md ops n s →
      Region.lexHead md ops g l.length k s = true → wpQuiet P ops C Lq l a → Head P md ops C n (fun s' a' => Region.seqB md ops g n s' = true ∧ Lq a') l.length s a := by
  induction l with
  | nil =>
    intro k s a _ hk _ hB h
    obtain rfl : k = n := by simpa using hk
    exact ⟨by simpa [Region.lexHead] using hB, h⟩
  | cons o l ih =>
    intro k s a hl hk inv hB h
    have h0 : ops[k]? = some o := by simpa using (hl 0 (by simp)).symm
    simp only [List.length_cons, Region.lexHead, Bool.and_eq_true] at hB
    have hkn : k < n := by simp only [List.length_cons] at hk; omega
    have hr : k ∈ Region.ready md ops s := by simpa using hB.1.1
    obtain ⟨v, hy, hK⟩ := yieldsIn_of_qOp (K := wpQuiet P ops C Lq l) h0 (by unfold qOp; simp only [h0]; exact h)
    refine Head.first h0 hkn (Region.noSelect_spec hsel) hwait (fun s' a' hL => seqB_ready hL.1) l.length s a inv (Region.free_spec h0 hB.1.2) hr hy ?_
    exact ih (k + 1) _ _ (fun j hj => by have := hl (j + 1) (by simp; omega); simpa [Nat.add_assoc, Nat.add_comm 1 j] using this) (by simp only [List.length_cons] at hk; omega) (inv.set hr hkn) hB.2 hK
end

theorem any_of {P : Program} {Q : Exit → Act → World → Prop} {a : Act} {w : World} {l : List Oper} (n : Nat) (hB : Region.lexTailB .any l.toArray n = true)
    (h : wpQuiet P l.toArray (fun w' => ∃ m, w' = w.drewN m) (fun a' => ∀ m, wpList P l.toArray Q (l.drop n) a' (w.drewN m)) (l.take n) a) : wpAny P .any l.toArray Q l.toArray.size (Array.replicate l.toArray.size false) a (w.drewN 1) := by
  simp only [Region.lexTailB, Bool.and_eq_true, decide_eq_true_eq] at hB
  obtain ⟨⟨⟨⟨hsel, hn⟩, hs⟩, hc⟩, hlex⟩ := hB
  have hn' : n < l.length := by simpa using hn
  have h1 : (l.take n).length = n := by rw [List.length_take]; omega
  have h2 : (l.drop n).length = l.toArray.size - n := by simp
  have hwait : Waits .any l.toArray n := fun s inv i hi hun t ht => Nat.lt_of_not_le fun hle => tail_waits hs hc hn inv _ i rfl hi hun t hle ht
  have inv0 : HeadInv .any l.toArray n (Array.replicate l.toArray.size false) :=
    ⟨by simp, fun j oj _ hl => (by rw [getD_replicate_false] at hl; cases hl), fun t _ ht => getD_in (by simpa using ht) (getD_replicate_false _ _)⟩
  have H := Head.lex (g := l.toArray.size - n) hsel hwait (l.take n) 0 _ a (fun j hj => by rw [h1] at hj; simp [hj]) (by rw [h1, Nat.zero_add]) inv0 (by rw [h1]; exact hlex) h
  have R := Head.any (Q := Q) (g := l.toArray.size - n) (fun s a' w' hw hL => by
    obtain ⟨m, rfl⟩ := hw
    have := wpAny_of_seq (md := .any) (Q' := Q) (l.drop n) n s a' (w.drewN m) (fun j => by simp [List.getElem?_drop]) (by rw [h2]; exact hL.1) (hL.2 m)
    rwa [h2] at this) _ _ _ (w.drewN 1) ⟨1, rfl⟩ H
  rwa [h1, show n + (l.toArray.size - n) = l.toArray.size by omega] at R

/-- The head, n operations, quiet; behind it the others in the text's order, from whatever world the head has left: that of the beginning after some draws. -/
theorem region {P : Program} {id : Nat} {Q : Exit → Act → World → Prop} {a : Act} {w : World} {l : List Oper} (n : Nat) (hm : P.follows .mixedOrders = true) (hB : Region.lexTailB .any l.toArray n = true)
    (h : wpQuiet P l.toArray (fun w' => ∃ m, w' = w.drewN m) (fun a' => ∀ m, wpList P l.toArray Q (l.drop n) a' (w.drewN m)) (l.take n) a) : (Code.region id l.toArray true).wp P Q a w :=
  wp_region_any hm (any_of n hB h)
end QT
end Go.Proofs.Ytaijnejbffnfpaa

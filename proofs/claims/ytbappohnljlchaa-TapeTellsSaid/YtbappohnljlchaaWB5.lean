/- The texts TapSet, TapLaw, TapOpen, one behind the other. -/
import Derived.Test.YtbappohnljlchaaWB4
import Derived.Test.YtbappohnljlchaaWB1
/- Tapes side by side, the program's (true) and the document's (false), that share nothing; what is done to one leaves the others as they were. -/
namespace Go.Proofs.Ytbappohnljlchaa
open Go Go.RowKit Go.Lib
namespace M
open MM
def AtK : Bool → Nat → Nat → World → Nat → Tp → Prop
  | true => PAt
  | false => QAt
section
variable {k : Bool} {lo hi B : Nat} {w w' : World} {t : Tp}
theorem AtK.step (h : AtK k lo hi w B t) (hb : Below w.heap.size w w') : AtK k lo hi w' B t := by cases k; exact QAt.step h hb; exact PAt.step h hb
theorem AtK.turn {g : Nat} {T : TypeId} {cs : Array Value} (h : AtK k lo hi w B t) (hb : Turn g w w') (hg : Bx T g cs w) (hT : T ≠ 24) (hBg : B ≠ g) : AtK k lo hi w' B t := by cases k; exact QAt.turn h hb hg hT hBg; exact PAt.turn h hb hg hT hBg
theorem AtK.other {g : Nat} (h : AtK k lo hi w B t) (hb : Turn g w w') (hg : g < lo ∨ hi ≤ g) : AtK k lo hi w' B t := by cases k; exact QAt.other h hb hg; exact PAt.other h hb hg
theorem AtK.mono {lo2 hi2 : Nat} (h : AtK k lo hi w B t) (h1 : lo2 ≤ lo) (h2 : hi ≤ hi2) : AtK k lo2 hi2 w B t := by cases k; exact QAt.mono h h1 h2; exact PAt.mono h h1 h2
theorem AtK.ok (h : AtK k lo hi w B t) : t.Ok := by cases k; exact QAt.ok h; exact PAt.ok h
theorem AtK.box (h : AtK k lo hi w B t) : lo ≤ B ∧ B < hi := by cases k; exact QAt.box h; exact PAt.box h
theorem AtK.bx (h : AtK k lo hi w B t) : ∃ T cs, Bx T B cs w ∧ T ≠ 24 := by
  cases k
  · obtain ⟨cs, hc⟩ := QAt.bx h; exact ⟨QB, cs, hc, qb_row⟩
  · obtain ⟨cs, hc⟩ := PAt.bx h; exact ⟨TB, cs, hc, tb_row⟩
end
structure TS (W : World) (lo hi : Nat) (L : List (Bool × Nat × Tp)) (w : World) : Prop where
  each : ∀ (j : Nat) x, L[j]? = some x → AtK x.1 lo hi w x.2.1 x.2.2
  apart : ∀ (i j : Nat) x y, i ≠ j → L[i]? = some x → L[j]? = some y → x.2.1 ≠ y.2.1
  low : W.heap.size ≤ lo
  mid : lo ≤ hi
  top : hi ≤ w.heap.size
  below : Below W.heap.size W w
section
variable {W w w' : World} {lo hi : Nat} {L : List (Bool × Nat × Tp)} {B : Nat} {t : Tp} {k : Bool}
theorem TS.start (hb : Below W.heap.size W w) : TS W w.heap.size w.heap.size [] w := ⟨fun j x h => by simp at h, fun i j x y _ h => by simp at h, hb.size, Nat.le_refl _, Nat.le_refl _, hb⟩
theorem TS.step (h : TS W lo hi L w) (hb : Below w.heap.size w w') : TS W lo hi L w' := ⟨fun j x hx => (h.each j x hx).step hb, h.apart, h.low, h.mid, Nat.le_trans h.top hb.size, h.below.trans (hb.mono h.below.size)⟩
theorem TS.drewN (h : TS W lo hi L w) (n : Nat) : TS W lo hi L (w.drewN n) := h.step (below_drewN w n)
theorem TS.free {g : Nat} (h : TS W lo hi L w) (ht : Turn g w w') (hg : g < lo ∨ hi ≤ g) (hW : W.heap.size ≤ g) : TS W lo hi L w' := ⟨fun j x hx => (h.each j x hx).other ht hg, h.apart, h.low, h.mid, Nat.le_trans h.top ht.size, h.below.trans (ht.below hW h.below.size)⟩
/-- One tape is turned. -/
theorem TS.put (h : TS W lo hi L w) {i : Nat} (hL : L[i]? = some (k, B, t)) {t' : Tp} (ht : Turn B w w') (hx : AtK k lo hi w' B t') : TS W lo hi (L.set i (k, B, t')) w' := by
  have h0 := h.each i _ hL
  obtain ⟨T, cs, hbx, hT⟩ := h0.bx
  have hlt := (List.getElem?_eq_some_iff.1 hL).1
  have hget : ∀ (j : Nat) x, (L.set i (k, B, t'))[j]? = some x → (j = i ∧ x = (k, B, t')) ∨ (j ≠ i ∧ L[j]? = some x) := fun j x hj => by
    rw [List.getElem?_set] at hj
    by_cases e : i = j
    · subst e; rw [if_pos rfl, if_pos hlt] at hj; exact .inl ⟨rfl, (Option.some.inj hj).symm⟩
    · rw [if_neg e] at hj; exact .inr ⟨fun e2 => e e2.symm, hj⟩
  refine ⟨fun j x hj => ?_, fun a b x y hab hx2 hy2 => ?_, h.low, h.mid, Nat.le_trans h.top ht.size, h.below.trans (ht.below (Nat.le_trans h.low h0.box.1) h.below.size)⟩
  · rcases hget j x hj with ⟨_, rfl⟩ | ⟨hne, hj2⟩
    · exact hx
    · exact (h.each j x hj2).turn ht hbx hT (h.apart j i _ _ hne hj2 hL)
  · rcases hget a x hx2 with ⟨ea, rfl⟩ | ⟨na, hx3⟩ <;> rcases hget b y hy2 with ⟨eb, rfl⟩ | ⟨nb, hy3⟩
    · omega
    · exact h.apart i b (k, B, t) y (by omega) hL hy3
    · exact h.apart a i x (k, B, t) (by omega) hx3 hL
    · exact h.apart a b x y hab hx3 hy3
/-- One more tape is made. -/
theorem TS.add (h : TS W lo hi L w) (hx : AtK k w.heap.size w'.heap.size w' B t) (hb : Below w.heap.size w w') : TS W lo w'.heap.size (L ++ [(k, B, t)]) w' := by
  have hget : ∀ (j : Nat) x, (L ++ [(k, B, t)])[j]? = some x → (j = L.length ∧ x = (k, B, t)) ∨ (j < L.length ∧ L[j]? = some x) := fun j x hj => by
    by_cases e : j < L.length
    · rw [List.getElem?_append_left e] at hj; exact .inr ⟨e, hj⟩
    · rw [List.getElem?_append_right (by omega)] at hj
      have := (List.getElem?_eq_some_iff.1 hj).1
      simp at this
      have e2 : j = L.length := by omega
      subst e2
      simp at hj
      exact .inl ⟨rfl, hj.symm⟩
  have htop := h.top
  have hmid := h.mid
  refine ⟨fun j x hj => ?_, fun a b x y hab hx2 hy2 => ?_, h.low, Nat.le_trans hmid (Nat.le_trans htop hb.size), Nat.le_refl _, h.below.trans (hb.mono h.below.size)⟩
  · rcases hget j x hj with ⟨_, rfl⟩ | ⟨_, hj2⟩
    · exact hx.mono (by omega) (Nat.le_refl _)
    · exact ((h.each j x hj2).step hb).mono (Nat.le_refl _) (by have := hb.size; omega)
  · rcases hget a x hx2 with ⟨ea, rfl⟩ | ⟨na, hx3⟩ <;> rcases hget b y hy2 with ⟨eb, rfl⟩ | ⟨nb, hy3⟩
    · omega
    · have := (h.each b y hy3).box; have := hx.box; show B ≠ _; omega
    · have := (h.each a x hx3).box; have := hx.box; show _ ≠ B; omega
    · exact h.apart a b x y hab hx3 hy3
theorem TS.addP (h : TS W lo hi L w) (hm : MadeP w t B w') : TS W lo w'.heap.size (L ++ [(true, B, t)]) w' := h.add hm.1 hm.2
theorem TS.addQ (h : TS W lo hi L w) (hm : MadeQ w t B w') : TS W lo w'.heap.size (L ++ [(false, B, t)]) w' := h.add hm.1 hm.2
theorem TS.next (h : TS W lo hi L w) {i : Nat} (hL : L[i]? = some (true, B, t)) (q : Nat) (hq : q < 18446744073709551616) (hn : t.n < 4611686018427387904) :
    Calls Try.prog 11 #[ptr B, .int .u64 (q : Int)] w fun e w' => e = .returned (.int .u64 ((t.val q : Nat) : Int)) ∧ TS W lo hi (L.set i (true, B, t.next q)) w' ∧ Turn B w w' :=
  (next_any (h.each i _ hL) q hq hn).mono fun _ _ ⟨a, b, c⟩ => ⟨a, h.put hL c b, c⟩
theorem TS.rnext (h : TS W lo hi L w) {i : Nat} (hL : L[i]? = some (false, B, t)) (q : Nat) (hq : q < 18446744073709551616) (hn : t.n < 4611686018427387904) :
    Calls Try.prog 19 #[ptr B, .int .u64 (q : Int)] w fun e w' => e = .returned (.int .u64 ((t.val q : Nat) : Int)) ∧ TS W lo hi (L.set i (false, B, t.next q)) w' ∧ Turn B w w' :=
  (rnext_any (h.each i _ hL) q hq hn).mono fun _ _ ⟨a, b, c⟩ => ⟨a, h.put hL c b, c⟩
theorem TS.at_ (h : TS W lo hi L w) {i : Nat} (hL : L[i]? = some (true, B, t)) : Calls Try.prog 13 #[ptr B] w fun e w' => e = .returned (.int .i64 (t.n : Int)) ∧ w' = w := at_any (h.each i _ hL)
theorem TS.draws (h : TS W lo hi L w) {i : Nat} (hL : L[i]? = some (true, B, t)) (n q : Nat) (hn : n ≤ 1024) (hq : q < 18446744073709551616) (ht : t.n < 4000000000000000000) :
    Calls Try.prog 12 #[ptr B, .int .i64 (n : Int), .int .u64 (q : Int)] w fun e w' => ∃ R, e = .returned (.slice (some ⟨R, 0, none⟩) n n) ∧ w.heap.size ≤ R ∧ Nm R n (t.get (allq q)) w' ∧ TS W lo hi (L.set i (true, B, t.run (allq q) n)) w' ∧ Turn B w w' :=
  (draws_any (h.each i _ hL) n q hn hq ht h.top).mono fun _ _ ⟨R, a, b, c, d, f⟩ => ⟨R, a, b, c, h.put hL f d, f⟩
theorem TS.rdraws (h : TS W lo hi L w) {i : Nat} (hL : L[i]? = some (false, B, t)) (n q : Nat) (hn : n ≤ 1024) (hq : q < 18446744073709551616) (ht : t.n < 4000000000000000000) :
    Calls Try.prog 21 #[ptr B, .int .i64 (n : Int), .int .u64 (q : Int)] w fun e w' => ∃ ao c, e = .returned (.slice ao n c) ∧ Rd w' ao n (t.get (allq q)) ∧ TS W lo hi (L.set i (false, B, t.run (allq q) n)) w' ∧ Turn B w w' :=
  (rdraws_any (h.each i _ hL) n q hn hq ht h.top).mono fun _ _ ⟨ao, c, a, b, d, f⟩ => ⟨ao, c, a, b, h.put hL f d, f⟩
theorem TS.copy (h : TS W lo hi L w) {i : Nat} (hL : L[i]? = some (true, B, t)) (hl : t.fs.length ≤ 1000) :
    Calls Try.prog 14 #[ptr B] w fun e w' => ∃ B', e = .returned (ptr B') ∧ TS W lo w'.heap.size (L ++ [(true, B', t)]) w' ∧ Below w.heap.size w w' :=
  (copy_any (h.each i _ hL) hl).mono fun _ _ ⟨B', a, b⟩ => ⟨B', a, h.addP b, b.2⟩
theorem TS.rcopy (h : TS W lo hi L w) {i : Nat} (hL : L[i]? = some (false, B, t)) (hl : t.fs.length ≤ 1000) :
    Calls Try.prog 22 #[ptr B] w fun e w' => ∃ B', e = .returned (ptr B') ∧ TS W lo w'.heap.size (L ++ [(false, B', t)]) w' ∧ Below w.heap.size w w' :=
  (rcopy_any (h.each i _ hL) hl).mono fun _ _ ⟨B', a, b⟩ => ⟨B', a, h.addQ b, b.2⟩
end
theorem taken_q0 (z : Nat) : taken 0 z = true := by unfold taken; simp
theorem red_q0 (z : Nat) : red z 0 = z := by unfold red; rw [if_pos rfl]
theorem val_free (st n : Nat) : (Tp.mk [] st n).val 0 = mix (nxt st) := by
  rw [Tp.val_nil, acc_yes (taken_q0 _), red_q0]
theorem next_free (st n : Nat) : (Tp.mk [] st n).next 0 = ⟨[], nxt st, n + 1⟩ := by rw [Tp.next_nil, acc_yes (taken_q0 _)]
end M
end Go.Proofs.Ytbappohnljlchaa
/- What each statement asks first: the examples are as they are told. -/
namespace Go.Proofs.Ytbappohnljlchaa
open Go Go.RowKit Go.Lib
namespace M
open MM
/-- Tapes side by side, wherever they lie. -/
def Tz (W : World) (L : List (Bool × Nat × Tp)) (w : World) : Prop := ∃ lo hi, TS W lo hi L w
theorem Tz.below {W w : World} {L : List (Bool × Nat × Tp)} (h : Tz W L w) : Below W.heap.size W w := let ⟨_, _, a⟩ := h; a.below
theorem Tz.step {W w w' : World} {L : List (Bool × Nat × Tp)} (h : Tz W L w) (hb : Below w.heap.size w w') : Tz W L w' := let ⟨lo, hi, a⟩ := h; ⟨lo, hi, a.step hb⟩
theorem Tz.start {W w : World} (hb : Below W.heap.size W w) : Tz W [] w := ⟨_, _, TS.start hb⟩
theorem Tz.addP {W w w' : World} {L : List (Bool × Nat × Tp)} {B : Nat} {t : Tp} (h : Tz W L w) (hm : MadeP w t B w') : Tz W (L ++ [(true, B, t)]) w' := let ⟨_, _, a⟩ := h; ⟨_, _, a.addP hm⟩
theorem Tz.addQ {W w w' : World} {L : List (Bool × Nat × Tp)} {B : Nat} {t : Tp} (h : Tz W L w) (hm : MadeQ w t B w') : Tz W (L ++ [(false, B, t)]) w' := let ⟨_, _, a⟩ := h; ⟨_, _, a.addQ hm⟩
section
variable {W w : World} {L : List (Bool × Nat × Tp)} {B : Nat} {t : Tp}
theorem Tz.next (h : Tz W L w) {i : Nat} (hL : L[i]? = some (true, B, t)) (q : Nat) (hq : q < 18446744073709551616) (hn : t.n < 4611686018427387904) :
    Calls Try.prog 11 #[ptr B, .int .u64 (q : Int)] w fun e w' => e = .returned (.int .u64 ((t.val q : Nat) : Int)) ∧ Tz W (L.set i (true, B, t.next q)) w' :=
  let ⟨_, _, a⟩ := h; (a.next hL q hq hn).mono fun _ _ ⟨x, y, _⟩ => ⟨x, _, _, y⟩
theorem Tz.at_ (h : Tz W L w) {i : Nat} (hL : L[i]? = some (true, B, t)) : Calls Try.prog 13 #[ptr B] w fun e w' => e = .returned (.int .i64 (t.n : Int)) ∧ w' = w :=
  let ⟨_, _, a⟩ := h; a.at_ hL
theorem Tz.draws (h : Tz W L w) {i : Nat} (hL : L[i]? = some (true, B, t)) (n q : Nat) (hn : n ≤ 1024) (hq : q < 18446744073709551616) (ht : t.n < 4000000000000000000) :
    Calls Try.prog 12 #[ptr B, .int .i64 (n : Int), .int .u64 (q : Int)] w fun e w' => ∃ R, e = .returned (.slice (some ⟨R, 0, none⟩) n n) ∧ w.heap.size ≤ R ∧ Nm R n (t.get (allq q)) w' ∧ Tz W (L.set i (true, B, t.run (allq q) n)) w' ∧ Turn B w w' :=
  let ⟨_, _, a⟩ := h; (a.draws hL n q hn hq ht).mono fun _ _ ⟨R, x, y, z, u, v⟩ => ⟨R, x, y, z, ⟨_, _, u⟩, v⟩
theorem Tz.copy (h : Tz W L w) {i : Nat} (hL : L[i]? = some (true, B, t)) (hl : t.fs.length ≤ 1000) :
    Calls Try.prog 14 #[ptr B] w fun e w' => ∃ B', e = .returned (ptr B') ∧ Tz W (L ++ [(true, B', t)]) w' ∧ Below w.heap.size w w' :=
  let ⟨_, _, a⟩ := h; (a.copy hL hl).mono fun _ _ ⟨B', x, y, z⟩ => ⟨B', x, ⟨_, _, y⟩, z⟩
end
theorem ok0 : (Tp.new 0).Ok := Tp.Ok.new (by omega)
theorem m1 : mix (nxt 0) = 16294208416658607535 := by decide +kernel
theorem m2 : mix (nxt (nxt 0)) = 7960286522194355700 := by decide +kernel
theorem m3 : mix (nxt (nxt (nxt 0))) = 487617019471545679 := by decide +kernel
theorem run1 : (Tp.new 0).run (allq 0) 1 = ⟨[], nxt 0, 1⟩ := next_free 0 0
theorem run2 : (Tp.new 0).run (allq 0) 2 = ⟨[], nxt (nxt 0), 2⟩ := by
  show ((Tp.new 0).run (allq 0) 1).next 0 = _
  rw [run1, next_free]
theorem get0 : (Tp.new 0).get (allq 0) 0 = 16294208416658607535 := (val_free 0 0).trans m1
theorem get1 : (Tp.new 0).get (allq 0) 1 = 7960286522194355700 := by
  show ((Tp.new 0).run (allq 0) 1).val 0 = _
  rw [run1, val_free, m2]
theorem get2 : (Tp.new 0).get (allq 0) 2 = 487617019471545679 := by
  show ((Tp.new 0).run (allq 0) 2).val 0 = _
  rw [run2, val_free, m3]
set_option maxHeartbeats 4000000 in
set_option maxRecDepth 100000 in
theorem works_any (W : World) : Calls Try.prog 10 #[] W fun e w' => e = .returned (.bool true) ∧ Below W.heap.size W w' := by
  have H1 : Hid (Calls Try.prog 15 #[.int .u64 0] W fun e w' => ∃ B, e = .returned (ptr B) ∧ Tz W [(true, B, Tp.new 0)] w') :=
    Lib.hid ((new_any W 0 ok0).mono fun _ _ ⟨B, a, b⟩ => ⟨B, a, (Tz.start (Below.refl _ _)).addP b⟩)
  have H2 : Hid (∀ B w, Tz W [(true, B, Tp.new 0)] w → Calls Try.prog 12 #[ptr B, .int .i64 3, .int .u64 0] w fun e w' => ∃ R, e = .returned (.slice (some ⟨R, 0, none⟩) 3 3) ∧ Nm R 3 ((Tp.new 0).get (allq 0)) w' ∧ Below W.heap.size W w') :=
    Lib.hid fun B w h => (h.draws (i := 0) rfl 3 0 (by omega) (by omega) (by decide)).mono fun _ _ ⟨R, a, _, b, c, _⟩ => ⟨R, a, b, c.below⟩
  have H3 : Hid (∀ R w, Nm R 3 ((Tp.new 0).get (allq 0)) w → Calls Try.prog 20 #[.slice (some ⟨R, 0, none⟩) 3 3, .slice (some ⟨w.heap.size, 0, none⟩) 3 3] (w.alloc (.cells #[.int .u64 16294208416658607535, .int .u64 7960286522194355700, .int .u64 487617019471545679] 24)) fun e w' => e = .returned (.bool true) ∧ Below w.heap.size w w') :=
    Lib.hid fun R w h => (nums_any _ _ 3 3 3 ((Tp.new 0).get (allq 0)) (by omega) _ (h.step (below_box w _)).rd (fun _ => ⟨_, rfl, Row.of_block (heap_alloc_new w _) fun k hk => by
      have h3 : k = 0 ∨ k = 1 ∨ k = 2 := by omega
      rcases h3 with rfl | rfl | rfl
      · rw [get0]; rfl
      · rw [get1]; rfl
      · rw [get2]; rfl⟩)).mono fun _ _ ⟨a, m, b⟩ => ⟨a, by rw [b]; exact bnext (below_box w _) (below_drewN _ m)⟩
  have H4 : Hid (∀ w, Below W.heap.size W w → Calls Try.prog 16 #[.slice (some ⟨w.heap.size, 0, none⟩) 2 2, .int .u64 0] (w.alloc (.cells #[.int .u64 7, .int .u64 30] 24)) fun e w' => ∃ B, e = .returned (ptr B) ∧ Tz W [(true, B, ⟨[7, 30], 0, 0⟩)] w') :=
    Lib.hid fun w h => (of_any _ (some ⟨w.heap.size, 0, none⟩) 2 0 [7, 30] (by simp) ⟨fun _ => ⟨_, rfl, Row.of_block (heap_alloc_new w _) fun k hk => by
      have h3 : k = 0 ∨ k = 1 := by simp at hk; omega
      rcases h3 with rfl | rfl <;> rfl⟩, fun e => by cases e⟩ (Tp.Ok.of (by intro x hx; simp at hx; omega) (by omega))).mono fun _ _ ⟨B, a, b⟩ => ⟨B, a, (Tz.start (h.trans ((below_box w _).mono h.size))).addP b⟩
  have H5 : Hid (∀ B w, Tz W [(true, B, ⟨[7, 30], 0, 0⟩)] w → Calls Try.prog 11 #[ptr B, .int .u64 10] w fun e w' => e = .returned (.int .u64 7) ∧ Tz W [(true, B, ⟨[30], 0, 1⟩)] w') := Lib.hid fun B w h => h.next (i := 0) rfl 10 (by omega) (by decide)
  have H6 : Hid (∀ B w, Tz W [(true, B, ⟨[30], 0, 1⟩)] w → Calls Try.prog 11 #[ptr B, .int .u64 11] w fun e w' => e = .returned (.int .u64 8) ∧ Tz W [(true, B, ⟨[], 0, 2⟩)] w') := Lib.hid fun B w h => h.next (i := 0) rfl 11 (by omega) (by decide)
  have H7 : Hid (∀ B w, Tz W [(true, B, ⟨[], 0, 2⟩)] w → Calls Try.prog 11 #[ptr B, .int .u64 0] w fun e w' => e = .returned (.int .u64 16294208416658607535) ∧ Tz W [(true, B, ⟨[], nxt 0, 3⟩)] w') := Lib.hid fun B w h => (h.next (i := 0) rfl 0 (by omega) (by decide)).mono fun _ _ ⟨a, b⟩ => by
    rw [val_free, m1] at a
    rw [next_free] at b
    exact ⟨a, b⟩
  have H8 : Hid (∀ B w, Tz W [(true, B, ⟨[], nxt 0, 3⟩)] w → Calls Try.prog 13 #[ptr B] w fun e w' => e = .returned (.int .i64 3) ∧ w' = w) := Lib.hid fun B w h => h.at_ (i := 0) rfl
  have H9 : Hid (∀ B w, Tz W [(true, B, ⟨[], nxt 0, 3⟩)] w → Calls Try.prog 11 #[ptr B, .int .u64 1] w fun e w' => e = .returned (.int .u64 0) ∧ Below W.heap.size W w') := Lib.hid fun B w h => (h.next (i := 0) rfl 1 (by omega) (by decide)).mono fun _ _ ⟨a, b⟩ => by
    have h1 := Tp.val_below ⟨[], nxt 0, 3⟩ (q := 1) (by omega)
    have h2 : (Tp.mk [] (nxt 0) 3).val 1 = 0 := by omega
    rw [h2] at a
    exact ⟨a, b.below⟩
  go_enter Try.func10, Try.ntmps10
  go_wp2_with (first
    | (go_at_call 15; (with_reducible refine (H1.out).mono ?_); rintro e w1 ⟨B, rfl, h⟩; have HD := Lib.hid h; clear h)
    | (go_at_call 12; (with_reducible refine (H2.out _ _ HD.out).mono ?_); rintro e w2 ⟨R, rfl, h, h'⟩; have HR := Lib.hid h; have HB := Lib.hid h'; clear h h')
    | (go_at_call 20; (with_reducible refine (H3.out _ _ HR.out).mono ?_); rintro e w3 ⟨rfl, h⟩; have HB3 := Lib.hid (HB.out.trans (h.mono HB.out.size)); clear h)
    | (go_at_call 16; (with_reducible refine (H4.out _ HB3.out).mono ?_); rintro e w4 ⟨B2, rfl, h⟩; have HE := Lib.hid h; clear h)
    | (go_at_call 11; (with_reducible refine (H5.out _ _ HE.out).mono ?_); rintro e w5 ⟨rfl, h⟩; have HE5 := Lib.hid h; clear h)
    | (go_at_call 11; (with_reducible refine (H6.out _ _ HE5.out).mono ?_); rintro e w5 ⟨rfl, h⟩; have HE6 := Lib.hid h; clear h)
    | (go_at_call 11; (with_reducible refine (H7.out _ _ HE6.out).mono ?_); rintro e w5 ⟨rfl, h⟩; have HE7 := Lib.hid h; clear h)
    | (go_at_call 13; (with_reducible refine (H8.out _ _ HE7.out).mono ?_); rintro e w5 ⟨rfl, rfl⟩)
    | (go_at_call 11; (with_reducible refine (H9.out _ _ HE7.out).mono ?_); rintro e w5 ⟨rfl, h⟩; have HE9 := Lib.hid h; clear h))
  go_ret
  exact ⟨rfl, HE9.out⟩
end M
end Go.Proofs.Ytbappohnljlchaa
/- Rows that come in, as lists. -/
namespace Go.Proofs.Ytbappohnljlchaa
open Go Go.RowKit Go.Lib
namespace M
open MM
def lst (n : Nat) (z : Nat → Nat) : List Nat := (List.range n).map z
theorem lst_len (n : Nat) (z : Nat → Nat) : (lst n z).length = n := by simp [lst]
theorem lst_get (n : Nat) (z : Nat → Nat) {k : Nat} (h : k < n) : (lst n z)[k]? = some (z k) := by simp [lst, h]
theorem src_of {W : World} {ao : Option Addr} {n c : Nat} {z : Nat → Nat} (h : Rd W ao n z) (h0 : ao = none → n = 0 ∧ c = 0) : Src W ao c (lst n z) := by
  refine ⟨fun hn => ?_, fun e => ⟨?_, (h0 e).2⟩⟩
  · rw [lst_len] at hn
    obtain ⟨ad, ha, hr⟩ := h hn
    refine ⟨ad, ha, fun k hk => ?_⟩
    rw [lst_len] at hk
    dsimp only
    rw [List.getD_eq_getElem?_getD, lst_get n z hk]
    exact hr k hk
  · rw [(h0 e).1]; rfl
theorem lst_lt {n : Nat} {z : Nat → Nat} (h : ∀ k, z k < 18446744073709551616) : ∀ x ∈ lst n z, x < 18446744073709551616 := fun x hx => by
  simp [lst] at hx
  obtain ⟨k, _, rfl⟩ := hx
  exact h k
/-- Of numbers that came in a tape is made. -/
theorem of_in (W : World) (ao : Option Addr) (n c s : Nat) (z : Nat → Nat) (hn : n ≤ 1000) (hz : ∀ k, z k < 18446744073709551616) (h : Rd W ao n z) (h0 : ao = none → n = 0 ∧ c = 0) (hs : s < 18446744073709551616) :
    Calls Try.prog 16 #[.slice ao n c, .int .u64 (s : Int)] W fun e w' => ∃ B, e = .returned (ptr B) ∧ MadeP W (Tp.of (lst n z) s) B w' := by
  have h1 := of_any W ao c s (lst n z) (by rw [lst_len]; exact hn) (src_of h h0) (Tp.Ok.of (lst_lt hz) hs)
  rw [lst_len] at h1
  exact h1
theorem rof_in (W : World) (ao : Option Addr) (n c s : Nat) (z : Nat → Nat) (hn : n ≤ 1000) (hz : ∀ k, z k < 18446744073709551616) (h : Rd W ao n z) (h0 : ao = none → n = 0 ∧ c = 0) (hs : s < 18446744073709551616) :
    Calls Try.prog 17 #[.slice ao n c, .int .u64 (s : Int)] W fun e w' => ∃ B, e = .returned (ptr B) ∧ MadeQ W (Tp.of (lst n z) s) B w' := by
  have h1 := rof_any W ao c s (lst n z) (by rw [lst_len]; exact hn) (src_of h h0) (Tp.Ok.of (lst_lt hz) hs)
  rw [lst_len] at h1
  exact h1
/-- .. beside others. -/
theorem Tz.of_ {W w : World} {L : List (Bool × Nat × Tp)} {ao : Option Addr} {n c s : Nat} {z : Nat → Nat} (h : Tz W L w) (hn : n ≤ 1000) (hz : ∀ k, z k < 18446744073709551616) (hr : Rd W ao n z) (h0 : ao = none → n = 0 ∧ c = 0) (hs : s < 18446744073709551616) :
    Calls Try.prog 16 #[.slice ao n c, .int .u64 (s : Int)] w fun e w' => ∃ B, e = .returned (ptr B) ∧ Tz W (L ++ [(true, B, Tp.of (lst n z) s)]) w' :=
  (of_in w ao n c s z hn hz (hr.below h.below) h0 hs).mono fun _ _ ⟨B, a, b⟩ => ⟨B, a, h.addP b⟩
theorem Tz.new_ {W w : World} {L : List (Bool × Nat × Tp)} {s : Nat} (h : Tz W L w) (hs : s < 18446744073709551616) :
    Calls Try.prog 15 #[.int .u64 (s : Int)] w fun e w' => ∃ B, e = .returned (ptr B) ∧ Tz W (L ++ [(true, B, Tp.new s)]) w' :=
  (new_any w s (Tp.Ok.new hs)).mono fun _ _ ⟨B, a, b⟩ => ⟨B, a, h.addP b⟩
end M
end Go.Proofs.Ytbappohnljlchaa

/- The texts Open, Inn, GrpW1, OpenS, one behind the other. -/
import Derived.Test.YtlnlepadninnaaaDoorKR3
import Derived.ProofKit
import Derived.OpenShut
import Derived.ChangeOld
import Derived.Deep.Fields
import Derived.LoopTactic
import Derived.LoopN
import Derived.Deep.QuietTactic
import Derived.BigQuiet
import Derived.ChangeSlices
import Derived.Deep.SlicePairs
/- How parameters and pairs that come in are opened: structs whose fields are whole numbers, one cell each. -/
namespace Go.Proofs.YtlnlepadninnaaaDoor
open Go.ChangeShapes Go.WideShapes Go.ChangeAt Go.RowKit Go.Deep
namespace M

theorem laidOut : laidOutB Tryd.prog = true := by kernel_rfl

section
variable {H : Type} {enc : TypeId × Value → H} {P : Program} {w : World} {base : Nat} {spare : Nat → Bool} {held : Bool}
/-- The fields of a struct that came in, one cell each: what each reads as. -/
def FieldsRead (enc : TypeId × Value → H) (P : Program) (w : World) (base : Nat) (spare : Nat → Bool) (held : Bool) (fs : Array Field) (cs : Array Value) : Prop :=
  ∀ (i : Nat) (f : Field), fs[i]? = some f → ∃ (c : Value) (y : DataW H × List MemPlace) (n : Nat), cs[i]? = some c ∧ DataW.trod enc P w base spare held n f.type [c] = some y
theorem open_fields {r : Reach} {b0 : Nat} {t : TypeId} {fs : Array Field} {v : Value} {d : DataW H} {p : List MemPlace} (hs : P.underlying t = some (.struct fs)) (hone : oneCellFields P fs = true) (hC : P.cellsOf t = fs.size)
    (hv : Value.okWide P w r b0 t v) (h : DataW.Trod enc P w base spare held t v d p) :
    ∃ cs : Array Value, v = .agg cs ∧ cs.size = fs.size ∧ FieldsRead enc P w base spare held fs cs := by
  obtain ⟨cs, rfl, hsz⟩ := okWide_struct hs hv
  refine ⟨cs, rfl, hsz.trans hC, fun i f hi => ?_⟩
  obtain ⟨fuel, hf⟩ := h
  obtain ⟨xs, n, _, _, _, hlen, hg⟩ := DataW.trod_struct hs hf
  obtain ⟨o, k⟩ := hone_of hone i f hi
  have hil : i < fs.size := (Array.getElem?_eq_some_iff.1 hi).1
  have hic : i < cs.size := by rw [hsz, hC]; exact hil
  have h1 := hg i f hi
  rw [o, k] at h1
  have e : ((Value.cells (.agg cs)).toList.drop i).take 1 = [cs[i]] := by
    have : (Value.cells (.agg cs)).toList = cs.toList := by simp [Value.cells]
    rw [this, List.drop_eq_getElem_cons (by simpa using hic)]
    simp
  rw [e, List.getElem?_eq_getElem (by omega)] at h1
  exact ⟨cs[i], _, n, Array.getElem?_eq_getElem hic, h1⟩
theorem int_field {k : IntKind} {fs : Array Field} {cs : Array Value} (h : FieldsRead enc P w base spare held fs cs) (i : Nat) (f : Field) (hf : fs[i]? = some f) (hu : P.underlying f.type = some (.int k)) :
    ∃ n : Int, cs[i]? = some (.int k n) ∧ k.min ≤ n ∧ n ≤ k.max := by
  obtain ⟨c, y, m, hc, ht⟩ := h i f hf
  obtain ⟨n, e, _, hw⟩ := DataW.trod_int hu ht
  have : c = .int k n := by simpa using e
  subst this
  have hb : k.min ≤ n ∧ n ≤ k.max := by simpa [Lit.wf] using hw
  exact ⟨n, hc, hb.1, hb.2⟩
end

/-- The numbers of parameters lie in their kinds. -/
structure PmOk (p : Pm) : Prop where
  b0 : p.P < 18446744073709551616
  b1 : p.Q < 18446744073709551616
  b2 : p.G < 18446744073709551616
  b3 : p.H < 18446744073709551616
  b4 : -9223372036854775808 ≤ p.Nodes ∧ p.Nodes ≤ 9223372036854775807
  b5 : -9223372036854775808 ≤ p.N ∧ p.N ≤ 9223372036854775807
  b6 : -9223372036854775808 ≤ p.T ∧ p.T ≤ 9223372036854775807
  b7 : -9223372036854775808 ≤ p.K ∧ p.K ≤ 9223372036854775807
  b8 : -9223372036854775808 ≤ p.D ∧ p.D ≤ 9223372036854775807
  b9 : -9223372036854775808 ≤ p.R ∧ p.R ≤ 9223372036854775807
  b10 : -9223372036854775808 ≤ p.M ∧ p.M ≤ 9223372036854775807
  b11 : -9223372036854775808 ≤ p.X ∧ p.X ≤ 9223372036854775807

theorem array_ext12 {cs : Array Value} (h : cs.size = 12) {v0 v1 v2 v3 v4 v5 v6 v7 v8 v9 v10 v11 : Value} (h0 : cs[0]? = some v0)  (h1 : cs[1]? = some v1)  (h2 : cs[2]? = some v2)  (h3 : cs[3]? = some v3)  (h4 : cs[4]? = some v4)  (h5 : cs[5]? = some v5)  (h6 : cs[6]? = some v6)  (h7 : cs[7]? = some v7)  (h8 : cs[8]? = some v8)  (h9 : cs[9]? = some v9)  (h10 : cs[10]? = some v10)  (h11 : cs[11]? = some v11) : cs = #[v0, v1, v2, v3, v4, v5, v6, v7, v8, v9, v10, v11] := by
  apply Array.ext_getElem?
  intro i
  match i with
  | 0 => rw [h0]; rfl
  | 1 => rw [h1]; rfl
  | 2 => rw [h2]; rfl
  | 3 => rw [h3]; rfl
  | 4 => rw [h4]; rfl
  | 5 => rw [h5]; rfl
  | 6 => rw [h6]; rfl
  | 7 => rw [h7]; rfl
  | 8 => rw [h8]; rfl
  | 9 => rw [h9]; rfl
  | 10 => rw [h10]; rfl
  | 11 => rw [h11]; rfl
  | i + 12 => rw [Array.getElem?_eq_none (by omega), Array.getElem?_eq_none (by show 12 ≤ i + 12; omega)]

theorem u64_min_max {n : Int} (h0 : IntKind.u64.min ≤ n) (h1 : n ≤ IntKind.u64.max) : 0 ≤ n ∧ n ≤ 18446744073709551615 := by
  simp [IntKind.min, IntKind.max, IntKind.signed, IntKind.bits] at h0 h1
  omega
theorem i64_min_max {n : Int} (h0 : IntKind.i64.min ≤ n) (h1 : n ≤ IntKind.i64.max) : -9223372036854775808 ≤ n ∧ n ≤ 9223372036854775807 := by
  simp [IntKind.min, IntKind.max, IntKind.signed, IntKind.bits] at h0 h1
  omega

set_option maxRecDepth 100000 in
theorem open_pm {H : Type} {enc : TypeId × Value → H} {w : World} {base : Nat} {spare : Nat → Bool} {held : Bool} {r : Reach} {b0 : Nat} {v : Value} {d : DataW H} {pl : List MemPlace}
    (hv : Value.okWide Tryd.prog w r b0 24 v) (h : DataW.Trod enc Tryd.prog w base spare held 24 v d pl) : ∃ p : Pm, v = .agg p.cells ∧ PmOk p := by
  obtain ⟨cs, rfl, hsz, hfs⟩ := open_fields Tryd.underlying24 (by kernel_rfl) (by kernel_rfl) hv h
  obtain ⟨n0, hc0, lo0, hi0⟩ := int_field (k := .u64) hfs 0 _ rfl Tryd.underlying22
  obtain ⟨n1, hc1, lo1, hi1⟩ := int_field (k := .u64) hfs 1 _ rfl Tryd.underlying22
  obtain ⟨n2, hc2, lo2, hi2⟩ := int_field (k := .u64) hfs 2 _ rfl Tryd.underlying22
  obtain ⟨n3, hc3, lo3, hi3⟩ := int_field (k := .u64) hfs 3 _ rfl Tryd.underlying22
  obtain ⟨n4, hc4, lo4, hi4⟩ := int_field (k := .i64) hfs 4 _ rfl Tryd.underlying3
  obtain ⟨n5, hc5, lo5, hi5⟩ := int_field (k := .i64) hfs 5 _ rfl Tryd.underlying3
  obtain ⟨n6, hc6, lo6, hi6⟩ := int_field (k := .i64) hfs 6 _ rfl Tryd.underlying3
  obtain ⟨n7, hc7, lo7, hi7⟩ := int_field (k := .i64) hfs 7 _ rfl Tryd.underlying3
  obtain ⟨n8, hc8, lo8, hi8⟩ := int_field (k := .i64) hfs 8 _ rfl Tryd.underlying3
  obtain ⟨n9, hc9, lo9, hi9⟩ := int_field (k := .i64) hfs 9 _ rfl Tryd.underlying3
  obtain ⟨n10, hc10, lo10, hi10⟩ := int_field (k := .i64) hfs 10 _ rfl Tryd.underlying2
  obtain ⟨n11, hc11, lo11, hi11⟩ := int_field (k := .i64) hfs 11 _ rfl Tryd.underlying2
  have e0 := u64_min_max lo0 hi0
  have e1 := u64_min_max lo1 hi1
  have e2 := u64_min_max lo2 hi2
  have e3 := u64_min_max lo3 hi3
  have e4 := i64_min_max lo4 hi4
  have e5 := i64_min_max lo5 hi5
  have e6 := i64_min_max lo6 hi6
  have e7 := i64_min_max lo7 hi7
  have e8 := i64_min_max lo8 hi8
  have e9 := i64_min_max lo9 hi9
  have e10 := i64_min_max lo10 hi10
  have e11 := i64_min_max lo11 hi11
  refine ⟨⟨n0.toNat, n1.toNat, n2.toNat, n3.toNat, n4, n5, n6, n7, n8, n9, n10, n11⟩, ?_, ⟨by show n0.toNat < _; omega, by show n1.toNat < _; omega, by show n2.toNat < _; omega, by show n3.toNat < _; omega, e4, e5, e6, e7, e8, e9, e10, e11⟩⟩
  congr 1
  refine array_ext12 (hsz.trans rfl) (hc0.trans (congrArg (fun z => some (Value.int .u64 z)) (Int.toNat_of_nonneg e0.1).symm)) (hc1.trans (congrArg (fun z => some (Value.int .u64 z)) (Int.toNat_of_nonneg e1.1).symm)) (hc2.trans (congrArg (fun z => some (Value.int .u64 z)) (Int.toNat_of_nonneg e2.1).symm)) (hc3.trans (congrArg (fun z => some (Value.int .u64 z)) (Int.toNat_of_nonneg e3.1).symm)) hc4 hc5 hc6 hc7 hc8 hc9 hc10 hc11
theorem array_ext2 {cs : Array Value} (h : cs.size = 2) {v0 v1 : Value} (h0 : cs[0]? = some v0) (h1 : cs[1]? = some v1) : cs = #[v0, v1] := by
  apply Array.ext_getElem?
  intro i
  match i with
  | 0 => rw [h0]; rfl
  | 1 => rw [h1]; rfl
  | i + 2 => rw [Array.getElem?_eq_none (by omega), Array.getElem?_eq_none (by show 2 ≤ i + 2; omega)]
set_option maxRecDepth 100000 in
theorem open_pair {H : Type} {enc : TypeId × Value → H} {w : World} {base : Nat} {spare : Nat → Bool} {held : Bool} {r : Reach} {b0 : Nat} {v : Value} {d : DataW H} {pl : List MemPlace}
    (hv : Value.okWide Tryd.prog w r b0 48 v) (h : DataW.Trod enc Tryd.prog w base spare held 48 v d pl) :
    ∃ s b : Nat, v = .agg #[.int .u64 (s : Int), .int .u64 (b : Int)] ∧ s < 18446744073709551616 ∧ b < 18446744073709551616 := by
  obtain ⟨cs, rfl, hsz, hfs⟩ := open_fields Tryd.underlying48 (by kernel_rfl) (by kernel_rfl) hv h
  obtain ⟨n0, hc0, lo0, hi0⟩ := int_field (k := .u64) hfs 0 _ rfl Tryd.underlying22
  obtain ⟨n1, hc1, lo1, hi1⟩ := int_field (k := .u64) hfs 1 _ rfl Tryd.underlying22
  have e0 := u64_min_max lo0 hi0
  have e1 := u64_min_max lo1 hi1
  refine ⟨n0.toNat, n1.toNat, ?_, by omega, by omega⟩
  congr 1
  exact array_ext2 (hsz.trans rfl) (hc0.trans (congrArg (fun z => some (Value.int .u64 z)) (Int.toNat_of_nonneg e0.1).symm)) (hc1.trans (congrArg (fun z => some (Value.int .u64 z)) (Int.toNat_of_nonneg e1.1).symm))
end M
end Go.Proofs.YtlnlepadninnaaaDoor
/- What a walk carries along over calls that make memory: rows that lie as they were laid, the laid tables, that nothing old has changed. -/
namespace Go.Proofs.YtlnlepadninnaaaDoor
open Go Go.RowKit Go.Lib
namespace M
/-- What a walk carries along: rows that lie as they were laid, the laid tables, that nothing old has changed. -/
structure Inn (w0 : World) (rows : List (Nat × Array Value × TypeId)) (w : World) : Prop where
  rows : ∀ r ∈ rows, w.heap[r.1]? = some (.cells r.2.1 r.2.2 (0, 0))
  laid : Laid w
  below : Below w0.heap.size w0 w
theorem Inn.step {w0 w w' : World} {rows : List (Nat × Array Value × TypeId)} (h : Inn w0 rows w) (hb : Below w.heap.size w w') : Inn w0 rows w' :=
  ⟨fun r hr => (hb.block _ (row_lt (h.rows r hr))).trans (h.rows r hr), h.laid.below hb, h.below.trans (hb.mono h.below.size)⟩
theorem Inn.drew {w0 w : World} {rows : List (Nat × Array Value × TypeId)} (h : Inn w0 rows w) : Inn w0 rows w.drew := ⟨h.rows, h.laid.drewN 1, h.below.drew⟩
theorem Inn.alloc {w0 w : World} {rows : List (Nat × Array Value × TypeId)} (h : Inn w0 rows w) (o : Obj) : Inn w0 rows (w.alloc o) := h.step ((Below.refl _ _).alloc (Nat.le_refl _) _)
theorem Inn.drewN {w0 w : World} {rows : List (Nat × Array Value × TypeId)} (h : Inn w0 rows w) (n : Nat) : Inn w0 rows (w.drewN n) := ⟨h.rows, h.laid.drewN n, h.below.trans (below_drewN' w n _)⟩
theorem Inn.add {w0 w : World} {rows : List (Nat × Array Value × TypeId)} (h : Inn w0 rows w) (b : Nat) (cs : Array Value) (t : TypeId) (hb : w.heap[b]? = some (.cells cs t (0, 0))) : Inn w0 ((b, cs, t) :: rows) w :=
  ⟨fun r hr => by rcases List.mem_cons.1 hr with e | hr; · subst e; exact hb
                  · exact h.rows r hr, h.laid, h.below⟩
theorem Inn.cell {w0 w : World} {rows : List (Nat × Array Value × TypeId)} (h : Inn w0 rows w) {b : Nat} {cs : Array Value} {t : TypeId} (hm : (b, cs, t) ∈ rows) (j : Nat) : w.cell? ⟨b, j, none⟩ = cs[j]? := cell_of_row w b j _ _ _ (h.rows _ hm)
/-- A pair as it lies. -/
abbrev pair (s b : Nat) : Array Value := #[.int .u64 (s : Int), .int .u64 (b : Int)]
end M
end Go.Proofs.YtlnlepadninnaaaDoor
/- What each call of package mod answers at whatever modulus; the walks of group.Power, Times, Is, generates, between. -/
namespace Go.Proofs.YtlnlepadninnaaaDoor
open Go Go.RowKit Go.Lib
namespace M
/-- The world behind the parameters' box. -/
theorem boxed (w : World) (p : Pm) : PBox (w.alloc (.cells p.cells 24)) w.heap.size p := PBox.new w p
set_option maxHeartbeats 400000 in
theorem power_core (p : Pm) (x e r : Nat) (H : Ret 71 #[.int .u64 (x : Int), .int .u64 (e : Int), .int .u64 (p.P : Int)] (.int .u64 (r : Int))) :
    RetB 72 #[.agg p.cells, .int .u64 (x : Int), .int .u64 (e : Int)] (.int .u64 (r : Int)) := by
  intro w
  have HB := Lib.hid (below_box w (.cells p.cells 24))
  go_enter Tryd.func72, Tryd.ntmps72
  go_wp2_with (go_at_call 71; (with_reducible refine (H.at _).mono ?_); rintro e w' ⟨rfl, nd, rfl⟩)
  go_ret
  exact ⟨rfl, Below.drawn HB.out _⟩
theorem power_any (p : Pm) (x e : Nat) (hx : x < 18446744073709551616) (he : e < 18446744073709551616) : RetB 72 #[.agg p.cells, .int .u64 (x : Int), .int .u64 (e : Int)] (.int .u64 ((MM.powU x e p.P : Nat) : Int)) :=
  power_core p x e _ (ret_powU x e p.P hx he)

/-- What a walk over parameters carries along: their block, that nothing old has changed. -/
structure In1 (w0 : World) (g : Nat) (p : Pm) (w : World) : Prop where
  box : PBox w g p
  below : Below w0.heap.size w0 w
theorem In1.step {w0 w w' : World} {g : Nat} {p : Pm} (h : In1 w0 g p w) (hb : Below w.heap.size w w') : In1 w0 g p w' :=
  ⟨h.box.below hb, h.below.trans (hb.mono h.below.size)⟩
theorem In1.new (w : World) (p : Pm) : In1 w w.heap.size p (w.alloc (.cells p.cells 24)) := ⟨PBox.new w p, below_box _ _⟩
set_option maxHeartbeats 1000000 in
theorem times_core (p : Pm) (a : Addr) (n cap : Nat) (z f : Nat → Nat) (hn : n ≤ 9223372036854775807) (W : World) (hc : Row W a n z)
    (H0 : Ret 25 #[.int .u64 0, .int .u64 1, .int .u64 (p.P : Int)] (.int .u64 ((f 0 : Nat) : Int)))
    (HM : ∀ k, k < n → Ret 31 #[.int .u64 ((f k : Nat) : Int), .int .u64 ((z k : Nat) : Int), .int .u64 (p.P : Int)] (.int .u64 ((f (k + 1) : Nat) : Int))) :
    Calls Tryd.prog 70 #[.agg p.cells, .slice (some a) n cap] W fun e w' => e = .returned (.int .u64 ((f n : Nat) : Int)) ∧ Below W.heap.size W w' := by
  have HB := Lib.hid (below_box W (.cells p.cells 24))
  have HR := Lib.hid (hc.below HB.out)
  have HX := Lib.hid (boxed W p)
  have HMM := Lib.hid HM
  clear hc HM
  go_enter Tryd.func70, Tryd.ntmps70
  go_upto_region 1 with fail
  generalize hg : W.heap.size = g at HB HX ⊢
  have HE := Lib.hid hg
  clear hg
  generalize W.alloc (.cells p.cells 24) = w1 at *
  have q0 : w1.cell? ⟨g, 0, none⟩ = some (.int .u64 (p.P : Int)) := HX.out.cell 0
  go_wp2_with (go_at_call 25; (with_reducible refine (H0.at _).mono ?_); rintro e w' ⟨rfl, nd, rfl⟩)
  go_loopw [5, 13] (fun s5 s13 wx => ∃ k m : Nat, k ≤ n ∧ s13 = .int .i64 (k : Int) ∧ s5 = .int .u64 ((f k : Nat) : Int) ∧ wx = w1.drewN m) (fun _ s13 _ => n - (RowKit.intOf s13).toNat)
  case atStart => exact ⟨0, _, Nat.zero_le _, rfl, rfl, rfl⟩
  case round =>
    obtain ⟨k, m, hk, rfl, rfl, rfl⟩ := hrel
    by_cases hlt : k < n
    · have hcell : w1.cell? (a.add k) = some (.int .u64 ((z k : Nat) : Int)) := HR.out k hlt
      have H1 := HMM.out k hlt
      go_wp2_with (go_at_call 31; (with_reducible refine (H1.at _).mono ?_); rintro e w' ⟨rfl, nd, rfl⟩)
      go_roundw
      case rel => exact ⟨k + 1, _, by omega, by go_num, rfl, rfl⟩
      case measure => simp [RowKit.intOf]; omega
    · obtain rfl : k = n := by omega
      go_wp2_with fail
      go_ret
      exact ⟨rfl, by first | exact Below.drawn HB.out _ | (rw [HE.out]; exact Below.drawn HB.out _)⟩
theorem times_any (p : Pm) (a : Addr) (n cap : Nat) (z : Nat → Nat) (hz : ∀ k, k < n → z k < 18446744073709551616) (hn : n ≤ 9223372036854775807) (W : World) (hc : Row W a n z) :
    Calls Tryd.prog 70 #[.agg p.cells, .slice (some a) n cap] W fun e w' => e = .returned (.int .u64 ((MM.timesN p.P z n : Nat) : Int)) ∧ Below W.heap.size W w' :=
  times_core p a n cap z (MM.timesN p.P z) hn W hc (ret_addU 0 1 p.P) (fun k hk => ret_mulU _ _ _ (MM.timesN_lt _ _ _) (hz k hk))
set_option maxHeartbeats 400000 in
theorem times_nil (p : Pm) : RetB 70 #[.agg p.cells, .slice none 0 0] (.int .u64 ((MM.addU 0 1 p.P : Nat) : Int)) := by
  intro w
  have HB := Lib.hid (below_box w (.cells p.cells 24))
  have H0 : Ret 25 #[.int .u64 0, .int .u64 1, .int .u64 (p.P : Int)] (.int .u64 ((MM.addU 0 1 p.P : Nat) : Int)) := ret_addU 0 1 p.P
  go_enter Tryd.func70, Tryd.ntmps70
  go_wp2_with (go_at_call 25; (with_reducible refine (H0.at _).mono ?_); rintro e w' ⟨rfl, nd, rfl⟩)
  refine wp_loop_rounds 1 ?_
  rw [rounds_succ]
  go_wp2_with fail
  go_ret
  exact ⟨rfl, Below.drawn HB.out _⟩
theorem two_lt {x y k : Nat} (hx : x < 18446744073709551616) (hy : y < 18446744073709551616) : MM.two x y k < 18446744073709551616 := by
  match k with
  | 0 => exact hx
  | _ + 1 => exact hy
theorem row_two {W : World} {b : Nat} {t : TypeId} (x y : Nat) (h : W.heap[b]? = some (.cells #[.int .u64 (x : Int), .int .u64 (y : Int)] t (0, 0))) : Row W ⟨b, 0, none⟩ 2 (MM.two x y) :=
  Row.of_block h fun k hk => by
    match k, hk with
    | 0, _ => rfl
    | 1, _ => rfl
    | k + 2, h => exact absurd h (by omega)
/-- A product of two numbers that were put into a row of their own. -/
theorem times_two (p : Pm) (x y r : Nat) (hx : x < 18446744073709551616) (hy : y < 18446744073709551616) (hr : MM.times2U x y p.P = r) (W : World) (b : Nat) (h : W.heap[b]? = some (.cells #[.int .u64 (x : Int), .int .u64 (y : Int)] 22 (0, 0))) :
    Calls Tryd.prog 70 #[.agg p.cells, .slice (some ⟨b, 0, none⟩) 2 2] W fun e w' => e = .returned (.int .u64 (r : Int)) ∧ Below W.heap.size W w' := by
  rw [← hr]
  exact times_any p ⟨b, 0, none⟩ 2 2 (MM.two x y) (fun k _ => two_lt hx hy) (by omega) W (row_two x y h)

/-- Whether a number is of the group. -/
def isB (p : Pm) (x : Nat) : Bool := decide (0 < x) && decide (x < p.P) && (MM.powU x p.Q p.P == 1)
theorem isB_true {p : Pm} {x : Nat} (h0 : 0 < x) (h1 : x < p.P) (h2 : MM.powU x p.Q p.P = 1) : isB p x = true := by simp [isB, h0, h1, h2]
theorem isB_zero {p : Pm} {x : Nat} (h0 : ¬ 0 < x) : isB p x = false := by simp [isB, h0]
theorem isB_big {p : Pm} {x : Nat} (h0 : ¬ x < p.P) : isB p x = false := by simp [isB, h0]
theorem isB_no {p : Pm} {x : Nat} (h0 : ¬ MM.powU x p.Q p.P = 1) : isB p x = false := by simp [isB, h0]
set_option maxHeartbeats 1000000 in
theorem is_any (p : Pm) (x : Nat) (hx : x < 18446744073709551616) (hq : p.Q < 18446744073709551616) : RetB 69 #[.agg p.cells, .int .u64 (x : Int)] (.bool (isB p x)) := by
  intro w
  have HB0 : Hid (In1 w w.heap.size p (w.alloc (.cells p.cells 24))) := Lib.hid (In1.new w p)
  have HP := power_any p x p.Q hx hq
  clear hx hq
  obtain ⟨y, hy⟩ : ∃ y, MM.powU x p.Q p.P = y := ⟨_, rfl⟩
  rw [hy] at HP
  have HY := Lib.hid hy
  clear hy
  generalize hg : w.heap.size = g at HB0
  have HE := Lib.hid hg
  clear hg
  by_cases h0 : 0 < x
  · by_cases h1 : x < p.P
    · by_cases h2 : y = 1
      · subst h2
        have HT := Lib.hid (isB_true h0 h1 HY.out)
        rw [HT.out]
        go_enter Tryd.func69, Tryd.ntmps69
        go_upto_region 1 with fail
        rw [HE.out]
        generalize w.alloc (.cells p.cells 24) = w1 at *
        have HB := HB0; clear HB0
        have q0 := HB.out.box.cell 0
        have q1 := HB.out.box.cell 1
        go_wp2_with (first | (refine wpList_row_if ?_ 24 _ rfl g rfl 24 p.cells (0, 0) _ HB.out.box Tryd.underlying24 rfl (by kernel_rfl) ?_; first | rfl | (simp [Region.wanted, yielded]; done)) | (go_at_call 72; (with_reducible refine (HP.at _).mono ?_); rintro e w1 ⟨rfl, hb⟩; replace HB := Lib.hid (HB.out.step hb); clear hb))
        go_ret
        exact ⟨rfl, HE.out ▸ HB.out.below⟩
      · have hy2 : ((y : Int) == 1) = false := by simp; omega
        have HT := Lib.hid (isB_no (p := p) (x := x) (by rw [HY.out]; exact h2))
        clear h2
        rw [HT.out]
        go_enter Tryd.func69, Tryd.ntmps69
        go_upto_region 1 with fail
        rw [HE.out]
        generalize w.alloc (.cells p.cells 24) = w1 at *
        have HB := HB0; clear HB0
        have q0 := HB.out.box.cell 0
        have q1 := HB.out.box.cell 1
        go_wp2_with (first | (refine wpList_row_if ?_ 24 _ rfl g rfl 24 p.cells (0, 0) _ HB.out.box Tryd.underlying24 rfl (by kernel_rfl) ?_; first | rfl | (simp [Region.wanted, yielded]; done)) | (go_at_call 72; (with_reducible refine (HP.at _).mono ?_); rintro e w1 ⟨rfl, hb⟩; replace HB := Lib.hid (HB.out.step hb); clear hb))
        go_ret
        exact ⟨rfl, HE.out ▸ HB.out.below⟩
    · have HT := Lib.hid (isB_big h1)
      rw [HT.out]
      go_enter Tryd.func69, Tryd.ntmps69
      go_upto_region 1 with fail
      rw [HE.out]
      generalize w.alloc (.cells p.cells 24) = w1 at *
      have HB := HB0; clear HB0
      have q0 := HB.out.box.cell 0
      have q1 := HB.out.box.cell 1
      go_wp2_with (first | (refine wpList_row_if ?_ 24 _ rfl g rfl 24 p.cells (0, 0) _ HB.out.box Tryd.underlying24 rfl (by kernel_rfl) ?_; first | rfl | (simp [Region.wanted, yielded]; done)) | (go_at_call 72; (with_reducible refine (HP.at _).mono ?_); rintro e w1 ⟨rfl, hb⟩; replace HB := Lib.hid (HB.out.step hb); clear hb))
      go_ret
      exact ⟨rfl, HE.out ▸ HB.out.below⟩
  · have HT := Lib.hid (isB_zero (p := p) h0)
    rw [HT.out]
    go_enter Tryd.func69, Tryd.ntmps69
    go_upto_region 1 with fail
    rw [HE.out]
    generalize w.alloc (.cells p.cells 24) = w1 at *
    have HB := HB0; clear HB0
    have q0 := HB.out.box.cell 0
    have q1 := HB.out.box.cell 1
    go_wp2_with (first | (refine wpList_row_if ?_ 24 _ rfl g rfl 24 p.cells (0, 0) _ HB.out.box Tryd.underlying24 rfl (by kernel_rfl) ?_; first | rfl | (simp [Region.wanted, yielded]; done)) | (go_at_call 72; (with_reducible refine (HP.at _).mono ?_); rintro e w1 ⟨rfl, hb⟩; replace HB := Lib.hid (HB.out.step hb); clear hb))
    go_ret
    exact ⟨rfl, HE.out ▸ HB.out.below⟩
end M
end Go.Proofs.YtlnlepadninnaaaDoor
/- How rows of numbers, and of pairs, that come in are opened. -/
namespace Go.Proofs.YtlnlepadninnaaaDoor
open Go.ChangeShapes Go.WideShapes Go.ChangeAt Go.RowKit Go.Deep
namespace M
/-- A row of numbers that came in: nil, or a slice whose cells read as numbers. -/
def NumsIn (w : World) (v : Value) : Prop := v = .slice none 0 0 ∨ ∃ (a : Addr) (n cap : Nat) (z : Nat → Nat), v = .slice (some a) n cap ∧ n ≤ 9223372036854775807 ∧ (∀ k, z k < 18446744073709551616) ∧ Row w a n z
set_option maxRecDepth 100000 in
theorem open_nums {H : Type} {enc : TypeId × Value → H} {w : World} {base : Nat} {spare : Nat → Bool} {held : Bool} {r : Reach} {b0 : Nat} {v : Value} {d : DataW H} {pl : List MemPlace}
    (hv : Value.okWide Tryd.prog w r b0 25 v) (h : DataW.Trod enc Tryd.prog w base spare held 25 v d pl) : NumsIn w v := by
  obtain ⟨ad, len0, cap0, rfl⟩ := okWide_slice Tryd.underlying25 hv
  obtain ⟨fuel, hf⟩ := h
  rcases open_ints Tryd.underlying25 Tryd.underlying22 (by kernel_rfl) hf with ⟨hcs, _⟩ | ⟨a, len, cap, zs, hcs, _, hl, hm, hz, _, hcell, hwf⟩
  · simp [Value.cells] at hcs
    obtain ⟨rfl, rfl, rfl⟩ := hcs
    exact .inl rfl
  · simp [Value.cells] at hcs
    obtain ⟨rfl, rfl, rfl⟩ := hcs
    have hle : len0 ≤ zs.length := by rw [hz]; split <;> omega
    unfold maxLen at hm
    have hb : ∀ k, k < zs.length → 0 ≤ zs.getD k 0 ∧ zs.getD k 0 ≤ 18446744073709551615 := fun k hk => by
      have hmem : zs.getD k 0 ∈ zs := by rw [List.getD_eq_getElem?_getD, List.getElem?_eq_getElem hk]; exact List.getElem_mem hk
      exact M.u64_bounds (hwf _ hmem)
    refine .inr ⟨a, len0, cap0, fun k => if k < zs.length then (zs.getD k 0).toNat else 0, rfl, by omega, fun k => ?_, fun k hk => ?_⟩
    · by_cases h : k < zs.length
      · have := hb k h; simp only [if_pos h]; omega
      · simp only [if_neg h]; omega
    · have h : k < zs.length := by omega
      have := hb k h
      rw [hcell k h]
      simp only [if_pos h]
      congr 2
      omega
/-- A row of pairs that came in. -/
def PairsIn (w : World) (v : Value) : Prop := v = .slice none 0 0 ∨ ∃ (a : Addr) (n cap : Nat) (s b : Nat → Nat), v = .slice (some a) n cap ∧ n ≤ 9223372036854775807 ∧ (∀ k, s k < 18446744073709551616) ∧ (∀ k, b k < 18446744073709551616) ∧
  ∀ k, k < n → w.cell? (a.add (k * 2)) = some (.int .u64 (s k : Int)) ∧ w.cell? (a.add (k * 2 + 1)) = some (.int .u64 (b k : Int))
set_option maxRecDepth 100000 in
theorem open_pairs {H : Type} {enc : TypeId × Value → H} {w : World} {base : Nat} {spare : Nat → Bool} {held : Bool} {r : Reach} {b0 : Nat} {v : Value} {d : DataW H} {pl : List MemPlace}
    (hv : Value.okWide Tryd.prog w r b0 42 v) (h : DataW.Trod enc Tryd.prog w base spare held 42 v d pl) : PairsIn w v := by
  obtain ⟨ad, len0, cap0, rfl⟩ := okWide_slice Tryd.underlying42 hv
  obtain ⟨fuel, hf⟩ := h
  rcases open_slice_pairs Tryd.underlying42 Tryd.underlying48 (by kernel_rfl) rfl rfl (by kernel_rfl) (by kernel_rfl) hf with ⟨hcs, _⟩ | ⟨a, len, cap, m, n, V0, V1, D0, D1, P0, P1, hcs, _, hl, hm, hmm, _, hx⟩
  · simp [Value.cells] at hcs
    obtain ⟨rfl, rfl, rfl⟩ := hcs
    exact .inl rfl
  · simp [Value.cells] at hcs
    obtain ⟨rfl, rfl, rfl⟩ := hcs
    have hle : len0 ≤ m := by rw [hmm]; split <;> omega
    unfold maxLen at hm
    have num : ∀ (v : Value) (y : DataW H × List MemPlace), DataW.trod enc Tryd.prog w base spare held n 22 [v] = some y → ∃ c : Nat, v = .int .u64 (c : Int) ∧ c < 18446744073709551616 := fun v y ht => by
      obtain ⟨c, e, _, hw⟩ := DataW.trod_int Tryd.underlying22 ht
      have hv : v = .int .u64 c := by simpa using e
      have hb := M.u64_bounds hw
      exact ⟨c.toNat, by rw [hv]; congr 1; omega, by omega⟩
    have h0 : ∀ k, ∃ c : Nat, (k < len0 → V0 k = .int .u64 (c : Int)) ∧ c < 18446744073709551616 := fun k => by
      by_cases hk : k < len0
      · obtain ⟨c, e, hc⟩ := num _ _ (hx k (by omega)).2.2.1
        exact ⟨c, fun _ => e, hc⟩
      · exact ⟨0, fun h => absurd h hk, by omega⟩
    have h1 : ∀ k, ∃ c : Nat, (k < len0 → V1 k = .int .u64 (c : Int)) ∧ c < 18446744073709551616 := fun k => by
      by_cases hk : k < len0
      · obtain ⟨c, e, hc⟩ := num _ _ (hx k (by omega)).2.2.2
        exact ⟨c, fun _ => e, hc⟩
      · exact ⟨0, fun h => absurd h hk, by omega⟩
    refine .inr ⟨a, len0, cap0, fun k => (h0 k).choose, fun k => (h1 k).choose, rfl, by omega, fun k => (h0 k).choose_spec.2, fun k => (h1 k).choose_spec.2, fun k hk => ⟨?_, ?_⟩⟩
    · rw [(hx k (by omega)).1, (h0 k).choose_spec.1 hk]
    · rw [(hx k (by omega)).2.1, (h1 k).choose_spec.1 hk]
end M
end Go.Proofs.YtlnlepadninnaaaDoor

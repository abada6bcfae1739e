/- How parameters and pairs that come in are opened: structs whose fields are whole numbers, one cell each. -/
import Derived.Test.YtdblijpoelcghaaPm
import Derived.ProofKit
import Derived.OpenShut
import Derived.ChangeOld
import Derived.Deep.Fields
namespace Go.Proofs.Ytdblijpoelcghaa
open Go.ChangeShapes Go.WideShapes Go.ChangeAt Go.RowKit Go.Deep
namespace M

theorem laidOut : laidOutB Try.prog = true := by kernel_rfl

section
variable {H : Type} {enc : TypeId × Value → H} {P : Program} {w : World} {base : Nat} {spare : Nat → Bool} {held : Bool}
/-- The fields of a struct that came in, one cell each: what each reads as. -/
def FieldsRead (enc : TypeId × Value → H) (P : Program) (w : World) (base : Nat) (spare : Nat → Bool) (held : Bool) (fs : Array Field) (cs : Array Value) : Prop :=
  ∀ (i : Nat) (f : Field), fs[i]? = some f → ∃ (c : Value) (y : DataW H × List MemPlace) (n : Nat), cs[i]? = some c ∧ DataW.trod enc P w base spare held n f.type [c] = some y
theorem open_fields {r : Reach} {b0 : Nat} {t : TypeId} {fs : Array Field} {v : Value} {d : DataW H} {p : List MemPlace} (hs : P.underlying t = some (.struct fs)) (hone : oneCellFields P fs = true) (hC : P.cellsOf t = fs.size)
    (hv : Value.okWide P w r b0 t v) (h : DataW.Trod enc P w base spare held t v d p) :
    ∃ cs : Array Value, v = .agg cs ∧ cs.size = fs.size ∧ FieldsRead enc P w base spare held fs cs := by
  obtain ⟨cs, rfl, hsz⟩ := okWide_struct hs hv
  refine ⟨cs, rfl, hsz.trans hC, fun i f hi => ?_⟩
  obtain ⟨fuel, hf⟩ := h
  obtain ⟨xs, n, _, _, _, hlen, hg⟩ := DataW.trod_struct hs hf
  obtain ⟨o, k⟩ := hone_of hone i f hi
  have hil : i < fs.size := (Array.getElem?_eq_some_iff.1 hi).1
  have hic : i < cs.size := by rw [hsz, hC]; exact hil
  have h1 := hg i f hi
  rw [o, k] at h1
  have e : ((Value.cells (.agg cs)).toList.drop i).take 1 = [cs[i]] := by
    have : (Value.cells (.agg cs)).toList = cs.toList := by simp [Value.cells]
    rw [this, List.drop_eq_getElem_cons (by simpa using hic)]
    simp
  rw [e, List.getElem?_eq_getElem (by omega)] at h1
  exact ⟨cs[i], _, n, Array.getElem?_eq_getElem hic, h1⟩
theorem int_field {k : IntKind} {fs : Array Field} {cs : Array Value} (h : FieldsRead enc P w base spare held fs cs) (i : Nat) (f : Field) (hf : fs[i]? = some f) (hu : P.underlying f.type = some (.int k)) :
    ∃ n : Int, cs[i]? = some (.int k n) ∧ k.min ≤ n ∧ n ≤ k.max := by
  obtain ⟨c, y, m, hc, ht⟩ := h i f hf
  obtain ⟨n, e, _, hw⟩ := DataW.trod_int hu ht
  have : c = .int k n := by simpa using e
  subst this
  have hb : k.min ≤ n ∧ n ≤ k.max := by simpa [Lit.wf] using hw
  exact ⟨n, hc, hb.1, hb.2⟩
end

/-- The numbers of parameters lie in their kinds. -/
structure PmOk (p : Pm) : Prop where
  b0 : p.P < 18446744073709551616
  b1 : p.Q < 18446744073709551616
  b2 : p.G < 18446744073709551616
  b3 : p.H < 18446744073709551616
  b4 : -9223372036854775808 ≤ p.Nodes ∧ p.Nodes ≤ 9223372036854775807
  b5 : -9223372036854775808 ≤ p.N ∧ p.N ≤ 9223372036854775807
  b6 : -9223372036854775808 ≤ p.T ∧ p.T ≤ 9223372036854775807
  b7 : -9223372036854775808 ≤ p.K ∧ p.K ≤ 9223372036854775807
  b8 : -9223372036854775808 ≤ p.D ∧ p.D ≤ 9223372036854775807
  b9 : -9223372036854775808 ≤ p.R ∧ p.R ≤ 9223372036854775807
  b10 : -9223372036854775808 ≤ p.M ∧ p.M ≤ 9223372036854775807
  b11 : -9223372036854775808 ≤ p.X ∧ p.X ≤ 9223372036854775807

theorem array_ext12 {cs : Array Value} (h : cs.size = 12) {v0 v1 v2 v3 v4 v5 v6 v7 v8 v9 v10 v11 : Value} (h0 : cs[0]? = some v0)  (h1 : cs[1]? = some v1)  (h2 : cs[2]? = some v2)  (h3 : cs[3]? = some v3)  (h4 : cs[4]? = some v4)  (h5 : cs[5]? = some v5)  (h6 : cs[6]? = some v6)  (h7 : cs[7]? = some v7)  (h8 : cs[8]? = some v8)  (h9 : cs[9]? = some v9)  (h10 : cs[10]? = some v10)  (h11 : cs[11]? = some v11) : cs = #[v0, v1, v2, v3, v4, v5, v6, v7, v8, v9, v10, v11] := by
  apply Array.ext_getElem?
  intro i
  match i with
  | 0 => rw [h0]; rfl
  | 1 => rw [h1]; rfl
  | 2 => rw [h2]; rfl
  | 3 => rw [h3]; rfl
  | 4 => rw [h4]; rfl
  | 5 => rw [h5]; rfl
  | 6 => rw [h6]; rfl
  | 7 => rw [h7]; rfl
  | 8 => rw [h8]; rfl
  | 9 => rw [h9]; rfl
  | 10 => rw [h10]; rfl
  | 11 => rw [h11]; rfl
  | i + 12 => rw [Array.getElem?_eq_none (by omega), Array.getElem?_eq_none (by show 12 ≤ i + 12; omega)]

theorem u64_min_max {n : Int} (h0 : IntKind.u64.min ≤ n) (h1 : n ≤ IntKind.u64.max) : 0 ≤ n ∧ n ≤ 18446744073709551615 := by
  simp [IntKind.min, IntKind.max, IntKind.signed, IntKind.bits] at h0 h1
  omega
theorem i64_min_max {n : Int} (h0 : IntKind.i64.min ≤ n) (h1 : n ≤ IntKind.i64.max) : -9223372036854775808 ≤ n ∧ n ≤ 9223372036854775807 := by
  simp [IntKind.min, IntKind.max, IntKind.signed, IntKind.bits] at h0 h1
  omega

theorem open_pm {H : Type} {enc : TypeId × Value → H} {w : World} {base : Nat} {spare : Nat → Bool} {held : Bool} {r : Reach} {b0 : Nat} {v : Value} {d : DataW H} {pl : List MemPlace}
    (hv : Value.okWide Try.prog w r b0 31 v) (h : DataW.Trod enc Try.prog w base spare held 31 v d pl) : ∃ p : Pm, v = .agg p.cells ∧ PmOk p := by
  obtain ⟨cs, rfl, hsz, hfs⟩ := open_fields Try.underlying31 (by kernel_rfl) (by kernel_rfl) hv h
  obtain ⟨n0, hc0, lo0, hi0⟩ := int_field (k := .u64) hfs 0 _ rfl Try.underlying23
  obtain ⟨n1, hc1, lo1, hi1⟩ := int_field (k := .u64) hfs 1 _ rfl Try.underlying23
  obtain ⟨n2, hc2, lo2, hi2⟩ := int_field (k := .u64) hfs 2 _ rfl Try.underlying23
  obtain ⟨n3, hc3, lo3, hi3⟩ := int_field (k := .u64) hfs 3 _ rfl Try.underlying23
  obtain ⟨n4, hc4, lo4, hi4⟩ := int_field (k := .i64) hfs 4 _ rfl Try.underlying3
  obtain ⟨n5, hc5, lo5, hi5⟩ := int_field (k := .i64) hfs 5 _ rfl Try.underlying3
  obtain ⟨n6, hc6, lo6, hi6⟩ := int_field (k := .i64) hfs 6 _ rfl Try.underlying3
  obtain ⟨n7, hc7, lo7, hi7⟩ := int_field (k := .i64) hfs 7 _ rfl Try.underlying3
  obtain ⟨n8, hc8, lo8, hi8⟩ := int_field (k := .i64) hfs 8 _ rfl Try.underlying3
  obtain ⟨n9, hc9, lo9, hi9⟩ := int_field (k := .i64) hfs 9 _ rfl Try.underlying3
  obtain ⟨n10, hc10, lo10, hi10⟩ := int_field (k := .i64) hfs 10 _ rfl Try.underlying2
  obtain ⟨n11, hc11, lo11, hi11⟩ := int_field (k := .i64) hfs 11 _ rfl Try.underlying2
  have e0 := u64_min_max lo0 hi0
  have e1 := u64_min_max lo1 hi1
  have e2 := u64_min_max lo2 hi2
  have e3 := u64_min_max lo3 hi3
  have e4 := i64_min_max lo4 hi4
  have e5 := i64_min_max lo5 hi5
  have e6 := i64_min_max lo6 hi6
  have e7 := i64_min_max lo7 hi7
  have e8 := i64_min_max lo8 hi8
  have e9 := i64_min_max lo9 hi9
  have e10 := i64_min_max lo10 hi10
  have e11 := i64_min_max lo11 hi11
  refine ⟨⟨n0.toNat, n1.toNat, n2.toNat, n3.toNat, n4, n5, n6, n7, n8, n9, n10, n11⟩, ?_, ⟨by show n0.toNat < _; omega, by show n1.toNat < _; omega, by show n2.toNat < _; omega, by show n3.toNat < _; omega, e4, e5, e6, e7, e8, e9, e10, e11⟩⟩
  congr 1
  refine array_ext12 (hsz.trans rfl) (hc0.trans (congrArg (fun z => some (Value.int .u64 z)) (Int.toNat_of_nonneg e0.1).symm)) (hc1.trans (congrArg (fun z => some (Value.int .u64 z)) (Int.toNat_of_nonneg e1.1).symm)) (hc2.trans (congrArg (fun z => some (Value.int .u64 z)) (Int.toNat_of_nonneg e2.1).symm)) (hc3.trans (congrArg (fun z => some (Value.int .u64 z)) (Int.toNat_of_nonneg e3.1).symm)) hc4 hc5 hc6 hc7 hc8 hc9 hc10 hc11
theorem array_ext2 {cs : Array Value} (h : cs.size = 2) {v0 v1 : Value} (h0 : cs[0]? = some v0) (h1 : cs[1]? = some v1) : cs = #[v0, v1] := by
  apply Array.ext_getElem?
  intro i
  match i with
  | 0 => rw [h0]; rfl
  | 1 => rw [h1]; rfl
  | i + 2 => rw [Array.getElem?_eq_none (by omega), Array.getElem?_eq_none (by show 2 ≤ i + 2; omega)]
end M
end Go.Proofs.Ytdblijpoelcghaa

/- The texts PedTwo, PedFull, one behind the other. -/
import Derived.Test.YtlnlepadninnaaaDoorKR19
import Derived.Test.YtlnlepadninnaaaDoorKR15
import Derived.Test.YtlnlepadninnaaaDoorKR22
/- The polynomials of two that the statements of layer 8 make out of numbers. -/
namespace Go.Proofs.YtlnlepadninnaaaDoor
open Go Go.RowKit Go.Lib
namespace MM
/-- The number at a place: out of a row that is gone through again and again. -/
def twoZ (n : Nat) (z : Nat → Nat) (a : Nat) : Nat := if 0 < n then z (a % n) else a
theorem twoZ_lt {n a : Nat} {z : Nat → Nat} (hz : ∀ k, z k < 18446744073709551616) (ha : a < 18446744073709551616) : twoZ n z a < 18446744073709551616 := by
  unfold twoZ
  by_cases h : 0 < n
  · rw [if_pos h]; exact hz _
  · rw [if_neg h]; exact ha
end MM
namespace M
/-- A row that grows, and that nothing old has changed. -/
structure GrowB (T : TypeId) (C : Nat → Value → World → Prop) (w0 : World) (v : Value) (k : Nat) (X : World) : Prop where
  grow : Grow T w0.heap.size C v k X
  below : Below w0.heap.size w0 X
theorem GrowB.start (T : TypeId) (C : Nat → Value → World → Prop) (w0 : World) : GrowB T C w0 (.slice none 0 0) 0 w0 := ⟨Grow.start _ _ _ _, Below.refl _ _⟩
section
variable {T S : TypeId} {C : Nat → Value → World → Prop} {w0 X Y : World} {v : Value} {k : Nat}
theorem GrowB.step (h : GrowB T C w0 v k X) (hC : ∀ j u X Y, C j u X → CellsAs X Y → C j u Y) (hb : Below X.heap.size X Y) : GrowB T C w0 v k Y :=
  ⟨h.grow.as (fun j u _ hu => hC j u _ _ hu (.of_below hb)) fun _ _ _ e => CellsAs.of_below hb _ _ _ _ e, h.below.trans (hb.mono h.below.size)⟩
theorem GrowB.push {i0 : TypeInfo} {z0 : Value} {sz : Nat} (hS : Tryd.prog.underlying S = some (.slice T)) (hi : Tryd.prog.info? T = some i0) (hz : i0.zero = some z0) (h1 : i0.size = 1) (h2 : i0.bytes = sz) (hzs : z0.cells.size = 1) (hsz : sz ≤ 24)
    (h : GrowB T C w0 v k X) (hk : k ≤ 900000) (u : Value) (c : Nat) (h1u : u.oneCell' = true) (hu : C k u X) (hCs : ∀ j x X Y, C j x X → Sm T S X Y → C j x Y) :
    ∃ ao' c' Y, (Builtin.append_ #[S, S] S #[v, .slice (some ⟨X.heap.size, 0, none⟩) 1 c]).run Tryd.prog (X.alloc (.cells #[u] T)) = .ok (.slice ao' (k + 1) c') Y ∧ GrowB T C w0 (.slice ao' (k + 1) c') (k + 1) Y := by
  obtain ⟨v', Y, hr, hg, _, _, hn, hl, e1, e2, e3⟩ := h.grow.more hS hi hz h1 h2 hzs hsz h.below.size hk u c h1u hu (fun j x Y hx hs => hCs j x _ Y hx hs)
  obtain ⟨ao', c', rfl⟩ := hg.slice
  exact ⟨ao', c', Y, hr, hg, h.below.trans ⟨e1, e2, e3, hn, fun j hj => hl j hj⟩⟩
end
theorem add_wrap {a : Nat} (h : a ≤ 1000000) : IntKind.i64.wrap ((a : Int) + 1) = (a : Int) + 1 := IntWalk.i64_in _ (by omega)
section
attribute [-go_sem] Builtin.append_
set_option maxRecDepth 100000 in
set_option maxHeartbeats 8000000 in
theorem two_any (p : Pm) (t S : Nat) (ht : p.T + 1 = (t : Int)) (ht3 : t ≤ 10) (hS : p.K.toNat * (p.D.toNat + 1) = S) (hS3 : S ≤ 100) (hK : 0 ≤ p.K ∧ p.K ≤ 1000) (hD : 0 ≤ p.D ∧ p.D ≤ 1000) (ao : Option Addr) (n cap : Nat) (z : Nat → Nat) (hn : n ≤ 9223372036854775807) (W : World) (hr : Rd W ao n z) :
    Calls Tryd.prog 9 #[.agg p.cells, .slice ao n cap] W fun e w' => ∃ v, e = .returned v ∧ CubC W.heap.size w' v S (fun _ => t) (fun _ _ => t) (fun s i j => MM.twoZ n z ((s * t + i) * t + j)) ∧ Below W.heap.size W w' := by
  have hx1 := PBox.new W p
  have hb1 := below_box W (.cells p.cells 24)
  obtain ⟨g, hg⟩ : ∃ g, W.heap.size = g := ⟨_, rfl⟩
  obtain ⟨W1, hW1⟩ : ∃ W1, W.alloc (.cells p.cells 24) = W1 := ⟨_, rfl⟩
  rw [hW1] at hb1 hx1
  rw [hg] at hx1
  have HB := Lib.hid hb1
  have HX := Lib.hid hx1
  have HR := Lib.hid hr
  have HSE := secrets8_any p hK hD
  rw [hS] at HSE
  obtain ⟨C3, hC3⟩ : ∃ C : Nat → Nat → Nat → Value → World → Prop, C = fun s i j u _ => u = .int .u64 ((MM.twoZ n z ((s * t + i) * t + j) : Nat) : Int) := ⟨_, rfl⟩
  obtain ⟨C2, hC2⟩ : ∃ C : Nat → Nat → Value → World → Prop, C = fun s i u X => RowC W.heap.size X u t (fun j => MM.twoZ n z ((s * t + i) * t + j)) := ⟨_, rfl⟩
  obtain ⟨C1, hC1⟩ : ∃ C : Nat → Value → World → Prop, C = fun s u X => MatC W.heap.size X u t (fun _ => t) (fun i j => MM.twoZ n z ((s * t + i) * t + j)) := ⟨_, rfl⟩
  have k3 : ∀ s i, ∀ j u X Y, C3 s i j u X → Sm 22 25 X Y → C3 s i j u Y := fun s i j u X Y h _ => by rw [hC3] at h ⊢; exact h
  have k2 : ∀ s, ∀ i u X Y, C2 s i u X → Sm 25 31 X Y → C2 s i u Y := fun s i u X Y h hs => by rw [hC2] at h ⊢; exact h.same fun _ _ e => hs _ _ _ _ (by decide) (by decide) e
  have k1 : ∀ s u X Y, C1 s u X → Sm 31 28 X Y → C1 s u Y := fun s u X Y h hs => by rw [hC1] at h ⊢; exact h.same fun _ _ t ht e => hs _ _ _ _ (by rcases ht with rfl | rfl <;> decide) (by rcases ht with rfl | rfl <;> decide) e
  have HC3 := Lib.hid hC3
  have HC2 := Lib.hid hC2
  have HC1 := Lib.hid hC1
  have K1 := Lib.hid k1
  have K2 := Lib.hid k2
  have K3 := Lib.hid k3
  have hT9 : ∀ j : Nat, ((j : Int) ≤ p.T) = (j < t) := fun j => by apply propext; constructor <;> intro h <;> omega
  have HT9 := Lib.hid hT9
  have HTT := Lib.hid ht
  clear hr hC1 hC2 hC3 k1 k2 k3 hb1 hx1 hK hD hS hT9 ht
  go_enter Tryd.func9, Tryd.ntmps9
  go_wp2_with fail
  clear hW1 hg
  go_loopw [5, 6, 7] (fun s5 s6 s7 wx => ∃ s : Nat, s ≤ S ∧ s7 = .int .i64 (s : Int) ∧ s6 = .int .i64 ((s * t * t : Nat) : Int) ∧ Hid (GrowB 31 C1 W1 s5 s wx)) (fun _ _ s7 _ => S - (RowKit.intOf s7).toNat)
  case atStart => exact ⟨0, Nat.zero_le _, rfl, by simp, Lib.hid (GrowB.start _ _ _)⟩
  case round =>
    obtain ⟨s, hs, rfl, rfl, HG1⟩ := hrel
    have hbx := HX.out.below HG1.out.below
    have HBX := Lib.hid hbx
    by_cases hlt : s < S
    · have hs1 : (s : Int) < (S : Int) := by omega
      go_wp2_with (first | (refine wpList_row_if ?_ 24 _ rfl g rfl 24 p.cells (0, 0) _ HBX.out Tryd.underlying24 rfl (by kernel_rfl) ?_; first | rfl | (simp [Region.wanted, yielded]; done)) | (go_at_call 28; (with_reducible refine (HSE.at _).mono ?_); rintro e w' ⟨rfl, hb⟩; have HG2 := Lib.hid (HG1.out.step (fun j u X Y h hc => K1.out j u X Y h (.of_as hc)) hb); have HB2 := Lib.hid (hbx.below hb); clear hb))
      clear hs1 hbx HBX HG1
      generalize w' = ws at *
      go_loopw [6, 8, 9] (fun s6 s8 s9 wx => ∃ i : Nat, i ≤ t ∧ s9 = .int .i64 (i : Int) ∧ s6 = .int .i64 (((s * t + i) * t : Nat) : Int) ∧ Hid (GrowB 25 (C2 s) ws s8 i wx)) (fun _ _ s9 _ => t - (RowKit.intOf s9).toNat)
      case atStart => exact ⟨0, Nat.zero_le _, rfl, by simp, Lib.hid (GrowB.start _ _ _)⟩
      case round =>
        obtain ⟨i, hi, rfl, rfl, HH1⟩ := hrel
        generalize wr = wm at *
        have q6 := (HB2.out.below HH1.out.below).cell 6
        rw [show p.cells[6]? = some (.int .i64 p.T) from rfl] at q6
        by_cases hli : i < t
        · have hle : (i : Int) ≤ p.T := by rw [HT9.out]; exact hli
          go_wp2_with fail
          clear hle q6
          go_loopw [6, 10, 11] (fun s6 s10 s11 wx => ∃ j : Nat, j ≤ t ∧ s11 = .int .i64 (j : Int) ∧ s6 = .int .i64 (((s * t + i) * t + j : Nat) : Int) ∧ Hid (GrowB 22 (C3 s i) wm s10 j wx)) (fun _ _ s11 _ => t - (RowKit.intOf s11).toNat)
          case atStart => exact ⟨0, Nat.zero_le _, rfl, by simp, Lib.hid (GrowB.start _ _ _)⟩
          case round =>
            obtain ⟨j, hj, rfl, rfl, HI1⟩ := hrel
            have q6 := ((HB2.out.below HH1.out.below).below HI1.out.below).cell 6
            rw [show p.cells[6]? = some (.int .i64 p.T) from rfl] at q6
            by_cases hlj : j < t
            · have hle : (j : Int) ≤ p.T := by rw [HT9.out]; exact hlj
              have ha9 : (s * t + i) * t + j ≤ 100000 := by
                have h1 : s * t ≤ 100 * 10 := Nat.mul_le_mul (by omega) ht3
                have h2 : (s * t + i) * t ≤ (100 * 10 + 10) * 10 := Nat.mul_le_mul (by omega) ht3
                omega
              obtain ⟨i0, hi0, hz0, hz1, hz2⟩ := info_parts info_u64
              obtain ⟨ao', c', Y, hrun, hg⟩ := HI1.out.push (S := 25) Tryd.underlying25 hi0 hz0 hz1 hz2 rfl (by decide) (by omega) (.int .u64 ((MM.twoZ n z ((s * t + i) * t + j) : Nat) : Int)) 1 rfl (by rw [HC3.out]) (K3.out s i)
              have HG3 := Lib.hid hg
              obtain ⟨ao1, c1, rfl⟩ := HI1.out.grow.slice
              have hb2 := HB.out.trans (HG2.out.below.mono HB.out.size)
              have hb3 := hb2.trans (HH1.out.below.mono hb2.size)
              have hb4 : Below W.heap.size W wr := hb3.trans (HI1.out.below.mono hb3.size)
              have HRW := Lib.hid (HR.out.below hb4)
              clear hb2 hb3 hb4 hg HI1
              have hj2 : ((s * t + i) * t + (j + 1) : Nat) = (s * t + i) * t + j + 1 := rfl
              rw [hj2] at *
              have HAE := Lib.hid (rfl : (s * t + i) * t + j = (s * t + i) * t + j)
              by_cases hn0 : 0 < n
              · have htz : MM.twoZ n z ((s * t + i) * t + j) = z (((s * t + i) * t + j) % n) := if_pos hn0
                have hmod := Nat.mod_lt ((s * t + i) * t + j) hn0
                obtain ⟨ad, rfl, hcz⟩ := HRW.out.at_ hmod
                rw [htz] at hrun
                have HNX : Hid (GrowB 22 (C3 s i) wm (.slice ao' (j + 1) c') (j + 1) Y) := HG3
                clear htz HG3
                generalize z (((s * t + i) * t + j) % n) = x9 at *
                have htm : Int.tmod (((s * t + i) * t + j : Nat) : Int) (n : Int) = ((((s * t + i) * t + j) % n : Nat) : Int) := by rw [Int.tmod_eq_emod_of_nonneg (Int.natCast_nonneg _)]; rfl
                generalize ((s * t + i) * t + j) % n = md at *
                have hm0 : (0 : Int) ≤ (md : Int) := Int.natCast_nonneg _
                have hm1 : (md : Int) < (n : Int) := by omega
                have hnI : (0 : Int) < (n : Int) := by omega
                have hnn : (n : Int) ≠ 0 := by omega
                have hnN : n ≠ 0 := by omega
                obtain ⟨aa, hae⟩ : ∃ aa, (s * t + i) * t + j = aa := ⟨_, rfl⟩
                have HEA := Lib.hid hae
                rw [hae] at ha9 htm ⊢
                have hw1 : IntKind.u64.wrap (aa : Int) = (aa : Int) := wrapN _ (by omega)
                have hw2 := add_wrap (a := aa) (by omega)
                clear hae
                go_wp2_with fail
                go_roundw
                case rel => exact ⟨j + 1, by omega, by go_num, by rw [← HEA.out]; rfl, HNX⟩
                case measure => simp [RowKit.intOf]; omega
              · have htz : MM.twoZ n z ((s * t + i) * t + j) = (s * t + i) * t + j := if_neg hn0
                obtain rfl : n = 0 := by omega
                rw [htz] at hrun
                have HNX : Hid (GrowB 22 (C3 s i) wm (.slice ao' (j + 1) c') (j + 1) Y) := HG3
                clear htz HG3
                obtain ⟨aa, hae⟩ : ∃ aa, (s * t + i) * t + j = aa := ⟨_, rfl⟩
                have HEA := Lib.hid hae
                rw [hae] at ha9 hrun ⊢
                have hw1 : IntKind.u64.wrap (aa : Int) = (aa : Int) := wrapN _ (by omega)
                have hw2 := add_wrap (a := aa) (by omega)
                clear hae
                go_wp2_with fail
                go_roundw
                case rel => exact ⟨j + 1, by omega, by go_num, by rw [← HEA.out]; rfl, HNX⟩
                case measure => simp [RowKit.intOf]; omega
            · have hle : ¬ (j : Int) ≤ p.T := by rw [HT9.out]; exact hlj
              obtain rfl : j = t := by omega
              have hb2 := HB.out.trans (HG2.out.below.mono HB.out.size)
              have hb3 := hb2.trans (HH1.out.below.mono hb2.size)
              have hH2 := HH1.out.step (fun a u X Y h hc => K2.out s a u X Y h (.of_as hc)) HI1.out.below
              have hrow : RowC W.heap.size wr u10 j (fun b => MM.twoZ n z ((s * j + i) * j + b)) := by
                rcases HI1.out.grow.block with h | ⟨b, c, cs, h0, h1, h2, h3⟩
                · exact .inl h
                · refine .inr ⟨b, c, cs, h0, Nat.le_trans hb3.size h1, h2, fun a ha => ?_⟩
                  obtain ⟨u, a1, a2⟩ := h3 a ha
                  rw [HC3.out] at a2
                  rw [a1, a2]
              obtain ⟨ao1, c1, rfl⟩ := HI1.out.grow.slice
              obtain ⟨ao2, c2, rfl⟩ := HH1.out.grow.slice
              obtain ⟨i0, hi0, hz0, hz1, hz2⟩ := info_parts info_rows
              obtain ⟨ao', c', Y, hrun, hg⟩ := hH2.push (S := 31) Tryd.underlying31 hi0 hz0 hz1 hz2 rfl (by decide) (by omega) (.slice ao1 j c1) 1 rfl (by rw [HC2.out]; exact hrow) (K2.out s)
              have HNX := Lib.hid hg
              have HEA : Hid ((s * j + (i + 1)) * j = (s * j + i) * j + j) := Lib.hid (by rw [← Nat.add_assoc, Nat.add_mul (s * j + i) 1 j, Nat.one_mul])
              clear hg hH2 hrow hb2 hb3
              have hw2 := add_wrap (a := i) (by omega)
              go_wp2_with fail
              go_roundw
              case rel => exact ⟨i + 1, by omega, by go_num, by rw [HEA.out], HNX⟩
              case measure => simp [RowKit.intOf]; omega
        · have hle : ¬ (i : Int) ≤ p.T := by rw [HT9.out]; exact hli
          obtain rfl : i = t := by omega
          have hb2 := HB.out.trans (HG2.out.below.mono HB.out.size)
          have hG3 := HG2.out.step (fun a u X Y h hc => K1.out a u X Y h (.of_as hc)) HH1.out.below
          have hmat : MatC W.heap.size wm u8 i (fun _ => i) (fun a b => MM.twoZ n z ((s * i + a) * i + b)) := by
            rcases HH1.out.grow.block with h | ⟨b, c, cs, h0, h1, h2, h3⟩
            · exact .inl h
            · refine .inr ⟨b, c, cs, h0, Nat.le_trans hb2.size h1, h2, fun a ha => ?_⟩
              obtain ⟨u, a1, a2⟩ := h3 a ha
              rw [HC2.out] at a2
              exact ⟨u, a1, a2⟩
          obtain ⟨ao1, c1, rfl⟩ := HH1.out.grow.slice
          obtain ⟨ao2, c2, rfl⟩ := HG2.out.grow.slice
          obtain ⟨i0, hi0, hz0, hz1, hz2⟩ := info_parts info_cubs
          obtain ⟨ao', c', Y, hrun, hg⟩ := hG3.push (S := 28) Tryd.underlying28 hi0 hz0 hz1 hz2 rfl (by decide) (by omega) (.slice ao1 i c1) 1 rfl (by rw [HC1.out]; exact hmat) K1.out
          have HNX := Lib.hid hg
          have HEA : Hid ((s + 1) * i * i = (s * i + i) * i) := Lib.hid (by rw [Nat.add_mul s 1 i, Nat.one_mul])
          clear hg hG3 hmat hb2
          have hw2 := add_wrap (a := s) (by omega)
          go_wp2_with fail
          go_roundw
          case rel => exact ⟨s + 1, by omega, by go_num, by rw [HEA.out], HNX⟩
          case measure => simp [RowKit.intOf]; omega
    · obtain rfl : s = S := by omega
      have hs1 : ¬ (s : Int) < (s : Int) := by omega
      go_wp2_with (first | (refine wpList_row_if ?_ 24 _ rfl g rfl 24 p.cells (0, 0) _ HBX.out Tryd.underlying24 rfl (by kernel_rfl) ?_; first | rfl | (simp [Region.wanted, yielded]; done)) | (go_at_call 28; (with_reducible refine (HSE.at _).mono ?_); rintro e w' ⟨rfl, hb⟩; have HG2 := Lib.hid (HG1.out.step (fun j u X Y h hc => K1.out j u X Y h (.of_as hc)) hb); clear hb))
      go_ret
      refine ⟨_, rfl, ?_, HB.out.trans (HG2.out.below.mono HB.out.size)⟩
      rcases HG2.out.grow.block with h | ⟨b, c, cs, h0, h1, h2, h3⟩
      · exact .inl h
      · refine .inr ⟨b, c, cs, h0, Nat.le_trans HB.out.size h1, h2, fun i hi => ?_⟩
        obtain ⟨u, a1, a2⟩ := h3 i hi
        rw [HC1.out] at a2
        exact ⟨u, a1, a2⟩
end
end M
end Go.Proofs.YtlnlepadninnaaaDoor
/- What package pedersen's calls answer where all lists have as many numbers as there are lists: commitments to what was committed to. -/
namespace Go.Proofs.YtlnlepadninnaaaDoor
open Go Go.RowKit Go.Lib
namespace M
/-- Lists of t lists of t numbers, S of them. -/
def CubT (w : World) (v : Value) (S t : Nat) (A : Nat → Nat → Nat → Nat) : Prop := ∃ ao c, v = .slice ao S c ∧ Cub w ao S (fun _ => t) (fun _ _ => t) A
def MatT (w : World) (v : Value) (S t : Nat) (A : Nat → Nat → Nat) : Prop := ∃ ao c, v = .slice ao S c ∧ Mat w ao S (fun _ => t) A
theorem CubT.below {w w' : World} {v : Value} {S t : Nat} {A : Nat → Nat → Nat → Nat} (h : CubT w v S t A) (hb : Below w.heap.size w w') : CubT w' v S t A := let ⟨ao, c, e, h1⟩ := h; ⟨ao, c, e, h1.below hb⟩
theorem MatT.below {w w' : World} {v : Value} {S t : Nat} {A : Nat → Nat → Nat} (h : MatT w v S t A) (hb : Below w.heap.size w w') : MatT w' v S t A := let ⟨ao, c, e, h1⟩ := h; ⟨ao, c, e, h1.below hb⟩
theorem max_self' (n : Nat) : max n n = n := by omega
theorem max_zero' (n : Nat) : max n 0 = n := by omega
section
variable (p : Pm) (hG : p.G < 18446744073709551616) (hH : p.H < 18446744073709551616)
include hG hH
theorem matrix_two {S t ca cb : Nat} {ao bo : Option Addr} {A B : Nat → Nat → Nat → Nat} (hA : ∀ i j k, A i j k < 18446744073709551616) (hB : ∀ i j k, B i j k < 18446744073709551616) (hS : S ≤ 1000) (ht : t ≤ 1000) {w : World} (ha : Cub w ao S (fun _ => t) (fun _ _ => t) A) (hb : Cub w bo S (fun _ => t) (fun _ _ => t) B) :
    Calls Tryd.prog 10 #[.agg p.cells, .slice ao S ca, .slice bo S cb] w fun e w' => ∃ v, e = .returned v ∧ CubT w' v S t (fun s i j => MM.comU p.P p.G p.H (A s i j) (B s i j)) ∧ Below w.heap.size w w' := by
  refine (matrix_any p hG hH ao bo S ca S cb _ _ _ _ _ _ hA hB (fun _ _ => ht) (fun _ _ => ht) (fun _ _ => ht) (fun _ _ => ht) hS hS w ha hb).mono ?_
  rintro e w' ⟨v, rfl, ⟨hv, _⟩, hb'⟩
  obtain ⟨mo, c, rfl, hm, _⟩ := hv.cub
  rw [max_self'] at hm
  refine ⟨_, rfl, ⟨mo, c, by rw [max_self'], hm.congr (fun i hi => ?_) (fun i hi j hj => ?_) (fun i hi j hj k hk => ?_)⟩, hb'⟩
  · simp only [getU_in hi, max_self']
  · simp only [getU_in hi, max_self'] at hj ⊢
    simp only [getU_in hj]
  · simp only [getU_in hi, max_self'] at hj hk ⊢
    simp only [getU_in hj] at hk ⊢
    simp only [getU_in hk]
theorem matrix_one {S t ca : Nat} {ao : Option Addr} {A : Nat → Nat → Nat → Nat} (hA : ∀ i j k, A i j k < 18446744073709551616) (hS : S ≤ 1000) (ht : t ≤ 1000) {w : World} (ha : Cub w ao S (fun _ => t) (fun _ _ => t) A) :
    Calls Tryd.prog 10 #[.agg p.cells, .slice ao S ca, .slice none 0 0] w fun e w' => ∃ v, e = .returned v ∧ CubT w' v S t (fun s i j => MM.comU p.P p.G p.H (A s i j) 0) ∧ Below w.heap.size w w' := by
  refine (matrix_any p hG hH ao none S ca 0 0 (fun _ => t) (fun _ => 0) (fun _ _ => t) (fun _ _ => 0) A (fun _ _ _ => 0) hA (fun _ _ _ => by show (0 : Nat) < _; omega) (fun _ _ => ht) (fun _ _ => Nat.zero_le _) (fun _ _ => ht) (fun _ _ => Nat.zero_le _) hS (Nat.zero_le _) w ha (fun _ h => absurd h (by omega))).mono ?_
  rintro e w' ⟨v, rfl, ⟨hv, _⟩, hb'⟩
  obtain ⟨mo, c, rfl, hm, _⟩ := hv.cub
  rw [max_zero'] at hm
  have h0 : ∀ i (z : Nat → Nat), getU 0 z i = 0 := fun i z => getU_out (by omega)
  refine ⟨_, rfl, ⟨mo, c, by rw [max_zero'], hm.congr (fun i hi => ?_) (fun i hi j hj => ?_) (fun i hi j hj k hk => ?_)⟩, hb'⟩
  · simp only [getU_in hi, h0, max_zero']
  · simp only [getU_in hi, h0, max_zero'] at hj ⊢
    simp only [getU_in hj]
  · simp only [getU_in hi, h0, max_zero'] at hj hk ⊢
    simp only [getU_in hj] at hk ⊢
    simp only [getU_in hk]
theorem coms_two {S t ca cb : Nat} {ao bo : Option Addr} {A B : Nat → Nat → Nat} (hA : ∀ i j, A i j < 18446744073709551616) (hB : ∀ i j, B i j < 18446744073709551616) (hS : S ≤ 1000) (ht : t ≤ 1000) {w : World} (ha : Mat w ao S (fun _ => t) A) (hb : Mat w bo S (fun _ => t) B) :
    Calls Tryd.prog 16 #[.agg p.cells, .slice ao S ca, .slice bo S cb] w fun e w' => ∃ v, e = .returned v ∧ MatT w' v S t (fun s i => MM.comU p.P p.G p.H (A s i) (B s i)) ∧ Below w.heap.size w w' := by
  refine (coms_any p hG hH ao bo S ca S cb _ _ _ _ hA hB (fun _ _ => ht) (fun _ _ => ht) hS hS w ha hb).mono ?_
  rintro e w' ⟨v, rfl, ⟨hv, _⟩, hb'⟩
  obtain ⟨mo, c, rfl, hm, _⟩ := hv.matV
  rw [max_self'] at hm
  refine ⟨_, rfl, ⟨mo, c, by rw [max_self'], hm.congr (fun i hi => ?_) (fun i hi j hj => ?_)⟩, hb'⟩
  · simp only [getU_in hi, max_self']
  · simp only [getU_in hi, max_self'] at hj ⊢
    simp only [getU_in hj]
end
section
variable {p : Pm} (g : MM.Grp p.P p.Q p.G p.H)
include g
theorem rowComs_two {S t ca x : Nat} {ao : Option Addr} {F A B : Nat → Nat → Nat → Nat} (hF : ∀ s i j, F s i j < 18446744073709551616) (hS : S ≤ 1000) (ht : t ≤ 1000) (ht0 : 0 < t) (hx : x < 18446744073709551616) (hC : ∀ s i j, F s i j = MM.comU p.P p.G p.H (A s i j) (B s i j)) {w : World} (ha : Cub w ao S (fun _ => t) (fun _ _ => t) F) :
    Calls Tryd.prog 15 #[.agg p.cells, .slice ao S ca, .int .u64 (x : Int)] w fun e w' => ∃ v, e = .returned v ∧ MatT w' v S t (fun s j => MM.comU p.P p.G p.H (MM.rowP p.Q x (fun _ => t) (A s) j t) (MM.rowP p.Q x (fun _ => t) (B s) j t)) ∧ Below w.heap.size w w' := by
  refine (rowComs_any p ao S ca x _ _ _ hS (fun _ _ => ht) (fun _ _ _ _ => ht) hF hx w ha).mono ?_
  rintro e w' ⟨v, rfl, hv, hb'⟩
  obtain ⟨mo, c, rfl, hm, _⟩ := hv.matV
  refine ⟨_, rfl, ⟨mo, c, rfl, hm.congr (fun i hi => MM.widU_same t t ht0) (fun s hs j hj => g.rowCom x (fun _ => t) (A s) (B s) (F s) j t fun i _ _ => hC s i j)⟩, hb'⟩
theorem colComs_two {S t ca x : Nat} {ao : Option Addr} {F A B : Nat → Nat → Nat → Nat} (hF : ∀ s i j, F s i j < 18446744073709551616) (hS : S ≤ 1000) (ht : t ≤ 1000) (hx : x < 18446744073709551616) (hC : ∀ s i j, F s i j = MM.comU p.P p.G p.H (A s i j) (B s i j)) {w : World} (ha : Cub w ao S (fun _ => t) (fun _ _ => t) F) :
    Calls Tryd.prog 17 #[.agg p.cells, .slice ao S ca, .int .u64 (x : Int)] w fun e w' => ∃ v, e = .returned v ∧ MatT w' v S t (fun s i => MM.comU p.P p.G p.H (MM.colP p.Q x (fun _ => t) (A s) i) (MM.colP p.Q x (fun _ => t) (B s) i)) ∧ Below w.heap.size w w' := by
  refine (colComs_any p ao S ca x _ _ _ hS (fun _ _ => ht) (fun _ _ _ _ => ht) hF hx w ha).mono ?_
  rintro e w' ⟨v, rfl, hv, hb'⟩
  obtain ⟨mo, c, rfl, hm, _⟩ := hv.matV
  exact ⟨_, rfl, ⟨mo, c, rfl, hm.congr (fun i hi => rfl) (fun s hs j hj => g.atCom x (A s j) (B s j) (F s j) t fun i _ => hC s j i)⟩, hb'⟩
theorem share_two {S t ca x : Nat} {ao : Option Addr} {F A B : Nat → Nat → Nat} (hF : ∀ s i, F s i < 18446744073709551616) (hS : S ≤ 1000) (ht : t ≤ 1000) (hx : x < 18446744073709551616) (hC : ∀ s i, F s i = MM.comU p.P p.G p.H (A s i) (B s i)) {w : World} (ha : Mat w ao S (fun _ => t) F) :
    Calls Tryd.prog 19 #[.agg p.cells, .slice ao S ca, .int .u64 (x : Int)] w fun e w' => ∃ b, e = .returned (.slice (some ⟨b, 0, none⟩) S S) ∧ Row w' ⟨b, 0, none⟩ S (fun s => MM.comU p.P p.G p.H (MM.evalU (A s) x p.Q t) (MM.evalU (B s) x p.Q t)) ∧ Below w.heap.size w w' := by
  refine (share_any p ao S ca x _ _ hS (fun _ _ => ht) hF hx w ha).mono ?_
  rintro e w' ⟨b, rfl, hm⟩
  exact ⟨b, rfl, fun s hs => by rw [hm.row s hs]; simp only [g.atCom x (A s) (B s) (F s) t fun i _ => hC s i], hm.below⟩
end
end M
end Go.Proofs.YtlnlepadninnaaaDoor

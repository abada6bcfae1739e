/- BivarThrough: for all places, all rows of lists of numbers and every q the polynomial of two through rows, or how it is refused, is the document's; what was handed in stands, and what is told may be written over. -/
import Derived.Test.YtccpdjjgpkkkbaaRows
import Derived.Test.YtccpdjjgpkkkbaaOpenN
import Derived.Test.YtccpdjjgpkkkbaaBivA
import Derived.Test.YtccpdjjgpkkkbaaBivR3
namespace Go.Proofs.Ytccpdjjgpkkkbaa
open Go.ChangeShapes Go.WideShapes Go.ChangeAt Go.RowKit
namespace BivarThrough
open M

set_option maxRecDepth 100000 in
set_option maxHeartbeats 8000000 in
theorem core (xo ro : Option Addr) (n m cx cr q : Nat) (z : Nat → Nat) (L : Nat → Nat) (F : Nat → Nat → Nat) (hz : ∀ k, z k < 18446744073709551616) (hF : ∀ i j, F i j < 18446744073709551616) (hn : n ≤ 12) (hm : m ≤ 20) (hw : MM.widU L m ≤ 20) (W : World) (hr : SrcN W xo n cx z) (hs : Mat W ro m L F) :
    Calls Try.prog 5 #[.slice xo n cx, .slice ro m cr, .int .u64 (q : Int)] W fun e w' => e = .returned (.bool true) ∧ Below W.heap.size W w' := by
  have hL : ∀ i, i < m → L i ≤ 1000 := fun i hi => Nat.le_trans (MM.le_widU hi) (by omega)
  have hb1 := below_box W (.cells #[.slice ro m cr] 24)
  have HLA := Lib.hid (large_no ro cr m W.heap.size L F hm hw (W.alloc (.cells #[.slice ro m cr] 24)) (by rw [cell_of_row _ _ _ _ _ _ (heap_alloc_new W _)]; rfl) (hs.below hb1))
  have HOW := Lib.hid (own_any ro cr m L F (by omega) hL (W.alloc (.cells #[.slice ro m cr] 24)) (hs.below hb1))
  have HX := Lib.hid hr
  have HR := Lib.hid hs
  have HB1 := Lib.hid hb1
  have HL := Lib.hid hL
  have HF := Lib.hid hF
  have HZ := Lib.hid hz
  have hnI : ¬ (12 : Int) < (n : Int) := by omega
  have hN : MM.widU L m ≤ 1000 := by omega
  clear hr hs hb1 hL hF hz hw
  go_enter Try.func5, Try.ntmps5
  go_wp2_with fail
  refine HLA.out.mono ?_
  rintro e w1 ⟨rfl, rfl⟩
  go_wp2_with fail
  refine HOW.out.mono ?_
  rintro e W2 ⟨v, rfl, ho⟩
  have hB2 := HB1.out.trans (ho.below.mono HB1.out.size)
  obtain ⟨io, ic, rfl, hi, _⟩ := ho.mat
  have ho0 := Own.made0' W2 z
  have hx2 := (HX.out.below hB2).below (below_box W2 (.cells #[] 22))
  obtain ⟨va, W3, hra, hoa⟩ := ho0.copy (by omega) hx2
  obtain ⟨ao, ac, rfl, has, _⟩ := hoa.src
  have hB3 := hB2.trans (hoa.below.mono hB2.size)
  have HB3 := Lib.hid hB3
  have HI := Lib.hid (hi.below hoa.below)
  have HA := Lib.hid has
  have HX3 := Lib.hid ((HX.out.below hB3).1)
  have HR3 := Lib.hid (HR.out.below hB3)
  clear hi ho hB2 HLA HOW HR HX HB1 ho0 hx2 hoa has hB3
  go_upto_region 5 with (at_builtin; refine Lib.wpList_append_run _ rfl _ _ _ _ rfl _ _ rfl rfl _ _ hra ?_)
  clear hra
  have hT := rbt_any xo ro n m cx cr q z L F HZ.out hn (by omega) HL.out W3 HX3.out HR3.out
  by_cases h0 : MM.thruC q n m z = 0
  · have hnm : n = m := by
      unfold MM.thruC at h0
      by_cases e : n = m
      · exact e
      · rw [if_pos e] at h0; omega
    subst hnm
    have HC0 := Lib.hid h0
    go_upto_region 6 with (go_at_call 19; refine hT.mono ?_; rintro e W4 (⟨hc, _⟩ | ⟨_, v4, B4, rfl, ho4⟩); (exact absurd HC0.out hc); obtain ⟨wo4, wc4, rfl, hm4, _⟩ := ho4.mat; have HB4 := Lib.hid ho4.below; have HM4 := Lib.hid hm4; clear ho4 hm4)
    have HI4 := Lib.hid (HI.out.below HB4.out)
    have HA4 := Lib.hid (HA.out.below HB4.out)
    have HX4 := Lib.hid (HX3.out.below HB4.out)
    have HR4 := Lib.hid (HR3.out.below HB4.out)
    have HB04 := Lib.hid (HB3.out.trans (HB4.out.mono HB3.out.size))
    clear HI HA HX3 HR3 HB3 HB4 hT h0
    obtain ⟨N, hNN⟩ : ∃ N, MM.widU L n = N := ⟨_, rfl⟩
    rw [hNN] at HM4 hN
    have HNN := Lib.hid hNN
    clear hNN
    have HJ0 : Hid (Below W4.heap.size W4 W4) := Lib.hid (Below.refl _ _)
    go_wp2_with fail
    go_loopw [11] (fun s11 wx => ∃ r : Nat, r ≤ 2 ∧ s11 = .int .i64 (r : Int) ∧ Hid (Below W4.heap.size W4 wx)) (fun s11 _ => 2 - (RowKit.intOf s11).toNat)
    case atStart => exact ⟨0, by omega, rfl, HJ0⟩
    case round =>
      clear HJ0
      obtain ⟨r, hr2, rfl, HJ⟩ := hrel
      obtain ⟨wo, hwo⟩ : ∃ wo : World, wo = wr := ⟨_, rfl⟩
      subst hwo
      by_cases hlt : r < 2
      · have p1 : (r : Int) < 2 := by omega
        have hb := bthrough_ok ao io n ac ic q z L F HZ.out HF.out hn HL.out HC0.out wo (HA4.out.below HJ.out) (HI4.out.below HJ.out)
        rw [HNN.out] at hb
        go_wp2_with fail
        refine hb.mono ?_
        rintro e w1 ⟨G, bx, R, rfl, hg⟩
        have HG1 := Lib.hid hg
        have HJ1 := HJ.out.trans (hg.below.mono HJ.out.size)
        have HPL := Lib.hid (rpolys_yes (some ⟨G, 0, none⟩) wo4 n n wc4 (fun _ => N) _ (by omega) (fun _ _ => hN) w1 hg.mat (HM4.out.below HJ1))
        clear hg hb HJ1
        have d0 : ((0 : Int) != 0) = false := rfl
        go_wp2_with fail
        refine HPL.out.mono ?_
        rintro e w2 ⟨rfl, d2, rfl⟩
        have HK : Hid (∃ A, GridK wo G bx n N n R A (w1.drewN d2)) := Lib.hid ⟨_, HG1.out.drewN d2⟩
        generalize w1.drewN d2 = w2 at *
        clear HPL HG1 d0
        go_wp2_with fail
        go_loopw [14] (fun s14 wx => ∃ i : Nat, i ≤ n ∧ s14 = .int .i64 (i : Int) ∧ Hid (∃ A, GridK wo G bx n N n R A wx)) (fun s14 _ => n - (RowKit.intOf s14).toNat)
        case atStart => exact ⟨0, Nat.zero_le _, rfl, HK⟩
        case round =>
          clear HK
          obtain ⟨i, hi, rfl, HI⟩ := hrel
          obtain ⟨wi, hwi⟩ : ∃ wi : World, wi = wr := ⟨_, rfl⟩
          subst hwi
          by_cases hli : i < n
          · have hiI : (i : Int) < (n : Int) := by omega
            have hi0 : (0 : Int) ≤ (i : Int) := Int.natCast_nonneg _
            go_wp2_with fail
            go_loopw [15] (fun s15 wx => ∃ k : Nat, k ≤ N ∧ s15 = .int .i64 (k : Int) ∧ Hid (∃ A, GridK wo G bx n N n R A wx)) (fun s15 _ => N - (RowKit.intOf s15).toNat)
            case atStart => exact ⟨0, Nat.zero_le _, rfl, HI⟩
            case round =>
              clear HI
              obtain ⟨k, hk, rfl, HK⟩ := hrel
              obtain ⟨A, hgA⟩ := HK.out
              have hcg := hgA.cell hli
              rw [if_pos hli] at hcg
              by_cases hlk : k < N
              · have hkI : (k : Int) < (N : Int) := by omega
                have hk0 : (0 : Int) ≤ (k : Int) := Int.natCast_nonneg _
                have hcr := (hgA.rows i hli).cell hlk
                have hfr := (hgA.rows i hli).free k
                have HN : Hid (∃ A, GridK wo G bx n N n R A (wr.setCell ⟨R i, k, none⟩ (.int .u64 77))) := Lib.hid ⟨_, hgA.set (x := 77) (A' := fun a b => if a = i ∧ b = k then 77 else A a b) hli fun _ _ _ _ => rfl⟩
                clear hgA HK
                go_wp2_with fail
                go_roundw
                case rel => exact ⟨k + 1, by omega, by go_num, HN⟩
                case measure => simp [RowKit.intOf]; omega
              · have hkI : ¬ (k : Int) < (N : Int) := by omega
                obtain rfl : k = N := by omega
                clear hgA
                go_wp2_with fail
                go_roundw
                case rel => exact ⟨i + 1, by omega, by go_num, HK⟩
                case measure => simp [RowKit.intOf]; omega
          · have hiI : ¬ (i : Int) < (n : Int) := by omega
            obtain rfl : i = n := by omega
            have HE : Hid (Below W4.heap.size W4 wi) := Lib.hid (by obtain ⟨A, hgA⟩ := HI.out; exact HJ.out.trans (hgA.below.mono HJ.out.size))
            clear HI
            go_wp2_with fail
            go_roundw
            case rel => exact ⟨r + 1, by omega, by go_num, HE⟩
            case measure => simp [RowKit.intOf]; omega
      · have p1 : ¬ (r : Int) < 2 := by omega
        have HP := Lib.hid (rpolys_yes io ro n ic cr L F (by omega) HL.out wo (HI4.out.below HJ.out) (HR4.out.below HJ.out))
        go_wp2_with fail
        refine HP.out.mono ?_
        rintro e w9 ⟨rfl, d9, rfl⟩
        have hq := HJ.out.trans (below_drewN' wo d9 _)
        have HQ := Lib.hid (rnums_yes ao xo n ac cx z (by omega) (wo.drewN d9) (HA4.out.below hq) (HX4.out.below hq))
        clear hq
        go_wp2_with fail
        refine HQ.out.mono ?_
        rintro e w10 ⟨rfl, d10, rfl⟩
        go_wp2_with fail
        go_ret
        exact ⟨rfl, HB04.out.trans ((HJ.out.trans (below_drewN' wo _ _)).mono HB04.out.size)⟩
  · have HC0 := Lib.hid h0
    have hTb : Calls Try.prog 19 #[.slice xo n cx, .slice ro m cr, .int .u64 (q : Int)] W3 fun e w' => e = .returned (.tuple #[.slice none 0 0, .int .i64 (MM.thruC q n m z)]) ∧ Below W3.heap.size W3 w' := hT.mono fun e w' h => by
      rcases h with ⟨_, h1, h2⟩ | ⟨hc, _⟩
      · exact ⟨h1, h2⟩
      · exact absurd hc HC0.out
    go_upto_region 6 with (go_at_call 19; refine hTb.mono ?_; rintro e W4 ⟨rfl, hb4⟩)
    have HI4 := Lib.hid (HI.out.below hb4)
    have HA4 := Lib.hid (HA.out.below hb4)
    have HX4 := Lib.hid (HX3.out.below hb4)
    have HR4 := Lib.hid (HR3.out.below hb4)
    have HB04 := Lib.hid (HB3.out.trans (hb4.mono HB3.out.size))
    clear HI HA HX3 HR3 HB3 hb4 hT hTb h0
    have HBAD := Lib.hid (fun (u : World) (hb : Below W4.heap.size W4 u) => bthrough_bad ao io n m ac ic q z L F HZ.out HF.out hn (by omega) HC0.out u (HA4.out.below hb) (HI4.out.below hb))
    generalize MM.thruC q n m z = c at *
    have d0 : (c != c) = false := by simp
    have HJ0 : Hid (Below W4.heap.size W4 W4) := Lib.hid (Below.refl _ _)
    go_wp2_with fail
    go_loopw [11] (fun s11 wx => ∃ r : Nat, r ≤ 2 ∧ s11 = .int .i64 (r : Int) ∧ Hid (Below W4.heap.size W4 wx)) (fun s11 _ => 2 - (RowKit.intOf s11).toNat)
    case atStart => exact ⟨0, by omega, rfl, HJ0⟩
    case round =>
      clear HJ0
      obtain ⟨r, hr2, rfl, HJ⟩ := hrel
      obtain ⟨wo, hwo⟩ : ∃ wo : World, wo = wr := ⟨_, rfl⟩
      subst hwo
      by_cases hlt : r < 2
      · have p1 : (r : Int) < 2 := by omega
        go_wp2_with fail
        refine (HBAD.out wo HJ.out).mono ?_
        rintro e w1 ⟨rfl, hb1⟩
        have HJ1 := Lib.hid (HJ.out.trans (hb1.mono HJ.out.size))
        have HPL := Lib.hid (rpolys_yes none none 0 0 0 L F (by omega) (fun _ h => absurd h (by omega)) w1 (fun _ h => absurd h (by omega)) (fun _ h => absurd h (by omega)))
        clear hb1
        go_wp2_with fail
        refine HPL.out.mono ?_
        rintro e w2 ⟨rfl, d2, rfl⟩
        have HJ2 := Lib.hid (HJ1.out.trans (below_drewN' w1 d2 _))
        clear HPL HJ1
        go_wp2_with fail
        refine wp_loop_rounds 1 ?_
        rw [rounds_succ]
        go_wp2_with fail
        go_roundw
        case rel => exact ⟨r + 1, by omega, by go_num, HJ2⟩
        case measure => simp [RowKit.intOf]; omega
      · have p1 : ¬ (r : Int) < 2 := by omega
        have HP := Lib.hid (rpolys_yes io ro m ic cr L F (by omega) HL.out wo (HI4.out.below HJ.out) (HR4.out.below HJ.out))
        go_wp2_with fail
        refine HP.out.mono ?_
        rintro e w9 ⟨rfl, d9, rfl⟩
        have hq := HJ.out.trans (below_drewN' wo d9 _)
        have HQ := Lib.hid (rnums_yes ao xo n ac cx z (by omega) (wo.drewN d9) (HA4.out.below hq) (HX4.out.below hq))
        clear hq
        go_wp2_with fail
        refine HQ.out.mono ?_
        rintro e w10 ⟨rfl, d10, rfl⟩
        go_wp2_with fail
        go_ret
        exact ⟨rfl, HB04.out.trans ((HJ.out.trans (below_drewN' wo _ _)).mono HB04.out.size)⟩
set_option maxRecDepth 100000 in
set_option maxHeartbeats 2000000 in
theorem many (xo ro : Option Addr) (n m cx cr q : Nat) (hn : 12 < n) (W : World) :
    Calls Try.prog 5 #[.slice xo n cx, .slice ro m cr, .int .u64 (q : Int)] W fun e w' => e = .returned (.bool true) ∧ Below W.heap.size W w' := by
  have hnI : (12 : Int) < (n : Int) := by omega
  go_enter Try.func5, Try.ntmps5
  go_wp2_with fail
  go_ret
  exact ⟨rfl, Below.refl _ _⟩
set_option maxRecDepth 100000 in
set_option maxHeartbeats 2000000 in
theorem long (xo ro : Option Addr) (n m cx cr q : Nat) (L : Nat → Nat) (F : Nat → Nat → Nat) (hL : ∀ i, L i ≤ 9223372036854775807) (hn : n ≤ 12) (h : 20 < m ∨ (m ≤ 20 ∧ 20 < MM.widU L m)) (W : World) (hr : Mat W ro m L F) :
    Calls Try.prog 5 #[.slice xo n cx, .slice ro m cr, .int .u64 (q : Int)] W fun e w' => e = .returned (.bool true) ∧ Below W.heap.size W w' := by
  have hnI : ¬ (12 : Int) < (n : Int) := by omega
  have hb1 := below_box W (.cells #[.slice ro m cr] 24)
  have hc1 : (W.alloc (.cells #[.slice ro m cr] 24)).cell? ⟨W.heap.size, 0, none⟩ = some (.slice ro m cr) := by rw [cell_of_row _ _ _ _ _ _ (heap_alloc_new W _)]; rfl
  have HLA : Hid (Calls Try.prog 14 #[.slice (some ⟨W.heap.size, 0, none⟩) 1 1] (W.alloc (.cells #[.slice ro m cr] 24)) fun e w' => e = .returned (.bool true) ∧ (W.alloc (.cells #[.slice ro m cr] 24)) = w') := Lib.hid (by
    rcases h with h | ⟨h1, h2⟩
    · exact large_many ro cr m W.heap.size h _ hc1
    · exact large_wide ro cr m W.heap.size L F h1 hL h2 _ hc1 (hr.below hb1))
  have HB1 := Lib.hid hb1
  clear hr hb1 hc1 hL h
  go_enter Try.func5, Try.ntmps5
  go_wp2_with fail
  refine HLA.out.mono ?_
  rintro e w1 ⟨rfl, rfl⟩
  go_wp2_with fail
  go_ret
  exact ⟨rfl, HB1.out⟩
theorem nums_srcN {W : World} {v : Value} (h : NumsIn W v) : ∃ (ao : Option Addr) (n c : Nat) (z : Nat → Nat), v = .slice ao n c ∧ (∀ j, z j < 18446744073709551616) ∧ SrcN W ao n c z := by
  rcases h with rfl | ⟨a, n, c, z, rfl, _, hz, hr⟩
  · exact ⟨none, 0, 0, fun _ => 0, rfl, fun _ => Nat.zero_lt_succ _, fun h => absurd h (by omega), fun _ => ⟨rfl, rfl⟩⟩
  · exact ⟨some a, n, c, z, rfl, hz, row_rd' hr, fun h => by cases h⟩
theorem walk (v0 v1 : Value) (q : Nat) (_hq : q < 18446744073709551616) (W : World) (h0 : NumsIn W v0) (h1 : MatIn W v1) :
    Calls Try.prog 5 #[v0, v1, .int .u64 (q : Int)] W fun e w' => e = .returned (.bool true) ∧ Below W.heap.size W w' := by
  obtain ⟨xo, n, cx, z, rfl, hz, hx⟩ := nums_srcN h0
  obtain ⟨ro, m, cr, L, F, rfl, _, hL, hF, hr, _⟩ := h1
  by_cases hn : 12 < n
  · exact many xo ro n m cx cr q hn W
  · by_cases hl : 20 < m ∨ (m ≤ 20 ∧ 20 < MM.widU L m)
    · exact long xo ro n m cx cr q L F hL (by omega) hl W hr
    · exact core xo ro n m cx cr q z L F hz hF (by omega) (by omega) (by omega) W hx hr

set_option maxRecDepth 100000 in
theorem lifted (os : Os) (started : os.Started) (H : Type) (enc : TypeId × Value → H) :
    ReturnsInHanded {} Try.checked os 5 .any (Rows.bivarThroughSpec.pre6 enc Try.prog Try.f5 Rows.bivarThroughRow.domain false) (Rows.bivarThroughSpec.post enc Try.prog Try.f5 false true false false) := by
  refine returnsInHanded_of_change (C := Try.checked) M.own started (by kernel_rfl) Try.func5
    (ChangeSpec.witness6 (enc := enc) (C := Try.checked) false ⟨#[], #[.slice none 0 0, .slice none 0 0, .int .u64 0], []⟩ 8 (by kernel_rfl) (by kernel_rfl) (by kernel_rfl) (by kernel_rfl)) ?_
  intro W base args ds gs before hval0 hW _ _
  have hval : ∀ (j : Nat) t v, Try.f5.params[j]? = some t → args[j]? = some v → Value.okWide Try.prog W .any base t v := hval0
  have hW' := hW
  obtain ⟨p, q, hA0, hV, rfl, _, _⟩ := hW
  have hA : DataW.TrodAll enc Try.prog W 0 (fun _ => true) true Try.f5.params.toList args.toList ds p := hA0
  rw [Try.params5] at hA hval
  obtain ⟨v0, vs0, d0, ds0, p0, q0, hargs, rfl, rfl, h0, r0⟩ := trodAll_cons hA
  obtain ⟨v1, vs1, d1, ds1, p1, q1, rfl, rfl, rfl, h1, r1⟩ := trodAll_cons r0
  obtain ⟨v2, vs2, d2, ds2, p2, q2, rfl, rfl, rfl, h2, r2⟩ := trodAll_cons r1
  obtain ⟨rfl, rfl, rfl⟩ := trodAll_nil r2
  obtain rfl : args = #[v0, v1, v2] := by cases args; simp_all
  obtain ⟨rfl, rfl⟩ := trodVars_none hV
  have k0 := h0
  have lt0 : ∀ x ∈ p0, x.block < W.heap.size := by obtain ⟨m, hm⟩ := k0; exact DataW.trod_lt m _ _ _ hm
  have ns0 := M.open_nums (hval 0 23 v0 rfl rfl) h0
  have k1 := h1
  have lt1 : ∀ x ∈ p1, x.block < W.heap.size := by obtain ⟨m, hm⟩ := k1; exact DataW.trod_lt m _ _ _ hm
  have ns1 := M.open_rows (hval 1 24 v1 rfl rfl) h1
  have k2 := h2
  have lt2 : ∀ x ∈ p2, x.block < W.heap.size := by obtain ⟨m, hm⟩ := k2; exact DataW.trod_lt m _ _ _ hm
  obtain ⟨x2, rfl, rfl, rfl, w2⟩ := open_int Try.underlying22 (hval 2 22 v2 rfl rfl) h2
  obtain ⟨lo2, hi2⟩ := M.u64_bounds w2
  obtain ⟨a2, rfl⟩ : ∃ a : Nat, x2 = a := ⟨x2.toNat, by omega⟩
  clear hA0 hval0
  simp only [List.append_nil] at hW'
  refine (walk v0 v1 a2 (by omega) W ns0 ns1).mono fun e W' ⟨he, bel⟩ => ?_
  subst he
  exact ⟨_, rfl, _, _, _, [], _, [], hW', (trodAll_cons_mk (shut_bool Try.underlying4 _) trodAll_mk0), (trodAll_cons_mk (Below.trod M.laidOut (by kernel_rfl) (of_decide_eq_true (by kernel_rfl)) k0 bel lt0) (trodAll_cons_mk (Below.trod M.laidOut (by kernel_rfl) (of_decide_eq_true (by kernel_rfl)) k1 bel lt1) (trodAll_cons_mk (Below.trod M.laidOut (by kernel_rfl) (of_decide_eq_true (by kernel_rfl)) k2 bel lt2) trodAll_mk0))), rfl, bel.frame _, fun h => by cases h⟩

theorem holds : Rows.BivarThroughSaid :=
  OpenClaim.holds_of_wide 5 Try.f5 rfl rfl rfl rfl rfl rfl rfl ⟨rfl, rfl, rfl, rfl, rfl⟩ rfl rfl rfl rfl rfl (by kernel_rfl) Try.func5 (by kernel_rfl)
    (of_decide_eq_true (by kernel_rfl)) (by unfold Func.isWrapper; first | (rw [if_pos (by decide +kernel)]; kernel_rfl) | (rw [if_neg (by decide +kernel)]; exact ⟨rfl, rfl⟩))
    (fun os started H enc _ => lifted os started H enc)

end BivarThrough

theorem bivarThrough_holds : Rows.BivarThroughSaid := BivarThrough.holds
#print axioms bivarThrough_holds
end Go.Proofs.Ytccpdjjgpkkkbaa

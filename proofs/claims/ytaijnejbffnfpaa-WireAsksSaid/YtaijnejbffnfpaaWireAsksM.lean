/- Whatever is asked of a reader of any bytes, each answer is the document's, how much is left, and what was wrong: whatever comes in. -/
import Derived.Test.YtaijnejbffnfpaaRows
import Derived.Test.YtaijnejbffnfpaaWB1
import Derived.Test.YtaijnejbffnfpaaWB8
namespace Go.Proofs.Ytaijnejbffnfpaa
open Go.ChangeShapes Go.WideShapes Go.ChangeAt Go.RowKit
namespace WireAsks
open M

set_option maxHeartbeats 8000000 in
set_option maxRecDepth 100000 in
theorem walkHere (b : List UInt8) (ao : Option Addr) (n c : Nat) (f : Nat → Th) (hb : b.length ≤ 9000) (hn : n ≤ 100) (W : World)
    (hf : ∀ i, i < n → (f i).Ok ∧ Rd W (f i).ao (f i).len (f i).z ∧ ∃ a, ao = some a ∧ ∀ (j : Nat) (u : Value), (f i).cells[j]? = some u → W.cell? (a.add (i * 5 + j)) = some u) :
    Calls Try.prog 5 #[.string ⟨b.toArray⟩, .slice ao n c] W fun e w' => e = .returned (.bool true) ∧ Below W.heap.size W w' := by
  have hb2 : ¬ (9000 : Int) < (b.length : Int) := by omega
  have hn2 : ¬ (100 : Int) < (n : Int) := by omega
  have HO := fun w => open_any b (by omega) w
  have HP := fun w => xopen_any b w
  have HF := Lib.hid hf
  clear hf
  go_enter Try.func5, Try.ntmps5
  go_wp2_with (first
    | (go_at_call 20; (with_reducible refine (HO _).mono ?_); rintro e w1 ⟨g, rfl, hg, hr, hb1⟩; have HR := Lib.hid hr; have HB := Lib.hid hb1; have HG := Lib.hid hg; clear hr hb1 hg)
    | (go_at_call 32; (with_reducible refine (HP _).mono ?_); rintro e w2 ⟨x, rfl, hx, hr2, hb2⟩; have HI : Hid (InA W g x b 0 w2) := Lib.hid ⟨HR.out.step hb2, hr2, HB.out.trans (hb2.mono HB.out.size), HG.out, Nat.le_trans HB.out.size hx, fun e => by have := HR.out.lt; omega, fun h => absurd rfl h⟩; clear hr2 hb2 hx))
  go_loopw [7] (fun s7 wx => ∃ (i : Nat) (s : List UInt8) (e : Int), i ≤ n ∧ s7 = .int .i64 (i : Int) ∧ InA W g x s e wx) (fun s7 _ => n - (RowKit.intOf s7).toNat)
  case atStart => exact ⟨0, b, 0, Nat.zero_le _, rfl, HI.out⟩
  case round =>
    obtain ⟨i, s, e, hi, rfl, hM⟩ := hrel
    have HK := Lib.hid hM
    clear hM
    by_cases hlt : i < n
    · obtain ⟨hok, _, a, ha, hcl⟩ := HF.out i hlt
      subst ha
      have hcl2 : ∀ (j : Nat) (u : Value), (f i).cells[j]? = some u → wr.cell? (a.add (i * 5 + j)) = some u := fun j u hu => by
        have h1 := hcl j u hu
        rw [HK.out.below.cell (World.block_lt_of_cell? W _ h1)]
        exact h1
      generalize f i = t at *
      obtain ⟨k, tn, ts, tao, tlen, tcap, tz, tm⟩ := t
      have hk0 : wr.cell? (a.add (i * 5)) = some (.int .u8 (k : Int)) := hcl2 0 _ rfl
      have hk4 : wr.cell? ⟨(a.add (i * 5)).block, (a.add (i * 5)).off + 4, none⟩ = some (.int .i64 tm) := cell_add (hcl2 4 _ rfl)
      have htm : tm ≤ 9223372036854775807 := hok.m
      have hk4n : ∀ w1, Below W.heap.size wr w1 → w1.cell? ⟨(a.add (i * 5)).block, (a.add (i * 5)).off + 4, none⟩ = some (.int .i64 tm) := fun w1 hb => by
        have h1 := cell_add (hcl 4 _ rfl)
        rw [hb.cell (World.block_lt_of_cell? W _ h1)]; exact hk4
      have HK4N := Lib.hid hk4n
      clear hcl hcl2 hok hk4n
      generalize wr = w0 at *
      match k with
      | 0 =>
        have HA := byte_ask g s e w0 HK.out.rg
        have HX := fun w1 (h : RAt XR x s e w1) => xbyte_ask x s e w1 h
        have HOK := Lib.hid (rOff_ok 1 s e HK.out.ok)
        generalize MM.rOff 1 s e = r at *
        obtain ⟨rv, re, rs⟩ := r
        simp only at HA HX HOK
        go_wp2_with (first
          | (go_at_call 10; (with_reducible refine HA.mono ?_); rintro e9 w1 ⟨rfl, hr1, ht1⟩; have HM := Lib.hid (HK.out.mid ht1); have HR1 := Lib.hid hr1; have HT1 := Lib.hid ht1; clear hr1 ht1)
          | (go_at_call 33; (with_reducible refine (HX _ HM.out).mono ?_); rintro e9 w2 ⟨rfl, hr2, ht2⟩; have HK2 := Lib.hid (HK.out.next HR1.out HT1.out hr2 ht2 HOK.out); clear hr2 ht2))
        have HQ := HK2.out
        have hLeft := fun n => HQ.left n
        have hWrong := fun n => HQ.wrong n
        have hxr := HQ.rx.rest
        have hxw := HQ.rx.wrong
        go_wp2_with fail
        go_quiet (first | (go_at_call 19; exact hLeft _) | (go_at_call 18; exact hWrong _))
        go_wp2_with fail
        clear hLeft hWrong hxr hxw
        go_roundw
        case rel => exact ⟨i + 1, _, _, by omega, by go_num, HQ.drewN _⟩
        case measure => simp [RowKit.intOf]; omega
      | 1 =>
        have HA := num_ask g s e w0 HK.out.rg
        have HX := fun w1 (h : RAt XR x s e w1) => xnum_ask x s e w1 h
        have HOK := Lib.hid (rOff_ok 8 s e HK.out.ok)
        generalize MM.rOff 8 s e = r at *
        obtain ⟨rv, re, rs⟩ := r
        simp only at HA HX HOK
        go_wp2_with (first
          | (go_at_call 11; (with_reducible refine HA.mono ?_); rintro e9 w1 ⟨rfl, hr1, ht1⟩; have HM := Lib.hid (HK.out.mid ht1); have HR1 := Lib.hid hr1; have HT1 := Lib.hid ht1; clear hr1 ht1)
          | (go_at_call 34; (with_reducible refine (HX _ HM.out).mono ?_); rintro e9 w2 ⟨rfl, hr2, ht2⟩; have HK2 := Lib.hid (HK.out.next HR1.out HT1.out hr2 ht2 HOK.out); clear hr2 ht2))
        have HQ := HK2.out
        have hLeft := fun n => HQ.left n
        have hWrong := fun n => HQ.wrong n
        have hxr := HQ.rx.rest
        have hxw := HQ.rx.wrong
        go_wp2_with fail
        go_quiet (first | (go_at_call 19; exact hLeft _) | (go_at_call 18; exact hWrong _))
        go_wp2_with fail
        clear hLeft hWrong hxr hxw
        go_roundw
        case rel => exact ⟨i + 1, _, _, by omega, by go_num, HQ.drewN _⟩
        case measure => simp [RowKit.intOf]; omega
      | 2 =>
        have HA := int_ask g s e w0 HK.out.rg
        have HX := fun w1 (h : RAt XR x s e w1) => xint_ask x s e w1 h
        have HOK := Lib.hid (rOff_ok 8 s e HK.out.ok)
        generalize MM.rOff 8 s e = r at *
        obtain ⟨rv, re, rs⟩ := r
        simp only at HA HX HOK
        go_wp2_with (first
          | (go_at_call 12; (with_reducible refine HA.mono ?_); rintro e9 w1 ⟨rfl, hr1, ht1⟩; have HM := Lib.hid (HK.out.mid ht1); have HR1 := Lib.hid hr1; have HT1 := Lib.hid ht1; clear hr1 ht1)
          | (go_at_call 35; (with_reducible refine (HX _ HM.out).mono ?_); rintro e9 w2 ⟨rfl, hr2, ht2⟩; have HK2 := Lib.hid (HK.out.next HR1.out HT1.out hr2 ht2 HOK.out); clear hr2 ht2))
        have HQ := HK2.out
        have hLeft := fun n => HQ.left n
        have hWrong := fun n => HQ.wrong n
        have hxr := HQ.rx.rest
        have hxw := HQ.rx.wrong
        go_wp2_with fail
        go_quiet (first | (go_at_call 19; exact hLeft _) | (go_at_call 18; exact hWrong _))
        go_wp2_with fail
        clear hLeft hWrong hxr hxw
        go_roundw
        case rel => exact ⟨i + 1, _, _, by omega, by go_num, HQ.drewN _⟩
        case measure => simp [RowKit.intOf]; omega
      | 3 =>
        have HA := text_ask g s e w0 HK.out.rg
        have HX := fun w1 (h : RAt XR x s e w1) => xtext_ask x s e w1 h
        have HOK := Lib.hid (rText_ok s e HK.out.ok)
        generalize MM.rText s e = r at *
        obtain ⟨rv, re, rs⟩ := r
        simp only at HA HX HOK
        go_wp2_with (first
          | (go_at_call 14; (with_reducible refine HA.mono ?_); rintro e9 w1 ⟨rfl, hr1, ht1⟩; have HM := Lib.hid (HK.out.mid ht1); have HR1 := Lib.hid hr1; have HT1 := Lib.hid ht1; clear hr1 ht1)
          | (go_at_call 36; (with_reducible refine (HX _ HM.out).mono ?_); rintro e9 w2 ⟨rfl, hr2, ht2⟩; have HK2 := Lib.hid (HK.out.next HR1.out HT1.out hr2 ht2 HOK.out); clear hr2 ht2))
        have HQ := HK2.out
        have hLeft := fun n => HQ.left n
        have hWrong := fun n => HQ.wrong n
        have hxr := HQ.rx.rest
        have hxw := HQ.rx.wrong
        go_wp2_with fail
        go_quiet (first | (go_at_call 19; exact hLeft _) | (go_at_call 18; exact hWrong _))
        go_wp2_with fail
        clear hLeft hWrong hxr hxw
        go_roundw
        case rel => exact ⟨i + 1, _, _, by omega, by go_num, HQ.drewN _⟩
        case measure => simp [RowKit.intOf]; omega
      | 4 =>
        have HA := list_ask g s e w0 HK.out.rg
        have HX := fun w1 (h : RAt XR x s e w1) => xlist_ask x s e w1 h
        have HOK := Lib.hid (rList_ok s e HK.out.ok)
        have HLE := Lib.hid (rList_le s e)
        have hgs := Lib.hid HK.out.rg.lt
        have hxs := Lib.hid HK.out.rx.lt
        generalize MM.rList s e = r at *
        obtain ⟨re, rn, rz, rs⟩ := r
        simp only at HA HX HOK HLE
        go_wp2_with (first
          | (go_at_call 15; (with_reducible refine HA.mono ?_); rintro e9 w1 ⟨v1, rfl, hv1, hr1, ht1⟩; obtain ⟨bo, cp, rfl, hvf⟩ := hv1.form; have HV := Lib.hid hvf; have HM := Lib.hid (HK.out.mid ht1); have HR1 := Lib.hid hr1; have HT1 := Lib.hid ht1; clear hr1 ht1 hv1 hvf)
          | (go_at_call 37; (with_reducible refine (HX _ HM.out).mono ?_); rintro e9 w2 ⟨v2, rfl, hv2, hr2, ht2⟩; obtain ⟨ao2, c2, rfl, hvx⟩ := hv2; have HV2 := Lib.hid hvx; have HT2 := Lib.hid ht2; have HRD : Hid (Rd w2 bo rn rz) := Lib.hid (fun h0 => by obtain ⟨B, rfl, hB, hblk⟩ := HV.out h0; exact (hblk.turn HT2.out (by have := hxs.out; omega)).rd h0); have HK1 := Lib.hid (HK.out.next HR1.out HT1.out hr2 ht2 HOK.out); clear hr2 ht2 hvx)
          | (go_at_call 38; (with_reducible refine (numbers_yes bo ao2 rn cp c2 rz (Nat.le_trans HLE.out (by omega)) _ HRD.out HV2.out).mono ?_); rintro e9 w3 ⟨rfl, m3, rfl⟩; have HK3 := Lib.hid (HK1.out.drewN m3)))
        have HB3 : Hid (∃ B, W.heap.size ≤ B ∧ B ≠ g ∧ B ≠ x ∧ (0 < rn → bo = some ⟨B, 0, none⟩ ∧ ∃ z, Blk B rn z (w2.drewN m3))) := Lib.hid (by
          by_cases h0 : 0 < rn
          · obtain ⟨B, hbo, hB, hblk⟩ := HV.out h0
            exact ⟨B, by have := HK.out.below.size; omega, by have := hgs.out; omega, by have := hxs.out; omega, fun _ => ⟨hbo, rz, hblk.turn (HT2.out.drewN m3) (by have := hxs.out; omega)⟩⟩
          · exact ⟨W.heap.size + g + x + 1, by omega, by omega, by omega, fun h => absurd h h0⟩)
        obtain ⟨B, hBW, hBg, hBx, hBB⟩ := HB3.out
        have HBB := Lib.hid hBB
        have HBX := Lib.hid (And.intro hBW (And.intro hBg hBx))
        clear hBB hBW hBg hBx HB3 HA HX
        generalize w2.drewN m3 = w3 at *
        go_loopw [29] (fun s29 wx => ∃ k : Nat, k ≤ rn ∧ s29 = .int .i64 (k : Int) ∧ InA W g x rs re wx ∧ (0 < rn → bo = some ⟨B, 0, none⟩ ∧ ∃ z, Blk B rn z wx)) (fun s29 _ => rn - (RowKit.intOf s29).toNat)
        case atStart => exact ⟨0, Nat.zero_le _, rfl, HK3.out, HBB.out⟩
        case round =>
          obtain ⟨k, hk, rfl, hI, hbl⟩ := hrel
          have HI4 := Lib.hid hI
          have HBL := Lib.hid hbl
          clear hI hbl
          by_cases hlk : k < rn
          · have hrn : rn ≤ 1024 := HLE.out
            obtain ⟨hbo, z4, hb4⟩ := HBL.out (by omega)
            subst hbo
            have hc4 := hb4.cell hlk
            have hf4 := hb4.free k
            have HB4 := Lib.hid hb4
            clear hb4
            go_wp2_with fail
            go_roundw
            case rel => exact ⟨k + 1, by omega, by go_num, HI4.out.set HBX.out.1 HBX.out.2.1 HBX.out.2.2 k _, fun _ => ⟨trivial, fun j => if j = k then 77 else z4 j, HB4.out.set k 77 (fun j _ => rfl)⟩⟩
            case measure => simp [RowKit.intOf]; omega
          · obtain rfl : k = rn := by omega
            have HK2 := Lib.hid HI4.out
            have HQ := HK2.out
            have hLeft := fun n => HQ.left n
            have hWrong := fun n => HQ.wrong n
            have hxr := HQ.rx.rest
            have hxw := HQ.rx.wrong
            go_wp2_with fail
            go_quiet (first | (go_at_call 19; exact hLeft _) | (go_at_call 18; exact hWrong _))
            go_wp2_with fail
            clear hLeft hWrong hxr hxw
            go_roundw
            case rel => exact ⟨i + 1, _, _, by omega, by go_num, HQ.drewN _⟩
            case measure => simp [RowKit.intOf]; omega
      | 5 =>
        have HA := count_ask g s e tm htm w0 HK.out.rg
        have HX := fun w1 (h : RAt XR x s e w1) => xcount_ask x s e tm htm w1 h
        have HOK := Lib.hid (rCount_ok tm s e HK.out.ok)
        generalize MM.rCount tm s e = r at *
        obtain ⟨rv, re, rs⟩ := r
        simp only at HA HX HOK
        go_wp2_with (first
          | (go_at_call 13; (with_reducible refine HA.mono ?_); rintro e9 w1 ⟨rfl, hr1, ht1⟩; have HM := Lib.hid (HK.out.mid ht1); have hk41 := HK4N.out w1 (ht1.below HK.out.hg HK.out.below.size); have HR1 := Lib.hid hr1; have HT1 := Lib.hid ht1; clear hr1 ht1)
          | (go_at_call 39; (with_reducible refine (HX _ HM.out).mono ?_); rintro e9 w2 ⟨rfl, hr2, ht2⟩; have HK2 := Lib.hid (HK.out.next HR1.out HT1.out hr2 ht2 HOK.out); clear hr2 ht2))
        have HQ := HK2.out
        have hLeft := fun n => HQ.left n
        have hWrong := fun n => HQ.wrong n
        have hxr := HQ.rx.rest
        have hxw := HQ.rx.wrong
        go_wp2_with fail
        go_quiet (first | (go_at_call 19; exact hLeft _) | (go_at_call 18; exact hWrong _))
        go_wp2_with fail
        clear hLeft hWrong hxr hxw
        go_roundw
        case rel => exact ⟨i + 1, _, _, by omega, by go_num, HQ.drewN _⟩
        case measure => simp [RowKit.intOf]; omega
      | k + 6 =>
        have g0 : ¬ ((k + 6 : Nat) : Int) = 0 := by omega
        have g1 : ¬ ((k + 6 : Nat) : Int) = 1 := by omega
        have g2 : ¬ ((k + 6 : Nat) : Int) = 2 := by omega
        have g3 : ¬ ((k + 6 : Nat) : Int) = 3 := by omega
        have g4 : ¬ ((k + 6 : Nat) : Int) = 4 := by omega
        have g5 : ¬ ((k + 6 : Nat) : Int) = 5 := by omega
        have f0 : ¬ k + 6 = 0 := by omega
        have f1 : ¬ k + 6 = 1 := by omega
        have f2 : ¬ k + 6 = 2 := by omega
        have f3 : ¬ k + 6 = 3 := by omega
        have f4 : ¬ k + 6 = 4 := by omega
        have f5 : ¬ k + 6 = 5 := by omega
        generalize k + 6 = k6 at *
        have HE : Hid (∃ (e2 : Int) (s2 : List UInt8), (∀ w, InA W g x s e w → Calls Try.prog 17 #[.pointer (some ⟨g, 0, none⟩)] w fun e' w' => e' = .returned (.int .i64 e2) ∧ RAt WR g s2 e2 w' ∧ Turn g w w') ∧
            (∀ w, RAt XR x s e w → Calls Try.prog 40 #[.pointer (some ⟨x, 0, none⟩)] w fun e' w' => e' = .returned (.int .i64 e2) ∧ RAt XR x s2 e2 w' ∧ Turn x w w') ∧ (e2 ≠ 0 → s2 = [])) := Lib.hid (ends_both HK.out.ok)
        obtain ⟨e2, s2, hA, hX, hO⟩ := HE.out
        have HA := hA w0 HK.out
        have HX := hX
        have HOK := Lib.hid hO
        clear hA hX hO HE
        go_wp2_with (first
          | (go_at_call 17; (with_reducible refine HA.mono ?_); rintro e9 w1 ⟨rfl, hr1, ht1⟩; have HM := Lib.hid (HK.out.mid ht1); have HR1 := Lib.hid hr1; have HT1 := Lib.hid ht1; clear hr1 ht1)
          | (go_at_call 40; (with_reducible refine (HX _ HM.out).mono ?_); rintro e9 w2 ⟨rfl, hr2, ht2⟩; have HK2 := Lib.hid (HK.out.next HR1.out HT1.out hr2 ht2 HOK.out); clear hr2 ht2))
        have HQ := HK2.out
        have hLeft := fun n => HQ.left n
        have hWrong := fun n => HQ.wrong n
        have hxr := HQ.rx.rest
        have hxw := HQ.rx.wrong
        go_wp2_with fail
        go_quiet (first | (go_at_call 19; exact hLeft _) | (go_at_call 18; exact hWrong _))
        go_wp2_with fail
        clear hLeft hWrong hxr hxw
        go_roundw
        case rel => exact ⟨i + 1, _, _, by omega, by go_num, HQ.drewN _⟩
        case measure => simp [RowKit.intOf]; omega
    · obtain rfl : i = n := by omega
      have HB := Lib.hid HK.out.below
      go_wp2_with (go_at_call 16; (with_reducible refine (awake_any _).mono ?_); rintro e9 w9 ⟨rfl, hb9⟩)
      go_ret
      exact ⟨rfl, HB.out.trans (hb9.mono HB.out.size)⟩
set_option maxHeartbeats 4000000 in
set_option maxRecDepth 100000 in
theorem walk_out (b : List UInt8) (ao : Option Addr) (n c : Nat) (h : 9000 < b.length ∨ (b.length ≤ 9000 ∧ 100 < n)) (W : World) :
    Calls Try.prog 5 #[.string ⟨b.toArray⟩, .slice ao n c] W fun e w' => e = .returned (.bool true) ∧ Below W.heap.size W w' := by
  rcases h with h | ⟨h1, h⟩
  · have g : (9000 : Int) < (b.length : Int) := by omega
    go_enter Try.func5, Try.ntmps5
    go_wp2_with (go_at_call 16; (with_reducible refine (awake_any _).mono ?_); rintro e w11 ⟨rfl, hb⟩)
    go_ret
    exact ⟨rfl, hb⟩
  · have g1 : ¬ (9000 : Int) < (b.length : Int) := by omega
    have g : (100 : Int) < (n : Int) := by omega
    go_enter Try.func5, Try.ntmps5
    go_wp2_with (go_at_call 16; (with_reducible refine (awake_any _).mono ?_); rintro e w11 ⟨rfl, hb⟩)
    go_ret
    exact ⟨rfl, hb⟩
theorem walk (b : List UInt8) (v : Value) (_ : b.length ≤ 9223372036854775807) (W : World) (hv : ThingsIn W v) :
    Calls Try.prog 5 #[.string ⟨b.toArray⟩, v] W fun e w' => e = .returned (.bool true) ∧ Below W.heap.size W w' := by
  obtain ⟨ao, n, c, f, rfl, _, hf⟩ := hv
  by_cases h1 : 9000 < b.length
  · exact walk_out b ao n c (.inl h1) W
  by_cases h2 : 100 < n
  · exact walk_out b ao n c (.inr ⟨by omega, h2⟩) W
  exact walkHere b ao n c f (by omega) (by omega) W hf

set_option maxRecDepth 100000 in
theorem lifted (os : Os) (started : os.Started) (H : Type) (enc : TypeId × Value → H) :
    ReturnsInHanded {} Try.checked os 5 .any (Rows.wireAsksSpec.pre6 enc Try.prog Try.f5 Rows.wireAsksRow.domain false) (Rows.wireAsksSpec.post enc Try.prog Try.f5 false true false false) := by
  refine returnsInHanded_of_change (C := Try.checked) M.own started (by kernel_rfl) Try.func5
    (ChangeSpec.witness6 (enc := enc) (C := Try.checked) false ⟨#[], #[.string ⟨#[]⟩, .slice none 0 0], []⟩ 8 (by kernel_rfl) (by kernel_rfl) (by kernel_rfl) (by kernel_rfl)) ?_
  intro W base args ds gs before hval0 hW _ _
  have hval : ∀ (j : Nat) t v, Try.f5.params[j]? = some t → args[j]? = some v → Value.okWide Try.prog W .any base t v := hval0
  have hW' := hW
  obtain ⟨p, q, hA0, hV, rfl, _, _⟩ := hW
  have hA : DataW.TrodAll enc Try.prog W 0 (fun _ => true) true Try.f5.params.toList args.toList ds p := hA0
  rw [Try.params5] at hA hval
  obtain ⟨v0, vs0, d0, ds0, p0, q0, hargs, rfl, rfl, h0, r0⟩ := trodAll_cons hA
  obtain ⟨v1, vs1, d1, ds1, p1, q1, rfl, rfl, rfl, h1, r1⟩ := trodAll_cons r0
  obtain ⟨rfl, rfl, rfl⟩ := trodAll_nil r1
  obtain rfl : args = #[v0, v1] := by cases args; simp_all
  obtain ⟨rfl, rfl⟩ := trodVars_none hV
  have k0 := h0
  have lt0 : ∀ x ∈ p0, x.block < W.heap.size := by obtain ⟨m, hm⟩ := k0; exact DataW.trod_lt m _ _ _ hm
  obtain ⟨y0, rfl, rfl, rfl, w0⟩ := Go.ChangeMaps.open_string Try.underlying9 (hval 0 9 v0 rfl rfl) h0
  obtain ⟨a0, rfl⟩ : ∃ l : List UInt8, y0 = ⟨l.toArray⟩ := ⟨y0.data.toList, (Lib.mk_data y0).symm⟩
  have k1 := h1
  have lt1 : ∀ x ∈ p1, x.block < W.heap.size := by obtain ⟨m, hm⟩ := k1; exact DataW.trod_lt m _ _ _ hm
  have ns1 := M.open_things (hval 1 55 v1 rfl rfl) h1
  clear hA0 hval0
  simp only [List.append_nil] at hW'
  refine (walk a0 v1 (by unfold maxLen at w0; simpa [ByteArray.size_mk'] using w0) W ns1).mono fun e W' ⟨he, bel⟩ => ?_
  subst he
  exact ⟨_, rfl, _, _, _, [], _, [], hW', (trodAll_cons_mk (shut_bool Try.underlying4 _) trodAll_mk0), (trodAll_cons_mk (Below.trod M.laidOut (by kernel_rfl) (of_decide_eq_true (by kernel_rfl)) k0 bel lt0) (trodAll_cons_mk (Below.trod M.laidOut (by kernel_rfl) (of_decide_eq_true (by kernel_rfl)) k1 bel lt1) trodAll_mk0)), rfl, bel.frame _, fun h => by cases h⟩

theorem holds : Rows.WireAsksSaid :=
  OpenClaim.holds_of_wide 5 Try.f5 rfl rfl rfl rfl rfl rfl rfl ⟨rfl, rfl, rfl, rfl, rfl⟩ rfl rfl rfl rfl rfl (by kernel_rfl) Try.func5 (by kernel_rfl)
    (of_decide_eq_true (by kernel_rfl)) (by unfold Func.isWrapper; first | (rw [if_pos (by decide +kernel)]; kernel_rfl) | (rw [if_neg (by decide +kernel)]; exact ⟨rfl, rfl⟩))
    (fun os started H enc _ => lifted os started H enc)

end WireAsks

theorem wireAsks_holds : Rows.WireAsksSaid := WireAsks.holds
#print axioms wireAsks_holds
end Go.Proofs.Ytaijnejbffnfpaa

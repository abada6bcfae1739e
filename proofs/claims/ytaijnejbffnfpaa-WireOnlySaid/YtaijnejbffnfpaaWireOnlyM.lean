/- What is read of any bytes, written again, is these bytes: whatever comes in. -/
import Derived.Test.YtaijnejbffnfpaaRows
import Derived.Test.YtaijnejbffnfpaaWB1
import Derived.Test.YtaijnejbffnfpaaWB10
namespace Go.Proofs.Ytaijnejbffnfpaa
open Go.ChangeShapes Go.WideShapes Go.ChangeAt Go.RowKit
namespace WireOnly
open M

set_option maxHeartbeats 8000000 in
set_option maxRecDepth 100000 in
theorem walkHere (b : List UInt8) (ao : Option Addr) (n c : Nat) (f : Nat → Th) (hb : b.length ≤ 9000) (hn : n ≤ 200) (W : World)
    (hf : ∀ i, i < n → (f i).Ok ∧ Rd W (f i).ao (f i).len (f i).z ∧ ∃ a, ao = some a ∧ ∀ (j : Nat) (u : Value), (f i).cells[j]? = some u → W.cell? (a.add (i * 5 + j)) = some u) :
    Calls Try.prog 9 #[.string ⟨b.toArray⟩, .slice ao n c] W fun e w' => e = .returned (.bool true) ∧ Below W.heap.size W w' := by
  have hb2 : ¬ (9000 : Int) < (b.length : Int) := by omega
  have hn2 : ¬ (200 : Int) < (n : Int) := by omega
  have HO := fun w => open_any b (by omega) w
  have HF := Lib.hid hf
  clear hf
  go_enter Try.func9, Try.ntmps9
  go_wp2_with (first
    | (go_at_call 16; (with_reducible refine (awake_any _).mono ?_); rintro e w1 ⟨rfl, hb1⟩; have HB1 := Lib.hid hb1; clear hb1)
    | (go_at_call 20; (with_reducible refine (HO _).mono ?_); rintro e w2 ⟨g, rfl, hg, hr, hb2⟩; have HI : Hid (InG W g b 0 w2) := Lib.hid ⟨hr, HB1.out.trans (hb2.mono HB1.out.size), Nat.le_trans HB1.out.size hg⟩; clear hb2 hg hr))
  go_loopw [6, 7] (fun s6 s7 wx => ∃ i k : Nat, i ≤ n ∧ k ≤ b.length ∧ s7 = .int .i64 (i : Int) ∧ s6 = .string ⟨(b.take k).toArray⟩ ∧ InG W g (b.drop k) 0 wx) (fun _ s7 _ => n - (RowKit.intOf s7).toNat)
  case atStart => exact ⟨0, 0, Nat.zero_le _, Nat.zero_le _, rfl, rfl, HI.out⟩
  case round =>
    obtain ⟨i, k, hi, hk, rfl, rfl, hM⟩ := hrel
    have HK := Lib.hid hM
    clear hM
    by_cases hlt : i < n
    · obtain ⟨hok, _, a, ha, hcl⟩ := HF.out i hlt
      subst ha
      obtain ⟨B, O, hadr, hr0⟩ := thing_range hcl
      have HRG := Lib.hid (range_below hr0 HK.out.below)
      have HG := Lib.hid (got_any (f i) hok.k g (b.drop k) wr HK.out.rg)
      clear hcl hr0 hok
      generalize f i = t at *
      generalize wr = w0 at *
      go_upto_region 9 with (first
        | (refine wpList_load_mid rfl 45 _ rfl B O rfl t.cells.toList _ HRG.out Try.underlying45 rfl (info_th2 t) ?_)
        | (go_at_call 21; (with_reducible refine HG.out.mono ?_); rintro e w1 ⟨y, er, rest, rfl, hr1, ht1, hrd1, hS⟩; have HK1 := Lib.hid (HK.out.next hr1 ht1); have HRD1 := Lib.hid hrd1; have HS := Lib.hid hS; clear hr1 ht1 hrd1 hS)
        | (refine wpList_store_row rfl 45 _ _ rfl w1.heap.size y.cells rfl rfl 45 zTh (heap_alloc_new w1 _) info_th rfl (th_one y) ?_))
      have HX := Lib.hid (boxed_at w1 y.cells)
      have HB3 := boxed_below w1 y.cells
      have HK3 := Lib.hid (HK1.out.step HB3)
      have HRD3 := Lib.hid (HRD1.out.below HB3)
      have HOK := Lib.hid HS.out.ok
      have HOR := Lib.hid HS.out.or
      clear HB3 HK1 HRD1 HS HG HRG HK
      generalize (w1.alloc (.cells zTh 45)).setRow w1.heap.size y.cells = w3 at *
      generalize w1.heap.size = b1 at *
      rcases HOR.out with ⟨rfl, c1, hc1, hyb, rfl, _⟩ | ⟨her, rfl, hy1, hy2, hy3, _⟩
      · have hk2 : k + c1 ≤ b.length := by have : (b.drop k).length = b.length - k := List.length_drop; omega
        have HP := put_any y HOK.out (b.take k) (by rw [List.length_take]; omega) w3 HRD3.out
        rw [hyb, ← List.take_add] at HP
        have HL := left_any g ((b.drop k).drop c1) 0
        rw [List.drop_drop] at HK3 HL
        have hm : ((b.drop (k + c1)).length : Int) = ((b.length - (k + c1) : Nat) : Int) := by rw [List.length_drop]
        rw [hm] at HL
        have hsub : (b.length : Int) - ((b.length - (k + c1) : Nat) : Int) = ((k + c1 : Nat) : Int) := by omega
        have hkk : k ≤ k + c1 := by omega
        clear hyb hc1 hm HOR HOK HRD3
        generalize k + c1 = k2 at *
        have hml : b.length - k2 ≤ b.length := by omega
        have hx1 : (⟨b.toArray⟩ : ByteArray).extract 0 k2 = ⟨(b.take k2).toArray⟩ := by rw [ByteArray.extract_mk]; simp
        generalize b.length - k2 = m at *
        have HP := Lib.hid HP
        go_wp2_with (first
          | (refine wpList_load_row rfl 45 _ rfl b1 rfl 45 y.cells (0, 0) _ HX.out Try.underlying45 rfl info_th ?_)
          | (go_at_call 43; (with_reducible refine HP.out.mono ?_); rintro e w4 ⟨rfl, hb4⟩; have HK4 := Lib.hid (HK3.out.step hb4); clear hb4)
          | (go_at_call 19; (with_reducible refine (HL w4 HK4.out.rg).mono ?_); rintro e w5 ⟨rfl, rfl⟩))
        go_roundw
        case rel => exact ⟨i + 1, k2, by omega, hk2, by go_num, rfl, HK4.out⟩
        case measure => simp [RowKit.intOf]; omega
      · obtain ⟨yk, yn, ys, yao, yl, yc, yz, ym⟩ := y
        simp only at hy1 hy2 hy3
        subst hy1 hy2 hy3
        have hx := HX.out
        have hc1 : w3.cell? ⟨b1, 1, none⟩ = some (.int .u64 0) := (cell_of_row w3 b1 1 _ _ _ hx).trans rfl
        have hc2 : w3.cell? ⟨b1, 2, none⟩ = some (.string ⟨#[]⟩) := (cell_of_row w3 b1 2 _ _ _ hx).trans rfl
        have hc3 : w3.cell? ⟨b1, 3, none⟩ = some (.slice yao 0 yc) := (cell_of_row w3 b1 3 _ _ _ hx).trans rfl
        have HL := left_any g [] er w3 HK3.out.rg
        clear hx
        go_wp2_with (go_at_call 19; (with_reducible refine HL.mono ?_); rintro e w5 ⟨rfl, rfl⟩)
        go_ret
        exact ⟨rfl, HK3.out.below⟩
    · obtain rfl : i = n := by omega
      have HL := wrong_any g (b.drop k) 0 wr HK.out.rg
      go_wp2_with (go_at_call 18; (with_reducible refine HL.mono ?_); rintro e w5 ⟨rfl, rfl⟩)
      go_ret
      exact ⟨rfl, HK.out.below⟩
set_option maxHeartbeats 4000000 in
set_option maxRecDepth 100000 in
theorem walk_out (b : List UInt8) (ao : Option Addr) (n c : Nat) (h : 9000 < b.length ∨ (b.length ≤ 9000 ∧ 200 < n)) (W : World) :
    Calls Try.prog 9 #[.string ⟨b.toArray⟩, .slice ao n c] W fun e w' => e = .returned (.bool true) ∧ Below W.heap.size W w' := by
  rcases h with h | ⟨h1, h⟩
  · have g : (9000 : Int) < (b.length : Int) := by omega
    go_enter Try.func9, Try.ntmps9
    go_wp2_with (go_at_call 16; (with_reducible refine (awake_any _).mono ?_); rintro e w11 ⟨rfl, hb⟩)
    go_ret
    exact ⟨rfl, hb⟩
  · have g1 : ¬ (9000 : Int) < (b.length : Int) := by omega
    have g : (200 : Int) < (n : Int) := by omega
    go_enter Try.func9, Try.ntmps9
    go_wp2_with (go_at_call 16; (with_reducible refine (awake_any _).mono ?_); rintro e w11 ⟨rfl, hb⟩)
    go_ret
    exact ⟨rfl, hb⟩
theorem walk (b : List UInt8) (v : Value) (_ : b.length ≤ 9223372036854775807) (W : World) (hv : ThingsIn W v) :
    Calls Try.prog 9 #[.string ⟨b.toArray⟩, v] W fun e w' => e = .returned (.bool true) ∧ Below W.heap.size W w' := by
  obtain ⟨ao, n, c, f, rfl, _, hf⟩ := hv
  by_cases h1 : 9000 < b.length
  · exact walk_out b ao n c (.inl h1) W
  by_cases h2 : 200 < n
  · exact walk_out b ao n c (.inr ⟨by omega, h2⟩) W
  exact walkHere b ao n c f (by omega) (by omega) W hf

set_option maxRecDepth 100000 in
theorem lifted (os : Os) (started : os.Started) (H : Type) (enc : TypeId × Value → H) :
    ReturnsInHanded {} Try.checked os 9 .any (Rows.wireOnlySpec.pre6 enc Try.prog Try.f9 Rows.wireOnlyRow.domain false) (Rows.wireOnlySpec.post enc Try.prog Try.f9 false true false false) := by
  refine returnsInHanded_of_change (C := Try.checked) M.own started (by kernel_rfl) Try.func9
    (ChangeSpec.witness6 (enc := enc) (C := Try.checked) false ⟨#[], #[.string ⟨#[]⟩, .slice none 0 0], []⟩ 8 (by kernel_rfl) (by kernel_rfl) (by kernel_rfl) (by kernel_rfl)) ?_
  intro W base args ds gs before hval0 hW _ _
  have hval : ∀ (j : Nat) t v, Try.f9.params[j]? = some t → args[j]? = some v → Value.okWide Try.prog W .any base t v := hval0
  have hW' := hW
  obtain ⟨p, q, hA0, hV, rfl, _, _⟩ := hW
  have hA : DataW.TrodAll enc Try.prog W 0 (fun _ => true) true Try.f9.params.toList args.toList ds p := hA0
  rw [Try.params9] at hA hval
  obtain ⟨v0, vs0, d0, ds0, p0, q0, hargs, rfl, rfl, h0, r0⟩ := trodAll_cons hA
  obtain ⟨v1, vs1, d1, ds1, p1, q1, rfl, rfl, rfl, h1, r1⟩ := trodAll_cons r0
  obtain ⟨rfl, rfl, rfl⟩ := trodAll_nil r1
  obtain rfl : args = #[v0, v1] := by cases args; simp_all
  obtain ⟨rfl, rfl⟩ := trodVars_none hV
  have k0 := h0
  have lt0 : ∀ x ∈ p0, x.block < W.heap.size := by obtain ⟨m, hm⟩ := k0; exact DataW.trod_lt m _ _ _ hm
  obtain ⟨y0, rfl, rfl, rfl, w0⟩ := Go.ChangeMaps.open_string Try.underlying9 (hval 0 9 v0 rfl rfl) h0
  obtain ⟨a0, rfl⟩ : ∃ l : List UInt8, y0 = ⟨l.toArray⟩ := ⟨y0.data.toList, (Lib.mk_data y0).symm⟩
  have k1 := h1
  have lt1 : ∀ x ∈ p1, x.block < W.heap.size := by obtain ⟨m, hm⟩ := k1; exact DataW.trod_lt m _ _ _ hm
  have ns1 := M.open_things (hval 1 55 v1 rfl rfl) h1
  clear hA0 hval0
  simp only [List.append_nil] at hW'
  refine (walk a0 v1 (by unfold maxLen at w0; simpa [ByteArray.size_mk'] using w0) W ns1).mono fun e W' ⟨he, bel⟩ => ?_
  subst he
  exact ⟨_, rfl, _, _, _, [], _, [], hW', (trodAll_cons_mk (shut_bool Try.underlying4 _) trodAll_mk0), (trodAll_cons_mk (Below.trod M.laidOut (by kernel_rfl) (of_decide_eq_true (by kernel_rfl)) k0 bel lt0) (trodAll_cons_mk (Below.trod M.laidOut (by kernel_rfl) (of_decide_eq_true (by kernel_rfl)) k1 bel lt1) trodAll_mk0)), rfl, bel.frame _, fun h => by cases h⟩

theorem holds : Rows.WireOnlySaid :=
  OpenClaim.holds_of_wide 9 Try.f9 rfl rfl rfl rfl rfl rfl rfl ⟨rfl, rfl, rfl, rfl, rfl⟩ rfl rfl rfl rfl rfl (by kernel_rfl) Try.func9 (by kernel_rfl)
    (of_decide_eq_true (by kernel_rfl)) (by unfold Func.isWrapper; first | (rw [if_pos (by decide +kernel)]; kernel_rfl) | (rw [if_neg (by decide +kernel)]; exact ⟨rfl, rfl⟩))
    (fun os started H enc _ => lifted os started H enc)

end WireOnly

theorem wireOnly_holds : Rows.WireOnlySaid := WireOnly.holds
#print axioms wireOnly_holds
end Go.Proofs.Ytaijnejbffnfpaa

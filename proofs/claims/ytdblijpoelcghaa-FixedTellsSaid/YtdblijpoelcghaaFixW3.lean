/- The walks of whether a model and a query may be. -/
import Derived.Test.YtdblijpoelcghaaFixW2
namespace Go.Proofs.Ytdblijpoelcghaa
open Go Go.RowKit Go.Lib
namespace M
/-- The parameters lie in the block g; nothing old has changed. -/
structure InP (w0 : World) (g : Nat) (p : Pm) (w : World) : Prop where
  box : Box w g p
  below : Below w0.heap.size w0 w
theorem InP.step {w0 w w' : World} {g : Nat} {p : Pm} (h : InP w0 g p w) (hb : Below w.heap.size w w') : InP w0 g p w' := ⟨h.box.below hb, h.below.trans (hb.mono h.below.size)⟩
theorem InP.new (w : World) (p : Pm) : InP w w.heap.size p (w.alloc (.cells p.cells 31)) := ⟨Box.new w p, below_box w _⟩
/-- Besides, a model lies in the block k. -/
structure InM (w0 : World) (g k : Nat) (p : Pm) (v : MoV) (o : MM.Mo) (w : World) : Prop where
  box : Box w g p
  mod : BoxM w k v o
  mat : MoAt w v o
  below : Below w0.heap.size w0 w
theorem InM.step {w0 w w' : World} {g k : Nat} {p : Pm} {v : MoV} {o : MM.Mo} (h : InM w0 g k p v o w) (hb : Below w.heap.size w w') : InM w0 g k p v o w' := ⟨h.box.below hb, h.mod.below hb, h.mat.below hb, h.below.trans (hb.mono h.below.size)⟩
theorem InM.new (w : World) (p : Pm) (v : MoV) (o : MM.Mo) (h : MoAt w v o) : InM w w.heap.size (w.heap.size + 1) p v o ((w.alloc (.cells p.cells 31)).alloc (.cells (v.cells o) 36)) := by
  have h1 := InP.new w p
  have h2 := below_box (w.alloc (.cells p.cells 31)) (.cells (v.cells o) 36)
  have h3 := BoxM.new (w.alloc (.cells p.cells 31)) v o
  rw [World.size_alloc] at h3
  exact ⟨h1.box.below h2, h3, h.below ((below_box w _).trans (h2.mono (by rw [World.size_alloc]; omega))), h1.below.trans (h2.mono (by rw [World.size_alloc]; omega))⟩
theorem InM.toP {w0 w : World} {g k : Nat} {p : Pm} {v : MoV} {o : MM.Mo} (h : InM w0 g k p v o w) : InP w0 g p w := ⟨h.box, h.below⟩
/-- One row as a list of rows. -/
theorem one_mat (u : World) {ao : Option Addr} {n c : Nat} {x : Nat → Int} (h : IRow u ao n c x) : IMat (u.alloc (.cells #[.slice ao n c] 34)) (some ⟨u.heap.size, 0, none⟩) 1 (fun _ => n) (fun _ => x) := fun i hi => by
  obtain rfl : i = 0 := by omega
  exact ⟨_, ao, c, rfl, (cell_of_row _ u.heap.size 0 _ _ _ (heap_alloc_new u _)).trans rfl, h.below (below_box u _)⟩
theorem within_one (most : Int) {ao : Option Addr} {n c : Nat} {x : Nat → Int} (h0 : 0 ≤ most ∧ most ≤ 1048576) (hn : n ≤ 9223372036854775807) (u : World) (h : IRow u ao n c x) :
    Calls Try.prog 38 #[.int .i64 most, .slice (some ⟨u.heap.size, 0, none⟩) 1 1] (u.alloc (.cells #[.slice ao n c] 34)) fun e w' => e = .returned (.bool (decide (MM.Wi most n x))) ∧ Below u.heap.size u w' := by
  refine (within_any most (some ⟨u.heap.size, 0, none⟩) 1 1 (fun _ => n) (fun _ => x) h0 (by omega) (fun _ _ => hn) _ (one_mat u h)).mono ?_
  rintro e w' ⟨rfl, rfl⟩
  refine ⟨?_, below_box u _⟩
  congr 2
  exact decide_eq_decide.2 ⟨fun h => h 0 (by omega), fun h i _ => h⟩
set_option maxHeartbeats 4000000 in
theorem query_any (p : Pm) (ao : Option Addr) (n c : Nat) (x : Nat → Int) (hn : n ≤ 9223372036854775807) (W : World) (hr : IRow W ao n c x) :
    Calls Try.prog 17 #[.agg p.cells, .slice ao n c] W fun e w' => e = .returned (.int .i64 (MM.qryE p n x)) ∧ Below W.heap.size W w' := by
  have HI : Hid (InP W W.heap.size p (W.alloc (.cells p.cells 31))) := Lib.hid (InP.new W p)
  have HR := Lib.hid hr
  have HU := usable_any p
  clear hr
  unfold MM.qryE
  by_cases hf : MM.Fit p
  · rw [decide_eq_true hf] at HU
    by_cases hd : (n : Int) = p.D
    · rw [if_pos ⟨hf, hd⟩]
      have HW := Lib.hid (fun (u : World) (h : IRow u ao n c x) => within_one p.X ⟨hf.2.2.2.2.2.2.1, hf.2.2.2.2.2.2.2⟩ hn u h)
      by_cases hw : MM.Wi p.X n x
      · rw [if_pos hw]
        rw [decide_eq_true hw] at HW
        clear hw hf
        go_enter Try.func17, Try.ntmps17
        go_wp2_with (first
          | (refine load_pm ?_ _ rfl W.heap.size rfl p HI.out.box ?_; first | rfl | (simp [Region.wanted, yielded]; done))
          | (go_at_call 37; (with_reducible refine (HU.at _).mono ?_); rintro e w1 ⟨rfl, hb⟩; replace HI := Lib.hid (HI.out.step hb); have k8 := HI.out.box.cell 8; have k11 := HI.out.box.cell 11; clear hb)
          | (go_at_call 38; refine (HW.out _ (HR.out.below HI.out.below)).mono ?_; rintro e w2 ⟨rfl, hb⟩; replace HI := Lib.hid (HI.out.step hb); clear hb))
        go_ret
        exact ⟨rfl, HI.out.below⟩
      · rw [if_neg hw]
        rw [decide_eq_false hw] at HW
        clear hw hf
        go_enter Try.func17, Try.ntmps17
        go_wp2_with (first
          | (refine load_pm ?_ _ rfl W.heap.size rfl p HI.out.box ?_; first | rfl | (simp [Region.wanted, yielded]; done))
          | (go_at_call 37; (with_reducible refine (HU.at _).mono ?_); rintro e w1 ⟨rfl, hb⟩; replace HI := Lib.hid (HI.out.step hb); have k8 := HI.out.box.cell 8; have k11 := HI.out.box.cell 11; clear hb)
          | (go_at_call 38; refine (HW.out _ (HR.out.below HI.out.below)).mono ?_; rintro e w2 ⟨rfl, hb⟩; replace HI := Lib.hid (HI.out.step hb); clear hb))
        go_ret
        exact ⟨rfl, HI.out.below⟩
    · rw [if_neg fun h => hd h.2]
      clear hf
      go_enter Try.func17, Try.ntmps17
      go_wp2_with (first
          | (refine load_pm ?_ _ rfl W.heap.size rfl p HI.out.box ?_; first | rfl | (simp [Region.wanted, yielded]; done))
          | (go_at_call 37; (with_reducible refine (HU.at _).mono ?_); rintro e w1 ⟨rfl, hb⟩; replace HI := Lib.hid (HI.out.step hb); have k8 := HI.out.box.cell 8; clear hb))
      go_ret
      exact ⟨rfl, HI.out.below⟩
  · rw [if_neg fun h => hf h.1]
    rw [decide_eq_false hf] at HU
    clear hf
    go_enter Try.func17, Try.ntmps17
    go_wp2_with (first
          | (refine load_pm ?_ _ rfl W.heap.size rfl p HI.out.box ?_; first | rfl | (simp [Region.wanted, yielded]; done))
          | (go_at_call 37; (with_reducible refine (HU.at _).mono ?_); rintro e w1 ⟨rfl, hb⟩; replace HI := Lib.hid (HI.out.step hb); clear hb))
    go_ret
    exact ⟨rfl, HI.out.below⟩
set_option maxHeartbeats 8000000 in
theorem may_any (p : Pm) (v : MoV) (o : MM.Mo) (ok : MoOk o) (W : World) (hr : MoAt W v o) :
    Calls Try.prog 14 #[.agg p.cells, .agg (v.cells o)] W fun e w' => e = .returned (.bool (decide (MM.Valid p o))) ∧ Below W.heap.size W w' := by
  obtain ⟨wo, wc, bo, bc⟩ := v
  have HI : Hid (InM W W.heap.size (W.heap.size + 1) p ⟨wo, wc, bo, bc⟩ o _) := Lib.hid (InM.new W p _ o hr)
  have HU := usable_any p
  have HOK := Lib.hid ok
  have HNV : Hid (¬ MM.Valid p o → decide (MM.Valid p o) = false) := Lib.hid fun h => decide_eq_false h
  have HV : Hid (MM.Valid p o → decide (MM.Valid p o) = true) := Lib.hid fun h => decide_eq_true h
  generalize decide (MM.Valid p o) = ans at *
  clear hr ok
  by_cases hf : MM.Fit p
  · rw [decide_eq_true hf] at HU
    by_cases hm : (o.m : Int) = p.K
    · by_cases hn : (o.n : Int) = p.K
      · have hm2 := HOK.out.m
        have h20 : 0 ≤ p.M ∧ p.M ≤ 1048576 := ⟨hf.2.2.2.2.1, hf.2.2.2.2.2.1⟩
        have HW : Hid (∀ (u : World) (_ : MoAt u ⟨wo, wc, bo, bc⟩ o), Calls Try.prog 38 #[.int .i64 p.M, .slice wo o.m wc] u fun e w' => e = .returned (.bool (decide (∀ i, i < o.m → MM.Wi p.M (o.L i) (o.F i)))) ∧ u = w') := Lib.hid fun u h => within_any p.M wo o.m wc o.L o.F h20 hm2 (fun i _ => HOK.out.L i) u h.mat
        have HW1 : Hid (∀ (u : World) (_ : MoAt u ⟨wo, wc, bo, bc⟩ o), Calls Try.prog 38 #[.int .i64 p.M, .slice (some ⟨u.heap.size, 0, none⟩) 1 1] (u.alloc (.cells #[.slice bo o.n bc] 34)) fun e w' => e = .returned (.bool (decide (MM.Wi p.M o.n o.b))) ∧ Below u.heap.size u w') := Lib.hid fun u h => within_one p.M h20 HOK.out.n u h.bias
        have HF := Lib.hid hf
        clear hf h20
        go_enter Try.func14, Try.ntmps14
        go_wp2_with (first
          | (refine load_pm ?_ _ rfl W.heap.size rfl p HI.out.box ?_; first | rfl | (simp [Region.wanted, yielded]; done))
          | (go_at_call 37; (with_reducible refine (HU.at _).mono ?_); rintro e w1 ⟨rfl, hb⟩; replace HI := Lib.hid (HI.out.step hb); have k7 := HI.out.box.cell 7; have k8 := HI.out.box.cell 8; have k10 := HI.out.box.cell 10; have c0 := HI.out.mod.cell 0; have c1 := HI.out.mod.cell 1; clear hb))
        go_loop [29] (fun s29 => ∃ k : Nat, k ≤ o.m ∧ s29 = .int .i64 (k : Int) ∧ Hid (∀ i, i < k → (o.L i : Int) = p.D)) (fun s29 => o.m - (RowKit.intOf s29).toNat)
        case atStart => exact ⟨0, Nat.zero_le _, rfl, Lib.hid fun i hi => absurd hi (by omega)⟩
        case round =>
          obtain ⟨k, hk, rfl, HJ⟩ := hrel
          by_cases hlt : k < o.m
          · obtain ⟨ad, bo', c, hwo, hc, hs⟩ := HI.out.mat.mat k hlt
            have hwo' : wo = some ad := hwo
            subst hwo'
            clear hs hwo
            by_cases hl : (o.L k : Int) = p.D
            · have HN : Hid (∀ i, i < k + 1 → (o.L i : Int) = p.D) := Lib.hid fun i hi => by
                by_cases e : i = k
                · subst e; exact hl
                · exact HJ.out i (by omega)
              go_wp2_with fail
              go_round
              case rel => exact ⟨k + 1, by omega, by go_num, HN⟩
              case measure => simp [RowKit.intOf]; omega
            · have HZ := Lib.hid (HNV.out fun h => hl (h.2.2.2.1 k hlt))
              clear HNV HV
              go_wp2_with fail
              go_ret
              exact ⟨by rw [HZ.out]; rfl, HI.out.below⟩
          · obtain hkm : k = o.m := by omega
            rw [hkm] at HJ
            subst hkm
            by_cases hw : ∀ i, i < o.m → MM.Wi p.M (o.L i) (o.F i)
            · rw [decide_eq_true hw] at HW
              by_cases hw2 : MM.Wi p.M o.n o.b
              · rw [decide_eq_true hw2] at HW1
                have HZ := Lib.hid (HV.out ⟨HF.out, hm, hn, HJ.out, hw, hw2⟩)
                clear hw hw2 HV HNV
                go_wp2_with (first
                  | (go_at_call 38; (with_reducible refine (HW.out _ HI.out.mat).mono ?_); rintro e w2 ⟨rfl, rfl⟩)
                  | (go_at_call 38; (with_reducible refine (HW1.out _ HI.out.mat).mono ?_); rintro e w2 ⟨rfl, hb⟩; replace HI := Lib.hid (HI.out.step hb); clear hb))
                go_ret
                exact ⟨by rw [HZ.out]; rfl, HI.out.below⟩
              · rw [decide_eq_false hw2] at HW1
                have HZ := Lib.hid (HNV.out fun h => hw2 h.2.2.2.2.2)
                clear HNV HV
                clear hw hw2
                go_wp2_with (first
                  | (go_at_call 38; (with_reducible refine (HW.out _ HI.out.mat).mono ?_); rintro e w2 ⟨rfl, rfl⟩)
                  | (go_at_call 38; (with_reducible refine (HW1.out _ HI.out.mat).mono ?_); rintro e w2 ⟨rfl, hb⟩; replace HI := Lib.hid (HI.out.step hb); clear hb))
                go_ret
                exact ⟨by rw [HZ.out]; rfl, HI.out.below⟩
            · rw [decide_eq_false hw] at HW
              have HZ := Lib.hid (HNV.out fun h => hw h.2.2.2.2.1)
              clear HNV HV
              clear hw
              go_wp2_with (first
                | (go_at_call 38; (with_reducible refine (HW.out _ HI.out.mat).mono ?_); rintro e w2 ⟨rfl, rfl⟩))
              go_ret
              exact ⟨by rw [HZ.out]; rfl, HI.out.below⟩
      · have HZ := Lib.hid (HNV.out fun h => hn h.2.2.1)
        clear HNV HV
        clear hf
        go_enter Try.func14, Try.ntmps14
        go_wp2_with (first
          | (refine load_pm ?_ _ rfl W.heap.size rfl p HI.out.box ?_; first | rfl | (simp [Region.wanted, yielded]; done))
          | (go_at_call 37; (with_reducible refine (HU.at _).mono ?_); rintro e w1 ⟨rfl, hb⟩; replace HI := Lib.hid (HI.out.step hb); have k7 := HI.out.box.cell 7; have k8 := HI.out.box.cell 8; have k10 := HI.out.box.cell 10; have c0 := HI.out.mod.cell 0; have c1 := HI.out.mod.cell 1; clear hb))
        go_ret
        exact ⟨by rw [HZ.out]; rfl, HI.out.below⟩
    · have HZ := Lib.hid (HNV.out fun h => hm h.2.1)
      clear HNV HV
      clear hf
      go_enter Try.func14, Try.ntmps14
      go_wp2_with (first
        | (refine load_pm ?_ _ rfl W.heap.size rfl p HI.out.box ?_; first | rfl | (simp [Region.wanted, yielded]; done))
        | (go_at_call 37; (with_reducible refine (HU.at _).mono ?_); rintro e w1 ⟨rfl, hb⟩; replace HI := Lib.hid (HI.out.step hb); have k7 := HI.out.box.cell 7; have k8 := HI.out.box.cell 8; have k10 := HI.out.box.cell 10; have c0 := HI.out.mod.cell 0; have c1 := HI.out.mod.cell 1; clear hb))
      go_ret
      exact ⟨by rw [HZ.out]; rfl, HI.out.below⟩
  · have HZ := Lib.hid (HNV.out fun h => hf h.1)
    clear HNV HV
    rw [decide_eq_false hf] at HU
    clear hf
    go_enter Try.func14, Try.ntmps14
    go_wp2_with (first
      | (refine load_pm ?_ _ rfl W.heap.size rfl p HI.out.box ?_; first | rfl | (simp [Region.wanted, yielded]; done))
      | (go_at_call 37; (with_reducible refine (HU.at _).mono ?_); rintro e w1 ⟨rfl, hb⟩; replace HI := Lib.hid (HI.out.step hb); have k7 := HI.out.box.cell 7; have k8 := HI.out.box.cell 8; have k10 := HI.out.box.cell 10; have c0 := HI.out.mod.cell 0; have c1 := HI.out.mod.cell 1; clear hb))
    go_ret
    exact ⟨by rw [HZ.out]; rfl, HI.out.below⟩
end M
end Go.Proofs.Ytdblijpoelcghaa

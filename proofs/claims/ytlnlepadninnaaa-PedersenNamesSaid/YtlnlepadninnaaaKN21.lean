/- The texts PedWorks, one behind the other. -/
import Derived.Test.YtlnlepadninnaaaKN20
/- The examples that each statement of layer 8 asks for ahead of its own. -/
namespace Go.Proofs.Ytlnlepadninnaaa
open Go Go.RowKit Go.Lib
namespace M
set_option maxHeartbeats 16000000 in
set_option maxRecDepth 100000 in
theorem works8_any (w : World) : Calls Try.prog 4 #[] w fun e w' => e = .returned (.bool true) ∧ Below w.heap.size w w' := by
  have HS := small8_any
  go_enter Try.func4, Try.ntmps4
  go_upto_region 2 with (go_at_call 5; (with_reducible refine (HS.at _).mono ?_); rintro e w0 ⟨rfl, hb⟩; have HB := Lib.hid hb; clear hb)
  have HI : Hid (St8 w w0.heap.size (w0.alloc (.cells sm8.cells 25))) := Lib.hid ⟨HB.out.alloc HB.out.size _, PBox.new w0 sm8⟩
  generalize w0.heap.size = g at *
  generalize w0.alloc (.cells _ 25) = w1 at *
  go_wp2_with (refine wpList_row_if ?_ 25 _ rfl g rfl 25 sm8.cells (0, 0) _ HI.out.box Try.underlying25 rfl (by kernel_rfl) ?_; first | rfl | (simp [Region.wanted, yielded]; done))
  refine (coms_is [[1, 2], [3]] [[1], [0, 1]] [[13, 16], [18, 9]] 2 2 2 (by decide) (by decide) (by decide +kernel) ((((mat2 (by simp) (Sl.row ((row_at [1, 2] rfl rfl).alloc _) rfl) (Sl.row (row_at [3] (by simp) rfl) rfl)).alloc _).alloc _).alloc _) (mat2 (by simp) (Sl.row ((row_at [1] (by simp) rfl).alloc _) rfl) (Sl.row (row_at [0, 1] (by simp) rfl) rfl))).mono ?_
  rintro e w2 ⟨v, rfl, ⟨hv, hcap⟩, hb⟩
  obtain ⟨bo, cc, rfl, hm, _⟩ := hv.matV
  have hcc := hcap.le
  have hcI : (1 : Int) ≤ (cc : Int) := by omega
  have hcN : ¬ (cc : Int) < 1 := by omega
  have HI2 := ((((((HI.out.alloc _).alloc _).alloc _).alloc _).alloc _).alloc _).step hb
  clear hv hb HI hcap HB HS
  go_wp2_with fail
  refine RK.tame [some 40, none, none, none, none, none, none, none, none, none, none, none, some 0, some 1, some 2, some 3, some 4, some 5, some 6, some 7, some 8, some 9, some 10, some 11, some 12, some 13, some 14, some 15, some 16, some 17, some 18, some 19, some 20, some 21, some 22, some 23, some 24, some 25, some 26, some 27, some 28, some 29, some 30, some 31, some 32, some 33, some 34, some 35, some 36, some 37, some 38, some 39] [RK.Word.eq (.slice bo 2 cc), wR [13, 16], wR [18, 9], wM [[13, 16], [18, 9]], RK.Word.eq (.bool true), RK.Word.eq (.bool true), RK.Word.eq (.agg sm8.cells), RK.Word.eq (.slice bo 2 cc), RK.Word.eq (.bool true), RK.Word.eq (.bool true), RK.Word.eq (.bool true), RK.Word.eq (.agg sm8.cells), RK.Word.eq (.slice bo 2 cc), RK.Word.eq (.slice bo 1 cc), RK.Word.eq (.bool false), RK.Word.eq (.bool true), RK.Word.eq (.bool true), RK.Word.eq (.bool true), RK.Word.eq (.agg sm8.cells), RK.Word.eq (.slice bo 2 cc), wR [16, 9], wR [16, 9], RK.Word.eq (.bool true), RK.Word.eq (.bool true), RK.Word.eq (.bool true), RK.Word.eq (.agg sm8.cells), RK.Word.eq (.slice bo 2 cc), RK.Word.eq (.agg #[.int .u64 5, .int .u64 1]), RK.Word.eq (.agg #[.int .u64 3, .int .u64 2]), wP [5, 3] [1, 2], RK.Word.eq (.bool true), RK.Word.eq (.bool true), RK.Word.eq (.bool true), RK.Word.eq (.agg sm8.cells), RK.Word.eq (.slice bo 2 cc), RK.Word.eq (.agg #[.int .u64 5, .int .u64 1]), wP [5] [1], RK.Word.eq (.bool false), RK.Word.eq (.bool true), RK.Word.eq (.bool true), RK.Word.eq (.bool true)] (fun u => PBox u g sm8 ∧ Mat u bo 2 (MM.lenL [[13, 16], [18, 9]]) (MM.nlR [[13, 16], [18, 9]]) ∧ Below w.heap.size w u) (by kernel_rfl) (by kernel_rfl) (by kernel_rfl) ⟨HI2.box, hm, HI2.below⟩ (fun _ _ h hb => ⟨h.1.below hb, h.2.1.below hb, h.2.2.trans (hb.mono h.2.2.size)⟩) (fun i hi a' val w' hF => ?_) (fun val w' hw hp => ?_)
  · have hi2 : i = 0 ∨ i = 1 ∨ i = 2 ∨ i = 3 ∨ i = 4 ∨ i = 5 ∨ i = 6 ∨ i = 7 ∨ i = 8 ∨ i = 9 ∨ i = 10 ∨ i = 11 ∨ i = 12 ∨ i = 13 ∨ i = 14 ∨ i = 15 ∨ i = 16 ∨ i = 17 ∨ i = 18 ∨ i = 19 ∨ i = 20 ∨ i = 21 ∨ i = 22 ∨ i = 23 ∨ i = 24 ∨ i = 25 ∨ i = 26 ∨ i = 27 ∨ i = 28 ∨ i = 29 ∨ i = 30 ∨ i = 31 ∨ i = 32 ∨ i = 33 ∨ i = 34 ∨ i = 35 ∨ i = 36 ∨ i = 37 ∨ i = 38 ∨ i = 39 ∨ i = 40 := by
      have : i < 41 := hi
      omega
    clear hi
    rcases hi2 with rfl | rfl | rfl | rfl | rfl | rfl | rfl | rfl | rfl | rfl | rfl | rfl | rfl | rfl | rfl | rfl | rfl | rfl | rfl | rfl | rfl | rfl | rfl | rfl | rfl | rfl | rfl | rfl | rfl | rfl | rfl | rfl | rfl | rfl | rfl | rfl | rfl | rfl | rfl | rfl | rfl
    · have r2 : a'.eval (.tmp 2) = .slice bo 2 cc := (hF.old 2 (.inr rfl)).trans rfl
      refine RK.owes_exec (v := .slice bo 2 cc) (w' := w') rfl (RK.wanted_any rfl) ?_ (Below.refl _ _) rfl
      have rk : ∀ c, a'.eval (.const c) = c := fun _ => rfl
      generalize a'.eval = ρ at *
      go_simp
    · refine RK.owes_exec (v := .slice (some ⟨w'.heap.size, 0, none⟩) 2 2) (w' := (w'.alloc (.cells #[.int .u64 13, .int .u64 16] 23))) rfl (RK.wanted_any rfl) ?_ (below_box _ _) (isR_new w' [13, 16] rfl rfl)
      have rk : ∀ c, a'.eval (.const c) = c := fun _ => rfl
      generalize a'.eval = ρ at *
      go_simp
    · refine RK.owes_exec (v := .slice (some ⟨w'.heap.size, 0, none⟩) 2 2) (w' := (w'.alloc (.cells #[.int .u64 18, .int .u64 9] 23))) rfl (RK.wanted_any rfl) ?_ (below_box _ _) (isR_new w' [18, 9] rfl rfl)
      have rk : ∀ c, a'.eval (.const c) = c := fun _ => rfl
      generalize a'.eval = ρ at *
      go_simp
    · obtain ⟨ao1, c1, e1, h1⟩ : ∃ ao c, val 1 = .slice ao 2 c ∧ SrcN w' ao 2 c (MM.nl [13, 16]) := (hF.post 1 (by kernel_rfl))
      have r13 : a'.eval (.tmp 13) = .slice ao1 2 c1 := (hF.ev 13 1 rfl (by kernel_rfl) (of_decide_eq_true (by kernel_rfl))).trans e1
      obtain ⟨ao2, c2, e2, h2⟩ : ∃ ao c, val 2 = .slice ao 2 c ∧ SrcN w' ao 2 c (MM.nl [18, 9]) := (hF.post 2 (by kernel_rfl))
      have r14 : a'.eval (.tmp 14) = .slice ao2 2 c2 := (hF.ev 14 2 rfl (by kernel_rfl) (of_decide_eq_true (by kernel_rfl))).trans e2
      refine RK.owes_exec (v := .slice (some ⟨w'.heap.size, 0, none⟩) 2 2) (w' := (w'.alloc (.cells #[.slice ao1 2 c1, .slice ao2 2 c2] 27))) rfl (RK.wanted_any rfl) ?_ (below_box _ _) (isM2 w' [13, 16] [18, 9] ⟨ao1, c1, rfl, h1⟩ ⟨ao2, c2, rfl, h2⟩)
      have rk : ∀ c, a'.eval (.const c) = c := fun _ => rfl
      generalize a'.eval = ρ at *
      go_simp
    · have p0 : val 0 = .slice bo 2 cc := hF.post 0 (by kernel_rfl)
      have r12 : a'.eval (.tmp 12) = .slice bo 2 cc := (hF.ev 12 0 rfl (by kernel_rfl) (of_decide_eq_true (by kernel_rfl))).trans p0
      obtain ⟨ao3, c3, e3, h3⟩ : ∃ ao c, val 3 = .slice ao 2 c ∧ Mat w' ao 2 (MM.lenL [[13, 16], [18, 9]]) (MM.nlR [[13, 16], [18, 9]]) := (hF.post 3 (by kernel_rfl))
      have r15 : a'.eval (.tmp 15) = .slice ao3 2 c3 := (hF.ev 15 3 rfl (by kernel_rfl) (of_decide_eq_true (by kernel_rfl))).trans e3
      refine RK.owes_call (g := 8) (args := #[.slice bo 2 cc, .slice ao3 2 c3]) rfl (RK.wanted_any rfl) ?_ ?_
      · have rk : ∀ c, a'.eval (.const c) = c := fun _ => rfl
        have rf : ∀ f, a'.eval (.func f) = .func (.func f) #[] #[] := fun _ => rfl
        generalize a'.eval = ρ at *
        go_simp
      · refine (lists8_is (by decide) hF.S.2.1 h3).mono ?_
        rintro e w2 ⟨rfl, hb⟩
        exact ⟨_, rfl, hb, rfl⟩
    · have p4 : val 4 = .bool true := hF.post 4 (by kernel_rfl)
      have r16 : a'.eval (.tmp 16) = .bool true := (hF.ev 16 4 rfl (by kernel_rfl) (of_decide_eq_true (by kernel_rfl))).trans p4
      refine RK.owes_exec (v := .bool true) (w' := w') rfl (RK.wanted_any rfl) ?_ (Below.refl _ _) rfl
      have rk : ∀ c, a'.eval (.const c) = c := fun _ => rfl
      generalize a'.eval = ρ at *
      go_simp
    · have r1 : a'.eval (.tmp 1) = .pointer (some ⟨g, 0, none⟩) := (hF.old 1 (.inr rfl)).trans rfl
      have hwn : ∀ o : Oper, o.guard = some (5, true) → Region.wanted o _ = true := fun o h => RK.wanted_if h (hF.yields rfl rfl rfl (by kernel_rfl) (of_decide_eq_true (by kernel_rfl)) (hF.post 5 (by kernel_rfl)))
      refine RK.owes_exec (v := .agg sm8.cells) (w' := w') rfl (hwn _ rfl) ?_ (Below.refl _ _) rfl
      exact load_pbox hF.S.1 rfl r1
    · have r2 : a'.eval (.tmp 2) = .slice bo 2 cc := (hF.old 2 (.inr rfl)).trans rfl
      have hwn : ∀ o : Oper, o.guard = some (5, true) → Region.wanted o _ = true := fun o h => RK.wanted_if h (hF.yields rfl rfl rfl (by kernel_rfl) (of_decide_eq_true (by kernel_rfl)) (hF.post 5 (by kernel_rfl)))
      refine RK.owes_exec (v := .slice bo 2 cc) (w' := w') rfl (hwn _ rfl) ?_ (Below.refl _ _) rfl
      have rk : ∀ c, a'.eval (.const c) = c := fun _ => rfl
      generalize a'.eval = ρ at *
      go_simp
    · have p6 : val 6 = .agg sm8.cells := hF.post 6 (by kernel_rfl)
      have r18 : a'.eval (.tmp 18) = .agg sm8.cells := (hF.ev 18 6 rfl (by kernel_rfl) (of_decide_eq_true (by kernel_rfl))).trans p6
      have p7 : val 7 = .slice bo 2 cc := hF.post 7 (by kernel_rfl)
      have r19 : a'.eval (.tmp 19) = .slice bo 2 cc := (hF.ev 19 7 rfl (by kernel_rfl) (of_decide_eq_true (by kernel_rfl))).trans p7
      have hwn : ∀ o : Oper, o.guard = some (5, true) → Region.wanted o _ = true := fun o h => RK.wanted_if h (hF.yields rfl rfl rfl (by kernel_rfl) (of_decide_eq_true (by kernel_rfl)) (hF.post 5 (by kernel_rfl)))
      refine RK.owes_call (g := 11) (args := #[.agg sm8.cells, .slice bo 2 cc]) rfl (hwn _ rfl) ?_ ?_
      · have rk : ∀ c, a'.eval (.const c) = c := fun _ => rfl
        have rf : ∀ f, a'.eval (.func f) = .func (.func f) #[] #[] := fun _ => rfl
        generalize a'.eval = ρ at *
        go_simp
      · refine (formed_is [[13, 16], [18, 9]] 2 true (by decide) (by decide +kernel) hF.S.2.1).mono ?_
        rintro e w2 ⟨rfl, hb⟩
        exact ⟨_, rfl, hb, rfl⟩
    · have p5 : val 5 = .bool true := hF.post 5 (by kernel_rfl)
      have r17 : a'.eval (.tmp 17) = .bool true := (hF.ev 17 5 rfl (by kernel_rfl) (of_decide_eq_true (by kernel_rfl))).trans p5
      have p8 : val 8 = .bool true := hF.post 8 (by kernel_rfl)
      have r20 : a'.eval (.tmp 20) = .bool true := (hF.ev 20 8 rfl (by kernel_rfl) (of_decide_eq_true (by kernel_rfl))).trans p8
      refine RK.owes_exec (v := .bool true) (w' := w') rfl (RK.wanted_any rfl) ?_ (Below.refl _ _) rfl
      have rk : ∀ c, a'.eval (.const c) = c := fun _ => rfl
      generalize a'.eval = ρ at *
      go_simp
    · have p9 : val 9 = .bool true := hF.post 9 (by kernel_rfl)
      have r21 : a'.eval (.tmp 21) = .bool true := (hF.ev 21 9 rfl (by kernel_rfl) (of_decide_eq_true (by kernel_rfl))).trans p9
      refine RK.owes_exec (v := .bool true) (w' := w') rfl (RK.wanted_any rfl) ?_ (Below.refl _ _) rfl
      have rk : ∀ c, a'.eval (.const c) = c := fun _ => rfl
      generalize a'.eval = ρ at *
      go_simp
    · have r1 : a'.eval (.tmp 1) = .pointer (some ⟨g, 0, none⟩) := (hF.old 1 (.inr rfl)).trans rfl
      have hwn : ∀ o : Oper, o.guard = some (10, true) → Region.wanted o _ = true := fun o h => RK.wanted_if h (hF.yields rfl rfl rfl (by kernel_rfl) (of_decide_eq_true (by kernel_rfl)) (hF.post 10 (by kernel_rfl)))
      refine RK.owes_exec (v := .agg sm8.cells) (w' := w') rfl (hwn _ rfl) ?_ (Below.refl _ _) rfl
      exact load_pbox hF.S.1 rfl r1
    · have r2 : a'.eval (.tmp 2) = .slice bo 2 cc := (hF.old 2 (.inr rfl)).trans rfl
      have hwn : ∀ o : Oper, o.guard = some (10, true) → Region.wanted o _ = true := fun o h => RK.wanted_if h (hF.yields rfl rfl rfl (by kernel_rfl) (of_decide_eq_true (by kernel_rfl)) (hF.post 10 (by kernel_rfl)))
      refine RK.owes_exec (v := .slice bo 2 cc) (w' := w') rfl (hwn _ rfl) ?_ (Below.refl _ _) rfl
      have rk : ∀ c, a'.eval (.const c) = c := fun _ => rfl
      generalize a'.eval = ρ at *
      go_simp
    · have p12 : val 12 = .slice bo 2 cc := hF.post 12 (by kernel_rfl)
      have r24 : a'.eval (.tmp 24) = .slice bo 2 cc := (hF.ev 24 12 rfl (by kernel_rfl) (of_decide_eq_true (by kernel_rfl))).trans p12
      have hwn : ∀ o : Oper, o.guard = some (10, true) → Region.wanted o _ = true := fun o h => RK.wanted_if h (hF.yields rfl rfl rfl (by kernel_rfl) (of_decide_eq_true (by kernel_rfl)) (hF.post 10 (by kernel_rfl)))
      refine RK.owes_exec (v := .slice bo 1 cc) (w' := w') rfl (hwn _ rfl) ?_ (Below.refl _ _) rfl
      have rk : ∀ c, a'.eval (.const c) = c := fun _ => rfl
      generalize a'.eval = ρ at *
      go_simp
    · have p11 : val 11 = .agg sm8.cells := hF.post 11 (by kernel_rfl)
      have r23 : a'.eval (.tmp 23) = .agg sm8.cells := (hF.ev 23 11 rfl (by kernel_rfl) (of_decide_eq_true (by kernel_rfl))).trans p11
      have p13 : val 13 = .slice bo 1 cc := hF.post 13 (by kernel_rfl)
      have r25 : a'.eval (.tmp 25) = .slice bo 1 cc := (hF.ev 25 13 rfl (by kernel_rfl) (of_decide_eq_true (by kernel_rfl))).trans p13
      have hwn : ∀ o : Oper, o.guard = some (10, true) → Region.wanted o _ = true := fun o h => RK.wanted_if h (hF.yields rfl rfl rfl (by kernel_rfl) (of_decide_eq_true (by kernel_rfl)) (hF.post 10 (by kernel_rfl)))
      refine RK.owes_call (g := 11) (args := #[.agg sm8.cells, .slice bo 1 cc]) rfl (hwn _ rfl) ?_ ?_
      · have rk : ∀ c, a'.eval (.const c) = c := fun _ => rfl
        have rf : ∀ f, a'.eval (.func f) = .func (.func f) #[] #[] := fun _ => rfl
        generalize a'.eval = ρ at *
        go_simp
      · refine (formed_is [[13, 16], [18, 9]] 1 false (by decide) (by decide +kernel) (MatV.cut hF.S.2.1 (by decide))).mono ?_
        rintro e w2 ⟨rfl, hb⟩
        exact ⟨_, rfl, hb, rfl⟩
    · have p14 : val 14 = .bool false := hF.post 14 (by kernel_rfl)
      have r26 : a'.eval (.tmp 26) = .bool false := (hF.ev 26 14 rfl (by kernel_rfl) (of_decide_eq_true (by kernel_rfl))).trans p14
      have hwn : ∀ o : Oper, o.guard = some (10, true) → Region.wanted o _ = true := fun o h => RK.wanted_if h (hF.yields rfl rfl rfl (by kernel_rfl) (of_decide_eq_true (by kernel_rfl)) (hF.post 10 (by kernel_rfl)))
      refine RK.owes_exec (v := .bool true) (w' := w') rfl (hwn _ rfl) ?_ (Below.refl _ _) rfl
      have rk : ∀ c, a'.eval (.const c) = c := fun _ => rfl
      generalize a'.eval = ρ at *
      go_simp
    · have p10 : val 10 = .bool true := hF.post 10 (by kernel_rfl)
      have r22 : a'.eval (.tmp 22) = .bool true := (hF.ev 22 10 rfl (by kernel_rfl) (of_decide_eq_true (by kernel_rfl))).trans p10
      have p15 : val 15 = .bool true := hF.post 15 (by kernel_rfl)
      have r27 : a'.eval (.tmp 27) = .bool true := (hF.ev 27 15 rfl (by kernel_rfl) (of_decide_eq_true (by kernel_rfl))).trans p15
      refine RK.owes_exec (v := .bool true) (w' := w') rfl (RK.wanted_any rfl) ?_ (Below.refl _ _) rfl
      have rk : ∀ c, a'.eval (.const c) = c := fun _ => rfl
      generalize a'.eval = ρ at *
      go_simp
    · have p16 : val 16 = .bool true := hF.post 16 (by kernel_rfl)
      have r28 : a'.eval (.tmp 28) = .bool true := (hF.ev 28 16 rfl (by kernel_rfl) (of_decide_eq_true (by kernel_rfl))).trans p16
      refine RK.owes_exec (v := .bool true) (w' := w') rfl (RK.wanted_any rfl) ?_ (Below.refl _ _) rfl
      have rk : ∀ c, a'.eval (.const c) = c := fun _ => rfl
      generalize a'.eval = ρ at *
      go_simp
    · have r1 : a'.eval (.tmp 1) = .pointer (some ⟨g, 0, none⟩) := (hF.old 1 (.inr rfl)).trans rfl
      have hwn : ∀ o : Oper, o.guard = some (17, true) → Region.wanted o _ = true := fun o h => RK.wanted_if h (hF.yields rfl rfl rfl (by kernel_rfl) (of_decide_eq_true (by kernel_rfl)) (hF.post 17 (by kernel_rfl)))
      refine RK.owes_exec (v := .agg sm8.cells) (w' := w') rfl (hwn _ rfl) ?_ (Below.refl _ _) rfl
      exact load_pbox hF.S.1 rfl r1
    · have r2 : a'.eval (.tmp 2) = .slice bo 2 cc := (hF.old 2 (.inr rfl)).trans rfl
      have hwn : ∀ o : Oper, o.guard = some (17, true) → Region.wanted o _ = true := fun o h => RK.wanted_if h (hF.yields rfl rfl rfl (by kernel_rfl) (of_decide_eq_true (by kernel_rfl)) (hF.post 17 (by kernel_rfl)))
      refine RK.owes_exec (v := .slice bo 2 cc) (w' := w') rfl (hwn _ rfl) ?_ (Below.refl _ _) rfl
      have rk : ∀ c, a'.eval (.const c) = c := fun _ => rfl
      generalize a'.eval = ρ at *
      go_simp
    · have p18 : val 18 = .agg sm8.cells := hF.post 18 (by kernel_rfl)
      have r30 : a'.eval (.tmp 30) = .agg sm8.cells := (hF.ev 30 18 rfl (by kernel_rfl) (of_decide_eq_true (by kernel_rfl))).trans p18
      have p19 : val 19 = .slice bo 2 cc := hF.post 19 (by kernel_rfl)
      have r31 : a'.eval (.tmp 31) = .slice bo 2 cc := (hF.ev 31 19 rfl (by kernel_rfl) (of_decide_eq_true (by kernel_rfl))).trans p19
      have hwn : ∀ o : Oper, o.guard = some (17, true) → Region.wanted o _ = true := fun o h => RK.wanted_if h (hF.yields rfl rfl rfl (by kernel_rfl) (of_decide_eq_true (by kernel_rfl)) (hF.post 17 (by kernel_rfl)))
      refine RK.owes_call (g := 13) (args := #[.agg sm8.cells, .slice bo 2 cc, .int .u64 2]) rfl (hwn _ rfl) ?_ ?_
      · have rk : ∀ c, a'.eval (.const c) = c := fun _ => rfl
        have rf : ∀ f, a'.eval (.func f) = .func (.func f) #[] #[] := fun _ => rfl
        generalize a'.eval = ρ at *
        go_simp
      · refine (share_is [[13, 16], [18, 9]] [16, 9] 2 2 rfl (by decide) (by decide +kernel) hF.S.2.1).mono ?_
        rintro e w2 ⟨B6, rfl, hr, hb⟩
        exact ⟨_, rfl, hb, isR_of hr rfl⟩
    · have hwn : ∀ o : Oper, o.guard = some (17, true) → Region.wanted o _ = true := fun o h => RK.wanted_if h (hF.yields rfl rfl rfl (by kernel_rfl) (of_decide_eq_true (by kernel_rfl)) (hF.post 17 (by kernel_rfl)))
      refine RK.owes_exec (v := .slice (some ⟨w'.heap.size, 0, none⟩) 2 2) (w' := (w'.alloc (.cells #[.int .u64 16, .int .u64 9] 23))) rfl (hwn _ rfl) ?_ (below_box _ _) (isR_new w' [16, 9] rfl rfl)
      have rk : ∀ c, a'.eval (.const c) = c := fun _ => rfl
      generalize a'.eval = ρ at *
      go_simp
    · obtain ⟨ao20, c20, e20, h20⟩ : ∃ ao c, val 20 = .slice ao 2 c ∧ SrcN w' ao 2 c (MM.nl [16, 9]) := (hF.post 20 (by kernel_rfl))
      have r32 : a'.eval (.tmp 32) = .slice ao20 2 c20 := (hF.ev 32 20 rfl (by kernel_rfl) (of_decide_eq_true (by kernel_rfl))).trans e20
      obtain ⟨ao21, c21, e21, h21⟩ : ∃ ao c, val 21 = .slice ao 2 c ∧ SrcN w' ao 2 c (MM.nl [16, 9]) := (hF.post 21 (by kernel_rfl))
      have r33 : a'.eval (.tmp 33) = .slice ao21 2 c21 := (hF.ev 33 21 rfl (by kernel_rfl) (of_decide_eq_true (by kernel_rfl))).trans e21
      have hwn : ∀ o : Oper, o.guard = some (17, true) → Region.wanted o _ = true := fun o h => RK.wanted_if h (hF.yields rfl rfl rfl (by kernel_rfl) (of_decide_eq_true (by kernel_rfl)) (hF.post 17 (by kernel_rfl)))
      refine RK.owes_call (g := 16) (args := #[.slice ao20 2 c20, .slice ao21 2 c21]) rfl (hwn _ rfl) ?_ ?_
      · have rk : ∀ c, a'.eval (.const c) = c := fun _ => rfl
        have rf : ∀ f, a'.eval (.func f) = .func (.func f) #[] #[] := fun _ => rfl
        generalize a'.eval = ρ at *
        go_simp
      · refine (nums8_is (by decide) h20.1 h21.1).mono ?_
        rintro e w2 ⟨rfl, hb⟩
        exact ⟨_, rfl, hb, rfl⟩
    · have p17 : val 17 = .bool true := hF.post 17 (by kernel_rfl)
      have r29 : a'.eval (.tmp 29) = .bool true := (hF.ev 29 17 rfl (by kernel_rfl) (of_decide_eq_true (by kernel_rfl))).trans p17
      have p22 : val 22 = .bool true := hF.post 22 (by kernel_rfl)
      have r34 : a'.eval (.tmp 34) = .bool true := (hF.ev 34 22 rfl (by kernel_rfl) (of_decide_eq_true (by kernel_rfl))).trans p22
      refine RK.owes_exec (v := .bool true) (w' := w') rfl (RK.wanted_any rfl) ?_ (Below.refl _ _) rfl
      have rk : ∀ c, a'.eval (.const c) = c := fun _ => rfl
      generalize a'.eval = ρ at *
      go_simp
    · have p23 : val 23 = .bool true := hF.post 23 (by kernel_rfl)
      have r35 : a'.eval (.tmp 35) = .bool true := (hF.ev 35 23 rfl (by kernel_rfl) (of_decide_eq_true (by kernel_rfl))).trans p23
      refine RK.owes_exec (v := .bool true) (w' := w') rfl (RK.wanted_any rfl) ?_ (Below.refl _ _) rfl
      have rk : ∀ c, a'.eval (.const c) = c := fun _ => rfl
      generalize a'.eval = ρ at *
      go_simp
    · have r1 : a'.eval (.tmp 1) = .pointer (some ⟨g, 0, none⟩) := (hF.old 1 (.inr rfl)).trans rfl
      have hwn : ∀ o : Oper, o.guard = some (24, true) → Region.wanted o _ = true := fun o h => RK.wanted_if h (hF.yields rfl rfl rfl (by kernel_rfl) (of_decide_eq_true (by kernel_rfl)) (hF.post 24 (by kernel_rfl)))
      refine RK.owes_exec (v := .agg sm8.cells) (w' := w') rfl (hwn _ rfl) ?_ (Below.refl _ _) rfl
      exact load_pbox hF.S.1 rfl r1
    · have r2 : a'.eval (.tmp 2) = .slice bo 2 cc := (hF.old 2 (.inr rfl)).trans rfl
      have hwn : ∀ o : Oper, o.guard = some (24, true) → Region.wanted o _ = true := fun o h => RK.wanted_if h (hF.yields rfl rfl rfl (by kernel_rfl) (of_decide_eq_true (by kernel_rfl)) (hF.post 24 (by kernel_rfl)))
      refine RK.owes_exec (v := .slice bo 2 cc) (w' := w') rfl (hwn _ rfl) ?_ (Below.refl _ _) rfl
      have rk : ∀ c, a'.eval (.const c) = c := fun _ => rfl
      generalize a'.eval = ρ at *
      go_simp
    · have hwn : ∀ o : Oper, o.guard = some (24, true) → Region.wanted o _ = true := fun o h => RK.wanted_if h (hF.yields rfl rfl rfl (by kernel_rfl) (of_decide_eq_true (by kernel_rfl)) (hF.post 24 (by kernel_rfl)))
      refine RK.owes_exec (v := .agg #[.int .u64 5, .int .u64 1]) (w' := w') rfl (hwn _ rfl) ?_ (Below.refl _ _) rfl
      have rk : ∀ c, a'.eval (.const c) = c := fun _ => rfl
      generalize a'.eval = ρ at *
      go_simp
    · have hwn : ∀ o : Oper, o.guard = some (24, true) → Region.wanted o _ = true := fun o h => RK.wanted_if h (hF.yields rfl rfl rfl (by kernel_rfl) (of_decide_eq_true (by kernel_rfl)) (hF.post 24 (by kernel_rfl)))
      refine RK.owes_exec (v := .agg #[.int .u64 3, .int .u64 2]) (w' := w') rfl (hwn _ rfl) ?_ (Below.refl _ _) rfl
      have rk : ∀ c, a'.eval (.const c) = c := fun _ => rfl
      generalize a'.eval = ρ at *
      go_simp
    · have p27 : val 27 = .agg #[.int .u64 5, .int .u64 1] := hF.post 27 (by kernel_rfl)
      have r39 : a'.eval (.tmp 39) = .agg #[.int .u64 5, .int .u64 1] := (hF.ev 39 27 rfl (by kernel_rfl) (of_decide_eq_true (by kernel_rfl))).trans p27
      have p28 : val 28 = .agg #[.int .u64 3, .int .u64 2] := hF.post 28 (by kernel_rfl)
      have r40 : a'.eval (.tmp 40) = .agg #[.int .u64 3, .int .u64 2] := (hF.ev 40 28 rfl (by kernel_rfl) (of_decide_eq_true (by kernel_rfl))).trans p28
      have hwn : ∀ o : Oper, o.guard = some (24, true) → Region.wanted o _ = true := fun o h => RK.wanted_if h (hF.yields rfl rfl rfl (by kernel_rfl) (of_decide_eq_true (by kernel_rfl)) (hF.post 24 (by kernel_rfl)))
      refine RK.owes_exec (v := .slice (some ⟨w'.heap.size, 0, none⟩) 2 2) (w' := (w'.alloc (.cells #[.int .u64 5, .int .u64 1, .int .u64 3, .int .u64 2] 41))) rfl (hwn _ rfl) ?_ (below_box _ _) (isP_new w' [5, 3] [1, 2] rfl (fun k hk => by match k, hk with | 0, _ => exact ⟨rfl, rfl⟩ | 1, _ => exact ⟨rfl, rfl⟩))
      have rk : ∀ c, a'.eval (.const c) = c := fun _ => rfl
      generalize a'.eval = ρ at *
      go_simp
    · have p25 : val 25 = .agg sm8.cells := hF.post 25 (by kernel_rfl)
      have r37 : a'.eval (.tmp 37) = .agg sm8.cells := (hF.ev 37 25 rfl (by kernel_rfl) (of_decide_eq_true (by kernel_rfl))).trans p25
      have p26 : val 26 = .slice bo 2 cc := hF.post 26 (by kernel_rfl)
      have r38 : a'.eval (.tmp 38) = .slice bo 2 cc := (hF.ev 38 26 rfl (by kernel_rfl) (of_decide_eq_true (by kernel_rfl))).trans p26
      obtain ⟨ao29, c29, e29, h29⟩ : ∃ ao c, val 29 = .slice ao 2 c ∧ PairR w' ao 2 (MM.nl [5, 3]) (MM.nl [1, 2]) := (hF.post 29 (by kernel_rfl))
      have r41 : a'.eval (.tmp 41) = .slice ao29 2 c29 := (hF.ev 41 29 rfl (by kernel_rfl) (of_decide_eq_true (by kernel_rfl))).trans e29
      have hwn : ∀ o : Oper, o.guard = some (24, true) → Region.wanted o _ = true := fun o h => RK.wanted_if h (hF.yields rfl rfl rfl (by kernel_rfl) (of_decide_eq_true (by kernel_rfl)) (hF.post 24 (by kernel_rfl)))
      refine RK.owes_call (g := 14) (args := #[.agg sm8.cells, .slice bo 2 cc, .int .u64 2, .slice ao29 2 c29]) rfl (hwn _ rfl) ?_ ?_
      · have rk : ∀ c, a'.eval (.const c) = c := fun _ => rfl
        have rf : ∀ f, a'.eval (.func f) = .func (.func f) #[] #[] := fun _ => rfl
        generalize a'.eval = ρ at *
        go_simp
      · refine (fits_is [[13, 16], [18, 9]] [5, 3] [1, 2] 2 2 true rfl (by decide) (by decide) (by decide) (by decide +kernel) hF.S.2.1 h29).mono ?_
        rintro e w2 ⟨rfl, hb⟩
        exact ⟨_, rfl, hb, rfl⟩
    · have p24 : val 24 = .bool true := hF.post 24 (by kernel_rfl)
      have r36 : a'.eval (.tmp 36) = .bool true := (hF.ev 36 24 rfl (by kernel_rfl) (of_decide_eq_true (by kernel_rfl))).trans p24
      have p30 : val 30 = .bool true := hF.post 30 (by kernel_rfl)
      have r42 : a'.eval (.tmp 42) = .bool true := (hF.ev 42 30 rfl (by kernel_rfl) (of_decide_eq_true (by kernel_rfl))).trans p30
      refine RK.owes_exec (v := .bool true) (w' := w') rfl (RK.wanted_any rfl) ?_ (Below.refl _ _) rfl
      have rk : ∀ c, a'.eval (.const c) = c := fun _ => rfl
      generalize a'.eval = ρ at *
      go_simp
    · have p31 : val 31 = .bool true := hF.post 31 (by kernel_rfl)
      have r43 : a'.eval (.tmp 43) = .bool true := (hF.ev 43 31 rfl (by kernel_rfl) (of_decide_eq_true (by kernel_rfl))).trans p31
      refine RK.owes_exec (v := .bool true) (w' := w') rfl (RK.wanted_any rfl) ?_ (Below.refl _ _) rfl
      have rk : ∀ c, a'.eval (.const c) = c := fun _ => rfl
      generalize a'.eval = ρ at *
      go_simp
    · have r1 : a'.eval (.tmp 1) = .pointer (some ⟨g, 0, none⟩) := (hF.old 1 (.inr rfl)).trans rfl
      have hwn : ∀ o : Oper, o.guard = some (32, true) → Region.wanted o _ = true := fun o h => RK.wanted_if h (hF.yields rfl rfl rfl (by kernel_rfl) (of_decide_eq_true (by kernel_rfl)) (hF.post 32 (by kernel_rfl)))
      refine RK.owes_exec (v := .agg sm8.cells) (w' := w') rfl (hwn _ rfl) ?_ (Below.refl _ _) rfl
      exact load_pbox hF.S.1 rfl r1
    · have r2 : a'.eval (.tmp 2) = .slice bo 2 cc := (hF.old 2 (.inr rfl)).trans rfl
      have hwn : ∀ o : Oper, o.guard = some (32, true) → Region.wanted o _ = true := fun o h => RK.wanted_if h (hF.yields rfl rfl rfl (by kernel_rfl) (of_decide_eq_true (by kernel_rfl)) (hF.post 32 (by kernel_rfl)))
      refine RK.owes_exec (v := .slice bo 2 cc) (w' := w') rfl (hwn _ rfl) ?_ (Below.refl _ _) rfl
      have rk : ∀ c, a'.eval (.const c) = c := fun _ => rfl
      generalize a'.eval = ρ at *
      go_simp
    · have hwn : ∀ o : Oper, o.guard = some (32, true) → Region.wanted o _ = true := fun o h => RK.wanted_if h (hF.yields rfl rfl rfl (by kernel_rfl) (of_decide_eq_true (by kernel_rfl)) (hF.post 32 (by kernel_rfl)))
      refine RK.owes_exec (v := .agg #[.int .u64 5, .int .u64 1]) (w' := w') rfl (hwn _ rfl) ?_ (Below.refl _ _) rfl
      have rk : ∀ c, a'.eval (.const c) = c := fun _ => rfl
      generalize a'.eval = ρ at *
      go_simp
    · have p35 : val 35 = .agg #[.int .u64 5, .int .u64 1] := hF.post 35 (by kernel_rfl)
      have r47 : a'.eval (.tmp 47) = .agg #[.int .u64 5, .int .u64 1] := (hF.ev 47 35 rfl (by kernel_rfl) (of_decide_eq_true (by kernel_rfl))).trans p35
      have hwn : ∀ o : Oper, o.guard = some (32, true) → Region.wanted o _ = true := fun o h => RK.wanted_if h (hF.yields rfl rfl rfl (by kernel_rfl) (of_decide_eq_true (by kernel_rfl)) (hF.post 32 (by kernel_rfl)))
      refine RK.owes_exec (v := .slice (some ⟨w'.heap.size, 0, none⟩) 1 1) (w' := (w'.alloc (.cells #[.int .u64 5, .int .u64 1] 41))) rfl (hwn _ rfl) ?_ (below_box _ _) (isP_new w' [5] [1] rfl (fun k hk => by match k, hk with | 0, _ => exact ⟨rfl, rfl⟩))
      have rk : ∀ c, a'.eval (.const c) = c := fun _ => rfl
      generalize a'.eval = ρ at *
      go_simp
    · have p33 : val 33 = .agg sm8.cells := hF.post 33 (by kernel_rfl)
      have r45 : a'.eval (.tmp 45) = .agg sm8.cells := (hF.ev 45 33 rfl (by kernel_rfl) (of_decide_eq_true (by kernel_rfl))).trans p33
      have p34 : val 34 = .slice bo 2 cc := hF.post 34 (by kernel_rfl)
      have r46 : a'.eval (.tmp 46) = .slice bo 2 cc := (hF.ev 46 34 rfl (by kernel_rfl) (of_decide_eq_true (by kernel_rfl))).trans p34
      obtain ⟨ao36, c36, e36, h36⟩ : ∃ ao c, val 36 = .slice ao 1 c ∧ PairR w' ao 1 (MM.nl [5]) (MM.nl [1]) := (hF.post 36 (by kernel_rfl))
      have r48 : a'.eval (.tmp 48) = .slice ao36 1 c36 := (hF.ev 48 36 rfl (by kernel_rfl) (of_decide_eq_true (by kernel_rfl))).trans e36
      have hwn : ∀ o : Oper, o.guard = some (32, true) → Region.wanted o _ = true := fun o h => RK.wanted_if h (hF.yields rfl rfl rfl (by kernel_rfl) (of_decide_eq_true (by kernel_rfl)) (hF.post 32 (by kernel_rfl)))
      refine RK.owes_call (g := 14) (args := #[.agg sm8.cells, .slice bo 2 cc, .int .u64 2, .slice ao36 1 c36]) rfl (hwn _ rfl) ?_ ?_
      · have rk : ∀ c, a'.eval (.const c) = c := fun _ => rfl
        have rf : ∀ f, a'.eval (.func f) = .func (.func f) #[] #[] := fun _ => rfl
        generalize a'.eval = ρ at *
        go_simp
      · refine (fits_not 2 1 2 rfl (by decide)).mono ?_
        rintro e w2 ⟨rfl, hb⟩
        exact ⟨_, rfl, hb, rfl⟩
    · have p37 : val 37 = .bool false := hF.post 37 (by kernel_rfl)
      have r49 : a'.eval (.tmp 49) = .bool false := (hF.ev 49 37 rfl (by kernel_rfl) (of_decide_eq_true (by kernel_rfl))).trans p37
      have hwn : ∀ o : Oper, o.guard = some (32, true) → Region.wanted o _ = true := fun o h => RK.wanted_if h (hF.yields rfl rfl rfl (by kernel_rfl) (of_decide_eq_true (by kernel_rfl)) (hF.post 32 (by kernel_rfl)))
      refine RK.owes_exec (v := .bool true) (w' := w') rfl (hwn _ rfl) ?_ (Below.refl _ _) rfl
      have rk : ∀ c, a'.eval (.const c) = c := fun _ => rfl
      generalize a'.eval = ρ at *
      go_simp
    · have p32 : val 32 = .bool true := hF.post 32 (by kernel_rfl)
      have r44 : a'.eval (.tmp 44) = .bool true := (hF.ev 44 32 rfl (by kernel_rfl) (of_decide_eq_true (by kernel_rfl))).trans p32
      have p38 : val 38 = .bool true := hF.post 38 (by kernel_rfl)
      have r50 : a'.eval (.tmp 50) = .bool true := (hF.ev 50 38 rfl (by kernel_rfl) (of_decide_eq_true (by kernel_rfl))).trans p38
      refine RK.owes_exec (v := .bool true) (w' := w') rfl (RK.wanted_any rfl) ?_ (Below.refl _ _) rfl
      have rk : ∀ c, a'.eval (.const c) = c := fun _ => rfl
      generalize a'.eval = ρ at *
      go_simp
    · have p39 : val 39 = .bool true := hF.post 39 (by kernel_rfl)
      have r51 : a'.eval (.tmp 51) = .bool true := (hF.ev 51 39 rfl (by kernel_rfl) (of_decide_eq_true (by kernel_rfl))).trans p39
      refine RK.owes_exec (v := .bool true) (w' := w') rfl (RK.wanted_any rfl) ?_ (Below.refl _ _) rfl
      have rk : ∀ c, a'.eval (.const c) = c := fun _ => rfl
      generalize a'.eval = ρ at *
      go_simp
  · have hz : val 40 = .bool true := hp 40 (of_decide_eq_true (by kernel_rfl))
    simp only [RK.slotsL, if_true, hz]
    have hbw := hw.2.2
    clear hp hw
    go_wp2_with fail
    go_ret
    exact ⟨rfl, hbw⟩
end M
end Go.Proofs.Ytlnlepadninnaaa

/- The texts Law07a, one behind the other. -/
import Derived.Test.YtnlkikcnjlkkdaaWB7
/- The statements' examples hold. -/
namespace Go.Proofs.Ytnlkikcnjlkkdaa
open Go Go.RowKit Go.Lib
namespace M
/-- The examples' model. -/
def mo7 : MM.Mo := MM.moL [[2], [-3]] [1, 0]
theorem mo7_ok : MoOk mo7 := by
  refine ⟨by decide, by decide, fun i => ?_, fun i j => ?_, fun i => ?_⟩
  · match i with
    | 0 => decide
    | 1 => decide
    | i + 2 => simp [mo7, MM.moL]
  · match i with
    | 0 => exact il_ok (l := [2]) (by decide) j
    | 1 => exact il_ok (l := [-3]) (by decide) j
    | i + 2 => simp [mo7, MM.moL]
  · exact il_ok (l := [1, 0]) (by decide) i
theorem val7 : MM.Valid sp mo7 := by decide
theorem num7 : Ret 5 #[.int .i64 (-3), .int .u64 101] (.int .u64 98) := num_any (-3) 101 (by omega)
theorem int7 : Ret 6 #[.int .u64 98, .int .u64 101] (.int .i64 (-3)) := int_any 98 101 (by omega)
theorem load_mo7 {w : World} {g : Nat} {v : MoV} {m : MM.Mo} (h : BoxM w g v m) {o : Oper} {ev : Operand → Value} {x : Operand} (ho : o.op = .load 36 x) (hx : ev x = .pointer (some ⟨g, 0, none⟩)) : (execOp ev o).run Try.prog w = .ok (.value (.agg (v.cells m))) w := by
  unfold execOp
  simp only [ho, hx, Instr.loadAt, Instr.sureAddr, Sem.run_bind, Sem.run_pure, Result.andThen_ok, run_loadVar_row w g 36 36 (v.cells m) (0, 0) _ h Try.underlying36 rfl info_mo]
/-- The examples' model, as it is built. -/
theorem mo7_at (W : World) : ∃ (mv : MoV) (mb : Nat) (W1 : World), ((((W.alloc (.cells #[.int .i64 2] 2)).alloc (.cells #[.int .i64 (-3)] 2)).alloc (.cells #[.slice (some ⟨W.heap.size, 0, none⟩) 1 1, .slice (some ⟨W.heap.size + 1, 0, none⟩) 1 1] 34)).alloc (.cells #[.int .i64 1, .int .i64 0] 2)).alloc (.cells #[.slice (some ⟨W.heap.size + 1 + 1, 0, none⟩) 2 2, .slice (some ⟨W.heap.size + 1 + 1 + 1, 0, none⟩) 2 2] 36) = W1 ∧
    W.heap.size + 1 + 1 + 1 + 1 = mb ∧ BoxM W1 mb mv mo7 ∧ MoAt W1 mv mo7 ∧ Below W.heap.size W W1 := by
  have n1 := isI_new W [2] (cs := #[.int .i64 2]) rfl rfl
  have b1 := below_box W (.cells #[.int .i64 2] 2)
  have s1 := World.size_alloc W (.cells #[.int .i64 2] 2)
  generalize W.alloc (.cells #[.int .i64 2] 2) = V1 at *
  have n2 := isI_new V1 [-3] (cs := #[.int .i64 (-3)]) rfl rfl
  have b2 := below_box V1 (.cells #[.int .i64 (-3)] 2)
  have s2 := World.size_alloc V1 (.cells #[.int .i64 (-3)] 2)
  generalize V1.alloc (.cells #[.int .i64 (-3)] 2) = V2 at *
  rw [s1] at n2
  have n3 := mat_new (w := V2) (T := 34) [[2], [-3]] [.slice (some ⟨W.heap.size, 0, none⟩) 1 1, .slice (some ⟨W.heap.size + 1, 0, none⟩) 1 1] (n := 2) fun i hi => by
    match i, hi with
    | 0, _ => exact ⟨_, rfl, n1.below b2⟩
    | 1, _ => exact ⟨_, rfl, n2⟩
  have b3 := below_box V2 (.cells #[.slice (some ⟨W.heap.size, 0, none⟩) 1 1, .slice (some ⟨W.heap.size + 1, 0, none⟩) 1 1] 34)
  have s3 := World.size_alloc V2 (.cells #[.slice (some ⟨W.heap.size, 0, none⟩) 1 1, .slice (some ⟨W.heap.size + 1, 0, none⟩) 1 1] 34)
  change IMat (V2.alloc (.cells #[.slice (some ⟨W.heap.size, 0, none⟩) 1 1, .slice (some ⟨W.heap.size + 1, 0, none⟩) 1 1] 34)) _ _ _ _ at n3
  generalize V2.alloc (.cells #[.slice (some ⟨W.heap.size, 0, none⟩) 1 1, .slice (some ⟨W.heap.size + 1, 0, none⟩) 1 1] 34) = V3 at *
  have n4 := isI_new V3 [1, 0] (cs := #[.int .i64 1, .int .i64 0]) rfl rfl
  have b4 := below_box V3 (.cells #[.int .i64 1, .int .i64 0] 2)
  have s4 := World.size_alloc V3 (.cells #[.int .i64 1, .int .i64 0] 2)
  generalize V3.alloc (.cells #[.int .i64 1, .int .i64 0] 2) = V4 at *
  have e2 : V2.heap.size = W.heap.size + 1 + 1 := by rw [s2, s1]
  have e3 : V3.heap.size = W.heap.size + 1 + 1 + 1 := by rw [s3, e2]
  have e4 : V4.heap.size = W.heap.size + 1 + 1 + 1 + 1 := by rw [s4, e3]
  rw [e2] at n3
  rw [e3] at n4
  have n5 := BoxM.new V4 ⟨some ⟨W.heap.size + 1 + 1, 0, none⟩, 2, some ⟨W.heap.size + 1 + 1 + 1, 0, none⟩, 2⟩ mo7
  have b5 := below_box V4 (.cells (MoV.cells ⟨some ⟨W.heap.size + 1 + 1, 0, none⟩, 2, some ⟨W.heap.size + 1 + 1 + 1, 0, none⟩, 2⟩ mo7) 36)
  obtain ⟨ao, c, e, hi⟩ := n4
  cases e
  refine ⟨⟨some ⟨W.heap.size + 1 + 1, 0, none⟩, 2, some ⟨W.heap.size + 1 + 1 + 1, 0, none⟩, 2⟩, _, _, rfl, rfl, ?_, ⟨(n3.below b4).below b5, hi.below b5⟩, ?_⟩
  · rw [← e4]; exact n5
  · exact ((((b1.trans (b2.mono b1.size)).trans (b3.mono (by omega))).trans (b4.mono (by omega))).trans (b5.mono (by omega)))
set_option maxRecDepth 100000 in
set_option maxHeartbeats 16000000 in
theorem awake_any (W : World) : Calls Try.prog 4 #[] W fun e w' => e = .returned (.bool true) ∧ Below W.heap.size W w' := by
  obtain ⟨mv, mb, W1, hW1, hmb, hbox, hat, hbl⟩ := mo7_at W
  go_enter Try.func4, Try.ntmps4
  go_upto_region 2 with fail
  refine RK.tame [some 41, none, none, none, none, none, none, some 0, some 1, some 2, some 3, some 4, some 5, some 6, some 7, some 8, some 9, some 10, some 11, some 12, some 13, some 14, some 15, some 16, some 17, some 18, some 19, some 20, some 21, some 22, some 23, some 24, some 25, some 26, some 27, some 28, some 29, some 30, some 31, some 32, some 33, some 34, some 35, some 36, some 37, some 38, some 39, some 40] [RK.Word.eq (.int .u64 98), RK.Word.eq (.bool true), RK.Word.eq (.bool true), RK.Word.eq (.int .i64 (-3)), RK.Word.eq (.bool true), RK.Word.eq (.bool true), RK.Word.eq (.bool true), RK.Word.eq (.agg sp.cells), RK.Word.eq (.agg (MoV.cells mv mo7)), RK.Word.eq (.bool true), RK.Word.eq (.bool true), RK.Word.eq (.bool true), RK.Word.eq (.agg sp.cells), RK.Word.eq (.agg (MoV.cells mv mo7)), wU [2, 1, 98, 0], wU [2, 1, 98, 0], RK.Word.eq (.bool true), RK.Word.eq (.bool true), RK.Word.eq (.bool true), RK.Word.eq (.agg sp.cells), wI [-2], wU [99, 1], wU [99, 1], RK.Word.eq (.bool true), RK.Word.eq (.bool true), RK.Word.eq (.bool true), RK.Word.eq (.agg sp.cells), wU [2, 1, 98, 0], wI [-2], wU [98, 6], wU [98, 6], RK.Word.eq (.bool true), RK.Word.eq (.bool true), RK.Word.eq (.bool true), RK.Word.eq (.agg sp.cells), RK.Word.eq (.agg (MoV.cells mv mo7)), wI [-2], wI [-3, 6], wI [-3, 6], RK.Word.eq (.bool true), RK.Word.eq (.bool true), RK.Word.eq (.bool true)] (fun u => BoxM u mb mv mo7 ∧ MoAt u mv mo7 ∧ Below W.heap.size W u) (by kernel_rfl) (by kernel_rfl) (by kernel_rfl) ⟨hbox, hat, hbl⟩ (fun _ _ h hb => ⟨h.1.below hb, h.2.1.below hb, h.2.2.trans (hb.mono h.2.2.size)⟩) (fun i hi a' val w' hF => ?_) (fun val w' hw hp => ?_)
  · have hi2 : i = 0 ∨ i = 1 ∨ i = 2 ∨ i = 3 ∨ i = 4 ∨ i = 5 ∨ i = 6 ∨ i = 7 ∨ i = 8 ∨ i = 9 ∨ i = 10 ∨ i = 11 ∨ i = 12 ∨ i = 13 ∨ i = 14 ∨ i = 15 ∨ i = 16 ∨ i = 17 ∨ i = 18 ∨ i = 19 ∨ i = 20 ∨ i = 21 ∨ i = 22 ∨ i = 23 ∨ i = 24 ∨ i = 25 ∨ i = 26 ∨ i = 27 ∨ i = 28 ∨ i = 29 ∨ i = 30 ∨ i = 31 ∨ i = 32 ∨ i = 33 ∨ i = 34 ∨ i = 35 ∨ i = 36 ∨ i = 37 ∨ i = 38 ∨ i = 39 ∨ i = 40 ∨ i = 41 := by
      have : i < 42 := hi
      omega
    clear hi
    rcases hi2 with rfl | rfl | rfl | rfl | rfl | rfl | rfl | rfl | rfl | rfl | rfl | rfl | rfl | rfl | rfl | rfl | rfl | rfl | rfl | rfl | rfl | rfl | rfl | rfl | rfl | rfl | rfl | rfl | rfl | rfl | rfl | rfl | rfl | rfl | rfl | rfl | rfl | rfl | rfl | rfl | rfl | rfl
    · refine RK.owes_call (g := 5) (args := #[.int .i64 (-3), .int .u64 101]) rfl (RK.wanted_any rfl) ?_ ?_
      · have rk : ∀ c, a'.eval (.const c) = c := fun _ => rfl
        have rf : ∀ f, a'.eval (.func f) = .func (.func f) #[] #[] := fun _ => rfl
        generalize a'.eval = ρ at *
        go_simp
      · refine (num7.at w').mono ?_
        rintro e w2 ⟨rfl, nd, rfl⟩
        exact ⟨_, rfl, below_drewN' _ _ _, rfl⟩
    · have p0 : val 0 = .int .u64 98 := hF.post 0 (by kernel_rfl)
      have r7 : a'.eval (.tmp 7) = .int .u64 98 := (hF.ev 7 0 rfl (by kernel_rfl) (of_decide_eq_true (by kernel_rfl))).trans p0
      refine RK.owes_exec (v := .bool true) (w' := w') rfl (RK.wanted_any rfl) ?_ (Below.refl _ _) rfl
      have rk : ∀ c, a'.eval (.const c) = c := fun _ => rfl
      generalize a'.eval = ρ at *
      go_simp
    · have p1 : val 1 = .bool true := hF.post 1 (by kernel_rfl)
      have r8 : a'.eval (.tmp 8) = .bool true := (hF.ev 8 1 rfl (by kernel_rfl) (of_decide_eq_true (by kernel_rfl))).trans p1
      refine RK.owes_exec (v := .bool true) (w' := w') rfl (RK.wanted_any rfl) ?_ (Below.refl _ _) rfl
      have rk : ∀ c, a'.eval (.const c) = c := fun _ => rfl
      generalize a'.eval = ρ at *
      go_simp
    · have hwn : ∀ o : Oper, o.guard = some (2, true) → Region.wanted o _ = true := fun o h => RK.wanted_if h (hF.yields rfl rfl rfl (by kernel_rfl) (of_decide_eq_true (by kernel_rfl)) (hF.post 2 (by kernel_rfl)))
      refine RK.owes_call (g := 6) (args := #[.int .u64 98, .int .u64 101]) rfl (hwn _ rfl) ?_ ?_
      · have rk : ∀ c, a'.eval (.const c) = c := fun _ => rfl
        have rf : ∀ f, a'.eval (.func f) = .func (.func f) #[] #[] := fun _ => rfl
        generalize a'.eval = ρ at *
        go_simp
      · refine (int7.at w').mono ?_
        rintro e w2 ⟨rfl, nd, rfl⟩
        exact ⟨_, rfl, below_drewN' _ _ _, rfl⟩
    · have p3 : val 3 = .int .i64 (-3) := hF.post 3 (by kernel_rfl)
      have r10 : a'.eval (.tmp 10) = .int .i64 (-3) := (hF.ev 10 3 rfl (by kernel_rfl) (of_decide_eq_true (by kernel_rfl))).trans p3
      have hwn : ∀ o : Oper, o.guard = some (2, true) → Region.wanted o _ = true := fun o h => RK.wanted_if h (hF.yields rfl rfl rfl (by kernel_rfl) (of_decide_eq_true (by kernel_rfl)) (hF.post 2 (by kernel_rfl)))
      refine RK.owes_exec (v := .bool true) (w' := w') rfl (hwn _ rfl) ?_ (Below.refl _ _) rfl
      have rk : ∀ c, a'.eval (.const c) = c := fun _ => rfl
      generalize a'.eval = ρ at *
      go_simp
    · have p2 : val 2 = .bool true := hF.post 2 (by kernel_rfl)
      have r9 : a'.eval (.tmp 9) = .bool true := (hF.ev 9 2 rfl (by kernel_rfl) (of_decide_eq_true (by kernel_rfl))).trans p2
      have p4 : val 4 = .bool true := hF.post 4 (by kernel_rfl)
      have r11 : a'.eval (.tmp 11) = .bool true := (hF.ev 11 4 rfl (by kernel_rfl) (of_decide_eq_true (by kernel_rfl))).trans p4
      refine RK.owes_exec (v := .bool true) (w' := w') rfl (RK.wanted_any rfl) ?_ (Below.refl _ _) rfl
      have rk : ∀ c, a'.eval (.const c) = c := fun _ => rfl
      generalize a'.eval = ρ at *
      go_simp
    · have p5 : val 5 = .bool true := hF.post 5 (by kernel_rfl)
      have r12 : a'.eval (.tmp 12) = .bool true := (hF.ev 12 5 rfl (by kernel_rfl) (of_decide_eq_true (by kernel_rfl))).trans p5
      refine RK.owes_exec (v := .bool true) (w' := w') rfl (RK.wanted_any rfl) ?_ (Below.refl _ _) rfl
      have rk : ∀ c, a'.eval (.const c) = c := fun _ => rfl
      generalize a'.eval = ρ at *
      go_simp
    · have hwn : ∀ o : Oper, o.guard = some (6, true) → Region.wanted o _ = true := fun o h => RK.wanted_if h (hF.yields rfl rfl rfl (by kernel_rfl) (of_decide_eq_true (by kernel_rfl)) (hF.post 6 (by kernel_rfl)))
      refine RK.owes_call (g := 7) (args := #[]) rfl (hwn _ rfl) ?_ ?_
      · have rk : ∀ c, a'.eval (.const c) = c := fun _ => rfl
        have rf : ∀ f, a'.eval (.func f) = .func (.func f) #[] #[] := fun _ => rfl
        generalize a'.eval = ρ at *
        go_simp
      · refine (some_any.at w').mono ?_
        rintro e w2 ⟨rfl, hb⟩
        exact ⟨_, rfl, hb, rfl⟩
    · have r1 : a'.eval (.tmp 1) = .pointer (some ⟨mb, 0, none⟩) := (hF.old 1 (.inr rfl)).trans rfl
      have hwn : ∀ o : Oper, o.guard = some (6, true) → Region.wanted o _ = true := fun o h => RK.wanted_if h (hF.yields rfl rfl rfl (by kernel_rfl) (of_decide_eq_true (by kernel_rfl)) (hF.post 6 (by kernel_rfl)))
      refine RK.owes_exec (v := .agg (MoV.cells mv mo7)) (w' := w') rfl (hwn _ rfl) ?_ (Below.refl _ _) rfl
      exact load_mo7 hF.S.1 rfl r1
    · have p7 : val 7 = .agg sp.cells := hF.post 7 (by kernel_rfl)
      have r14 : a'.eval (.tmp 14) = .agg sp.cells := (hF.ev 14 7 rfl (by kernel_rfl) (of_decide_eq_true (by kernel_rfl))).trans p7
      have p8 : val 8 = .agg (MoV.cells mv mo7) := hF.post 8 (by kernel_rfl)
      have r15 : a'.eval (.tmp 15) = .agg (MoV.cells mv mo7) := (hF.ev 15 8 rfl (by kernel_rfl) (of_decide_eq_true (by kernel_rfl))).trans p8
      have hwn : ∀ o : Oper, o.guard = some (6, true) → Region.wanted o _ = true := fun o h => RK.wanted_if h (hF.yields rfl rfl rfl (by kernel_rfl) (of_decide_eq_true (by kernel_rfl)) (hF.post 6 (by kernel_rfl)))
      refine RK.owes_call (g := 8) (args := #[.agg sp.cells, .agg (MoV.cells mv mo7)]) rfl (hwn _ rfl) ?_ ?_
      · have rk : ∀ c, a'.eval (.const c) = c := fun _ => rfl
        have rf : ∀ f, a'.eval (.func f) = .func (.func f) #[] #[] := fun _ => rfl
        generalize a'.eval = ρ at *
        go_simp
      · refine (may_any sp mv mo7 mo7_ok w' hF.S.2.1).mono ?_
        rintro e w2 ⟨rfl, hb⟩
        exact ⟨_, rfl, hb, by rw [decide_eq_true val7]; rfl⟩
    · have p6 : val 6 = .bool true := hF.post 6 (by kernel_rfl)
      have r13 : a'.eval (.tmp 13) = .bool true := (hF.ev 13 6 rfl (by kernel_rfl) (of_decide_eq_true (by kernel_rfl))).trans p6
      have p9 : val 9 = .bool true := hF.post 9 (by kernel_rfl)
      have r16 : a'.eval (.tmp 16) = .bool true := (hF.ev 16 9 rfl (by kernel_rfl) (of_decide_eq_true (by kernel_rfl))).trans p9
      refine RK.owes_exec (v := .bool true) (w' := w') rfl (RK.wanted_any rfl) ?_ (Below.refl _ _) rfl
      have rk : ∀ c, a'.eval (.const c) = c := fun _ => rfl
      generalize a'.eval = ρ at *
      go_simp
    · have p10 : val 10 = .bool true := hF.post 10 (by kernel_rfl)
      have r17 : a'.eval (.tmp 17) = .bool true := (hF.ev 17 10 rfl (by kernel_rfl) (of_decide_eq_true (by kernel_rfl))).trans p10
      refine RK.owes_exec (v := .bool true) (w' := w') rfl (RK.wanted_any rfl) ?_ (Below.refl _ _) rfl
      have rk : ∀ c, a'.eval (.const c) = c := fun _ => rfl
      generalize a'.eval = ρ at *
      go_simp
    · have hwn : ∀ o : Oper, o.guard = some (11, true) → Region.wanted o _ = true := fun o h => RK.wanted_if h (hF.yields rfl rfl rfl (by kernel_rfl) (of_decide_eq_true (by kernel_rfl)) (hF.post 11 (by kernel_rfl)))
      refine RK.owes_call (g := 7) (args := #[]) rfl (hwn _ rfl) ?_ ?_
      · have rk : ∀ c, a'.eval (.const c) = c := fun _ => rfl
        have rf : ∀ f, a'.eval (.func f) = .func (.func f) #[] #[] := fun _ => rfl
        generalize a'.eval = ρ at *
        go_simp
      · refine (some_any.at w').mono ?_
        rintro e w2 ⟨rfl, hb⟩
        exact ⟨_, rfl, hb, rfl⟩
    · have r1 : a'.eval (.tmp 1) = .pointer (some ⟨mb, 0, none⟩) := (hF.old 1 (.inr rfl)).trans rfl
      have hwn : ∀ o : Oper, o.guard = some (11, true) → Region.wanted o _ = true := fun o h => RK.wanted_if h (hF.yields rfl rfl rfl (by kernel_rfl) (of_decide_eq_true (by kernel_rfl)) (hF.post 11 (by kernel_rfl)))
      refine RK.owes_exec (v := .agg (MoV.cells mv mo7)) (w' := w') rfl (hwn _ rfl) ?_ (Below.refl _ _) rfl
      exact load_mo7 hF.S.1 rfl r1
    · have p12 : val 12 = .agg sp.cells := hF.post 12 (by kernel_rfl)
      have r19 : a'.eval (.tmp 19) = .agg sp.cells := (hF.ev 19 12 rfl (by kernel_rfl) (of_decide_eq_true (by kernel_rfl))).trans p12
      have p13 : val 13 = .agg (MoV.cells mv mo7) := hF.post 13 (by kernel_rfl)
      have r20 : a'.eval (.tmp 20) = .agg (MoV.cells mv mo7) := (hF.ev 20 13 rfl (by kernel_rfl) (of_decide_eq_true (by kernel_rfl))).trans p13
      have hwn : ∀ o : Oper, o.guard = some (11, true) → Region.wanted o _ = true := fun o h => RK.wanted_if h (hF.yields rfl rfl rfl (by kernel_rfl) (of_decide_eq_true (by kernel_rfl)) (hF.post 11 (by kernel_rfl)))
      refine RK.owes_call (g := 9) (args := #[.agg sp.cells, .agg (MoV.cells mv mo7)]) rfl (hwn _ rfl) ?_ ?_
      · have rk : ∀ c, a'.eval (.const c) = c := fun _ => rfl
        have rf : ∀ f, a'.eval (.func f) = .func (.func f) #[] #[] := fun _ => rfl
        generalize a'.eval = ρ at *
        go_simp
      · refine (secrets_any sp mv mo7 mo7_ok w' hF.S.2.1).mono ?_
        rintro e w2 ⟨u, rfl, hu, hb⟩
        exact ⟨_, rfl, hb, isU_of hu (by decide) (by decide)⟩
    · have hwn : ∀ o : Oper, o.guard = some (11, true) → Region.wanted o _ = true := fun o h => RK.wanted_if h (hF.yields rfl rfl rfl (by kernel_rfl) (of_decide_eq_true (by kernel_rfl)) (hF.post 11 (by kernel_rfl)))
      refine RK.owes_exec (v := .slice (some ⟨w'.heap.size, 0, none⟩) 4 4) (w' := (w'.alloc (.cells #[.int .u64 2, .int .u64 1, .int .u64 98, .int .u64 0] 23))) rfl (hwn _ rfl) ?_ (below_box _ _) (isU_new w' [2, 1, 98, 0] rfl rfl)
      have rk : ∀ c, a'.eval (.const c) = c := fun _ => rfl
      generalize a'.eval = ρ at *
      go_simp
    · obtain ⟨ao14, c14, e14, l14, h14⟩ : ∃ ao c, val 14 = .slice ao 4 c ∧ 4 ≤ c ∧ Rd w' ao 4 (MM.nl [2, 1, 98, 0]) := hF.post 14 (by kernel_rfl)
      have r21 : a'.eval (.tmp 21) = .slice ao14 4 c14 := (hF.ev 21 14 rfl (by kernel_rfl) (of_decide_eq_true (by kernel_rfl))).trans e14
      obtain ⟨ao15, c15, e15, l15, h15⟩ : ∃ ao c, val 15 = .slice ao 4 c ∧ 4 ≤ c ∧ Rd w' ao 4 (MM.nl [2, 1, 98, 0]) := hF.post 15 (by kernel_rfl)
      have r22 : a'.eval (.tmp 22) = .slice ao15 4 c15 := (hF.ev 22 15 rfl (by kernel_rfl) (of_decide_eq_true (by kernel_rfl))).trans e15
      have hwn : ∀ o : Oper, o.guard = some (11, true) → Region.wanted o _ = true := fun o h => RK.wanted_if h (hF.yields rfl rfl rfl (by kernel_rfl) (of_decide_eq_true (by kernel_rfl)) (hF.post 11 (by kernel_rfl)))
      refine RK.owes_call (g := 14) (args := #[.slice ao14 4 c14, .slice ao15 4 c15]) rfl (hwn _ rfl) ?_ ?_
      · have rk : ∀ c, a'.eval (.const c) = c := fun _ => rfl
        have rf : ∀ f, a'.eval (.func f) = .func (.func f) #[] #[] := fun _ => rfl
        generalize a'.eval = ρ at *
        go_simp
      · refine (numbers_any ao14 ao15 4 4 c14 c15 (MM.nl [2, 1, 98, 0]) (MM.nl [2, 1, 98, 0]) (by omega) w' h14 h15).mono ?_
        rintro e w2 ⟨rfl, nd, rfl⟩
        exact ⟨_, rfl, below_drewN' _ _ _, by rw [decide_eq_true ⟨rfl, fun _ _ => rfl⟩]; rfl⟩
    · have p11 : val 11 = .bool true := hF.post 11 (by kernel_rfl)
      have r18 : a'.eval (.tmp 18) = .bool true := (hF.ev 18 11 rfl (by kernel_rfl) (of_decide_eq_true (by kernel_rfl))).trans p11
      have p16 : val 16 = .bool true := hF.post 16 (by kernel_rfl)
      have r23 : a'.eval (.tmp 23) = .bool true := (hF.ev 23 16 rfl (by kernel_rfl) (of_decide_eq_true (by kernel_rfl))).trans p16
      refine RK.owes_exec (v := .bool true) (w' := w') rfl (RK.wanted_any rfl) ?_ (Below.refl _ _) rfl
      have rk : ∀ c, a'.eval (.const c) = c := fun _ => rfl
      generalize a'.eval = ρ at *
      go_simp
    · have p17 : val 17 = .bool true := hF.post 17 (by kernel_rfl)
      have r24 : a'.eval (.tmp 24) = .bool true := (hF.ev 24 17 rfl (by kernel_rfl) (of_decide_eq_true (by kernel_rfl))).trans p17
      refine RK.owes_exec (v := .bool true) (w' := w') rfl (RK.wanted_any rfl) ?_ (Below.refl _ _) rfl
      have rk : ∀ c, a'.eval (.const c) = c := fun _ => rfl
      generalize a'.eval = ρ at *
      go_simp
    · have hwn : ∀ o : Oper, o.guard = some (18, true) → Region.wanted o _ = true := fun o h => RK.wanted_if h (hF.yields rfl rfl rfl (by kernel_rfl) (of_decide_eq_true (by kernel_rfl)) (hF.post 18 (by kernel_rfl)))
      refine RK.owes_call (g := 7) (args := #[]) rfl (hwn _ rfl) ?_ ?_
      · have rk : ∀ c, a'.eval (.const c) = c := fun _ => rfl
        have rf : ∀ f, a'.eval (.func f) = .func (.func f) #[] #[] := fun _ => rfl
        generalize a'.eval = ρ at *
        go_simp
      · refine (some_any.at w').mono ?_
        rintro e w2 ⟨rfl, hb⟩
        exact ⟨_, rfl, hb, rfl⟩
    · have hwn : ∀ o : Oper, o.guard = some (18, true) → Region.wanted o _ = true := fun o h => RK.wanted_if h (hF.yields rfl rfl rfl (by kernel_rfl) (of_decide_eq_true (by kernel_rfl)) (hF.post 18 (by kernel_rfl)))
      refine RK.owes_exec (v := .slice (some ⟨w'.heap.size, 0, none⟩) 1 1) (w' := (w'.alloc (.cells #[.int .i64 (-2)] 2))) rfl (hwn _ rfl) ?_ (below_box _ _) (isI_new w' [-2] rfl rfl)
      have rk : ∀ c, a'.eval (.const c) = c := fun _ => rfl
      generalize a'.eval = ρ at *
      go_simp
    · have p19 : val 19 = .agg sp.cells := hF.post 19 (by kernel_rfl)
      have r26 : a'.eval (.tmp 26) = .agg sp.cells := (hF.ev 26 19 rfl (by kernel_rfl) (of_decide_eq_true (by kernel_rfl))).trans p19
      obtain ⟨ao20, c20, e20, h20⟩ : ∃ ao c, val 20 = .slice ao 1 c ∧ IRow w' ao 1 c (MM.il [-2]) := hF.post 20 (by kernel_rfl)
      have r27 : a'.eval (.tmp 27) = .slice ao20 1 c20 := (hF.ev 27 20 rfl (by kernel_rfl) (of_decide_eq_true (by kernel_rfl))).trans e20
      have hwn : ∀ o : Oper, o.guard = some (18, true) → Region.wanted o _ = true := fun o h => RK.wanted_if h (hF.yields rfl rfl rfl (by kernel_rfl) (of_decide_eq_true (by kernel_rfl)) (hF.post 18 (by kernel_rfl)))
      refine RK.owes_call (g := 12) (args := #[.agg sp.cells, .slice ao20 1 c20]) rfl (hwn _ rfl) ?_ ?_
      · have rk : ∀ c, a'.eval (.const c) = c := fun _ => rfl
        have rf : ∀ f, a'.eval (.func f) = .func (.func f) #[] #[] := fun _ => rfl
        generalize a'.eval = ρ at *
        go_simp
      · refine (row_any sp ao20 1 c20 (MM.il [-2]) (il_ok (by decide)) w' h20).mono ?_
        rintro e w2 ⟨u, rfl, hu, hb⟩
        exact ⟨_, rfl, hb, isU_of hu (by decide) (by decide)⟩
    · have hwn : ∀ o : Oper, o.guard = some (18, true) → Region.wanted o _ = true := fun o h => RK.wanted_if h (hF.yields rfl rfl rfl (by kernel_rfl) (of_decide_eq_true (by kernel_rfl)) (hF.post 18 (by kernel_rfl)))
      refine RK.owes_exec (v := .slice (some ⟨w'.heap.size, 0, none⟩) 2 2) (w' := (w'.alloc (.cells #[.int .u64 99, .int .u64 1] 23))) rfl (hwn _ rfl) ?_ (below_box _ _) (isU_new w' [99, 1] rfl rfl)
      have rk : ∀ c, a'.eval (.const c) = c := fun _ => rfl
      generalize a'.eval = ρ at *
      go_simp
    · obtain ⟨ao21, c21, e21, l21, h21⟩ : ∃ ao c, val 21 = .slice ao 2 c ∧ 2 ≤ c ∧ Rd w' ao 2 (MM.nl [99, 1]) := hF.post 21 (by kernel_rfl)
      have r28 : a'.eval (.tmp 28) = .slice ao21 2 c21 := (hF.ev 28 21 rfl (by kernel_rfl) (of_decide_eq_true (by kernel_rfl))).trans e21
      obtain ⟨ao22, c22, e22, l22, h22⟩ : ∃ ao c, val 22 = .slice ao 2 c ∧ 2 ≤ c ∧ Rd w' ao 2 (MM.nl [99, 1]) := hF.post 22 (by kernel_rfl)
      have r29 : a'.eval (.tmp 29) = .slice ao22 2 c22 := (hF.ev 29 22 rfl (by kernel_rfl) (of_decide_eq_true (by kernel_rfl))).trans e22
      have hwn : ∀ o : Oper, o.guard = some (18, true) → Region.wanted o _ = true := fun o h => RK.wanted_if h (hF.yields rfl rfl rfl (by kernel_rfl) (of_decide_eq_true (by kernel_rfl)) (hF.post 18 (by kernel_rfl)))
      refine RK.owes_call (g := 14) (args := #[.slice ao21 2 c21, .slice ao22 2 c22]) rfl (hwn _ rfl) ?_ ?_
      · have rk : ∀ c, a'.eval (.const c) = c := fun _ => rfl
        have rf : ∀ f, a'.eval (.func f) = .func (.func f) #[] #[] := fun _ => rfl
        generalize a'.eval = ρ at *
        go_simp
      · refine (numbers_any ao21 ao22 2 2 c21 c22 (MM.nl [99, 1]) (MM.nl [99, 1]) (by omega) w' h21 h22).mono ?_
        rintro e w2 ⟨rfl, nd, rfl⟩
        exact ⟨_, rfl, below_drewN' _ _ _, by rw [decide_eq_true ⟨rfl, fun _ _ => rfl⟩]; rfl⟩
    · have p18 : val 18 = .bool true := hF.post 18 (by kernel_rfl)
      have r25 : a'.eval (.tmp 25) = .bool true := (hF.ev 25 18 rfl (by kernel_rfl) (of_decide_eq_true (by kernel_rfl))).trans p18
      have p23 : val 23 = .bool true := hF.post 23 (by kernel_rfl)
      have r30 : a'.eval (.tmp 30) = .bool true := (hF.ev 30 23 rfl (by kernel_rfl) (of_decide_eq_true (by kernel_rfl))).trans p23
      refine RK.owes_exec (v := .bool true) (w' := w') rfl (RK.wanted_any rfl) ?_ (Below.refl _ _) rfl
      have rk : ∀ c, a'.eval (.const c) = c := fun _ => rfl
      generalize a'.eval = ρ at *
      go_simp
    · have p24 : val 24 = .bool true := hF.post 24 (by kernel_rfl)
      have r31 : a'.eval (.tmp 31) = .bool true := (hF.ev 31 24 rfl (by kernel_rfl) (of_decide_eq_true (by kernel_rfl))).trans p24
      refine RK.owes_exec (v := .bool true) (w' := w') rfl (RK.wanted_any rfl) ?_ (Below.refl _ _) rfl
      have rk : ∀ c, a'.eval (.const c) = c := fun _ => rfl
      generalize a'.eval = ρ at *
      go_simp
    · have hwn : ∀ o : Oper, o.guard = some (25, true) → Region.wanted o _ = true := fun o h => RK.wanted_if h (hF.yields rfl rfl rfl (by kernel_rfl) (of_decide_eq_true (by kernel_rfl)) (hF.post 25 (by kernel_rfl)))
      refine RK.owes_call (g := 7) (args := #[]) rfl (hwn _ rfl) ?_ ?_
      · have rk : ∀ c, a'.eval (.const c) = c := fun _ => rfl
        have rf : ∀ f, a'.eval (.func f) = .func (.func f) #[] #[] := fun _ => rfl
        generalize a'.eval = ρ at *
        go_simp
      · refine (some_any.at w').mono ?_
        rintro e w2 ⟨rfl, hb⟩
        exact ⟨_, rfl, hb, rfl⟩
    · have hwn : ∀ o : Oper, o.guard = some (25, true) → Region.wanted o _ = true := fun o h => RK.wanted_if h (hF.yields rfl rfl rfl (by kernel_rfl) (of_decide_eq_true (by kernel_rfl)) (hF.post 25 (by kernel_rfl)))
      refine RK.owes_exec (v := .slice (some ⟨w'.heap.size, 0, none⟩) 4 4) (w' := (w'.alloc (.cells #[.int .u64 2, .int .u64 1, .int .u64 98, .int .u64 0] 23))) rfl (hwn _ rfl) ?_ (below_box _ _) (isU_new w' [2, 1, 98, 0] rfl rfl)
      have rk : ∀ c, a'.eval (.const c) = c := fun _ => rfl
      generalize a'.eval = ρ at *
      go_simp
    · have hwn : ∀ o : Oper, o.guard = some (25, true) → Region.wanted o _ = true := fun o h => RK.wanted_if h (hF.yields rfl rfl rfl (by kernel_rfl) (of_decide_eq_true (by kernel_rfl)) (hF.post 25 (by kernel_rfl)))
      refine RK.owes_exec (v := .slice (some ⟨w'.heap.size, 0, none⟩) 1 1) (w' := (w'.alloc (.cells #[.int .i64 (-2)] 2))) rfl (hwn _ rfl) ?_ (below_box _ _) (isI_new w' [-2] rfl rfl)
      have rk : ∀ c, a'.eval (.const c) = c := fun _ => rfl
      generalize a'.eval = ρ at *
      go_simp
    · have p26 : val 26 = .agg sp.cells := hF.post 26 (by kernel_rfl)
      have r33 : a'.eval (.tmp 33) = .agg sp.cells := (hF.ev 33 26 rfl (by kernel_rfl) (of_decide_eq_true (by kernel_rfl))).trans p26
      obtain ⟨ao27, c27, e27, l27, h27⟩ : ∃ ao c, val 27 = .slice ao 4 c ∧ 4 ≤ c ∧ Rd w' ao 4 (MM.nl [2, 1, 98, 0]) := hF.post 27 (by kernel_rfl)
      have r34 : a'.eval (.tmp 34) = .slice ao27 4 c27 := (hF.ev 34 27 rfl (by kernel_rfl) (of_decide_eq_true (by kernel_rfl))).trans e27
      obtain ⟨ao28, c28, e28, h28⟩ : ∃ ao c, val 28 = .slice ao 1 c ∧ IRow w' ao 1 c (MM.il [-2]) := hF.post 28 (by kernel_rfl)
      have r35 : a'.eval (.tmp 35) = .slice ao28 1 c28 := (hF.ev 35 28 rfl (by kernel_rfl) (of_decide_eq_true (by kernel_rfl))).trans e28
      have hwn : ∀ o : Oper, o.guard = some (25, true) → Region.wanted o _ = true := fun o h => RK.wanted_if h (hF.yields rfl rfl rfl (by kernel_rfl) (of_decide_eq_true (by kernel_rfl)) (hF.post 25 (by kernel_rfl)))
      refine RK.owes_call (g := 13) (args := #[.agg sp.cells, .slice ao27 4 c27, .slice ao28 1 c28]) rfl (hwn _ rfl) ?_ ?_
      · have rk : ∀ c, a'.eval (.const c) = c := fun _ => rfl
        have rf : ∀ f, a'.eval (.func f) = .func (.func f) #[] #[] := fun _ => rfl
        generalize a'.eval = ρ at *
        go_simp
      · refine (dot_any sp ao27 4 c27 (MM.nl [2, 1, 98, 0]) ao28 1 c28 (MM.il [-2]) (nl_ok (by decide)) (il_ok (by decide)) w' h27 h28).mono ?_
        rintro e w2 ⟨u, rfl, hu, hb⟩
        exact ⟨_, rfl, hb, isU_of hu (by decide) (by decide +kernel)⟩
    · have hwn : ∀ o : Oper, o.guard = some (25, true) → Region.wanted o _ = true := fun o h => RK.wanted_if h (hF.yields rfl rfl rfl (by kernel_rfl) (of_decide_eq_true (by kernel_rfl)) (hF.post 25 (by kernel_rfl)))
      refine RK.owes_exec (v := .slice (some ⟨w'.heap.size, 0, none⟩) 2 2) (w' := (w'.alloc (.cells #[.int .u64 98, .int .u64 6] 23))) rfl (hwn _ rfl) ?_ (below_box _ _) (isU_new w' [98, 6] rfl rfl)
      have rk : ∀ c, a'.eval (.const c) = c := fun _ => rfl
      generalize a'.eval = ρ at *
      go_simp
    · obtain ⟨ao29, c29, e29, l29, h29⟩ : ∃ ao c, val 29 = .slice ao 2 c ∧ 2 ≤ c ∧ Rd w' ao 2 (MM.nl [98, 6]) := hF.post 29 (by kernel_rfl)
      have r36 : a'.eval (.tmp 36) = .slice ao29 2 c29 := (hF.ev 36 29 rfl (by kernel_rfl) (of_decide_eq_true (by kernel_rfl))).trans e29
      obtain ⟨ao30, c30, e30, l30, h30⟩ : ∃ ao c, val 30 = .slice ao 2 c ∧ 2 ≤ c ∧ Rd w' ao 2 (MM.nl [98, 6]) := hF.post 30 (by kernel_rfl)
      have r37 : a'.eval (.tmp 37) = .slice ao30 2 c30 := (hF.ev 37 30 rfl (by kernel_rfl) (of_decide_eq_true (by kernel_rfl))).trans e30
      have hwn : ∀ o : Oper, o.guard = some (25, true) → Region.wanted o _ = true := fun o h => RK.wanted_if h (hF.yields rfl rfl rfl (by kernel_rfl) (of_decide_eq_true (by kernel_rfl)) (hF.post 25 (by kernel_rfl)))
      refine RK.owes_call (g := 14) (args := #[.slice ao29 2 c29, .slice ao30 2 c30]) rfl (hwn _ rfl) ?_ ?_
      · have rk : ∀ c, a'.eval (.const c) = c := fun _ => rfl
        have rf : ∀ f, a'.eval (.func f) = .func (.func f) #[] #[] := fun _ => rfl
        generalize a'.eval = ρ at *
        go_simp
      · refine (numbers_any ao29 ao30 2 2 c29 c30 (MM.nl [98, 6]) (MM.nl [98, 6]) (by omega) w' h29 h30).mono ?_
        rintro e w2 ⟨rfl, nd, rfl⟩
        exact ⟨_, rfl, below_drewN' _ _ _, by rw [decide_eq_true ⟨rfl, fun _ _ => rfl⟩]; rfl⟩
    · have p25 : val 25 = .bool true := hF.post 25 (by kernel_rfl)
      have r32 : a'.eval (.tmp 32) = .bool true := (hF.ev 32 25 rfl (by kernel_rfl) (of_decide_eq_true (by kernel_rfl))).trans p25
      have p31 : val 31 = .bool true := hF.post 31 (by kernel_rfl)
      have r38 : a'.eval (.tmp 38) = .bool true := (hF.ev 38 31 rfl (by kernel_rfl) (of_decide_eq_true (by kernel_rfl))).trans p31
      refine RK.owes_exec (v := .bool true) (w' := w') rfl (RK.wanted_any rfl) ?_ (Below.refl _ _) rfl
      have rk : ∀ c, a'.eval (.const c) = c := fun _ => rfl
      generalize a'.eval = ρ at *
      go_simp
    · have p32 : val 32 = .bool true := hF.post 32 (by kernel_rfl)
      have r39 : a'.eval (.tmp 39) = .bool true := (hF.ev 39 32 rfl (by kernel_rfl) (of_decide_eq_true (by kernel_rfl))).trans p32
      refine RK.owes_exec (v := .bool true) (w' := w') rfl (RK.wanted_any rfl) ?_ (Below.refl _ _) rfl
      have rk : ∀ c, a'.eval (.const c) = c := fun _ => rfl
      generalize a'.eval = ρ at *
      go_simp
    · have hwn : ∀ o : Oper, o.guard = some (33, true) → Region.wanted o _ = true := fun o h => RK.wanted_if h (hF.yields rfl rfl rfl (by kernel_rfl) (of_decide_eq_true (by kernel_rfl)) (hF.post 33 (by kernel_rfl)))
      refine RK.owes_call (g := 7) (args := #[]) rfl (hwn _ rfl) ?_ ?_
      · have rk : ∀ c, a'.eval (.const c) = c := fun _ => rfl
        have rf : ∀ f, a'.eval (.func f) = .func (.func f) #[] #[] := fun _ => rfl
        generalize a'.eval = ρ at *
        go_simp
      · refine (some_any.at w').mono ?_
        rintro e w2 ⟨rfl, hb⟩
        exact ⟨_, rfl, hb, rfl⟩
    · have r1 : a'.eval (.tmp 1) = .pointer (some ⟨mb, 0, none⟩) := (hF.old 1 (.inr rfl)).trans rfl
      have hwn : ∀ o : Oper, o.guard = some (33, true) → Region.wanted o _ = true := fun o h => RK.wanted_if h (hF.yields rfl rfl rfl (by kernel_rfl) (of_decide_eq_true (by kernel_rfl)) (hF.post 33 (by kernel_rfl)))
      refine RK.owes_exec (v := .agg (MoV.cells mv mo7)) (w' := w') rfl (hwn _ rfl) ?_ (Below.refl _ _) rfl
      exact load_mo7 hF.S.1 rfl r1
    · have hwn : ∀ o : Oper, o.guard = some (33, true) → Region.wanted o _ = true := fun o h => RK.wanted_if h (hF.yields rfl rfl rfl (by kernel_rfl) (of_decide_eq_true (by kernel_rfl)) (hF.post 33 (by kernel_rfl)))
      refine RK.owes_exec (v := .slice (some ⟨w'.heap.size, 0, none⟩) 1 1) (w' := (w'.alloc (.cells #[.int .i64 (-2)] 2))) rfl (hwn _ rfl) ?_ (below_box _ _) (isI_new w' [-2] rfl rfl)
      have rk : ∀ c, a'.eval (.const c) = c := fun _ => rfl
      generalize a'.eval = ρ at *
      go_simp
    · have p34 : val 34 = .agg sp.cells := hF.post 34 (by kernel_rfl)
      have r41 : a'.eval (.tmp 41) = .agg sp.cells := (hF.ev 41 34 rfl (by kernel_rfl) (of_decide_eq_true (by kernel_rfl))).trans p34
      have p35 : val 35 = .agg (MoV.cells mv mo7) := hF.post 35 (by kernel_rfl)
      have r42 : a'.eval (.tmp 42) = .agg (MoV.cells mv mo7) := (hF.ev 42 35 rfl (by kernel_rfl) (of_decide_eq_true (by kernel_rfl))).trans p35
      obtain ⟨ao36, c36, e36, h36⟩ : ∃ ao c, val 36 = .slice ao 1 c ∧ IRow w' ao 1 c (MM.il [-2]) := hF.post 36 (by kernel_rfl)
      have r43 : a'.eval (.tmp 43) = .slice ao36 1 c36 := (hF.ev 43 36 rfl (by kernel_rfl) (of_decide_eq_true (by kernel_rfl))).trans e36
      have hwn : ∀ o : Oper, o.guard = some (33, true) → Region.wanted o _ = true := fun o h => RK.wanted_if h (hF.yields rfl rfl rfl (by kernel_rfl) (of_decide_eq_true (by kernel_rfl)) (hF.post 33 (by kernel_rfl)))
      refine RK.owes_call (g := 10) (args := #[.agg sp.cells, .agg (MoV.cells mv mo7), .slice ao36 1 c36]) rfl (hwn _ rfl) ?_ ?_
      · have rk : ∀ c, a'.eval (.const c) = c := fun _ => rfl
        have rf : ∀ f, a'.eval (.func f) = .func (.func f) #[] #[] := fun _ => rfl
        generalize a'.eval = ρ at *
        go_simp
      · refine (scores_any sp mv mo7 mo7_ok ao36 1 c36 (MM.il [-2]) (by omega) w' hF.S.2.1 h36).mono ?_
        rintro e w2 ⟨u, rfl, hu, hb⟩
        exact ⟨_, rfl, hb, isI_of hu (by decide) (by decide)⟩
    · have hwn : ∀ o : Oper, o.guard = some (33, true) → Region.wanted o _ = true := fun o h => RK.wanted_if h (hF.yields rfl rfl rfl (by kernel_rfl) (of_decide_eq_true (by kernel_rfl)) (hF.post 33 (by kernel_rfl)))
      refine RK.owes_exec (v := .slice (some ⟨w'.heap.size, 0, none⟩) 2 2) (w' := (w'.alloc (.cells #[.int .i64 (-3), .int .i64 (6)] 2))) rfl (hwn _ rfl) ?_ (below_box _ _) (isI_new w' [-3, 6] rfl rfl)
      have rk : ∀ c, a'.eval (.const c) = c := fun _ => rfl
      generalize a'.eval = ρ at *
      go_simp
    · obtain ⟨ao37, c37, e37, h37⟩ : ∃ ao c, val 37 = .slice ao 2 c ∧ IRow w' ao 2 c (MM.il [-3, 6]) := hF.post 37 (by kernel_rfl)
      have r44 : a'.eval (.tmp 44) = .slice ao37 2 c37 := (hF.ev 44 37 rfl (by kernel_rfl) (of_decide_eq_true (by kernel_rfl))).trans e37
      obtain ⟨ao38, c38, e38, h38⟩ : ∃ ao c, val 38 = .slice ao 2 c ∧ IRow w' ao 2 c (MM.il [-3, 6]) := hF.post 38 (by kernel_rfl)
      have r45 : a'.eval (.tmp 45) = .slice ao38 2 c38 := (hF.ev 45 38 rfl (by kernel_rfl) (of_decide_eq_true (by kernel_rfl))).trans e38
      have hwn : ∀ o : Oper, o.guard = some (33, true) → Region.wanted o _ = true := fun o h => RK.wanted_if h (hF.yields rfl rfl rfl (by kernel_rfl) (of_decide_eq_true (by kernel_rfl)) (hF.post 33 (by kernel_rfl)))
      refine RK.owes_call (g := 17) (args := #[.slice ao37 2 c37, .slice ao38 2 c38]) rfl (hwn _ rfl) ?_ ?_
      · have rk : ∀ c, a'.eval (.const c) = c := fun _ => rfl
        have rf : ∀ f, a'.eval (.func f) = .func (.func f) #[] #[] := fun _ => rfl
        generalize a'.eval = ρ at *
        go_simp
      · refine (ints_any ao37 ao38 2 2 c37 c38 (MM.il [-3, 6]) (MM.il [-3, 6]) (by omega) w' h37 h38).mono ?_
        rintro e w2 ⟨rfl, nd, rfl⟩
        exact ⟨_, rfl, below_drewN' _ _ _, by rw [decide_eq_true ⟨rfl, fun _ _ => rfl⟩]; rfl⟩
    · have p33 : val 33 = .bool true := hF.post 33 (by kernel_rfl)
      have r40 : a'.eval (.tmp 40) = .bool true := (hF.ev 40 33 rfl (by kernel_rfl) (of_decide_eq_true (by kernel_rfl))).trans p33
      have p39 : val 39 = .bool true := hF.post 39 (by kernel_rfl)
      have r46 : a'.eval (.tmp 46) = .bool true := (hF.ev 46 39 rfl (by kernel_rfl) (of_decide_eq_true (by kernel_rfl))).trans p39
      refine RK.owes_exec (v := .bool true) (w' := w') rfl (RK.wanted_any rfl) ?_ (Below.refl _ _) rfl
      have rk : ∀ c, a'.eval (.const c) = c := fun _ => rfl
      generalize a'.eval = ρ at *
      go_simp
    · have p40 : val 40 = .bool true := hF.post 40 (by kernel_rfl)
      have r47 : a'.eval (.tmp 47) = .bool true := (hF.ev 47 40 rfl (by kernel_rfl) (of_decide_eq_true (by kernel_rfl))).trans p40
      refine RK.owes_exec (v := .bool true) (w' := w') rfl (RK.wanted_any rfl) ?_ (Below.refl _ _) rfl
      have rk : ∀ c, a'.eval (.const c) = c := fun _ => rfl
      generalize a'.eval = ρ at *
      go_simp
  · have h41 : val 41 = .bool true := hp 41 (of_decide_eq_true (by kernel_rfl))
    simp only [RK.slotsL, if_true, h41]
    have hbw := hw.2.2
    clear hp hw
    go_wp2_with fail
    go_ret
    exact ⟨rfl, hbw⟩
end M
end Go.Proofs.Ytnlkikcnjlkkdaa

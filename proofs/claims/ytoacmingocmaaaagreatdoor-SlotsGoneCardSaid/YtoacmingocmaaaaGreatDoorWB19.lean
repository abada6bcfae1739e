/- The texts SltClean, one behind the other. -/
import Derived.Test.YtoacmingocmaaaaGreatDoorWB18
import Derived.Test.YtoacmingocmaaaaGreatDoorWB16
/- Is the place clean? -/
namespace Go.Proofs.YtoacmingocmaaaaGreatDoor
namespace MM
/-- A place with its head, its text, and 00s. -/
structure Tidy (s : Dsk) (k : Int) (a : Nat) (t : By) : Prop where
  head : s.p k = full (hdr a t.length)
  text : ∀ i : Nat, i < secs t.length → s.p (k + 1 + (i : Int)) = full (pce t i)
  rest : ∀ x, k + 1 + (secs t.length : Int) ≤ x → x < k + half → s.p x = zero
theorem full_app {s : By} : s ++ List.replicate (512 - s.length) 0 = full s := rfl
end MM
open Go Go.RowKit Go.Lib
namespace M
open MM
def RowZ (n g : Nat) (w : World) : Prop := w.heap[g]? = some (.cells (madeCells #[.int .u8 0] n) 5 (0, 0))
theorem RowZ.below {n g : Nat} {w w' : World} (h : RowZ n g w) (hb : Below w.heap.size w w') : RowZ n g w' := (hb.block g (row_lt h)).trans h
def wz (n : Nat) : RK.Word := ⟨fun v w => ∃ g, v = .slice (some ⟨g, 0, none⟩) n n ∧ RowZ n g w, fun _ _ _ ⟨g, e, h⟩ hb => ⟨g, e, h.below hb⟩⟩
theorem app_ba (x y : By) : (⟨x.toArray⟩ : ByteArray) ++ ⟨y.toArray⟩ = ⟨(x ++ y).toArray⟩ := by rw [ByteArray.mk_append_mk]
section
variable {W w : World} {L : List (Nat × Nat × Dsk)} {R : World → Prop} {B N i : Nat} {s : Dsk}
set_option maxRecDepth 100000 in
set_option maxHeartbeats 16000000 in
theorem clean_no (h : Ds W L R w) (hi : L[i]? = some (B, N, s)) (k : Int) (a : Nat) (ha : a ≤ top) (t : By) (ht : t.length ≤ most) (hne : s.platter k ≠ full (hdr a t.length)) :
    Calls Tryz.prog 25 #[ptr B, .int .i64 k, .int .i64 (a : Int), .string ⟨t.toArray⟩] w fun e w' => e = .returned (.bool false) ∧ Below w.heap.size w w' := by
  have HBW := Lib.hid (Below.refl w.heap.size w)
  have hhd := hdr3_hdr a t.length ha ht
  have hw3 : IntKind.i64.wrap (t.length : Int) = (t.length : Int) := by unfold most at ht; simp [IntKind.wrap, IntKind.bits, IntKind.signed]; omega
  obtain ⟨qH, hqH⟩ : ∃ q, (⟨(hdr3 (a : Int) (t.length : Int) (a : Int)).toArray⟩ : ByteArray) = q := ⟨_, rfl⟩
  have HNUM := Lib.hid (fun u => nums3 (a : Int) (t.length : Int) (a : Int) u)
  rw [hqH] at HNUM
  have HSZa : Hid (qH.size = 24) := Lib.hid (by rw [← hqH, hhd, Lib.size_eq]; simp [hdr_len])
  obtain ⟨Z0, hZ0⟩ : ∃ q, (⟨(List.replicate 488 (0 : UInt8)).toArray⟩ : ByteArray) = q := ⟨_, rfl⟩
  have HZa := Lib.hid hZ0
  have HMa : Hid (488 ≤ 512) := Lib.hid (by omega)
  have HSBa : Hid (IntKind.i64.wrap (488 : Int) = 488) := Lib.hid (by decide)
  have HSMa : Hid (qH.size + Z0.size ≤ 9223372036854775807) := Lib.hid (by rw [HSZa.out, ← hZ0, Lib.size_eq]; simp)
  have HAPa : Hid (qH ++ Z0 = ⟨(full (hdr a t.length)).toArray⟩) := Lib.hid (by
    rw [← hqH, ← hZ0, app_ba, hhd]
    unfold full
    rw [hdr_len])
  have HPa : Hid (∀ u, Below w.heap.size w u → Calls Tryz.prog 14 #[ptr B, .int .i64 k] u fun e w' => e = .returned (.string ⟨(s.platter k).toArray⟩) ∧ Below u.heap.size u w') := Lib.hid fun u hb => (h.step hb).platter hi k
  have HNEa : Hid (¬ (⟨(s.platter k).toArray⟩ : ByteArray) = ⟨(full (hdr a t.length)).toArray⟩) := Lib.hid fun e => hne (by simpa using e)
  generalize (⟨(s.platter k).toArray⟩ : ByteArray) = G0 at *
  generalize (⟨(full (hdr a t.length)).toArray⟩ : ByteArray) = G1 at *
  clear h hi hne hhd hqH hZ0 ht ha
  go_enter Tryz.func25, Tryz.ntmps25
  go_upto_region 2 with (go_at_call 50; (with_reducible refine (HNUM.out _).mono ?_); rintro e wn ⟨rfl, h⟩; replace HBW := Lib.hid (bnext HBW.out h); clear h)
  go_wp2_with fail
  refine RK.tame [none, none, none, none, none, none, none, none, none, none, none, none, none, none, none, none, none, none, none, none, none, none, some 0, some 1, some 2, some 3, some 4, some 5, some 6, some 7, some 8, some 9, some 10, none, none, none, none, none, none, none, none, none, none, none, none, none, none, none, none, none, none, none, none, none, none, none, none, none, none, none, none, none, none, none, none, none, none, none, none, none, none, none, none, none, none, none, none, none, none, none, none, none, none, none, none, none, none, none, none, none, none, none, none, none, none, none, none, none, none, none, none, none, none, none] [RK.Word.eq (ptr B), RK.Word.eq (.int .i64 k), RK.Word.eq (.string G0), RK.Word.eq (.string qH), RK.Word.eq (.string qH), RK.Word.eq (.int .i64 24), RK.Word.eq (.int .i64 (488 : Int)), wz 488, RK.Word.eq (.string Z0), RK.Word.eq (.string G1), RK.Word.eq (.bool true)] (fun u => Below w.heap.size w u) (by kernel_rfl) (by kernel_rfl) (by kernel_rfl) HBW.out (fun _ _ h hb => h.trans (hb.mono h.size)) (fun i hi a' val w' hF => ?_) (fun val w' hw hp => ?_)
  · have hi2 : i = 0 ∨ i = 1 ∨ i = 2 ∨ i = 3 ∨ i = 4 ∨ i = 5 ∨ i = 6 ∨ i = 7 ∨ i = 8 ∨ i = 9 ∨ i = 10 := by
      have : i < 11 := hi
      omega
    clear hi
    rcases hi2 with rfl | rfl | rfl | rfl | rfl | rfl | rfl | rfl | rfl | rfl | rfl
    · have r0 : a'.eval (.tmp 0) = ptr B := (hF.old 0 (.inr rfl)).trans rfl
      refine RK.owes_exec (v := ptr B) (w' := w') rfl (RK.wanted_any rfl) ?_ (Below.refl _ _) rfl
      have rk : ∀ c, a'.eval (.const c) = c := fun _ => rfl
      generalize a'.eval = ρ at *
      go_simp
    · have r1 : a'.eval (.tmp 1) = .int .i64 k := (hF.old 1 (.inr rfl)).trans rfl
      refine RK.owes_exec (v := .int .i64 k) (w' := w') rfl (RK.wanted_any rfl) ?_ (Below.refl _ _) rfl
      have rk : ∀ c, a'.eval (.const c) = c := fun _ => rfl
      generalize a'.eval = ρ at *
      go_simp
    · have p0 : val 0 = ptr B := hF.post 0 (by kernel_rfl)
      have r22 : a'.eval (.tmp 22) = ptr B := (hF.ev 22 0 rfl (by kernel_rfl) (of_decide_eq_true (by kernel_rfl))).trans p0
      have p1 : val 1 = .int .i64 k := hF.post 1 (by kernel_rfl)
      have r23 : a'.eval (.tmp 23) = .int .i64 k := (hF.ev 23 1 rfl (by kernel_rfl) (of_decide_eq_true (by kernel_rfl))).trans p1
      refine RK.owes_call (g := 14) (args := #[ptr B, .int .i64 k]) rfl (RK.wanted_any rfl) ?_ ?_
      · have rk : ∀ c, a'.eval (.const c) = c := fun _ => rfl
        have rf : ∀ f, a'.eval (.func f) = .func (.func f) #[] #[] := fun _ => rfl
        generalize a'.eval = ρ at *
        go_simp
      · refine (HPa.out _ hF.S).mono ?_
        rintro e w2 ⟨rfl, hb⟩
        exact ⟨_, rfl, hb, rfl⟩
    · have r9 : a'.eval (.tmp 9) = .string qH := (hF.old 9 (.inr rfl)).trans rfl
      refine RK.owes_exec (v := .string qH) (w' := w') rfl (RK.wanted_any rfl) ?_ (Below.refl _ _) rfl
      have rk : ∀ c, a'.eval (.const c) = c := fun _ => rfl
      generalize a'.eval = ρ at *
      go_simp
    · have r9 : a'.eval (.tmp 9) = .string qH := (hF.old 9 (.inr rfl)).trans rfl
      refine RK.owes_exec (v := .string qH) (w' := w') rfl (RK.wanted_any rfl) ?_ (Below.refl _ _) rfl
      have rk : ∀ c, a'.eval (.const c) = c := fun _ => rfl
      generalize a'.eval = ρ at *
      go_simp
    · have p4 : val 4 = .string qH := hF.post 4 (by kernel_rfl)
      have r26 : a'.eval (.tmp 26) = .string qH := (hF.ev 26 4 rfl (by kernel_rfl) (of_decide_eq_true (by kernel_rfl))).trans p4
      have hsz := HSZa.out
      refine RK.owes_exec (v := .int .i64 24) (w' := w') rfl (RK.wanted_any rfl) ?_ (Below.refl _ _) rfl
      have rk : ∀ c, a'.eval (.const c) = c := fun _ => rfl
      generalize a'.eval = ρ at *
      go_simp
    · have p5 : val 5 = .int .i64 24 := hF.post 5 (by kernel_rfl)
      have r27 : a'.eval (.tmp 27) = .int .i64 24 := (hF.ev 27 5 rfl (by kernel_rfl) (of_decide_eq_true (by kernel_rfl))).trans p5
      have hsb := HSBa.out
      refine RK.owes_exec (v := .int .i64 (488 : Int)) (w' := w') rfl (RK.wanted_any rfl) ?_ (Below.refl _ _) rfl
      have rk : ∀ c, a'.eval (.const c) = c := fun _ => rfl
      generalize a'.eval = ρ at *
      go_simp
    · have p6 : val 6 = .int .i64 (488 : Int) := hF.post 6 (by kernel_rfl)
      have r28 : a'.eval (.tmp 28) = .int .i64 (488 : Int) := (hF.ev 28 6 rfl (by kernel_rfl) (of_decide_eq_true (by kernel_rfl))).trans p6
      have hm8 : (Instr.makeSlice 64 (.int .i64 (488 : Int)) (.int .i64 (488 : Int))).run Tryz.prog w' = .ok (.slice (some ⟨w'.heap.size, 0, none⟩) 488 488) (w'.alloc (.cells (madeCells #[.int .u8 0] 488) 5)) := run_made8 488 (by have := HMa.out; omega) w'
      refine RK.owes_exec (v := .slice (some ⟨w'.heap.size, 0, none⟩) 488 488) (w' := (w'.alloc (.cells (madeCells #[.int .u8 0] 488) 5))) rfl (RK.wanted_any rfl) ?_ (below_box _ _) ⟨_, rfl, heap_alloc_new w' _⟩
      have rk : ∀ c, a'.eval (.const c) = c := fun _ => rfl
      generalize a'.eval = ρ at *
      go_simp
    · obtain ⟨b7, e7, h7⟩ : ∃ b, val 7 = .slice (some ⟨b, 0, none⟩) 488 488 ∧ RowZ 488 b w' := (hF.post 7 (by kernel_rfl))
      have r29 : a'.eval (.tmp 29) = .slice (some ⟨b7, 0, none⟩) 488 488 := (hF.ev 29 7 rfl (by kernel_rfl) (of_decide_eq_true (by kernel_rfl))).trans e7
      have hcv := fun cap => run_zeros (cap := cap) h7
      rw [HZa.out] at hcv
      refine RK.owes_exec (v := .string Z0) (w' := w') rfl (RK.wanted_any rfl) ?_ (Below.refl _ _) rfl
      have rk : ∀ c, a'.eval (.const c) = c := fun _ => rfl
      generalize a'.eval = ρ at *
      go_simp
    · have p3 : val 3 = .string qH := hF.post 3 (by kernel_rfl)
      have r25 : a'.eval (.tmp 25) = .string qH := (hF.ev 25 3 rfl (by kernel_rfl) (of_decide_eq_true (by kernel_rfl))).trans p3
      have p8 : val 8 = .string Z0 := hF.post 8 (by kernel_rfl)
      have r30 : a'.eval (.tmp 30) = .string Z0 := (hF.ev 30 8 rfl (by kernel_rfl) (of_decide_eq_true (by kernel_rfl))).trans p8
      have hap := HAPa.out
      have hsm := HSMa.out
      refine RK.owes_exec (v := .string G1) (w' := w') rfl (RK.wanted_any rfl) ?_ (Below.refl _ _) rfl
      have rk : ∀ c, a'.eval (.const c) = c := fun _ => rfl
      generalize a'.eval = ρ at *
      go_simp
    · have p2 : val 2 = .string G0 := hF.post 2 (by kernel_rfl)
      have r24 : a'.eval (.tmp 24) = .string G0 := (hF.ev 24 2 rfl (by kernel_rfl) (of_decide_eq_true (by kernel_rfl))).trans p2
      have p9 : val 9 = .string G1 := hF.post 9 (by kernel_rfl)
      have r31 : a'.eval (.tmp 31) = .string G1 := (hF.ev 31 9 rfl (by kernel_rfl) (of_decide_eq_true (by kernel_rfl))).trans p9
      have hne : ¬ G0.toList = G1.toList := fun e => HNEa.out (Go.WideShapes.bytes_inj (by rwa [Lib.toList_data, Lib.toList_data] at e))
      refine RK.owes_exec (v := .bool true) (w' := w') rfl (RK.wanted_any rfl) ?_ (Below.refl _ _) rfl
      have rk : ∀ c, a'.eval (.const c) = c := fun _ => rfl
      generalize a'.eval = ρ at *
      go_simp
  · have hz : val 10 = .bool true := hp 10 (of_decide_eq_true (by kernel_rfl))
    simp only [RK.slotsL, if_true, hz]
    clear hp
    go_wp2_with fail
    go_ret
    exact ⟨rfl, hw⟩
set_option maxRecDepth 100000 in
set_option maxHeartbeats 16000000 in
theorem clean_yes (h : Ds W L R w) (hi : L[i]? = some (B, N, s)) (k : Int) (hk : k = 0 ∨ k = half) (a : Nat) (ha : a ≤ top) (t : By) (ht : t.length ≤ most) (hc : Tidy s k a t) :
    Calls Tryz.prog 25 #[ptr B, .int .i64 k, .int .i64 (a : Int), .string ⟨t.toArray⟩] w fun e w' => e = .returned (.bool true) ∧ Below w.heap.size w w' := by
  have HBW := Lib.hid (Below.refl w.heap.size w)
  have hhd := hdr3_hdr a t.length ha ht
  have hw3 : IntKind.i64.wrap (t.length : Int) = (t.length : Int) := by unfold most at ht; simp [IntKind.wrap, IntKind.bits, IntKind.signed]; omega
  obtain ⟨qH, hqH⟩ : ∃ q, (⟨(hdr3 (a : Int) (t.length : Int) (a : Int)).toArray⟩ : ByteArray) = q := ⟨_, rfl⟩
  have HNUM := Lib.hid (fun u => nums3 (a : Int) (t.length : Int) (a : Int) u)
  rw [hqH] at HNUM
  have HSZa : Hid (qH.size = 24) := Lib.hid (by rw [← hqH, hhd, Lib.size_eq]; simp [hdr_len])
  obtain ⟨Z0, hZ0⟩ : ∃ q, (⟨(List.replicate 488 (0 : UInt8)).toArray⟩ : ByteArray) = q := ⟨_, rfl⟩
  have HZa := Lib.hid hZ0
  have HMa : Hid (488 ≤ 512) := Lib.hid (by omega)
  have HSBa : Hid (IntKind.i64.wrap (488 : Int) = 488) := Lib.hid (by decide)
  have HSMa : Hid (qH.size + Z0.size ≤ 9223372036854775807) := Lib.hid (by rw [HSZa.out, ← hZ0, Lib.size_eq]; simp)
  have HAPa : Hid (qH ++ Z0 = ⟨(full (hdr a t.length)).toArray⟩) := Lib.hid (by
    rw [← hqH, ← hZ0, app_ba, hhd]
    unfold full
    rw [hdr_len])
  obtain ⟨hk0, hk1⟩ : 0 ≤ k ∧ k ≤ 32768 := by rcases hk with rfl | rfl <;> decide
  have hwk : IntKind.i64.wrap (k + 32768) = k + 32768 := by simp [IntKind.wrap, IntKind.bits, IntKind.signed]; omega
  have HC := Lib.hid hc
  have HWF := Lib.hid (h.wf hi)
  have HP : Hid (∀ u z, Below w.heap.size w u → Calls Tryz.prog 14 #[ptr B, .int .i64 z] u fun e w' => e = .returned (.string ⟨(s.platter z).toArray⟩) ∧ Below u.heap.size u w') := Lib.hid fun u z hb => (h.step hb).platter hi z
  have HUS := Lib.hid (fun u (hb : Below w.heap.size w u) => (h.step hb).used hi)
  have HPa := Lib.hid (fun u hu => HP.out u k hu)
  rw [show s.platter k = full (hdr a t.length) by unfold Dsk.platter; rw [if_pos (sec_yes.2 (by omega))]; exact hc.head] at HPa
  generalize (⟨(full (hdr a t.length)).toArray⟩ : ByteArray) = G1 at *
  have HHT := Lib.hid ht
  clear h hi hc hhd hqH hZ0 hk
  go_enter Tryz.func25, Tryz.ntmps25
  go_upto_region 2 with (go_at_call 50; (with_reducible refine (HNUM.out _).mono ?_); rintro e wn ⟨rfl, h⟩; replace HBW := Lib.hid (bnext HBW.out h); clear h)
  go_wp2_with fail
  refine RK.tame [none, none, none, none, none, none, none, none, none, none, none, none, none, none, none, none, none, none, none, none, none, none, some 0, some 1, some 2, some 3, some 4, some 5, some 6, some 7, some 8, some 9, some 10, none, none, none, none, none, none, none, none, none, none, none, none, none, none, none, none, none, none, none, none, none, none, none, none, none, none, none, none, none, none, none, none, none, none, none, none, none, none, none, none, none, none, none, none, none, none, none, none, none, none, none, none, none, none, none, none, none, none, none, none, none, none, none, none, none, none, none, none, none, none, none] [RK.Word.eq (ptr B), RK.Word.eq (.int .i64 k), RK.Word.eq (.string G1), RK.Word.eq (.string qH), RK.Word.eq (.string qH), RK.Word.eq (.int .i64 24), RK.Word.eq (.int .i64 (488 : Int)), wz 488, RK.Word.eq (.string Z0), RK.Word.eq (.string G1), RK.Word.eq (.bool false)] (fun u => Below w.heap.size w u) (by kernel_rfl) (by kernel_rfl) (by kernel_rfl) HBW.out (fun _ _ h hb => h.trans (hb.mono h.size)) (fun i hi a' val w' hF => ?_) (fun val w' hw hp => ?_)
  · have hi2 : i = 0 ∨ i = 1 ∨ i = 2 ∨ i = 3 ∨ i = 4 ∨ i = 5 ∨ i = 6 ∨ i = 7 ∨ i = 8 ∨ i = 9 ∨ i = 10 := by
      have : i < 11 := hi
      omega
    clear hi
    rcases hi2 with rfl | rfl | rfl | rfl | rfl | rfl | rfl | rfl | rfl | rfl | rfl
    · have r0 : a'.eval (.tmp 0) = ptr B := (hF.old 0 (.inr rfl)).trans rfl
      refine RK.owes_exec (v := ptr B) (w' := w') rfl (RK.wanted_any rfl) ?_ (Below.refl _ _) rfl
      have rk : ∀ c, a'.eval (.const c) = c := fun _ => rfl
      generalize a'.eval = ρ at *
      go_simp
    · have r1 : a'.eval (.tmp 1) = .int .i64 k := (hF.old 1 (.inr rfl)).trans rfl
      refine RK.owes_exec (v := .int .i64 k) (w' := w') rfl (RK.wanted_any rfl) ?_ (Below.refl _ _) rfl
      have rk : ∀ c, a'.eval (.const c) = c := fun _ => rfl
      generalize a'.eval = ρ at *
      go_simp
    · have p0 : val 0 = ptr B := hF.post 0 (by kernel_rfl)
      have r22 : a'.eval (.tmp 22) = ptr B := (hF.ev 22 0 rfl (by kernel_rfl) (of_decide_eq_true (by kernel_rfl))).trans p0
      have p1 : val 1 = .int .i64 k := hF.post 1 (by kernel_rfl)
      have r23 : a'.eval (.tmp 23) = .int .i64 k := (hF.ev 23 1 rfl (by kernel_rfl) (of_decide_eq_true (by kernel_rfl))).trans p1
      refine RK.owes_call (g := 14) (args := #[ptr B, .int .i64 k]) rfl (RK.wanted_any rfl) ?_ ?_
      · have rk : ∀ c, a'.eval (.const c) = c := fun _ => rfl
        have rf : ∀ f, a'.eval (.func f) = .func (.func f) #[] #[] := fun _ => rfl
        generalize a'.eval = ρ at *
        go_simp
      · refine (HPa.out _ hF.S).mono ?_
        rintro e w2 ⟨rfl, hb⟩
        exact ⟨_, rfl, hb, rfl⟩
    · have r9 : a'.eval (.tmp 9) = .string qH := (hF.old 9 (.inr rfl)).trans rfl
      refine RK.owes_exec (v := .string qH) (w' := w') rfl (RK.wanted_any rfl) ?_ (Below.refl _ _) rfl
      have rk : ∀ c, a'.eval (.const c) = c := fun _ => rfl
      generalize a'.eval = ρ at *
      go_simp
    · have r9 : a'.eval (.tmp 9) = .string qH := (hF.old 9 (.inr rfl)).trans rfl
      refine RK.owes_exec (v := .string qH) (w' := w') rfl (RK.wanted_any rfl) ?_ (Below.refl _ _) rfl
      have rk : ∀ c, a'.eval (.const c) = c := fun _ => rfl
      generalize a'.eval = ρ at *
      go_simp
    · have p4 : val 4 = .string qH := hF.post 4 (by kernel_rfl)
      have r26 : a'.eval (.tmp 26) = .string qH := (hF.ev 26 4 rfl (by kernel_rfl) (of_decide_eq_true (by kernel_rfl))).trans p4
      have hsz := HSZa.out
      refine RK.owes_exec (v := .int .i64 24) (w' := w') rfl (RK.wanted_any rfl) ?_ (Below.refl _ _) rfl
      have rk : ∀ c, a'.eval (.const c) = c := fun _ => rfl
      generalize a'.eval = ρ at *
      go_simp
    · have p5 : val 5 = .int .i64 24 := hF.post 5 (by kernel_rfl)
      have r27 : a'.eval (.tmp 27) = .int .i64 24 := (hF.ev 27 5 rfl (by kernel_rfl) (of_decide_eq_true (by kernel_rfl))).trans p5
      have hsb := HSBa.out
      refine RK.owes_exec (v := .int .i64 (488 : Int)) (w' := w') rfl (RK.wanted_any rfl) ?_ (Below.refl _ _) rfl
      have rk : ∀ c, a'.eval (.const c) = c := fun _ => rfl
      generalize a'.eval = ρ at *
      go_simp
    · have p6 : val 6 = .int .i64 (488 : Int) := hF.post 6 (by kernel_rfl)
      have r28 : a'.eval (.tmp 28) = .int .i64 (488 : Int) := (hF.ev 28 6 rfl (by kernel_rfl) (of_decide_eq_true (by kernel_rfl))).trans p6
      have hm8 : (Instr.makeSlice 64 (.int .i64 (488 : Int)) (.int .i64 (488 : Int))).run Tryz.prog w' = .ok (.slice (some ⟨w'.heap.size, 0, none⟩) 488 488) (w'.alloc (.cells (madeCells #[.int .u8 0] 488) 5)) := run_made8 488 (by have := HMa.out; omega) w'
      refine RK.owes_exec (v := .slice (some ⟨w'.heap.size, 0, none⟩) 488 488) (w' := (w'.alloc (.cells (madeCells #[.int .u8 0] 488) 5))) rfl (RK.wanted_any rfl) ?_ (below_box _ _) ⟨_, rfl, heap_alloc_new w' _⟩
      have rk : ∀ c, a'.eval (.const c) = c := fun _ => rfl
      generalize a'.eval = ρ at *
      go_simp
    · obtain ⟨b7, e7, h7⟩ : ∃ b, val 7 = .slice (some ⟨b, 0, none⟩) 488 488 ∧ RowZ 488 b w' := (hF.post 7 (by kernel_rfl))
      have r29 : a'.eval (.tmp 29) = .slice (some ⟨b7, 0, none⟩) 488 488 := (hF.ev 29 7 rfl (by kernel_rfl) (of_decide_eq_true (by kernel_rfl))).trans e7
      have hcv := fun cap => run_zeros (cap := cap) h7
      rw [HZa.out] at hcv
      refine RK.owes_exec (v := .string Z0) (w' := w') rfl (RK.wanted_any rfl) ?_ (Below.refl _ _) rfl
      have rk : ∀ c, a'.eval (.const c) = c := fun _ => rfl
      generalize a'.eval = ρ at *
      go_simp
    · have p3 : val 3 = .string qH := hF.post 3 (by kernel_rfl)
      have r25 : a'.eval (.tmp 25) = .string qH := (hF.ev 25 3 rfl (by kernel_rfl) (of_decide_eq_true (by kernel_rfl))).trans p3
      have p8 : val 8 = .string Z0 := hF.post 8 (by kernel_rfl)
      have r30 : a'.eval (.tmp 30) = .string Z0 := (hF.ev 30 8 rfl (by kernel_rfl) (of_decide_eq_true (by kernel_rfl))).trans p8
      have hap := HAPa.out
      have hsm := HSMa.out
      refine RK.owes_exec (v := .string G1) (w' := w') rfl (RK.wanted_any rfl) ?_ (Below.refl _ _) rfl
      have rk : ∀ c, a'.eval (.const c) = c := fun _ => rfl
      generalize a'.eval = ρ at *
      go_simp
    · have p2 : val 2 = .string G1 := hF.post 2 (by kernel_rfl)
      have r24 : a'.eval (.tmp 24) = .string G1 := (hF.ev 24 2 rfl (by kernel_rfl) (of_decide_eq_true (by kernel_rfl))).trans p2
      have p9 : val 9 = .string G1 := hF.post 9 (by kernel_rfl)
      have r31 : a'.eval (.tmp 31) = .string G1 := (hF.ev 31 9 rfl (by kernel_rfl) (of_decide_eq_true (by kernel_rfl))).trans p9
      refine RK.owes_exec (v := .bool false) (w' := w') rfl (RK.wanted_any rfl) ?_ (Below.refl _ _) rfl
      have rk : ∀ c, a'.eval (.const c) = c := fun _ => rfl
      generalize a'.eval = ρ at *
      go_simp
  · have hz : val 10 = .bool false := hp 10 (of_decide_eq_true (by kernel_rfl))
    simp only [RK.slotsL, if_true, hz]
    have HBW1 := Lib.hid hw
    clear hp hw HBW HNUM HSZa HZa HMa HSBa HAPa HSMa HPa
    have HBW := HBW1
    clear HBW1
    go_upto_region 5 with (go_at_call 51; (with_reducible refine (HUS.out _ HBW.out).mono ?_); rintro e w2 ⟨v, l, rfl, hu, hv, hb⟩; obtain ⟨ao, cc, hvv, _⟩ := id hv; rw [ints_len] at hvv; subst hvv; have HV := Lib.hid hv; replace HBW := Lib.hid (bnext HBW.out hb); have hl6 := used_len hu HWF.out; clear hu hv hb)
    go_loopw [8, 11, 12, 13, 36] (fun s8 s11 s12 s13 s36 wx => ∃ i : Nat, i ≤ l.length ∧ s36 = .int .i64 (i : Int) ∧ Hid (ValsAt wx (.slice ao l.length cc) (ints l)) ∧ Hid (Below w.heap.size w wx)) (fun _ _ _ _ s36 _ => l.length - (RowKit.intOf s36).toNat)
    case atStart => exact ⟨0, Nat.zero_le _, rfl, HV, HBW⟩
    case round =>
      obtain ⟨i, hi2, rfl, HV, HBW⟩ := hrel
      by_cases hlt : i < l.length
      · obtain ⟨z, hz⟩ : ∃ z, l[i]? = some z := ⟨_, List.getElem?_eq_getElem hlt⟩
        obtain ⟨ad, rfl⟩ := HV.out.some (by rw [ints_len]; omega)
        have hcl := HV.out.cell (ints_get hz)
        have hlti : (i : Int) < (l.length : Int) := by omega
        by_cases hza : z ≤ k
        · clear hz
          go_wp2_with fail
          go_roundw
          case rel => exact ⟨i + 1, by omega, by go_num, HV, HBW⟩
          case measure => simp [RowKit.intOf]; omega
        · by_cases hzb : k + 32768 ≤ z
          · clear hz
            go_wp2_with fail
            go_roundw
            case rel => exact ⟨i + 1, by omega, by go_num, HV, HBW⟩
            case measure => simp [RowKit.intOf]; omega
          · obtain ⟨j, hjz⟩ : ∃ j : Nat, z = k + 1 + (j : Int) := ⟨(z - k - 1).toNat, by omega⟩
            obtain ⟨fr, hfr⟩ : ∃ fr : Nat, fr = 512 * j := ⟨_, rfl⟩
            obtain ⟨j1, hj1⟩ : ∃ j1 : Nat, j1 = j + 1 := ⟨_, rfl⟩
            have hwa : IntKind.i64.wrap (z - k) = (j1 : Int) := by simp [IntKind.wrap, IntKind.bits, IntKind.signed]; omega
            have hwb : IntKind.i64.wrap ((j1 : Int) - 1) = (j : Int) := by simp [IntKind.wrap, IntKind.bits, IntKind.signed]; omega
            have hwc : IntKind.i64.wrap ((j : Int) * 512) = (fr : Int) := by simp [IntKind.wrap, IntKind.bits, IntKind.signed]; omega
            have hsz : sec z = true := sec_yes.2 (by omega)
            by_cases hj : j < secs t.length
            · have hlt5 : fr < t.length := by rw [hfr]; exact secs_lt hj
              obtain ⟨fe, hfe⟩ : ∃ fe : Nat, fe = fr + 512 := ⟨_, rfl⟩
              have hw4 : IntKind.i64.wrap ((fr : Int) + 512) = (fe : Int) := by unfold most at ht; simp [IntKind.wrap, IntKind.bits, IntKind.signed]; omega
              obtain ⟨mn, hmn⟩ : ∃ mn : Nat, min fe t.length = mn := ⟨_, rfl⟩
              have hmi : min (fe : Int) (t.length : Int) = (mn : Int) := by omega
              obtain ⟨pl, hpl⟩ : ∃ pl : Nat, (pce t j).length = pl := ⟨_, rfl⟩
              have hpl5 : pl ≤ 512 := by rw [← hpl]; exact pce_len t _
              have hx0 : (⟨t.toArray⟩ : ByteArray).extract fr mn = ⟨(pce t j).toArray⟩ := by
                rw [ByteArray.extract_mk]
                congr 1
                rw [← hmn, hfe, hfr]
                unfold pce
                apply Array.toList_inj.1
                by_cases h5 : 512 * j + 512 ≤ t.length
                · rw [Nat.min_eq_left h5, Nat.add_sub_cancel_left]
                · rw [Nat.min_eq_right (by omega), List.take_of_length_le (by rw [List.length_drop]; omega), List.take_of_length_le (by rw [List.length_drop]; omega)]
              obtain ⟨Sg, hSg⟩ : ∃ q, (⟨(pce t j).toArray⟩ : ByteArray) = q := ⟨_, rfl⟩
              rw [hSg] at hx0
              have hc0 : (0 : Int) ≤ (fr : Int) := Int.natCast_nonneg _
              have hc1 : (fr : Int) ≤ (mn : Int) := by omega
              have hc2 : (mn : Int) ≤ (t.length : Int) := by omega
              have hlti : (fr : Int) < (t.length : Int) := by omega
              have hG : s.platter z = full (pce t j) := by unfold Dsk.platter; rw [if_pos hsz, hjz]; exact HC.out.text j hj
              obtain ⟨m, hm⟩ : ∃ m : Nat, m = 512 - pl := ⟨_, rfl⟩
              obtain ⟨Z1, hZ1⟩ : ∃ q, (⟨(List.replicate m (0 : UInt8)).toArray⟩ : ByteArray) = q := ⟨_, rfl⟩
              have HZb := Lib.hid hZ1
              have HMb : Hid (m ≤ 512) := Lib.hid (by omega)
              have HSZb : Hid (Sg.size = pl) := Lib.hid (by rw [← hSg, Lib.size_eq]; simpa using hpl)
              have HSBb : Hid (IntKind.i64.wrap ((512 : Int) - (pl : Int)) = (m : Int)) := Lib.hid (by simp [IntKind.wrap, IntKind.bits, IntKind.signed]; omega)
              have HPb := Lib.hid (fun u (hu : Below wr.heap.size wr u) => HP.out u z (bnext HBW.out hu))
              rw [hG] at HPb
              have HSMb : Hid (Sg.size + Z1.size ≤ 9223372036854775807) := Lib.hid (by rw [HSZb.out, ← hZ1, Lib.size_eq]; simp; omega)
              have HAPb : Hid (Sg ++ Z1 = ⟨(full (pce t j)).toArray⟩) := Lib.hid (by
                rw [← hSg, ← hZ1, app_ba, hm, ← hpl]; rfl)
              generalize (⟨(full (pce t j)).toArray⟩ : ByteArray) = G2 at *
              clear hG hz hfe hmn hpl hm hZ1 hSg hfr hjz hj1 hj hsz
              go_upto_region 12 with fail
              refine RK.tame [none, none, none, none, none, none, none, none, none, none, none, none, none, none, none, none, none, none, none, none, none, none, none, none, none, none, none, none, none, none, none, none, none, none, none, none, none, none, none, none, none, none, none, none, none, none, none, none, none, none, none, none, none, none, none, none, none, none, none, none, none, none, none, none, none, none, some 0, some 1, some 2, some 3, some 4, some 5, some 6, some 7, some 8, some 9, some 10, none, none, none, none, none, none, none, none, none, none, none, none, none, none, none, none, none, none, none, none, none, none, none, none, none, none, none] [RK.Word.eq (ptr B), RK.Word.eq (.int .i64 z), RK.Word.eq (.string G2), RK.Word.eq (.string Sg), RK.Word.eq (.string Sg), RK.Word.eq (.int .i64 (pl : Int)), RK.Word.eq (.int .i64 (m : Int)), wz m, RK.Word.eq (.string Z1), RK.Word.eq (.string G2), RK.Word.eq (.bool false)] (fun u => Below wr.heap.size wr u) (by kernel_rfl) (by kernel_rfl) (by kernel_rfl) (Below.refl _ _) (fun _ _ h hb => h.trans (hb.mono h.size)) (fun i hi a' val w' hF => ?_) (fun val w' hw hp => ?_)
              · have hi2 : i = 0 ∨ i = 1 ∨ i = 2 ∨ i = 3 ∨ i = 4 ∨ i = 5 ∨ i = 6 ∨ i = 7 ∨ i = 8 ∨ i = 9 ∨ i = 10 := by
                  have : i < 11 := hi
                  omega
                clear hi
                rcases hi2 with rfl | rfl | rfl | rfl | rfl | rfl | rfl | rfl | rfl | rfl | rfl
                · have r0 : a'.eval (.tmp 0) = ptr B := (hF.old 0 (.inr rfl)).trans rfl
                  refine RK.owes_exec (v := ptr B) (w' := w') rfl (RK.wanted_any rfl) ?_ (Below.refl _ _) rfl
                  have rk : ∀ c, a'.eval (.const c) = c := fun _ => rfl
                  generalize a'.eval = ρ at *
                  go_simp
                · have r11 : a'.eval (.tmp 11) = .int .i64 z := (hF.old 11 (.inr rfl)).trans rfl
                  refine RK.owes_exec (v := .int .i64 z) (w' := w') rfl (RK.wanted_any rfl) ?_ (Below.refl _ _) rfl
                  have rk : ∀ c, a'.eval (.const c) = c := fun _ => rfl
                  generalize a'.eval = ρ at *
                  go_simp
                · have p0 : val 0 = ptr B := hF.post 0 (by kernel_rfl)
                  have r66 : a'.eval (.tmp 66) = ptr B := (hF.ev 66 0 rfl (by kernel_rfl) (of_decide_eq_true (by kernel_rfl))).trans p0
                  have p1 : val 1 = .int .i64 z := hF.post 1 (by kernel_rfl)
                  have r67 : a'.eval (.tmp 67) = .int .i64 z := (hF.ev 67 1 rfl (by kernel_rfl) (of_decide_eq_true (by kernel_rfl))).trans p1
                  refine RK.owes_call (g := 14) (args := #[ptr B, .int .i64 z]) rfl (RK.wanted_any rfl) ?_ ?_
                  · have rk : ∀ c, a'.eval (.const c) = c := fun _ => rfl
                    have rf : ∀ f, a'.eval (.func f) = .func (.func f) #[] #[] := fun _ => rfl
                    generalize a'.eval = ρ at *
                    go_simp
                  · refine (HPb.out _ hF.S).mono ?_
                    rintro e w2 ⟨rfl, hb⟩
                    exact ⟨_, rfl, hb, rfl⟩
                · have r13 : a'.eval (.tmp 13) = .string Sg := (hF.old 13 (.inr rfl)).trans rfl
                  refine RK.owes_exec (v := .string Sg) (w' := w') rfl (RK.wanted_any rfl) ?_ (Below.refl _ _) rfl
                  have rk : ∀ c, a'.eval (.const c) = c := fun _ => rfl
                  generalize a'.eval = ρ at *
                  go_simp
                · have r13 : a'.eval (.tmp 13) = .string Sg := (hF.old 13 (.inr rfl)).trans rfl
                  refine RK.owes_exec (v := .string Sg) (w' := w') rfl (RK.wanted_any rfl) ?_ (Below.refl _ _) rfl
                  have rk : ∀ c, a'.eval (.const c) = c := fun _ => rfl
                  generalize a'.eval = ρ at *
                  go_simp
                · have p4 : val 4 = .string Sg := hF.post 4 (by kernel_rfl)
                  have r70 : a'.eval (.tmp 70) = .string Sg := (hF.ev 70 4 rfl (by kernel_rfl) (of_decide_eq_true (by kernel_rfl))).trans p4
                  have hsz := HSZb.out
                  refine RK.owes_exec (v := .int .i64 (pl : Int)) (w' := w') rfl (RK.wanted_any rfl) ?_ (Below.refl _ _) rfl
                  have rk : ∀ c, a'.eval (.const c) = c := fun _ => rfl
                  generalize a'.eval = ρ at *
                  go_simp
                · have p5 : val 5 = .int .i64 (pl : Int) := hF.post 5 (by kernel_rfl)
                  have r71 : a'.eval (.tmp 71) = .int .i64 (pl : Int) := (hF.ev 71 5 rfl (by kernel_rfl) (of_decide_eq_true (by kernel_rfl))).trans p5
                  have hsb := HSBb.out
                  refine RK.owes_exec (v := .int .i64 (m : Int)) (w' := w') rfl (RK.wanted_any rfl) ?_ (Below.refl _ _) rfl
                  have rk : ∀ c, a'.eval (.const c) = c := fun _ => rfl
                  generalize a'.eval = ρ at *
                  go_simp
                · have p6 : val 6 = .int .i64 (m : Int) := hF.post 6 (by kernel_rfl)
                  have r72 : a'.eval (.tmp 72) = .int .i64 (m : Int) := (hF.ev 72 6 rfl (by kernel_rfl) (of_decide_eq_true (by kernel_rfl))).trans p6
                  have hm8 : (Instr.makeSlice 64 (.int .i64 (m : Int)) (.int .i64 (m : Int))).run Tryz.prog w' = .ok (.slice (some ⟨w'.heap.size, 0, none⟩) m m) (w'.alloc (.cells (madeCells #[.int .u8 0] m) 5)) := run_made8 m (by have := HMb.out; omega) w'
                  refine RK.owes_exec (v := .slice (some ⟨w'.heap.size, 0, none⟩) m m) (w' := (w'.alloc (.cells (madeCells #[.int .u8 0] m) 5))) rfl (RK.wanted_any rfl) ?_ (below_box _ _) ⟨_, rfl, heap_alloc_new w' _⟩
                  have rk : ∀ c, a'.eval (.const c) = c := fun _ => rfl
                  generalize a'.eval = ρ at *
                  go_simp
                · obtain ⟨b7, e7, h7⟩ : ∃ b, val 7 = .slice (some ⟨b, 0, none⟩) m m ∧ RowZ m b w' := (hF.post 7 (by kernel_rfl))
                  have r73 : a'.eval (.tmp 73) = .slice (some ⟨b7, 0, none⟩) m m := (hF.ev 73 7 rfl (by kernel_rfl) (of_decide_eq_true (by kernel_rfl))).trans e7
                  have hcv := fun cap => run_zeros (cap := cap) h7
                  rw [HZb.out] at hcv
                  refine RK.owes_exec (v := .string Z1) (w' := w') rfl (RK.wanted_any rfl) ?_ (Below.refl _ _) rfl
                  have rk : ∀ c, a'.eval (.const c) = c := fun _ => rfl
                  generalize a'.eval = ρ at *
                  go_simp
                · have p3 : val 3 = .string Sg := hF.post 3 (by kernel_rfl)
                  have r69 : a'.eval (.tmp 69) = .string Sg := (hF.ev 69 3 rfl (by kernel_rfl) (of_decide_eq_true (by kernel_rfl))).trans p3
                  have p8 : val 8 = .string Z1 := hF.post 8 (by kernel_rfl)
                  have r74 : a'.eval (.tmp 74) = .string Z1 := (hF.ev 74 8 rfl (by kernel_rfl) (of_decide_eq_true (by kernel_rfl))).trans p8
                  have hap := HAPb.out
                  have hsm := HSMb.out
                  refine RK.owes_exec (v := .string G2) (w' := w') rfl (RK.wanted_any rfl) ?_ (Below.refl _ _) rfl
                  have rk : ∀ c, a'.eval (.const c) = c := fun _ => rfl
                  generalize a'.eval = ρ at *
                  go_simp
                · have p2 : val 2 = .string G2 := hF.post 2 (by kernel_rfl)
                  have r68 : a'.eval (.tmp 68) = .string G2 := (hF.ev 68 2 rfl (by kernel_rfl) (of_decide_eq_true (by kernel_rfl))).trans p2
                  have p9 : val 9 = .string G2 := hF.post 9 (by kernel_rfl)
                  have r75 : a'.eval (.tmp 75) = .string G2 := (hF.ev 75 9 rfl (by kernel_rfl) (of_decide_eq_true (by kernel_rfl))).trans p9
                  refine RK.owes_exec (v := .bool false) (w' := w') rfl (RK.wanted_any rfl) ?_ (Below.refl _ _) rfl
                  have rk : ∀ c, a'.eval (.const c) = c := fun _ => rfl
                  generalize a'.eval = ρ at *
                  go_simp
              · have hz : val 10 = .bool false := hp 10 (of_decide_eq_true (by kernel_rfl))
                simp only [RK.slotsL, if_true, hz]
                have HVN := Lib.hid (HV.out.step hw)
                have HBN := Lib.hid (bnext HBW.out hw)
                clear hp hw
                go_wp2_with fail
                go_roundw
                case rel => exact ⟨i + 1, by omega, by go_num, HVN, HBN⟩
                case measure => simp [RowKit.intOf]; omega
            · have hge : ¬ (fr : Int) < (t.length : Int) := by
                have := secs_ge t.length
                omega
              have hG : s.platter z = zero := by unfold Dsk.platter; rw [if_pos hsz]; exact HC.out.rest z (by omega) (by show z < k + 32768; omega)
              obtain ⟨Z1, hZ1⟩ : ∃ q, (⟨(List.replicate 512 (0 : UInt8)).toArray⟩ : ByteArray) = q := ⟨_, rfl⟩
              have HZc := Lib.hid hZ1
              have HMc : Hid (512 ≤ 512) := Lib.hid (by omega)
              have HSZc : Hid ((⟨#[]⟩ : ByteArray).size = 0) := Lib.hid rfl
              have HSBc : Hid (IntKind.i64.wrap (512 : Int) = 512) := Lib.hid (by decide)
              have HPc := Lib.hid (fun u (hu : Below wr.heap.size wr u) => HP.out u z (bnext HBW.out hu))
              rw [hG] at HPc
              have HSMc : Hid (Z1.size ≤ 9223372036854775807) := Lib.hid (by rw [← hZ1, Lib.size_eq]; simp)
              have HAPc : Hid ((⟨#[]⟩ : ByteArray) ++ Z1 = ⟨zero.toArray⟩) := Lib.hid (by
                rw [← hZ1, show (⟨#[]⟩ : ByteArray) = ⟨([] : By).toArray⟩ from rfl, app_ba]; rfl)
              generalize (⟨zero.toArray⟩ : ByteArray) = G2 at *
              clear hG hz hZ1 hfr hjz hj1 hj hsz
              go_upto_region 12 with fail
              refine RK.tame [none, none, none, none, none, none, none, none, none, none, none, none, none, none, none, none, none, none, none, none, none, none, none, none, none, none, none, none, none, none, none, none, none, none, none, none, none, none, none, none, none, none, none, none, none, none, none, none, none, none, none, none, none, none, none, none, none, none, none, none, none, none, none, none, none, none, some 0, some 1, some 2, some 3, some 4, some 5, some 6, some 7, some 8, some 9, some 10, none, none, none, none, none, none, none, none, none, none, none, none, none, none, none, none, none, none, none, none, none, none, none, none, none, none, none] [RK.Word.eq (ptr B), RK.Word.eq (.int .i64 z), RK.Word.eq (.string G2), RK.Word.eq (.string ⟨#[]⟩), RK.Word.eq (.string ⟨#[]⟩), RK.Word.eq (.int .i64 0), RK.Word.eq (.int .i64 (512 : Int)), wz 512, RK.Word.eq (.string Z1), RK.Word.eq (.string G2), RK.Word.eq (.bool false)] (fun u => Below wr.heap.size wr u) (by kernel_rfl) (by kernel_rfl) (by kernel_rfl) (Below.refl _ _) (fun _ _ h hb => h.trans (hb.mono h.size)) (fun i hi a' val w' hF => ?_) (fun val w' hw hp => ?_)
              · have hi2 : i = 0 ∨ i = 1 ∨ i = 2 ∨ i = 3 ∨ i = 4 ∨ i = 5 ∨ i = 6 ∨ i = 7 ∨ i = 8 ∨ i = 9 ∨ i = 10 := by
                  have : i < 11 := hi
                  omega
                clear hi
                rcases hi2 with rfl | rfl | rfl | rfl | rfl | rfl | rfl | rfl | rfl | rfl | rfl
                · have r0 : a'.eval (.tmp 0) = ptr B := (hF.old 0 (.inr rfl)).trans rfl
                  refine RK.owes_exec (v := ptr B) (w' := w') rfl (RK.wanted_any rfl) ?_ (Below.refl _ _) rfl
                  have rk : ∀ c, a'.eval (.const c) = c := fun _ => rfl
                  generalize a'.eval = ρ at *
                  go_simp
                · have r11 : a'.eval (.tmp 11) = .int .i64 z := (hF.old 11 (.inr rfl)).trans rfl
                  refine RK.owes_exec (v := .int .i64 z) (w' := w') rfl (RK.wanted_any rfl) ?_ (Below.refl _ _) rfl
                  have rk : ∀ c, a'.eval (.const c) = c := fun _ => rfl
                  generalize a'.eval = ρ at *
                  go_simp
                · have p0 : val 0 = ptr B := hF.post 0 (by kernel_rfl)
                  have r66 : a'.eval (.tmp 66) = ptr B := (hF.ev 66 0 rfl (by kernel_rfl) (of_decide_eq_true (by kernel_rfl))).trans p0
                  have p1 : val 1 = .int .i64 z := hF.post 1 (by kernel_rfl)
                  have r67 : a'.eval (.tmp 67) = .int .i64 z := (hF.ev 67 1 rfl (by kernel_rfl) (of_decide_eq_true (by kernel_rfl))).trans p1
                  refine RK.owes_call (g := 14) (args := #[ptr B, .int .i64 z]) rfl (RK.wanted_any rfl) ?_ ?_
                  · have rk : ∀ c, a'.eval (.const c) = c := fun _ => rfl
                    have rf : ∀ f, a'.eval (.func f) = .func (.func f) #[] #[] := fun _ => rfl
                    generalize a'.eval = ρ at *
                    go_simp
                  · refine (HPc.out _ hF.S).mono ?_
                    rintro e w2 ⟨rfl, hb⟩
                    exact ⟨_, rfl, hb, rfl⟩
                · have r13 : a'.eval (.tmp 13) = .string ⟨#[]⟩ := (hF.old 13 (.inr rfl)).trans rfl
                  refine RK.owes_exec (v := .string ⟨#[]⟩) (w' := w') rfl (RK.wanted_any rfl) ?_ (Below.refl _ _) rfl
                  have rk : ∀ c, a'.eval (.const c) = c := fun _ => rfl
                  generalize a'.eval = ρ at *
                  go_simp
                · have r13 : a'.eval (.tmp 13) = .string ⟨#[]⟩ := (hF.old 13 (.inr rfl)).trans rfl
                  refine RK.owes_exec (v := .string ⟨#[]⟩) (w' := w') rfl (RK.wanted_any rfl) ?_ (Below.refl _ _) rfl
                  have rk : ∀ c, a'.eval (.const c) = c := fun _ => rfl
                  generalize a'.eval = ρ at *
                  go_simp
                · have p4 : val 4 = .string ⟨#[]⟩ := hF.post 4 (by kernel_rfl)
                  have r70 : a'.eval (.tmp 70) = .string ⟨#[]⟩ := (hF.ev 70 4 rfl (by kernel_rfl) (of_decide_eq_true (by kernel_rfl))).trans p4
                  have hsz := HSZc.out
                  refine RK.owes_exec (v := .int .i64 0) (w' := w') rfl (RK.wanted_any rfl) ?_ (Below.refl _ _) rfl
                  have rk : ∀ c, a'.eval (.const c) = c := fun _ => rfl
                  generalize a'.eval = ρ at *
                  go_simp
                · have p5 : val 5 = .int .i64 0 := hF.post 5 (by kernel_rfl)
                  have r71 : a'.eval (.tmp 71) = .int .i64 0 := (hF.ev 71 5 rfl (by kernel_rfl) (of_decide_eq_true (by kernel_rfl))).trans p5
                  have hsb := HSBc.out
                  refine RK.owes_exec (v := .int .i64 (512 : Int)) (w' := w') rfl (RK.wanted_any rfl) ?_ (Below.refl _ _) rfl
                  have rk : ∀ c, a'.eval (.const c) = c := fun _ => rfl
                  generalize a'.eval = ρ at *
                  go_simp
                · have p6 : val 6 = .int .i64 (512 : Int) := hF.post 6 (by kernel_rfl)
                  have r72 : a'.eval (.tmp 72) = .int .i64 (512 : Int) := (hF.ev 72 6 rfl (by kernel_rfl) (of_decide_eq_true (by kernel_rfl))).trans p6
                  have hm8 : (Instr.makeSlice 64 (.int .i64 (512 : Int)) (.int .i64 (512 : Int))).run Tryz.prog w' = .ok (.slice (some ⟨w'.heap.size, 0, none⟩) 512 512) (w'.alloc (.cells (madeCells #[.int .u8 0] 512) 5)) := run_made8 512 (by have := HMc.out; omega) w'
                  refine RK.owes_exec (v := .slice (some ⟨w'.heap.size, 0, none⟩) 512 512) (w' := (w'.alloc (.cells (madeCells #[.int .u8 0] 512) 5))) rfl (RK.wanted_any rfl) ?_ (below_box _ _) ⟨_, rfl, heap_alloc_new w' _⟩
                  have rk : ∀ c, a'.eval (.const c) = c := fun _ => rfl
                  generalize a'.eval = ρ at *
                  go_simp
                · obtain ⟨b7, e7, h7⟩ : ∃ b, val 7 = .slice (some ⟨b, 0, none⟩) 512 512 ∧ RowZ 512 b w' := (hF.post 7 (by kernel_rfl))
                  have r73 : a'.eval (.tmp 73) = .slice (some ⟨b7, 0, none⟩) 512 512 := (hF.ev 73 7 rfl (by kernel_rfl) (of_decide_eq_true (by kernel_rfl))).trans e7
                  have hcv := fun cap => run_zeros (cap := cap) h7
                  rw [HZc.out] at hcv
                  refine RK.owes_exec (v := .string Z1) (w' := w') rfl (RK.wanted_any rfl) ?_ (Below.refl _ _) rfl
                  have rk : ∀ c, a'.eval (.const c) = c := fun _ => rfl
                  generalize a'.eval = ρ at *
                  go_simp
                · have p3 : val 3 = .string ⟨#[]⟩ := hF.post 3 (by kernel_rfl)
                  have r69 : a'.eval (.tmp 69) = .string ⟨#[]⟩ := (hF.ev 69 3 rfl (by kernel_rfl) (of_decide_eq_true (by kernel_rfl))).trans p3
                  have p8 : val 8 = .string Z1 := hF.post 8 (by kernel_rfl)
                  have r74 : a'.eval (.tmp 74) = .string Z1 := (hF.ev 74 8 rfl (by kernel_rfl) (of_decide_eq_true (by kernel_rfl))).trans p8
                  have hap := HAPc.out
                  have hsm := HSMc.out
                  refine RK.owes_exec (v := .string G2) (w' := w') rfl (RK.wanted_any rfl) ?_ (Below.refl _ _) rfl
                  have rk : ∀ c, a'.eval (.const c) = c := fun _ => rfl
                  generalize a'.eval = ρ at *
                  go_simp
                · have p2 : val 2 = .string G2 := hF.post 2 (by kernel_rfl)
                  have r68 : a'.eval (.tmp 68) = .string G2 := (hF.ev 68 2 rfl (by kernel_rfl) (of_decide_eq_true (by kernel_rfl))).trans p2
                  have p9 : val 9 = .string G2 := hF.post 9 (by kernel_rfl)
                  have r75 : a'.eval (.tmp 75) = .string G2 := (hF.ev 75 9 rfl (by kernel_rfl) (of_decide_eq_true (by kernel_rfl))).trans p9
                  refine RK.owes_exec (v := .bool false) (w' := w') rfl (RK.wanted_any rfl) ?_ (Below.refl _ _) rfl
                  have rk : ∀ c, a'.eval (.const c) = c := fun _ => rfl
                  generalize a'.eval = ρ at *
                  go_simp
              · have hz : val 10 = .bool false := hp 10 (of_decide_eq_true (by kernel_rfl))
                simp only [RK.slotsL, if_true, hz]
                have HVN := Lib.hid (HV.out.step hw)
                have HBN := Lib.hid (bnext HBW.out hw)
                clear hp hw
                go_wp2_with fail
                go_roundw
                case rel => exact ⟨i + 1, by omega, by go_num, HVN, HBN⟩
                case measure => simp [RowKit.intOf]; omega
      · obtain rfl : i = l.length := by omega
        have HBW2 := HBW
        clear HV
        go_wp2_with fail
        go_loopw [8, 14, 15] (fun s8 s14 s15 wx => ∃ j : Nat, j ≤ secs t.length ∧ s14 = .int .i64 ((512 * j : Nat) : Int) ∧ Hid (Below w.heap.size w wx)) (fun _ s14 _ _ => 512 * secs t.length - (RowKit.intOf s14).toNat)
        case atStart => exact ⟨0, Nat.zero_le _, rfl, HBW2⟩
        case round =>
          obtain ⟨j, hjle, rfl, HBW⟩ := hrel
          obtain ⟨fr, hfr⟩ : ∃ fr : Nat, fr = 512 * j := ⟨_, rfl⟩
          rw [← hfr]
          by_cases hj : j < secs t.length
          · have hlt5 : fr < t.length := by rw [hfr]; exact secs_lt hj
            obtain ⟨fe, hfe⟩ : ∃ fe : Nat, fe = fr + 512 := ⟨_, rfl⟩
            have hw4 : IntKind.i64.wrap ((fr : Int) + 512) = (fe : Int) := by unfold most at ht; simp [IntKind.wrap, IntKind.bits, IntKind.signed]; omega
            obtain ⟨mn, hmn⟩ : ∃ mn : Nat, min fe t.length = mn := ⟨_, rfl⟩
            have hmi : min (fe : Int) (t.length : Int) = (mn : Int) := by omega
            obtain ⟨pl, hpl⟩ : ∃ pl : Nat, (pce t j).length = pl := ⟨_, rfl⟩
            have hpl5 : pl ≤ 512 := by rw [← hpl]; exact pce_len t _
            have hx0 : (⟨t.toArray⟩ : ByteArray).extract fr mn = ⟨(pce t j).toArray⟩ := by
              rw [ByteArray.extract_mk]
              congr 1
              rw [← hmn, hfe, hfr]
              unfold pce
              apply Array.toList_inj.1
              by_cases h5 : 512 * j + 512 ≤ t.length
              · rw [Nat.min_eq_left h5, Nat.add_sub_cancel_left]
              · rw [Nat.min_eq_right (by omega), List.take_of_length_le (by rw [List.length_drop]; omega), List.take_of_length_le (by rw [List.length_drop]; omega)]
            obtain ⟨Sg, hSg⟩ : ∃ q, (⟨(pce t j).toArray⟩ : ByteArray) = q := ⟨_, rfl⟩
            rw [hSg] at hx0
            have hc0 : (0 : Int) ≤ (fr : Int) := Int.natCast_nonneg _
            have hc1 : (fr : Int) ≤ (mn : Int) := by omega
            have hc2 : (mn : Int) ≤ (t.length : Int) := by omega
            have hlti : (fr : Int) < (t.length : Int) := by omega
            obtain ⟨zz, hzz⟩ : ∃ zz : Int, zz = k + 1 + (j : Int) := ⟨_, rfl⟩
            have hjm : (j : Int) < 32767 := by have := secs_le ht; omega
            have hwa : IntKind.i64.wrap (k + 1) = k + 1 := by simp [IntKind.wrap, IntKind.bits, IntKind.signed]; omega
            have hwb : IntKind.i64.wrap (k + 1 + (j : Int)) = zz := by simp [IntKind.wrap, IntKind.bits, IntKind.signed]; omega
            have hq : IntKind.i64.wrap ((fr : Int) / 512) = (j : Int) := by rw [hfr]; simp [IntKind.wrap, IntKind.bits, IntKind.signed]; omega
            have hsz : sec zz = true := sec_yes.2 (by omega)
            have hG : s.platter zz = full (pce t j) := by unfold Dsk.platter; rw [if_pos hsz, hzz]; exact HC.out.text j hj
            have HPb := Lib.hid (fun u hu => HP.out u zz hu)
            rw [hG] at HPb
            have hxg : (⟨(full (pce t j)).toArray⟩ : ByteArray).extract 0 pl = Sg := by rw [ext_take', full_take (by omega), ← hpl, List.take_length, hSg]
            have hszg : (⟨(full (pce t j)).toArray⟩ : ByteArray).size = 512 := by rw [Lib.size_eq]; simpa using full_len (pce_len t j)
            have hszs : Sg.size = pl := by rw [← hSg, Lib.size_eq]; simpa using hpl
            have hp0 : (0 : Int) ≤ (pl : Int) := Int.natCast_nonneg _
            have hp1 : (pl : Int) ≤ 512 := by omega
            obtain ⟨fn, hfn⟩ : ∃ fn : Nat, fn = 512 * (j + 1) := ⟨_, rfl⟩
            have hfen : fe = fn := by omega
            subst hfen
            generalize (⟨(full (pce t j)).toArray⟩ : ByteArray) = G2 at *
            have hp2 : ¬ (512 : Int) < (pl : Int) := by omega
            have HFN := Lib.hid hfn
            have HM2 : Hid (512 * secs t.length - 512 * (j + 1) < 512 * secs t.length - 512 * j) := Lib.hid (by omega)
            have HFR := Lib.hid hfr
            clear hG hpl hSg hfe hmn hzz hsz hfn hfr hw3 hjm hp1 hpl5 hk1
            go_wp2_with (go_at_call 14; (with_reducible refine (HPb.out _ HBW.out).mono ?_); rintro e wx ⟨rfl, h⟩; replace HBW := Lib.hid (bnext HBW.out h); clear h)
            go_roundw
            case rel => exact ⟨j + 1, by omega, by rw [HFN.out], HBW⟩
            case measure => have hfn := HFN.out; have hfr := HFR.out; simp [RowKit.intOf]; omega
          · obtain rfl : j = secs t.length := by omega
            have hge : ¬ (fr : Int) < (t.length : Int) := by have := secs_ge t.length; omega
            go_wp2_with fail
            go_ret
            exact ⟨rfl, HBW.out⟩
end
end M
end Go.Proofs.YtoacmingocmaaaaGreatDoor

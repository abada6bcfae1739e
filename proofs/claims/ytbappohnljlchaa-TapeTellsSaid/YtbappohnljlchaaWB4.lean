/- The texts TapW4, TapW5, TapW6, TapW7, one behind the other. -/
import Derived.Test.YtbappohnljlchaaWB2
import Derived.Test.YtbappohnljlchaaWB3
import Derived.Lib.AppendZeros
import Derived.Lib.SliceRun
import Derived.Laws.MakeOwn
/- The walks of what makes a tape: Clone, Of, New, Copy; At; the document's own. -/
namespace Go.Proofs.Ytbappohnljlchaa
open Go Go.RowKit Go.Lib
namespace M
open MM
/-- Numbers that a slice reads, where one without an address is the nil slice. -/
def Src (W : World) (ao : Option Addr) (c : Nat) (l : List Nat) : Prop := Rd W ao l.length (fun k => l.getD k 0) ∧ (ao = none → l = [] ∧ c = 0)
theorem Src.below {W W' : World} {ao : Option Addr} {c : Nat} {l : List Nat} (h : Src W ao c l) (hb : Below W.heap.size W W') : Src W' ao c l := ⟨h.1.below hb, h.2⟩
theorem Src.nil (W : World) : Src W none 0 [] := ⟨fun h => absurd h (by simp), fun _ => ⟨rfl, rfl⟩⟩
/-- A slice that a call hands back: it reads l, in a block behind lo. -/
structure Copied (W : World) (co : Option Addr) (cc : Nat) (l : List Nat) (w : World) : Prop where
  fits : l.length ≤ cc
  most : cc ≤ maxLen
  absent : co = none → l = [] ∧ cc = 0
  row : RowAt W.heap.size w.heap.size w co l
  below : Below W.heap.size W w
theorem Copied.nil (W : World) : Copied W none 0 [] W := ⟨Nat.le_refl _, Nat.zero_le _, fun _ => ⟨rfl, rfl⟩, RowAt.nil _ _ _ _, Below.refl _ _⟩
theorem grown_below {w w' : World} {g : Nat} (h : w.grownBy w' (some g)) (hg : g ≤ w.heap.size) : Below g w w' := ⟨h.os, h.tape, h.output, h.size, fun k hk => h.block k (by omega) (by simp; omega)⟩
theorem copied_run (W : World) (ao : Option Addr) (c : Nat) (l : List Nat) (hn : l.length ≤ 1000) (h : Src W ao c l) :
    ∃ (co : Option Addr) (cc : Nat) (W2 : World), (Builtin.append_ #[26, 26] 26 #[.slice (some ⟨W.heap.size, 0, none⟩) 0 0, .slice ao l.length c]).run Try.prog (W.alloc (.cells #[] 24)) = .ok (.slice co l.length cc) W2 ∧ Copied W co cc l W2 := by
  obtain ⟨i0, hi, hz0, hz1, hz2⟩ := info_parts info_u64
  have hown : (W.alloc (.cells #[] 24)).ownsRow W.heap.size 24 1 (.slice (some ⟨W.heap.size, 0, none⟩) 0 0) 0 [] := World.ownsRow_made W #[] 0 (Nat.le_refl _) (by unfold maxLen; omega) (by simp)
  cases ao with
  | none =>
    obtain ⟨rfl, rfl⟩ := h.2 rfl
    exact ⟨_, _, _, run_append_owned_none (P := Try.prog) _ W.heap.size 26 26 24 i0 1 Try.underlying26 hi _ 0 [] hown, ⟨Nat.zero_le _, Nat.zero_le _, fun e => by (cases e), RowAt.nil _ _ _ _, below_box _ _⟩⟩
  | some a =>
    have hcell : ∀ j u, (zlist l.length (fun k => l.getD k 0))[j]? = some u → (W.alloc (.cells #[] 24)).cell? (a.add j) = some u := fun j u hj => by
      have hl := (List.getElem?_eq_some_iff.1 hj).1
      rw [zlist_len] at hl
      obtain ⟨ad, e, hr⟩ := h.1.below (below_box W (.cells #[] 24)) (by omega)
      cases e
      exact zlist_cells hr j u hj
    obtain ⟨v', w', hr, ho, hg, hnn⟩ := run_append_own (P := Try.prog) (W.alloc (.cells #[] 24)) W.heap.size 26 26 24 i0 (.int .u64 0) 1 8 Try.underlying26 hi hz0 hz1 hz2 rfl (by decide) _ 0 [] hown a l.length c (zlist l.length (fun k => l.getD k 0)) (zlist_len _ _) hcell (zlist_one _ _) (by unfold maxLen; omega) (by omega) (by simp)
    rw [Nat.zero_add, List.nil_append] at ho
    have hb : Below W.heap.size W w' := (below_box W _).trans (grown_below hg (by simp))
    obtain ⟨_, ⟨rfl, _⟩ | ⟨g, cap, cur, rfl, h2, h3, h4, h5, _, h7⟩⟩ := ho
    · have := (hnn.1 rfl).1
      cases this
    · refine ⟨some ⟨g, 0, none⟩, cap, w', hr, ⟨h4, h5, fun e => by (cases e), fun _ => ⟨g, 0, cur, rfl, h2, row_lt h3, h3, fun k x hk => ?_⟩, hb⟩⟩
      have hkl := (List.getElem?_eq_some_iff.1 hk).1
      have e1 : (cur.toList.take (l.length * 1))[k]? = (zlist l.length (fun k => l.getD k 0))[k]? := by rw [h7]
      rw [zlist_get hkl, List.getElem?_take_of_lt (by omega)] at e1
      rw [List.getD_eq_getElem?_getD, hk] at e1
      simpa using e1
theorem nil_yes (w : World) : (binOp .eql 26 (.slice none 0 0) (.slice none 0 0)).run Try.prog w = .ok (.bool true) w := by
  rw [Lib.run_eql_slice_nil w 26 24 none 0 0 0 0 Try.underlying26]; rfl
theorem nil_no (w : World) (a : Addr) (n c : Nat) : (binOp .eql 26 (.slice (some a) n c) (.slice none 0 0)).run Try.prog w = .ok (.bool false) w := by
  rw [Lib.run_eql_slice_nil w 26 24 (some a) n c 0 0 Try.underlying26]; rfl
set_option maxHeartbeats 1000000 in
theorem clone_any (W : World) (ao : Option Addr) (c : Nat) (l : List Nat) (hn : l.length ≤ 1000) (h : Src W ao c l) :
    Calls Try.prog 26 #[.slice ao l.length c] W fun e w' => ∃ co cc, e = .returned (.slice co l.length cc) ∧ Copied W co cc l w' := by
  cases ao with
  | none =>
    obtain ⟨rfl, rfl⟩ := h.2 rfl
    clear h
    have hnl := nil_yes W
    go_enter Try.func26, Try.ntmps26
    go_wp2_with fail
    go_ret
    exact ⟨_, _, rfl, Copied.nil W⟩
  | some a =>
    obtain ⟨co, cc, W2, hr, hc⟩ := copied_run W (some a) c l hn h
    have HC := Lib.hid hc
    clear hc h
    generalize l.length = n at *
    have hnl := nil_no W a n c
    go_enter Try.func26, Try.ntmps26
    go_wp2_with (at_builtin; refine Lib.wpList_append_run _ rfl _ _ _ _ rfl _ _ rfl rfl _ _ hr ?_)
    go_ret
    exact ⟨_, _, rfl, HC.out⟩
/-- A tape that is made. -/
def MadeP (W : World) (t : Tp) (B : Nat) (w : World) : Prop := PAt W.heap.size w.heap.size w B t ∧ Below W.heap.size W w
def MadeQ (W : World) (t : Tp) (B : Nat) (w : World) : Prop := QAt W.heap.size w.heap.size w B t ∧ Below W.heap.size W w
theorem Copied.boxP {W w : World} {co : Option Addr} {cc : Nat} {t : Tp} (h : Copied W co cc t.fs w) (ht : t.Ok) : MadeP W t w.heap.size (w.alloc (.cells #[.int .u64 (t.st : Int), .slice co t.fs.length cc, .int .i64 (t.n : Int)] TB)) := by
  have hs := h.below.size
  refine ⟨⟨ht, ⟨hs, by simp⟩, co, cc, heap_alloc_new w _, h.fits, h.most, h.absent, (h.row.step (below_box w _)).mono (Nat.le_refl _) (by simp)⟩, h.below.trans ((below_box w _).mono hs)⟩
theorem Copied.boxQ {W w : World} {co : Option Addr} {cc : Nat} {t : Tp} (h : Copied W co cc t.fs w) (ht : t.Ok) : MadeQ W t w.heap.size (w.alloc (.cells #[.slice co t.fs.length cc, .int .u64 (t.st : Int), .int .i64 (t.n : Int)] QB)) := by
  have hs := h.below.size
  refine ⟨⟨ht, ⟨hs, by simp⟩, co, cc, heap_alloc_new w _, h.fits, h.most, h.absent, (h.row.step (below_box w _)).mono (Nat.le_refl _) (by simp)⟩, h.below.trans ((below_box w _).mono hs)⟩
set_option maxHeartbeats 1000000 in
theorem of_any (W : World) (ao : Option Addr) (c s : Nat) (l : List Nat) (hn : l.length ≤ 1000) (h : Src W ao c l) (ht : (Tp.of l s).Ok) :
    Calls Try.prog 16 #[.slice ao l.length c, .int .u64 (s : Int)] W fun e w' => ∃ B, e = .returned (ptr B) ∧ MadeP W (Tp.of l s) B w' := by
  have HC := Lib.hid (clone_any W ao c l hn h)
  have HT := Lib.hid ht
  clear h ht
  go_enter Try.func16, Try.ntmps16
  go_wp2_with (go_at_call 26; (with_reducible refine (HC.out).mono ?_); rintro e w1 ⟨co, cc, rfl, hc⟩; have HD := Lib.hid hc; clear hc)
  go_ret
  exact ⟨_, rfl, Copied.boxP (t := Tp.of l s) HD.out HT.out⟩
theorem new_any (W : World) (s : Nat) (ht : (Tp.new s).Ok) :
    Calls Try.prog 15 #[.int .u64 (s : Int)] W fun e w' => ∃ B, e = .returned (ptr B) ∧ MadeP W (Tp.new s) B w' := by
  have HC : Hid (Calls Try.prog 16 #[.slice none 0 0, .int .u64 (s : Int)] W fun e w' => ∃ B, e = .returned (ptr B) ∧ MadeP W (Tp.new s) B w') := Lib.hid (of_any W none 0 s [] (by simp) (Src.nil W) ht)
  clear ht
  go_enter Try.func15, Try.ntmps15
  go_wp2_with (go_at_call 16; (with_reducible refine (HC.out).mono ?_); rintro e w1 ⟨B, rfl, hc⟩; have HD := Lib.hid hc; clear hc)
  go_ret
  exact ⟨_, rfl, HD.out⟩
theorem at_any {lo hi B : Nat} {t : Tp} {W : World} (h : PAt lo hi W B t) :
    Calls Try.prog 13 #[ptr B] W fun e w' => e = .returned (.int .i64 (t.n : Int)) ∧ w' = W := by
  obtain ⟨ao, c, hb, _⟩ := h.lies
  have c2 : W.cell? ⟨B, 2, none⟩ = some (.int .i64 (t.n : Int)) := hb.cell 2
  clear h hb
  generalize t.n = n at *
  go_enter Try.func13, Try.ntmps13
  go_wp2_with fail
  go_ret
  exact ⟨rfl, rfl⟩
theorem at_none (W : World) : Calls Try.prog 13 #[.pointer none] W fun e w' => e = .returned (.int .i64 0) ∧ w' = W := by
  go_enter Try.func13, Try.ntmps13
  go_wp2_with fail
  go_ret
  exact ⟨rfl, rfl⟩
theorem copy_none (W : World) : Calls Try.prog 14 #[.pointer none] W fun e w' => e = .returned (.pointer none) ∧ w' = W := by
  go_enter Try.func14, Try.ntmps14
  go_wp2_with fail
  go_ret
  exact ⟨rfl, rfl⟩
set_option maxHeartbeats 1000000 in
theorem rof_any (W : World) (ao : Option Addr) (c s : Nat) (l : List Nat) (hn : l.length ≤ 1000) (h : Src W ao c l) (ht : (Tp.of l s).Ok) :
    Calls Try.prog 17 #[.slice ao l.length c, .int .u64 (s : Int)] W fun e w' => ∃ B, e = .returned (ptr B) ∧ MadeQ W (Tp.of l s) B w' := by
  obtain ⟨co, cc, W2, hr, hc⟩ := copied_run W ao c l hn h
  have HD := Lib.hid (Copied.boxQ (t := Tp.of l s) hc ht)
  clear h hc ht
  unfold Tp.of at *
  dsimp only at HD
  generalize l.length = n at *
  go_enter Try.func17, Try.ntmps17
  go_wp2_with (at_builtin; refine Lib.wpList_append_run _ rfl _ _ _ _ rfl _ _ rfl rfl _ _ hr ?_)
  go_ret
  exact ⟨_, rfl, HD.out⟩
theorem rnew_any (W : World) (s : Nat) (ht : (Tp.new s).Ok) :
    Calls Try.prog 18 #[.int .u64 (s : Int)] W fun e w' => ∃ B, e = .returned (ptr B) ∧ MadeQ W (Tp.new s) B w' := by
  have HD := Lib.hid (Copied.boxQ (t := Tp.new s) (Copied.nil W) ht)
  clear ht
  go_enter Try.func18, Try.ntmps18
  go_wp2_with fail
  go_ret
  exact ⟨_, rfl, HD.out⟩
end M
end Go.Proofs.Ytbappohnljlchaa
/- The walks of Copy, the program's and the document's. -/
namespace Go.Proofs.Ytbappohnljlchaa
open Go Go.RowKit Go.Lib
namespace M
open MM
set_option maxHeartbeats 1000000 in
theorem copy_any {lo hi B : Nat} {t : Tp} {W : World} (h : PAt lo hi W B t) (hl : t.fs.length ≤ 1000) :
    Calls Try.prog 14 #[ptr B] W fun e w' => ∃ B', e = .returned (ptr B') ∧ MadeP W t B' w' := by
  obtain ⟨ao, c, hb, h1, h2, h3, h4⟩ := h.lies
  have c0 : W.cell? ⟨B, 0, none⟩ = some (.int .u64 (t.st : Int)) := hb.cell 0
  have c1 : W.cell? ⟨B, 1, none⟩ = some (.slice ao t.fs.length c) := hb.cell 1
  have c2 : W.cell? ⟨B, 2, none⟩ = some (.int .i64 (t.n : Int)) := hb.cell 2
  have hb1 := below_box W (.cells #[.int .u64 (t.st : Int), .slice ao t.fs.length c, .int .i64 (t.n : Int)] TB)
  have hn1 : Bx TB W.heap.size #[.int .u64 (t.st : Int), .slice ao t.fs.length c, .int .i64 (t.n : Int)] (W.alloc (.cells #[.int .u64 (t.st : Int), .slice ao t.fs.length c, .int .i64 (t.n : Int)] TB)) := heap_alloc_new W _
  have hbB := hb.step hb1
  have hsrc : Src (W.alloc (.cells #[.int .u64 (t.st : Int), .slice ao t.fs.length c, .int .i64 (t.n : Int)] TB)) ao c t.fs := ⟨(h4.step hb1).rd, h3⟩
  have HC := Lib.hid (clone_any _ ao c t.fs hl hsrc)
  have HB1 := Lib.hid hb1
  have HN := Lib.hid hn1
  have HO := Lib.hid h.ok
  have HBB := Lib.hid hbB
  have HFS : Hid (∃ l : List Nat, l = t.fs ∧ l.length = t.fs.length) := Lib.hid ⟨_, rfl, rfl⟩
  clear h hb hb1 hn1 hbB hsrc h4 h1 h2 h3 hl
  go_enter Try.func14, Try.ntmps14
  go_upto_region 4 with fail
  generalize W.alloc (.cells #[.int .u64 (t.st : Int), .slice ao t.fs.length c, .int .i64 (t.n : Int)] TB) = w1 at *
  obtain ⟨b3, hb3⟩ : ∃ b3, W.heap.size = b3 := ⟨_, rfl⟩
  simp only [hb3] at HN ⊢
  have HK3 := Lib.hid hb3
  have d1 : w1.cell? ⟨B, 1, none⟩ = some (.slice ao t.fs.length c) := HBB.out.cell 1
  clear hb3 c0 c1 c2
  have HNX : Hid (∀ w2 co cc, Copied w1 co cc t.fs w2 → (∃ v, w2.cell? ⟨b3, 1, none⟩ = some v) ∧ w2.frozen? ⟨b3, 1, none⟩ = false) := Lib.hid fun w2 co cc hc => by
    have := HN.out.step hc.below
    exact ⟨⟨_, this.cell 1⟩, this.free 1⟩
  go_wp2_with (go_at_call 26; (with_reducible refine (HC.out).mono ?_); rintro e w2 ⟨co, cc, rfl, hc⟩; have HD := Lib.hid hc; obtain ⟨⟨vx, q0⟩, q1⟩ := HNX.out _ _ _ hc; clear hc)
  go_ret
  have hk3 := HK3.out
  have hn2 := HN.out.step HD.out.below
  have hn3 := hn2.put 1 (.slice co t.fs.length cc)
  have hs1 := HB1.out.size
  have hs2 := HD.out.below.size
  have hlt := HN.out.lt
  have htt := (Turn.refl b3 w2).set 1 (.slice co t.fs.length cc)
  refine ⟨b3, rfl, ⟨HO.out, ⟨by omega, hn3.lt⟩, co, cc, hn3, HD.out.fits, HD.out.most, HD.out.absent, ?_⟩, ?_⟩
  · exact (HD.out.row.mono hs1 (Nat.le_refl _)).turn htt hn2 tb_row |>.mono (Nat.le_refl _) htt.size
  · have hbb := bnext HB1.out HD.out.below
    exact hbb.trans (htt.below (by omega) hbb.size)
set_option maxHeartbeats 1000000 in
theorem rcopy_any {lo hi B : Nat} {t : Tp} {W : World} (h : QAt lo hi W B t) (hl : t.fs.length ≤ 1000) :
    Calls Try.prog 22 #[ptr B] W fun e w' => ∃ B', e = .returned (ptr B') ∧ MadeQ W t B' w' := by
  obtain ⟨ao, c, hb, h1, h2, h3, h4⟩ := h.lies
  obtain ⟨w1, hw1⟩ : ∃ w1, W.drew = w1 := ⟨_, rfl⟩
  have hb1 : Below W.heap.size W w1 := by rw [← hw1]; exact below_drewN W 1
  have hsrc : Src w1 ao c t.fs := ⟨(h4.step hb1).rd, h3⟩
  obtain ⟨co, cc, W2, hr, hc⟩ := copied_run w1 ao c t.fs hl hsrc
  have HD := Lib.hid (hc.boxQ h.ok)
  have HS0 := hb.step hb1
  have HS1 := HS0.step (below_box w1 (.cells #[] 24))
  have HS2 := HS0.step hc.below
  have HS3 := HS2.step (below_box W2 (.cells #[.slice co t.fs.length cc, .int .u64 (t.st : Int), .int .i64 (t.n : Int)] QB))
  have HB1 := Lib.hid hb1
  clear h hb hb1 hsrc h4 h1 h2 h3 hl hc
  generalize hn : t.fs.length = n at *
  generalize hst : t.st = st at *
  generalize hm : t.n = m at *
  have HN := Lib.hid hn
  have HSS := Lib.hid hst
  have HM := Lib.hid hm
  clear hn hst hm
  go_enter Try.func22, Try.ntmps22
  go_upto_region 1 with fail
  refine RK.region (Bx QB B #[.slice ao n c, .int .u64 (st : Int), .int .i64 (m : Int)]) 17 (by kernel_rfl) ?_
  rw [hw1]
  refine RK.Any.take 1 4 (ptr B) rfl rfl (by kernel_rfl) (by kernel_rfl) (by kernel_rfl) (by kernel_rfl) (fun _ _ _ h => h) (by rfl) (fun W' hb => ?_) HS0 ?_
  · go_simp
  simp only [List.setIfInBounds_toArray, List.set_cons_zero, List.set_cons_succ]
  refine RK.Any.take 2 5 (ptr B) rfl rfl (by kernel_rfl) (by kernel_rfl) (by kernel_rfl) (by kernel_rfl) (fun _ _ _ h => h) (by rfl) (fun W' hb => ?_) HS0 ?_
  · go_simp
  simp only [List.setIfInBounds_toArray, List.set_cons_zero, List.set_cons_succ]
  refine RK.Any.take 3 6 (.pointer (some ⟨B, 0, none⟩)) rfl rfl (by kernel_rfl) (by kernel_rfl) (by kernel_rfl) (by kernel_rfl) (fun _ _ _ h => h) (by rfl) (fun W' hb => ?_) HS0 ?_
  · go_simp
  simp only [List.setIfInBounds_toArray, List.set_cons_zero, List.set_cons_succ]
  refine RK.Any.take 4 7 (.slice ao n c) rfl rfl (by kernel_rfl) (by kernel_rfl) (by kernel_rfl) (by kernel_rfl) (fun _ _ _ h => h) (by rfl) (fun W' hb => ?_) HS0 ?_
  · have c0 := hb.cell 0; go_simp
  simp only [List.setIfInBounds_toArray, List.set_cons_zero, List.set_cons_succ]
  refine RK.Any.take 6 9 (ptr B) rfl rfl (by kernel_rfl) (by kernel_rfl) (by kernel_rfl) (by kernel_rfl) (fun _ _ _ h => h) (by rfl) (fun W' hb => ?_) HS0 ?_
  · go_simp
  simp only [List.setIfInBounds_toArray, List.set_cons_zero, List.set_cons_succ]
  refine RK.Any.take 7 10 (ptr B) rfl rfl (by kernel_rfl) (by kernel_rfl) (by kernel_rfl) (by kernel_rfl) (fun _ _ _ h => h) (by rfl) (fun W' hb => ?_) HS0 ?_
  · go_simp
  simp only [List.setIfInBounds_toArray, List.set_cons_zero, List.set_cons_succ]
  refine RK.Any.take 8 11 (.pointer (some ⟨B, 1, none⟩)) rfl rfl (by kernel_rfl) (by kernel_rfl) (by kernel_rfl) (by kernel_rfl) (fun _ _ _ h => h) (by rfl) (fun W' hb => ?_) HS0 ?_
  · go_simp
  simp only [List.setIfInBounds_toArray, List.set_cons_zero, List.set_cons_succ]
  refine RK.Any.take 9 12 (.int .u64 (st : Int)) rfl rfl (by kernel_rfl) (by kernel_rfl) (by kernel_rfl) (by kernel_rfl) (fun _ _ _ h => h) (by rfl) (fun W' hb => ?_) HS0 ?_
  · have c0 := hb.cell 1; go_simp
  simp only [List.setIfInBounds_toArray, List.set_cons_zero, List.set_cons_succ]
  refine RK.Any.take 10 13 (ptr B) rfl rfl (by kernel_rfl) (by kernel_rfl) (by kernel_rfl) (by kernel_rfl) (fun _ _ _ h => h) (by rfl) (fun W' hb => ?_) HS0 ?_
  · go_simp
  simp only [List.setIfInBounds_toArray, List.set_cons_zero, List.set_cons_succ]
  refine RK.Any.take 11 14 (ptr B) rfl rfl (by kernel_rfl) (by kernel_rfl) (by kernel_rfl) (by kernel_rfl) (fun _ _ _ h => h) (by rfl) (fun W' hb => ?_) HS0 ?_
  · go_simp
  simp only [List.setIfInBounds_toArray, List.set_cons_zero, List.set_cons_succ]
  refine RK.Any.take 12 15 (.pointer (some ⟨B, 2, none⟩)) rfl rfl (by kernel_rfl) (by kernel_rfl) (by kernel_rfl) (by kernel_rfl) (fun _ _ _ h => h) (by rfl) (fun W' hb => ?_) HS0 ?_
  · go_simp
  simp only [List.setIfInBounds_toArray, List.set_cons_zero, List.set_cons_succ]
  refine RK.Any.take 13 16 (.int .i64 (m : Int)) rfl rfl (by kernel_rfl) (by kernel_rfl) (by kernel_rfl) (by kernel_rfl) (fun _ _ _ h => h) (by rfl) (fun W' hb => ?_) HS0 ?_
  · have c0 := hb.cell 2; go_simp
  simp only [List.setIfInBounds_toArray, List.set_cons_zero, List.set_cons_succ]
  refine RK.Any.exec 0 3 (.slice (some ⟨w1.heap.size, 0, none⟩) 0 0) (w1 := w1.alloc (.cells #[] 24)) (by kernel_rfl) rfl rfl (by rfl) (by go_simp) HS1 ?_
  simp only [List.setIfInBounds_toArray, List.set_cons_zero, List.set_cons_succ]
  refine RK.Any.exec 5 8 (.slice co n cc) (w1 := W2) (by kernel_rfl) rfl rfl (by rfl) (RK.exec_append _ _ _ _ rfl _ _ rfl rfl hr) HS2 ?_
  simp only [List.setIfInBounds_toArray, List.set_cons_zero, List.set_cons_succ]
  refine RK.Any.exec 14 17 (.agg #[.slice co n cc, .int .u64 (st : Int), .int .i64 (m : Int)]) (w1 := W2) (by kernel_rfl) rfl rfl (by rfl) (by go_simp) HS2 ?_
  simp only [List.setIfInBounds_toArray, List.set_cons_zero, List.set_cons_succ]
  refine RK.Any.exec 15 18 (ptr W2.heap.size) (w1 := W2.alloc (.cells #[.slice co n cc, .int .u64 (st : Int), .int .i64 (m : Int)] QB)) (by kernel_rfl) rfl rfl (by rfl) (by go_simp) HS3 ?_
  simp only [List.setIfInBounds_toArray, List.set_cons_zero, List.set_cons_succ]
  refine RK.Any.exec 16 2 (ptr W2.heap.size) (w1 := W2.alloc (.cells #[.slice co n cc, .int .u64 (st : Int), .int .i64 (m : Int)] QB)) (by kernel_rfl) rfl rfl (by rfl) (by go_simp) HS3 ?_
  simp only [List.setIfInBounds_toArray, List.set_cons_zero, List.set_cons_succ]
  refine RK.Any.done (by kernel_rfl) ?_
  clear HS0 HS1 HS2 HS3 hr
  go_wp2_with fail
  go_ret
  have hd := HD.out
  have hs := HB1.out.size
  refine ⟨_, rfl, ?_, bnext HB1.out hd.2⟩
  exact hd.1.mono hs (Nat.le_refl _)
end M
end Go.Proofs.Ytbappohnljlchaa
/- The walks of Draws, the program's and the document's, and of what holds two rows against each other. -/
namespace Go.Proofs.Ytbappohnljlchaa
open Go Go.RowKit Go.Lib
namespace M
open MM
theorem add_zero' (g : Nat) : (⟨g, 0, none⟩ : Addr).add 0 = ⟨g, 0, none⟩ := rfl
theorem nums_any (ao bo : Option Addr) (n ca cb : Nat) (z : Nat → Nat) (hn : n ≤ 9223372036854775807) (W : World) (ha : Rd W ao n z) (hb : Rd W bo n z) :
    Calls Try.prog 20 #[.slice ao n ca, .slice bo n cb] W fun e w' => e = .returned (.bool true) ∧ ∃ m, w' = W.drewN m := by
  have HA := Lib.hid ha
  have HB := Lib.hid hb
  clear ha hb
  go_enter Try.func20, Try.ntmps20
  go_wp2_with fail
  go_loopw [5] (fun s5 wx => ∃ k m : Nat, k ≤ n ∧ s5 = .int .i64 (k : Int) ∧ wx = W.drewN m) (fun s5 _ => n - (RowKit.intOf s5).toNat)
  case atStart => exact ⟨0, 0, Nat.zero_le _, rfl, rfl⟩
  case round =>
    obtain ⟨k, m, hk, rfl, rfl⟩ := hrel
    by_cases hlt : k < n
    · obtain ⟨ad, rfl, hc⟩ := HA.out.at_ hlt
      obtain ⟨bd, rfl, hd⟩ := HB.out.at_ hlt
      go_upto_region 6 with fail
      generalize hwr : W.drewN m = wr
      have hcell : wr.cell? (ad.add k) = some (.int .u64 ((z k : Nat) : Int)) := by rw [← hwr]; exact hc
      have hdell : wr.cell? (bd.add k) = some (.int .u64 ((z k : Nat) : Int)) := by rw [← hwr]; exact hd
      have HWR := Lib.hid hwr
      clear hwr hc hd
      have hk0 : (0 : Int) ≤ (k : Int) := Int.natCast_nonneg _
      have hk1 : (k : Int) < (n : Int) := by omega
      go_quiet (fail)
      go_wp2_with fail
      go_roundw
      case rel => exact ⟨k + 1, _, by omega, by go_num, by rw [← HWR.out]; exact World.drewN_drewN _ _ _⟩
      case measure => simp [RowKit.intOf]; omega
    · obtain rfl : k = n := by omega
      go_wp2_with fail
      go_ret
      exact ⟨rfl, _, rfl⟩
/-- Block R holds n numbers z. -/
def Nm (R n : Nat) (z : Nat → Nat) (w : World) : Prop := ∃ cs, Bx 24 R cs w ∧ cs.size = n ∧ ∀ k, k < n → cs[k]? = some (.int .u64 ((z k : Nat) : Int))
section
variable {R n : Nat} {z y : Nat → Nat} {w w' : World}
theorem Nm.lt (h : Nm R n z w) : R < w.heap.size := by obtain ⟨cs, h1, _⟩ := h; exact h1.lt
theorem Nm.step (h : Nm R n z w) (hb : Below w.heap.size w w') : Nm R n z w' := by obtain ⟨cs, h1, h2⟩ := h; exact ⟨cs, h1.step hb, h2⟩
theorem Nm.turn {g : Nat} (h : Nm R n z w) (hb : Turn g w w') (hg : R ≠ g) : Nm R n z w' := by obtain ⟨cs, h1, h2⟩ := h; exact ⟨cs, h1.turn hb hg, h2⟩
theorem Nm.apart {T : TypeId} {g : Nat} {cs : Array Value} (h : Nm R n z w) (hg : Bx T g cs w) (hT : T ≠ 24) : R ≠ g := by obtain ⟨cs', h1, h2⟩ := h; exact h1.apart hg (Ne.symm hT)
theorem Nm.cell (h : Nm R n z w) {k : Nat} (hk : k < n) : w.cell? ⟨R, k, none⟩ = some (.int .u64 ((z k : Nat) : Int)) := by obtain ⟨cs, h1, _, h3⟩ := h; rw [h1.cell, h3 k hk]
theorem Nm.free (h : Nm R n z w) (k : Nat) : w.frozen? ⟨R, k, none⟩ = false := by obtain ⟨cs, h1, _⟩ := h; exact h1.free k
theorem Nm.set (h : Nm R n z w) (k x : Nat) (hy : ∀ j, j < n → y j = if j = k then x else z j) : Nm R n y (w.setCell ⟨R, k, none⟩ (.int .u64 (x : Int))) := by
  obtain ⟨cs, h1, h2, h3⟩ := h
  refine ⟨_, h1.put k _, by simpa using h2, fun j hj => ?_⟩
  rw [hy j hj, Array.getElem?_setIfInBounds]
  by_cases e : k = j
  · subst e; rw [if_pos rfl, if_pos (by omega), if_pos rfl]
  · rw [if_neg e, if_neg (fun h => e h.symm), h3 j hj]
theorem Nm.rd (h : Nm R n z w) : Rd w (some ⟨R, 0, none⟩) n z := fun _ => ⟨_, rfl, by obtain ⟨cs, h1, _, h3⟩ := h; exact Row.of_block h1 h3⟩
theorem Nm.congr (h : Nm R n z w) (hz : ∀ k, k < n → z k = y k) : Nm R n y w := by obtain ⟨cs, h1, h2, h3⟩ := h; exact ⟨cs, h1, h2, fun k hk => by rw [h3 k hk, hz k hk]⟩
theorem Nm.made (w : World) (n : Nat) : Nm w.heap.size n (fun _ => 0) (w.alloc (.cells (madeCells (Value.int .u64 0).cells (n * 1)) 24)) :=
  ⟨_, heap_alloc_new _ _, by rw [size_madeCells, Nat.mul_one], fun k hk => by simp [madeCells, hk, Value.cells, Nat.mod_one]⟩
end
/-- What draws below q alone are. -/
abbrev allq (q : Nat) : Nat → Nat := fun _ => q
theorem PAt.bx {lo hi B : Nat} {t : Tp} {w : World} (h : PAt lo hi w B t) : ∃ cs, Bx TB B cs w := let ⟨_, _, a, _⟩ := h.lies; ⟨_, a⟩
theorem QAt.bx {lo hi B : Nat} {t : Tp} {w : World} (h : QAt lo hi w B t) : ∃ cs, Bx QB B cs w := let ⟨_, _, a, _⟩ := h.lies; ⟨_, a⟩
set_option maxHeartbeats 2000000 in
theorem draws_any {lo hi B : Nat} {t : Tp} {W : World} (h : PAt lo hi W B t) (n q : Nat) (hn : n ≤ 1024) (hq : q < 18446744073709551616) (ht : t.n < 4000000000000000000) (hhi : hi ≤ W.heap.size) :
    Calls Try.prog 12 #[ptr B, .int .i64 (n : Int), .int .u64 (q : Int)] W fun e w' => ∃ R, e = .returned (.slice (some ⟨R, 0, none⟩) n n) ∧ W.heap.size ≤ R ∧ Nm R n (t.get (allq q)) w' ∧ PAt lo hi w' B (t.run (allq q) n) ∧ Turn B W w' := by
  have hrw := run_made n (by omega) W
  have hb1 := below_box W (.cells (madeCells (Value.int .u64 0).cells (n * 1)) 24)
  have hm1 := Nm.made W n
  generalize W.alloc (.cells (madeCells (Value.int .u64 0).cells (n * 1)) 24) = w1 at *
  obtain ⟨R, hR⟩ : ∃ R, W.heap.size = R := ⟨_, rfl⟩
  have HRW := Lib.hid hR
  have HP0 := Lib.hid (h.step hb1)
  have HT0 := Lib.hid (Turn.of (g := B) hb1)
  rw [hR] at hrw hm1 hhi ⊢
  have HN0 := Lib.hid hm1
  have n0 : ¬ (n : Int) < 0 := by omega
  have n1 : ¬ (1024 : Int) < (n : Int) := by omega
  have HQ := Lib.hid hq
  have HTN := Lib.hid ht
  have HHI := Lib.hid hhi
  clear h hb1 hq ht hR hm1 hhi
  go_enter Try.func12, Try.ntmps12
  go_upto_region 5 with fail
  clear hrw n0 n1
  go_loopw [8, 23] (fun _ s23 wx => ∃ k : Nat, k ≤ n ∧ s23 = .int .i64 (k : Int) ∧ Hid (PAt lo hi wx B (t.run (allq q) k)) ∧ Hid (∃ y, Nm R n y wx ∧ ∀ j, j < k → y j = t.get (allq q) j) ∧ Hid (Turn B W wx)) (fun _ s23 _ => n - (RowKit.intOf s23).toNat)
  case atStart => exact ⟨0, Nat.zero_le _, rfl, HP0, Lib.hid ⟨_, HN0.out, fun j hj => absurd hj (by omega)⟩, HT0⟩
  case round =>
    clear HN0 HP0 HT0
    obtain ⟨k, hk, rfl, HP, HY, HT⟩ := hrel
    rename_i wr
    by_cases hlt : k < n
    · have hk0 : (0 : Int) ≤ (k : Int) := Int.natCast_nonneg _
      have hk1 : (k : Int) < (n : Int) := by omega
      have HX := Lib.hid (next_any HP.out q HQ.out (by rw [Tp.run_n]; have := HTN.out; omega))
      obtain ⟨x, hx⟩ : ∃ x, (t.run (allq q) k).val q = x := ⟨_, rfl⟩
      rw [hx] at HX
      have HXX : Hid (x = t.get (allq q) k) := Lib.hid hx.symm
      clear hx
      have HW2 : Hid (∀ w2, Turn B wr w2 → ∃ y, Nm R n y w2 ∧ (∀ j, j < k → y j = t.get (allq q) j) ∧ w2.cell? ⟨R, k, none⟩ = some (.int .u64 ((y k : Nat) : Int)) ∧ w2.frozen? ⟨R, k, none⟩ = false) := Lib.hid fun w2 ht => by
        obtain ⟨y, h1, h2⟩ := HY.out
        obtain ⟨cs, hc⟩ := HP.out.bx
        have h3 := h1.turn ht (h1.apart hc tb_row)
        exact ⟨y, h3, h2, h3.cell hlt, h3.free k⟩
      go_wp2_with (go_at_call 11; (with_reducible refine (HX.out).mono ?_); rintro e w2 ⟨rfl, hp, ht⟩; obtain ⟨y, h1, h2, q0, q1⟩ := HW2.out w2 ht; have HP2 := Lib.hid hp; have HT2 := Lib.hid ht; have HY2 := Lib.hid (And.intro h1 h2); clear hp ht h1 h2)
      go_roundw
      case rel =>
        have hy := HY2.out
        have hs := hy.1.set (y := fun j => if j = k then x else y j) k x (fun _ _ => rfl)
        have hne : R ≠ B := by obtain ⟨cs, hc⟩ := HP2.out.bx; exact hy.1.apart hc tb_row
        have htt := (Turn.refl R w2).set k (.int .u64 (x : Int))
        refine ⟨k + 1, by omega, by go_num, Lib.hid (HP2.out.other htt (.inr HHI.out)), Lib.hid ⟨_, hs, fun j hj => ?_⟩, Lib.hid ((HT.out.trans HT2.out).setNew (Nat.le_of_eq HRW.out) k _)⟩
        by_cases e : j = k
        · rw [if_pos e, e, HXX.out]
        · rw [if_neg e]; exact hy.2 j (by omega)
      case measure => simp [RowKit.intOf]; omega
    · obtain rfl : k = n := by omega
      go_wp2_with fail
      go_ret
      obtain ⟨y, h1, h2⟩ := HY.out
      exact ⟨R, rfl, Nat.le_refl _, h1.congr h2, HP.out, HT.out⟩
theorem draws_few (B : Nat) (n : Int) (q : Nat) (W : World) (hn : n < 0 ∨ 1024 < n) :
    Calls Try.prog 12 #[ptr B, .int .i64 n, .int .u64 (q : Int)] W fun e w' => e = .returned (.slice none 0 0) ∧ w' = W := by
  rcases hn with h | h
  · go_enter Try.func12, Try.ntmps12
    go_wp2_with fail
    go_ret
    exact ⟨rfl, rfl⟩
  · have h0 : ¬ n < 0 := by omega
    go_enter Try.func12, Try.ntmps12
    go_wp2_with fail
    go_ret
    exact ⟨rfl, rfl⟩
theorem draws_none (n : Int) (q : Nat) (W : World) :
    Calls Try.prog 12 #[.pointer none, .int .i64 n, .int .u64 (q : Int)] W fun e w' => e = .returned (.slice none 0 0) ∧ w' = W := by
  go_enter Try.func12, Try.ntmps12
  go_wp2_with fail
  go_ret
  exact ⟨rfl, rfl⟩
/-- A row that grows outlives what turns a block of another kind. -/
theorem Own.turn {w0 w w' : World} {b k g : Nat} {v : Value} {z : Nat → Nat} {T : TypeId} {cs : Array Value} (h : Own w0 b v k z w) (ht : Turn g w w') (hg : Bx T g cs w) (hT : T ≠ 24) (hl : w0.heap.size ≤ g) : Own w0 b v k z w' := by
  refine ⟨h.own.kept (row := some g) ⟨ht.os, ht.tape, ht.output, ht.size, fun i hi hne => ht.block i hi (fun e => hne (by rw [e]))⟩ ?_, Nat.le_trans h.size ht.size, h.low, h.below.trans (ht.below hl h.below.size)⟩
  obtain ⟨_, ⟨rfl, _⟩ | ⟨g', cap, cur, rfl, _, h3, _⟩⟩ := h.own
  · exact .inl rfl
  · refine .inr fun e => ?_
    have e' : g' = g := Option.some.inj e
    exact Bx.apart h3 hg (Ne.symm hT) e'
/-- One number more behind a row of the call's own. -/
theorem Own.push {w0 w : World} {B k : Nat} {v : Value} {z : Nat → Nat} (h : Own w0 B v k z w) (c x : Nat) (hx : z k = x) (hk : k ≤ 900000) :
    ∃ v' w', (Builtin.append_ #[26, 26] 26 #[v, .slice (some ⟨w.heap.size, 0, none⟩) 1 c]).run Try.prog (w.alloc (.cells #[.int .u64 (x : Int)] 24)) = .ok v' w' ∧ Own w0 B v' (k + 1) z w' ∧ Below B w w' := by
  subst hx
  obtain ⟨i0, hi, hz0, hz1, hz2⟩ := info_parts info_u64
  have ha := h.alloc (.cells #[.int .u64 ((z k : Nat) : Int)] 24)
  obtain ⟨v', w', hr, ho, hg, _⟩ := run_append_own (P := Try.prog) _ B 26 26 24 i0 (.int .u64 0) 1 8 Try.underlying26 hi hz0 hz1 hz2 rfl (by decide) v k (zlist k z) ha.own ⟨w.heap.size, 0, none⟩ 1 c [.int .u64 ((z k : Nat) : Int)] rfl (fun j u hj => by
    have hl := (List.getElem?_eq_some_iff.1 hj).1
    obtain rfl : j = 0 := by simpa using hl
    cases hj
    rw [add_zero', cell_of_row _ _ _ _ _ _ (heap_alloc_new w _)]; rfl) (by simp [Value.oneCell']) (by unfold maxLen; omega) (by omega) ha.size
  refine ⟨v', w', hr, ha.grow ho (zlist_succ k z) hg, ((below_box w _).mono h.size).trans ⟨hg.os, hg.tape, hg.output, hg.size, fun j hj => hg.block j (by have := ha.size; omega) (fun e => ?_)⟩⟩
  have := (ha.own.lt j e.symm).1
  omega
end M
end Go.Proofs.Ytbappohnljlchaa
/- The walk of the document's Draws. -/
namespace Go.Proofs.Ytbappohnljlchaa
open Go Go.RowKit Go.Lib
namespace M
open MM
theorem RowAt.low {lo hi b : Nat} {w w' : World} {ao : Option Addr} {l : List Nat} (h : RowAt lo hi w ao l) (hb : Below b w w') (hi2 : hi ≤ b) : RowAt lo hi w' ao l := fun hn => let ⟨G, off, cs, a, b', c, d, e⟩ := h hn; ⟨G, off, cs, a, b', c, (hb.block G (by omega)).trans d, e⟩
theorem PAt.low {lo hi B b : Nat} {w w' : World} {t : Tp} (h : PAt lo hi w B t) (hb : Below b w w') (hi2 : hi ≤ b) : PAt lo hi w' B t := ⟨h.ok, h.box, let ⟨ao, c, a, b', d, e, f⟩ := h.lies; ⟨ao, c, (hb.block B (by have := h.box; omega)).trans a, b', d, e, f.low hb hi2⟩⟩
theorem QAt.low {lo hi B b : Nat} {w w' : World} {t : Tp} (h : QAt lo hi w B t) (hb : Below b w w') (hi2 : hi ≤ b) : QAt lo hi w' B t := ⟨h.ok, h.box, let ⟨ao, c, a, b', d, e, f⟩ := h.lies; ⟨ao, c, (hb.block B (by have := h.box; omega)).trans a, b', d, e, f.low hb hi2⟩⟩
theorem Turn.low {g : Nat} {W w w' : World} (h : Turn g W w) (hb : Below W.heap.size w w') : Turn g W w' :=
  ⟨hb.os.trans h.os, hb.tape.trans h.tape, hb.output.trans h.output, Nat.le_trans h.size hb.size, fun k hk hg => (hb.block k hk).trans (h.block k hk hg)⟩
set_option maxHeartbeats 2000000 in
theorem rdraws_any {lo hi B : Nat} {t : Tp} {W : World} (h : QAt lo hi W B t) (n q : Nat) (hn : n ≤ 1024) (hq : q < 18446744073709551616) (ht : t.n < 4000000000000000000) (hhi : hi ≤ W.heap.size) :
    Calls Try.prog 21 #[ptr B, .int .i64 (n : Int), .int .u64 (q : Int)] W fun e w' => ∃ ao c, e = .returned (.slice ao n c) ∧ Rd w' ao n (t.get (allq q)) ∧ QAt lo hi w' B (t.run (allq q) n) ∧ Turn B W w' := by
  have n1 : (n : Int) ≤ 1024 := by omega
  have HO0 : Hid (Own { W with heap := #[] } W.heap.size (.slice none 0 0) 0 (t.get (allq q)) W) := Lib.hid ⟨⟨by simp [zlist], .inl ⟨rfl, rfl⟩⟩, Nat.le_refl _, Nat.zero_le _, ⟨rfl, rfl, rfl, Nat.zero_le _, fun k hk => absurd hk (Nat.not_lt_zero _)⟩⟩
  have HP0 := Lib.hid h
  have HT0 := Lib.hid (Turn.refl B W)
  have HQ := Lib.hid hq
  have HTN := Lib.hid ht
  have HHI := Lib.hid hhi
  clear h hq ht hhi
  go_enter Try.func21, Try.ntmps21
  go_wp2_with fail
  go_loopw [7, 8] (fun s7 s8 wx => ∃ k : Nat, k ≤ n ∧ s8 = .int .i64 (k : Int) ∧ Hid (QAt lo hi wx B (t.run (allq q) k)) ∧ Hid (Own { W with heap := #[] } W.heap.size s7 k (t.get (allq q)) wx) ∧ Hid (Turn B W wx)) (fun _ s8 _ => n - (RowKit.intOf s8).toNat)
  case atStart => exact ⟨0, Nat.zero_le _, rfl, HP0, HO0, HT0⟩
  case round =>
    clear HO0 HP0 HT0
    obtain ⟨k, hk, rfl, HP, HO, HT⟩ := hrel
    rename_i wr
    by_cases hlt : k < n
    · have hk0 : (0 : Int) ≤ (k : Int) := Int.natCast_nonneg _
      have hk1 : (k : Int) < (n : Int) := by omega
      have HX := Lib.hid (rnext_any HP.out q HQ.out (by rw [Tp.run_n]; have := HTN.out; omega))
      obtain ⟨x, hx⟩ : ∃ x, (t.run (allq q) k).val q = x := ⟨_, rfl⟩
      rw [hx] at HX
      have HXX : Hid (t.get (allq q) k = x) := Lib.hid hx
      clear hx
      obtain ⟨ao, c, hv, _⟩ := HO.out.rd
      have HW2 : Hid (∀ w2, QAt lo hi w2 B ((t.run (allq q) k).next q) → Turn B wr w2 → ∃ v' w', (Builtin.append_ #[26, 26] 26 #[_, .slice (some ⟨w2.heap.size, 0, none⟩) 1 1]).run Try.prog (w2.alloc (.cells #[.int .u64 (x : Int)] 24)) = .ok v' w' ∧ Own { W with heap := #[] } W.heap.size v' (k + 1) (t.get (allq q)) w' ∧ Below W.heap.size w2 w') := Lib.hid fun w2 hp ht => by
        obtain ⟨cs, hc⟩ := HP.out.bx
        exact (HO.out.turn ht hc qb_row (Nat.zero_le _)).push 1 x HXX.out (by omega)
      subst hv
      go_upto_region 5 with fail
      go_wp2_with (first
        | (go_at_call 19; (with_reducible refine (HX.out).mono ?_); rintro e w2 ⟨rfl, hp, ht⟩; obtain ⟨v', w3, hr, h1, h2⟩ := HW2.out w2 hp ht; have HP2 := Lib.hid hp; have HT2 := Lib.hid ht; have HO2 := Lib.hid h1; have HB2 := Lib.hid h2; clear hp ht h1 h2)
        | (at_builtin; refine Lib.wpList_append_run _ rfl _ _ _ _ rfl _ _ rfl rfl _ _ hr ?_))
      go_roundw
      case rel => exact ⟨k + 1, by omega, by go_num, Lib.hid (HP2.out.low HB2.out HHI.out), HO2, Lib.hid ((HT.out.trans HT2.out).low HB2.out)⟩
      case measure => simp [RowKit.intOf]; omega
    · obtain rfl : k = n := by omega
      obtain ⟨ao, c, hv, _, _, hr⟩ := HO.out.rd
      subst hv
      have HR := Lib.hid hr
      clear hr
      go_wp2_with fail
      go_ret
      exact ⟨_, _, rfl, HR.out, HP.out, HT.out⟩
theorem rdraws_few (B : Nat) (n : Int) (q : Nat) (W : World) (hn : n < 0 ∨ 1024 < n) :
    Calls Try.prog 21 #[ptr B, .int .i64 n, .int .u64 (q : Int)] W fun e w' => e = .returned (.slice none 0 0) ∧ w' = W := by
  rcases hn with h | h
  · have h0 : ¬ 0 < n := by omega
    go_enter Try.func21, Try.ntmps21
    go_wp2_with fail
    refine wp_loop_rounds 1 ?_
    rw [rounds_succ]
    go_wp2_with fail
    go_ret
    exact ⟨rfl, rfl⟩
  · have h0 : 0 < n := by omega
    have h1 : ¬ n ≤ 1024 := by omega
    go_enter Try.func21, Try.ntmps21
    go_wp2_with fail
    refine wp_loop_rounds 1 ?_
    rw [rounds_succ]
    go_wp2_with fail
    go_ret
    exact ⟨rfl, rfl⟩
end M
end Go.Proofs.Ytbappohnljlchaa

/- The texts DskNil, DskNam1, DskNamesW, one behind the other. -/
import Derived.Test.YtdgaokmmjnedhaaDoorWB10
import Derived.Test.YtdgaokmmjnedhaaDoorWB11
/- What is asked of nil. -/
namespace Go.Proofs.YtdgaokmmjnedhaaDoor
open Go Go.RowKit Go.Lib Go.Deep
namespace M
open MM
set_option maxRecDepth 100000 in
theorem dead_is_nil (w : World) : Calls Tryd.prog 20 #[.pointer none] w fun e w' => e = .returned (.bool true) ∧ w' = w := by
  go_enter Tryd.func20, Tryd.ntmps20
  go_wp2_with fail
  go_ret
  exact ⟨rfl, rfl⟩
set_option maxRecDepth 100000 in
theorem fuse_nil (w : World) : Calls Tryd.prog 10 #[.pointer none, .int .i64 1] w fun e w' => e = .returned (.tuple #[]) ∧ Below w.heap.size w w' := by
  go_enter Tryd.func10, Tryd.ntmps10
  go_wp2_with fail
  first | go_ret | go_end0 | refine bodyPost_ret (results_none rfl _ _ _) rfl ?_
  exact ⟨rfl, by first | exact Below.refl _ _ | exact below_box _ _ | exact below_drewN _ _⟩
set_option maxRecDepth 100000 in
theorem crash_nil (w : World) : Calls Tryd.prog 11 #[.pointer none, .slice none 0 0, .int .i64 0] w fun e w' => e = .returned (.tuple #[]) ∧ Below w.heap.size w w' := by
  go_enter Tryd.func11, Tryd.ntmps11
  go_wp2_with fail
  first | go_ret | go_end0 | refine bodyPost_ret (results_none rfl _ _ _) rfl ?_
  exact ⟨rfl, by first | exact Below.refl _ _ | exact below_box _ _ | exact below_drewN _ _⟩
set_option maxRecDepth 100000 in
theorem start_nil (w : World) : Calls Tryd.prog 12 #[.pointer none] w fun e w' => e = .returned (.tuple #[]) ∧ Below w.heap.size w w' := by
  go_enter Tryd.func12, Tryd.ntmps12
  go_wp2_with fail
  first | go_ret | go_end0 | refine bodyPost_ret (results_none rfl _ _ _) rfl ?_
  exact ⟨rfl, by first | exact Below.refl _ _ | exact below_box _ _ | exact below_drewN _ _⟩
set_option maxRecDepth 100000 in
theorem write_nil (w : World) : Calls Tryd.prog 14 #[.pointer none, .int .i64 0, .string ⟨#[]⟩] w fun e w' => e = .returned (.int .i64 2) ∧ Below w.heap.size w w' := by
  go_enter Tryd.func14, Tryd.ntmps14
  go_wp2_with fail
  first | go_ret | go_end0 | refine bodyPost_ret (results_none rfl _ _ _) rfl ?_
  exact ⟨rfl, by first | exact Below.refl _ _ | exact below_box _ _ | exact below_drewN _ _⟩
set_option maxRecDepth 100000 in
theorem sync_nil (w : World) : Calls Tryd.prog 15 #[.pointer none] w fun e w' => e = .returned (.int .i64 2) ∧ Below w.heap.size w w' := by
  go_enter Tryd.func15, Tryd.ntmps15
  go_wp2_with fail
  first | go_ret | go_end0 | refine bodyPost_ret (results_none rfl _ _ _) rfl ?_
  exact ⟨rfl, by first | exact Below.refl _ _ | exact below_box _ _ | exact below_drewN _ _⟩
set_option maxRecDepth 100000 in
theorem platter_nil (w : World) : Calls Tryd.prog 17 #[.pointer none, .int .i64 0] w fun e w' => e = .returned (.string ⟨#[]⟩) ∧ Below w.heap.size w w' := by
  go_enter Tryd.func17, Tryd.ntmps17
  go_wp2_with fail
  first | go_ret | go_end0 | refine bodyPost_ret (results_none rfl _ _ _) rfl ?_
  exact ⟨rfl, by first | exact Below.refl _ _ | exact below_box _ _ | exact below_drewN _ _⟩
set_option maxRecDepth 100000 in
theorem waits_nil (w : World) : Calls Tryd.prog 18 #[.pointer none] w fun e w' => e = .returned (.int .i64 0) ∧ Below w.heap.size w w' := by
  go_enter Tryd.func18, Tryd.ntmps18
  go_wp2_with fail
  first | go_ret | go_end0 | refine bodyPost_ret (results_none rfl _ _ _) rfl ?_
  exact ⟨rfl, by first | exact Below.refl _ _ | exact below_box _ _ | exact below_drewN _ _⟩
set_option maxRecDepth 100000 in
theorem used_nil (w : World) : Calls Tryd.prog 19 #[.pointer none] w fun e w' => e = .returned (.slice none 0 0) ∧ Below w.heap.size w w' := by
  go_enter Tryd.func19, Tryd.ntmps19
  go_wp2_with fail
  first | go_ret | go_end0 | refine bodyPost_ret (results_none rfl _ _ _) rfl ?_
  exact ⟨rfl, by first | exact Below.refl _ _ | exact below_box _ _ | exact below_drewN _ _⟩
set_option maxRecDepth 100000 in
theorem dead_nil (w : World) : Calls Tryd.prog 20 #[.pointer none] w fun e w' => e = .returned (.bool true) ∧ Below w.heap.size w w' := by
  go_enter Tryd.func20, Tryd.ntmps20
  go_wp2_with fail
  first | go_ret | go_end0 | refine bodyPost_ret (results_none rfl _ _ _) rfl ?_
  exact ⟨rfl, by first | exact Below.refl _ _ | exact below_box _ _ | exact below_drewN _ _⟩
set_option maxRecDepth 100000 in
theorem copy_nil (w : World) : Calls Tryd.prog 21 #[.pointer none] w fun e w' => e = .returned (.pointer none) ∧ Below w.heap.size w w' := by
  go_enter Tryd.func21, Tryd.ntmps21
  go_wp2_with fail
  first | go_ret | go_end0 | refine bodyPost_ret (results_none rfl _ _ _) rfl ?_
  exact ⟨rfl, by first | exact Below.refl _ _ | exact below_box _ _ | exact below_drewN _ _⟩
set_option maxRecDepth 100000 in
theorem read_nil (w : World) : Calls Tryd.prog 16 #[.pointer none, .int .i64 0] w fun e w' => e = .returned (.string ⟨#[]⟩) ∧ Below w.heap.size w w' := by
  obtain ⟨g, hg⟩ : ∃ g, w.heap.size = g := ⟨_, rfl⟩
  have x1 := Box.new w 3 (.int .i64 0)
  have b1 := below_box w (.cells #[.int .i64 0] 3)
  have s1 : (w.alloc (.cells #[.int .i64 0] 3)).heap.size = g + 1 := by rw [World.size_alloc, hg]
  obtain ⟨W1, hW1⟩ : ∃ W1, w.alloc (.cells #[.int .i64 0] 3) = W1 := ⟨_, rfl⟩
  rw [hW1] at b1 s1
  have x2 := Box.new W1 9 (.string ⟨#[]⟩)
  have b2 := below_box W1 (.cells #[.string ⟨#[]⟩] 9)
  have s2 : (W1.alloc (.cells #[.string ⟨#[]⟩] 9)).heap.size = g + 1 + 1 := by rw [World.size_alloc, s1]
  rw [s1] at x2
  obtain ⟨W2, hW2⟩ : ∃ W2, W1.alloc (.cells #[.string ⟨#[]⟩] 9) = W2 := ⟨_, rfl⟩
  rw [hW2] at x2 b2 s2
  have b0 : Below w.heap.size w W2 := b1.trans (b2.mono b1.size)
  have c2 := x2.cell
  have f2 := x2.free
  have HB := Lib.hid (b0.setCell (p := ⟨g + 1, 0, none⟩) (by show _ ≤ g + 1; omega) (.string ⟨#[]⟩))
  have HX := Lib.hid (x2.set (.string ⟨#[]⟩))
  clear x1 b1 b2 b0 x2
  go_enter Tryd.func16, Tryd.ntmps16
  go_wp2_with (go_at_call 20; (with_reducible refine (dead_is_nil _).mono ?_); rintro e w' ⟨rfl, hw'⟩; replace hw' := hw'.symm; subst hw')
  have c3 := HX.out.cell
  generalize W2.setCell ⟨g + 1, 0, none⟩ (.string ⟨#[]⟩) = W3 at *
  refine bodyPost_ret (v := .string ⟨#[]⟩) (w := W3) (by simp [results, Tryd.results16, go_sem, c3]) rfl ⟨rfl, HB.out⟩
end M
end Go.Proofs.YtdgaokmmjnedhaaDoor
/- The row of errors and the limits, call by call. -/
namespace Go.Proofs.YtdgaokmmjnedhaaDoor
namespace MM
def pz : Int → By := fun _ => zero
def a1 : Dsk := ⟨pz, [], some 0, false⟩
def a2 : Dsk := ⟨pz, [], some 0, true⟩
def a3 : Dsk := ⟨pz, [], some 5, true⟩
def a6 : Dsk := ⟨pz, [(65535, full [108, 97, 115, 116])], none, false⟩
def p7 : Int → By := upd pz (65535, full [108, 97, 115, 116])
def a7 : Dsk := ⟨p7, [], none, false⟩
def a8 : Dsk := ⟨p7, [(65535, full [])], none, false⟩
def p9 : Int → By := upd p7 (65535, full [])
def a9 : Dsk := ⟨p9, [], none, false⟩
def ws : List By := [[97, 97, 97, 97], [98, 98, 98, 98], [99, 99], [100, 100, 100, 100]]
def bs (i : Nat) : Dsk := { a9 with c := (ws.take i).map fun t => (7, full t) }
theorem a1_long : a1.write 0 (zr 513) = (10, a1) := by
  unfold Dsk.write
  rw [if_neg (by decide), if_neg (by decide), if_pos (by rw [zr_len]; decide)]
theorem p9_zero (k : Int) : p9 k = zero := by
  unfold p9 p7
  by_cases h : k = 65535
  · subst h; rfl
  · rw [upd_other _ _ h, upd_other _ _ h]; rfl
theorem used3 : UsedIs a3 [] := ⟨by simp [Asc], fun k => by simp [a3, pz]⟩
theorem used8 : UsedIs a8 [65535] := ⟨by simp [Asc], fun k => by
  constructor
  · intro h
    obtain rfl : k = 65535 := by simpa using h
    exact .inr ⟨_, List.mem_singleton.2 rfl, rfl⟩
  · rintro (h | ⟨x, hx, rfl⟩)
    · by_cases e : k = 65535
      · subst e; simp
      · exact absurd (show p7 k = zero by unfold p7; rw [upd_other _ _ e]; rfl) h
    · obtain rfl : x = (65535, full []) := by simpa [a8] using hx
      simp⟩
theorem used9 : UsedIs a9 [] := ⟨by simp [Asc], fun k => by
  constructor
  · intro h; cases h
  · rintro (h | ⟨x, hx, rfl⟩)
    · exact absurd (p9_zero k) h
    · cases hx⟩
theorem bs_write {i : Nat} {t : By} (h : ws[i]? = some t) : (bs i).write 7 t = (0, bs (i + 1)) := by
  match i, h with
  | 0, h => obtain rfl : [97, 97, 97, 97] = t := by simpa [ws] using h
            rfl
  | 1, h => obtain rfl : [98, 98, 98, 98] = t := by simpa [ws] using h
            rfl
  | 2, h => obtain rfl : [99, 99] = t := by simpa [ws] using h
            rfl
  | 3, h => obtain rfl : [100, 100, 100, 100] = t := by simpa [ws] using h
            rfl
  | i + 4, h => simp [ws] at h
def c1 : Dsk := (bs 4).crash [true, false, true] 2
def c2 : Dsk := (bs 4).crash [true] 2
theorem c1_plat : c1.platter 7 = 99 :: 99 :: zr 510 := by kernel_rfl
theorem c2_plat : c2.platter 7 = 98 :: 98 :: 97 :: 97 :: zr 508 := by kernel_rfl
def e1 : Dsk := ⟨pz, [(1, full [120])], none, false⟩
def e2 : Dsk := e1.crash [] 999
def f2 : Dsk := e1.crash [] (-3)
theorem e2_plat : e2.platter 1 = 120 :: zr 511 := by kernel_rfl
theorem f2_plat : f2.platter 1 = zr 512 := by kernel_rfl
end MM
open Go Go.RowKit Go.Lib Go.Deep
namespace M
open MM
section
variable {W w : World} {R : World → Prop} {B : Nat}
theorem na1 (h : Ds W [(B, 0, a1)] R w) : Calls Tryd.prog 14 #[ptr B, .int .i64 (-1), .string ⟨#[]⟩] w fun e w' => e = .returned (.int .i64 1) ∧ Ds W [(B, 1, a1)] R w' := Ds.write h (i := 0) rfl (by decide) (-1) []
theorem na2 (h : Ds W [(B, 1, a1)] R w) : Calls Tryd.prog 14 #[ptr B, .int .i64 0, .string ⟨(zr 513).toArray⟩] w fun e w' => e = .returned (.int .i64 10) ∧ Ds W [(B, 2, a1)] R w' := by
  have := Ds.write h (i := 0) rfl (by decide) 0 (zr 513)
  rw [a1_long] at this
  exact this
theorem na3 (h : Ds W [(B, 2, a1)] R w) : Calls Tryd.prog 14 #[ptr B, .int .i64 0, .string ⟨#[97]⟩] w fun e w' => e = .returned (.int .i64 42) ∧ Ds W [(B, 3, a2)] R w' := Ds.write h (i := 0) rfl (by decide) 0 [97]
theorem na4 (h : Ds W [(B, 3, a2)] R w) : Calls Tryd.prog 14 #[ptr B, .int .i64 (-1), .string ⟨#[]⟩] w fun e w' => e = .returned (.int .i64 42) ∧ Ds W [(B, 4, a2)] R w' := Ds.write h (i := 0) rfl (by decide) (-1) []
theorem na0 (h : Ds W [(B, 0, Dsk.new)] R w) : Calls Tryd.prog 10 #[ptr B, .int .i64 0] w fun e w' => e = .returned (.tuple #[]) ∧ Ds W [(B, 0, a1)] R w' := Ds.fuse h (i := 0) rfl 0 (by decide)
theorem nd1 (h : Ds W [(B, 2, a1)] R w) : Calls Tryd.prog 20 #[ptr B] w fun e w' => e = .returned (.bool false) ∧ Ds W [(B, 2, a1)] R w' := Ds.dead2 h (i := 0) rfl
theorem nd2 (h : Ds W [(B, 3, a2)] R w) : Calls Tryd.prog 20 #[ptr B] w fun e w' => e = .returned (.bool true) ∧ Ds W [(B, 3, a2)] R w' := Ds.dead2 h (i := 0) rfl
theorem ns1 (h : Ds W [(B, 4, a2)] R w) : Calls Tryd.prog 15 #[ptr B] w fun e w' => e = .returned (.int .i64 42) ∧ Ds W [(B, 4, a2)] R w' := Ds.sync h (i := 0) rfl (by decide)
theorem nf1 (h : Ds W [(B, 4, a2)] R w) : Calls Tryd.prog 10 #[ptr B, .int .i64 5] w fun e w' => e = .returned (.tuple #[]) ∧ Ds W [(B, 4, a3)] R w' := Ds.fuse h (i := 0) rfl 5 (by decide)
theorem nd3 (h : Ds W [(B, 4, a3)] R w) : Calls Tryd.prog 20 #[ptr B] w fun e w' => e = .returned (.bool true) ∧ Ds W [(B, 4, a3)] R w' := Ds.dead2 h (i := 0) rfl
theorem np1 (h : Ds W [(B, 4, a3)] R w) : Calls Tryd.prog 17 #[ptr B, .int .i64 0] w fun e w' => e = .returned (.string ⟨(zr 512).toArray⟩) ∧ Ds W [(B, 4, a3)] R w' := (Ds.platter h (i := 0) rfl 0).mono fun _ _ ⟨h1, h2⟩ => ⟨h1.trans rfl, h.step h2⟩
theorem np2 (h : Ds W [(B, 4, a3)] R w) : Calls Tryd.prog 17 #[ptr B, .int .i64 (-1)] w fun e w' => e = .returned (.string ⟨#[]⟩) ∧ Ds W [(B, 4, a3)] R w' := (Ds.platter h (i := 0) rfl (-1)).mono fun _ _ ⟨h1, h2⟩ => ⟨h1.trans rfl, h.step h2⟩
theorem np3 (h : Ds W [(B, 4, a3)] R w) : Calls Tryd.prog 17 #[ptr B, .int .i64 65536] w fun e w' => e = .returned (.string ⟨#[]⟩) ∧ Ds W [(B, 4, a3)] R w' := (Ds.platter h (i := 0) rfl 65536).mono fun _ _ ⟨h1, h2⟩ => ⟨h1.trans rfl, h.step h2⟩
theorem nu3 (h : Ds W [(B, 4, a3)] R w) : Calls Tryd.prog 19 #[ptr B] w fun e w' => (∃ ao c, e = .returned (.slice ao 0 c)) ∧ Ds W [(B, 4, a3)] R w' := (Ds.used h (i := 0) rfl).mono fun _ _ ⟨_, _, h1, h2, h3, h4⟩ => ⟨by obtain ⟨ao, c, hv, _⟩ := h3; rw [h2.one used3] at hv; exact ⟨ao, c, h1.trans (by rw [hv]; rfl)⟩, h.step h4⟩
theorem nb1 (h : Ds W [(B, 4, a3)] R w) : Calls Tryd.prog 12 #[ptr B] w fun e w' => e = .returned (.tuple #[]) ∧ Ds W [(B, 4, Dsk.new)] R w' := Ds.boot h (i := 0) rfl
theorem nf2 (h : Ds W [(B, 4, Dsk.new)] R w) : Calls Tryd.prog 10 #[ptr B, .int .i64 0] w fun e w' => e = .returned (.tuple #[]) ∧ Ds W [(B, 4, a1)] R w' := Ds.fuse h (i := 0) rfl 0 (by decide)
theorem nf3 (h : Ds W [(B, 4, a1)] R w) : Calls Tryd.prog 10 #[ptr B, .int .i64 (-1)] w fun e w' => e = .returned (.tuple #[]) ∧ Ds W [(B, 4, Dsk.new)] R w' := Ds.fuse h (i := 0) rfl (-1) (by decide)
theorem nw5 (h : Ds W [(B, 4, Dsk.new)] R w) : Calls Tryd.prog 14 #[ptr B, .int .i64 65535, .string ⟨#[108, 97, 115, 116]⟩] w fun e w' => e = .returned (.int .i64 0) ∧ Ds W [(B, 5, a6)] R w' := Ds.write h (i := 0) rfl (by decide) 65535 [108, 97, 115, 116]
theorem nr6 (h : Ds W [(B, 5, a6)] R w) : Calls Tryd.prog 16 #[ptr B, .int .i64 65535] w fun e w' => e = .returned (.string ⟨(108 :: 97 :: 115 :: 116 :: zr 508).toArray⟩) ∧ Ds W [(B, 5, a6)] R w' := (Ds.read h (i := 0) rfl 65535).mono fun _ _ ⟨h1, h2⟩ => ⟨h1.trans rfl, h.step h2⟩
theorem nr7 (h : Ds W [(B, 5, a6)] R w) : Calls Tryd.prog 16 #[ptr B, .int .i64 65536] w fun e w' => e = .returned (.string ⟨#[]⟩) ∧ Ds W [(B, 5, a6)] R w' := (Ds.read h (i := 0) rfl 65536).mono fun _ _ ⟨h1, h2⟩ => ⟨h1.trans rfl, h.step h2⟩
theorem nr8 (h : Ds W [(B, 5, a6)] R w) : Calls Tryd.prog 16 #[ptr B, .int .i64 (-1)] w fun e w' => e = .returned (.string ⟨#[]⟩) ∧ Ds W [(B, 5, a6)] R w' := (Ds.read h (i := 0) rfl (-1)).mono fun _ _ ⟨h1, h2⟩ => ⟨h1.trans rfl, h.step h2⟩
theorem ns6 (h : Ds W [(B, 5, a6)] R w) : Calls Tryd.prog 15 #[ptr B] w fun e w' => e = .returned (.int .i64 0) ∧ Ds W [(B, 5, a7)] R w' := Ds.sync h (i := 0) rfl (by decide)
theorem nw7 (h : Ds W [(B, 5, a7)] R w) : Calls Tryd.prog 14 #[ptr B, .int .i64 65535, .string ⟨#[]⟩] w fun e w' => e = .returned (.int .i64 0) ∧ Ds W [(B, 6, a8)] R w' := Ds.write h (i := 0) rfl (by decide) 65535 []
theorem nu8 (h : Ds W [(B, 6, a8)] R w) : Calls Tryd.prog 19 #[ptr B] w fun e w' => (∃ ao c, e = .returned (.slice ao 1 c)) ∧ Ds W [(B, 6, a8)] R w' := (Ds.used h (i := 0) rfl).mono fun _ _ ⟨_, _, h1, h2, h3, h4⟩ => ⟨by obtain ⟨ao, c, hv, _⟩ := h3; rw [h2.one used8] at hv; exact ⟨ao, c, h1.trans (by rw [hv]; rfl)⟩, h.step h4⟩
theorem ns8 (h : Ds W [(B, 6, a8)] R w) : Calls Tryd.prog 15 #[ptr B] w fun e w' => e = .returned (.int .i64 0) ∧ Ds W [(B, 6, a9)] R w' := Ds.sync h (i := 0) rfl (by decide)
theorem nu9 (h : Ds W [(B, 6, a9)] R w) : Calls Tryd.prog 19 #[ptr B] w fun e w' => (∃ ao c, e = .returned (.slice ao 0 c)) ∧ Ds W [(B, 6, a9)] R w' := (Ds.used h (i := 0) rfl).mono fun _ _ ⟨_, _, h1, h2, h3, h4⟩ => ⟨by obtain ⟨ao, c, hv, _⟩ := h3; rw [h2.one used9] at hv; exact ⟨ao, c, h1.trans (by rw [hv]; rfl)⟩, h.step h4⟩
end
end M
end Go.Proofs.YtdgaokmmjnedhaaDoor
/- The walk of DiskNames. -/
namespace Go.Proofs.YtdgaokmmjnedhaaDoor
open Go Go.RowKit Go.Lib Go.Deep
namespace M
open MM
theorem OwnE.lit (w : World) (e : TypeId) (l : List Value) (hl : l.length ≤ 1000) : OwnE w e (.slice (some ⟨w.heap.size, 0, none⟩) l.length l.length) l (w.alloc (.cells l.toArray e)) :=
  ⟨⟨by simp, .inr ⟨w.heap.size, l.length, l.toArray, rfl, Nat.le_refl _, heap_alloc_new w _, Nat.le_refl _, by unfold maxLen; omega, by simp, by simp⟩⟩, below_box w _⟩
theorem bools_of {u : World} {ao : Option Addr} {n c : Nat} {l : List Bool} (h : ValsAt u (.slice ao n c) (l.map .bool)) : BoolsAt u ao l := fun i b hi => by
  obtain ⟨ao2, c2, hv, h1⟩ := h
  injection hv with h2 _ _
  subst h2
  exact h1 i _ (by simp [hi])
section
variable {W w : World} {B B1 B2 B3 : Nat}
abbrev T0 : World → Prop := fun _ => True
theorem nc1 (h : Ds W [(B, 10, bs 4), (B1, 10, bs 4)] T0 w) : Calls Tryd.prog 11 #[ptr B, .slice (some ⟨w.heap.size, 0, none⟩) 3 3, .int .i64 2] (w.alloc (.cells #[.bool true, .bool false, .bool true] 4)) fun e w' => e = .returned (.tuple #[]) ∧ Ds W [(B, 10, c1), (B1, 10, bs 4)] T0 w' :=
  (Ds.crash (h.row (OwnE.lit w 4 [.bool true, .bool false, .bool true] (by simp))) (i := 0) rfl (by decide) [true, false, true] _ _ 2 fun _ _ hr => bools_of hr.2).mono fun _ _ ⟨h1, h2⟩ => ⟨h1, Ds.weaken h2 fun _ _ => trivial⟩
theorem nc2 (h : Ds W [(B, 10, c1), (B1, 10, bs 4)] T0 w) : Calls Tryd.prog 11 #[ptr B1, .slice (some ⟨w.heap.size, 0, none⟩) 1 1, .int .i64 2] (w.alloc (.cells #[.bool true] 4)) fun e w' => e = .returned (.tuple #[]) ∧ Ds W [(B, 10, c1), (B1, 10, c2)] T0 w' :=
  (Ds.crash (h.row (OwnE.lit w 4 [.bool true] (by simp))) (i := 1) rfl (by decide) [true] _ _ 2 fun _ _ hr => bools_of hr.2).mono fun _ _ ⟨h1, h2⟩ => ⟨h1, Ds.weaken h2 fun _ _ => trivial⟩
theorem nq1 (h : Ds W [(B, 10, c1), (B1, 10, c2)] T0 w) : Calls Tryd.prog 17 #[ptr B, .int .i64 7] w fun e w' => e = .returned (.string ⟨(99 :: 99 :: zr 510).toArray⟩) ∧ Ds W [(B, 10, c1), (B1, 10, c2)] T0 w' := (Ds.platter h (i := 0) rfl 7).mono fun _ _ ⟨h1, h2⟩ => ⟨h1.trans (by rw [c1_plat]), h.step h2⟩
theorem nq2 (h : Ds W [(B, 10, c1), (B1, 10, c2)] T0 w) : Calls Tryd.prog 17 #[ptr B1, .int .i64 7] w fun e w' => e = .returned (.string ⟨(98 :: 98 :: 97 :: 97 :: zr 508).toArray⟩) ∧ Ds W [(B, 10, c1), (B1, 10, c2)] T0 w' := (Ds.platter h (i := 1) rfl 7).mono fun _ _ ⟨h1, h2⟩ => ⟨h1.trans (by rw [c2_plat]), h.step h2⟩
theorem nq3 (h : Ds W [(B, 10, c1), (B1, 10, c2)] T0 w) : Calls Tryd.prog 18 #[ptr B] w fun e w' => e = .returned (.int .i64 0) ∧ Ds W [(B, 10, c1), (B1, 10, c2)] T0 w' := Ds.waits2 h (i := 0) rfl
theorem nx0 (h : Ds W [(B, 10, c1), (B1, 10, c2)] T0 w) : Calls Tryd.prog 22 #[] w fun e w' => ∃ B2, e = .returned (ptr B2) ∧ Ds W [(B, 10, c1), (B1, 10, c2), (B2, 0, Dsk.new)] T0 w' := Ds.new h
theorem nx1 (h : Ds W [(B, 10, c1), (B1, 10, c2), (B2, 0, Dsk.new)] T0 w) : Calls Tryd.prog 14 #[ptr B2, .int .i64 1, .string ⟨#[120]⟩] w fun e w' => e = .returned (.int .i64 0) ∧ Ds W [(B, 10, c1), (B1, 10, c2), (B2, 1, e1)] T0 w' := Ds.write h (i := 2) rfl (by decide) 1 [120]
theorem nx2 (h : Ds W [(B, 10, c1), (B1, 10, c2), (B2, 1, e1)] T0 w) : Calls Tryd.prog 11 #[ptr B2, .slice none 0 0, .int .i64 999] w fun e w' => e = .returned (.tuple #[]) ∧ Ds W [(B, 10, c1), (B1, 10, c2), (B2, 1, e2)] T0 w' := Ds.crash h (i := 2) rfl (by decide) [] none 0 999 fun _ _ _ => fun _ _ hi => by simp at hi
theorem ny0 (h : Ds W [(B, 10, c1), (B1, 10, c2), (B2, 1, e2)] T0 w) : Calls Tryd.prog 22 #[] w fun e w' => ∃ B3, e = .returned (ptr B3) ∧ Ds W [(B, 10, c1), (B1, 10, c2), (B2, 1, e2), (B3, 0, Dsk.new)] T0 w' := Ds.new h
theorem ny1 (h : Ds W [(B, 10, c1), (B1, 10, c2), (B2, 1, e2), (B3, 0, Dsk.new)] T0 w) : Calls Tryd.prog 14 #[ptr B3, .int .i64 1, .string ⟨#[120]⟩] w fun e w' => e = .returned (.int .i64 0) ∧ Ds W [(B, 10, c1), (B1, 10, c2), (B2, 1, e2), (B3, 1, e1)] T0 w' := Ds.write h (i := 3) rfl (by decide) 1 [120]
theorem ny2 (h : Ds W [(B, 10, c1), (B1, 10, c2), (B2, 1, e2), (B3, 1, e1)] T0 w) : Calls Tryd.prog 11 #[ptr B3, .slice none 0 0, .int .i64 (-3)] w fun e w' => e = .returned (.tuple #[]) ∧ Ds W [(B, 10, c1), (B1, 10, c2), (B2, 1, e2), (B3, 1, f2)] T0 w' := Ds.crash h (i := 3) rfl (by decide) [] none 0 (-3) fun _ _ _ => fun _ _ hi => by simp at hi
theorem nz1 (h : Ds W [(B, 10, c1), (B1, 10, c2), (B2, 1, e2), (B3, 1, f2)] T0 w) : Calls Tryd.prog 17 #[ptr B2, .int .i64 1] w fun e w' => e = .returned (.string ⟨(120 :: zr 511).toArray⟩) ∧ Ds W [(B, 10, c1), (B1, 10, c2), (B2, 1, e2), (B3, 1, f2)] T0 w' := (Ds.platter h (i := 2) rfl 1).mono fun _ _ ⟨h1, h2⟩ => ⟨h1.trans (by rw [e2_plat]), h.step h2⟩
theorem nz2 (h : Ds W [(B, 10, c1), (B1, 10, c2), (B2, 1, e2), (B3, 1, f2)] T0 w) : Calls Tryd.prog 17 #[ptr B3, .int .i64 1] w fun e w' => e = .returned (.string ⟨(zr 512).toArray⟩) ∧ Ds W [(B, 10, c1), (B1, 10, c2), (B2, 1, e2), (B3, 1, f2)] T0 w' := (Ds.platter h (i := 3) rfl 1).mono fun _ _ ⟨h1, h2⟩ => ⟨h1.trans (by rw [f2_plat]), h.step h2⟩
theorem nz3 (h : Ds W [(B, 10, c1), (B1, 10, c2), (B2, 1, e2), (B3, 1, f2)] T0 w) : Calls Tryd.prog 16 #[ptr B2, .int .i64 1] w fun e w' => e = .returned (.string ⟨#[]⟩) ∧ Ds W [(B, 10, c1), (B1, 10, c2), (B2, 1, e2), (B3, 1, f2)] T0 w' := (Ds.read h (i := 2) rfl 1).mono fun _ _ ⟨h1, h2⟩ => ⟨h1.trans rfl, h.step h2⟩
end
set_option maxRecDepth 100000 in
set_option maxHeartbeats 16000000 in
theorem walkDiskNames (W : World) : Calls Tryd.prog 3 #[] W fun e w' => e = .returned (.bool true) ∧ Below W.heap.size W w' := by
  have HB := Lib.hid (Below.refl W.heap.size W)
  have z508 : RetB 23 #[.int .i64 508] (.string ⟨(zr 508).toArray⟩) := zr_any 508 (by decide)
  have z510 : RetB 23 #[.int .i64 510] (.string ⟨(zr 510).toArray⟩) := zr_any 510 (by decide)
  have z511 : RetB 23 #[.int .i64 511] (.string ⟨(zr 511).toArray⟩) := zr_any 511 (by decide)
  have z512 : RetB 23 #[.int .i64 512] (.string ⟨(zr 512).toArray⟩) := zr_any 512 (by decide)
  have z513 : RetB 23 #[.int .i64 513] (.string ⟨(zr 513).toArray⟩) := zr_any 513 (by decide)
  have l508 : (zr 508).length = 508 := zr_len _
  have l510 : (zr 510).length = 510 := zr_len _
  have l511 : (zr 511).length = 511 := zr_len _
  have cat510 : (⟨#[99, 99]⟩ : ByteArray) ++ ⟨(zr 510).toArray⟩ = ⟨(99 :: 99 :: zr 510).toArray⟩ := by rw [ByteArray.mk_append_mk]; simp
  have cat508 : (⟨#[98, 98, 97, 97]⟩ : ByteArray) ++ ⟨(zr 508).toArray⟩ = ⟨(98 :: 98 :: 97 :: 97 :: zr 508).toArray⟩ := by rw [ByteArray.mk_append_mk]; simp
  have cat511 : (⟨#[120]⟩ : ByteArray) ++ ⟨(zr 511).toArray⟩ = ⟨(120 :: zr 511).toArray⟩ := by rw [ByteArray.mk_append_mk]; simp
  have hx4 : (⟨(108 :: 97 :: 115 :: 116 :: zr 508).toArray⟩ : ByteArray).extract 0 4 = ⟨#[108, 97, 115, 116]⟩ := by rw [ByteArray.extract_mk]; simp
  go_enter Tryd.func3, Tryd.ntmps3
  go_upto_region 7 with (first
    | (go_at_call 10; (with_reducible refine (fuse_nil _).mono ?_); rintro e w1 ⟨rfl, h⟩; replace HB := Lib.hid (bnext HB.out h); clear h)
    | (go_at_call 11; (with_reducible refine (crash_nil _).mono ?_); rintro e w1 ⟨rfl, h⟩; replace HB := Lib.hid (bnext HB.out h); clear h)
    | (go_at_call 12; (with_reducible refine (start_nil _).mono ?_); rintro e w1 ⟨rfl, h⟩; replace HB := Lib.hid (bnext HB.out h); clear h)
    | (go_at_call 13; (with_reducible refine (works_any _).mono ?_); rintro e w1 ⟨rfl, h⟩; replace HB := Lib.hid (bnext HB.out h); clear h)
    | (go_at_call 14; (with_reducible refine (write_nil _).mono ?_); rintro e w1 ⟨rfl, h⟩; replace HB := Lib.hid (bnext HB.out h); clear h)
    | (go_at_call 15; (with_reducible refine (sync_nil _).mono ?_); rintro e w1 ⟨rfl, h⟩; replace HB := Lib.hid (bnext HB.out h); clear h)
    | (go_at_call 16; (with_reducible refine (read_nil _).mono ?_); rintro e w1 ⟨rfl, h⟩; replace HB := Lib.hid (bnext HB.out h); clear h)
    | (go_at_call 17; (with_reducible refine (platter_nil _).mono ?_); rintro e w1 ⟨rfl, h⟩; replace HB := Lib.hid (bnext HB.out h); clear h)
    | (go_at_call 18; (with_reducible refine (waits_nil _).mono ?_); rintro e w1 ⟨rfl, h⟩; replace HB := Lib.hid (bnext HB.out h); clear h)
    | (go_at_call 19; (with_reducible refine (used_nil _).mono ?_); rintro e w1 ⟨rfl, h⟩; replace HB := Lib.hid (bnext HB.out h); clear h)
    | (go_at_call 20; (with_reducible refine (dead_nil _).mono ?_); rintro e w1 ⟨rfl, h⟩; replace HB := Lib.hid (bnext HB.out h); clear h)
    | (go_at_call 21; (with_reducible refine (copy_nil _).mono ?_); rintro e w1 ⟨rfl, h⟩; replace HB := Lib.hid (bnext HB.out h); clear h))
  go_upto_region 11 with (first
    | (go_at_call 22; (with_reducible refine (Ds.new (Ds.start W HB.out)).mono ?_); rintro e w1 ⟨B, rfl, h⟩; have HD : Hid (Ds W [(B, 0, Dsk.new)] T0 w1) := Lib.hid h; clear h)
    | (go_at_call 10; (with_reducible refine (na0 HD.out).mono ?_); rintro e w1 ⟨rfl, h⟩; replace HD := Lib.hid h; clear h)
    | (go_at_call 14; (with_reducible refine (na1 HD.out).mono ?_); rintro e w1 ⟨rfl, h⟩; replace HD := Lib.hid h; clear h)
    | (go_at_call 14; (with_reducible refine (na2 HD.out).mono ?_); rintro e w1 ⟨rfl, h⟩; replace HD := Lib.hid h; clear h)
    | (go_at_call 14; (with_reducible refine (na3 HD.out).mono ?_); rintro e w1 ⟨rfl, h⟩; replace HD := Lib.hid h; clear h)
    | (go_at_call 14; (with_reducible refine (na4 HD.out).mono ?_); rintro e w1 ⟨rfl, h⟩; replace HD := Lib.hid h; clear h)
    | (go_at_call 20; (with_reducible refine (nd1 HD.out).mono ?_); rintro e w1 ⟨rfl, h⟩; replace HD := Lib.hid h; clear h)
    | (go_at_call 20; (with_reducible refine (nd2 HD.out).mono ?_); rintro e w1 ⟨rfl, h⟩; replace HD := Lib.hid h; clear h)
    | (go_at_call 15; (with_reducible refine (ns1 HD.out).mono ?_); rintro e w1 ⟨rfl, h⟩; replace HD := Lib.hid h; clear h)
    | (go_at_call 23; (with_reducible refine (z513.at _).mono ?_); rintro e w1 ⟨rfl, h⟩; replace HD := Lib.hid (HD.out.step h); clear h))
  go_upto_region 14 with (first
    | (go_at_call 10; (with_reducible refine (nf1 HD.out).mono ?_); rintro e w1 ⟨rfl, h⟩; replace HD := Lib.hid h; clear h)
    | (go_at_call 20; (with_reducible refine (nd3 HD.out).mono ?_); rintro e w1 ⟨rfl, h⟩; replace HD := Lib.hid h; clear h)
    | (go_at_call 17; (with_reducible refine (np1 HD.out).mono ?_); rintro e w1 ⟨rfl, h⟩; replace HD := Lib.hid h; clear h)
    | (go_at_call 17; (with_reducible refine (np2 HD.out).mono ?_); rintro e w1 ⟨rfl, h⟩; replace HD := Lib.hid h; clear h)
    | (go_at_call 17; (with_reducible refine (np3 HD.out).mono ?_); rintro e w1 ⟨rfl, h⟩; replace HD := Lib.hid h; clear h)
    | (go_at_call 19; (with_reducible refine (nu3 HD.out).mono ?_); rintro e w1 ⟨⟨ao, cc, rfl⟩, h⟩; replace HD := Lib.hid h; clear h)
    | (go_at_call 23; (with_reducible refine (z512.at _).mono ?_); rintro e w1 ⟨rfl, h⟩; replace HD := Lib.hid (HD.out.step h); clear h))
  go_upto_region 19 with (first
    | (go_at_call 12; (with_reducible refine (nb1 HD.out).mono ?_); rintro e w1 ⟨rfl, h⟩; replace HD := Lib.hid h; clear h)
    | (go_at_call 10; (with_reducible refine (nf2 HD.out).mono ?_); rintro e w1 ⟨rfl, h⟩; replace HD := Lib.hid h; clear h)
    | (go_at_call 10; (with_reducible refine (nf3 HD.out).mono ?_); rintro e w1 ⟨rfl, h⟩; replace HD := Lib.hid h; clear h)
    | (go_at_call 14; (with_reducible refine (nw5 HD.out).mono ?_); rintro e w1 ⟨rfl, h⟩; replace HD := Lib.hid h; clear h)
    | (go_at_call 16; (with_reducible refine (nr6 HD.out).mono ?_); rintro e w1 ⟨rfl, h⟩; replace HD := Lib.hid h; clear h)
    | (go_at_call 16; (with_reducible refine (nr7 HD.out).mono ?_); rintro e w1 ⟨rfl, h⟩; replace HD := Lib.hid h; clear h)
    | (go_at_call 16; (with_reducible refine (nr8 HD.out).mono ?_); rintro e w1 ⟨rfl, h⟩; replace HD := Lib.hid h; clear h)
    | (go_at_call 15; (with_reducible refine (ns6 HD.out).mono ?_); rintro e w1 ⟨rfl, h⟩; replace HD := Lib.hid h; clear h)
    | (go_at_call 14; (with_reducible refine (nw7 HD.out).mono ?_); rintro e w1 ⟨rfl, h⟩; replace HD := Lib.hid h; clear h)
    | (go_at_call 19; (with_reducible refine (nu8 HD.out).mono ?_); rintro e w1 ⟨⟨ao, cc, rfl⟩, h⟩; replace HD := Lib.hid h; clear h)
    | (go_at_call 15; (with_reducible refine (ns8 HD.out).mono ?_); rintro e w1 ⟨rfl, h⟩; replace HD := Lib.hid h; clear h)
    | (go_at_call 19; (with_reducible refine (nu9 HD.out).mono ?_); rintro e w1 ⟨⟨ao, cc, rfl⟩, h⟩; replace HD := Lib.hid h; clear h))
  have HR1 : Hid (Ds W [(B, 6, bs 0)] (fun u => T0 u ∧ ValsAt u (.slice (some ⟨w1.heap.size, 0, none⟩) 4 4) (strs ws)) (w1.alloc (.cells #[.string ⟨#[97, 97, 97, 97]⟩, .string ⟨#[98, 98, 98, 98]⟩, .string ⟨#[99, 99]⟩, .string ⟨#[100, 100, 100, 100]⟩] 9))) := Lib.hid (HD.out.row (OwnE.lit w1 9 (strs ws) (by simp [strs, ws])))
  clear HD
  go_wp2_with fail
  generalize w1.alloc (.cells #[.string ⟨#[97, 97, 97, 97]⟩, .string ⟨#[98, 98, 98, 98]⟩, .string ⟨#[99, 99]⟩, .string ⟨#[100, 100, 100, 100]⟩] 9) = wA at *
  generalize (⟨w1.heap.size, 0, none⟩ : Addr) = sad at *
  go_loopw [184] (fun s184 wx => ∃ i : Nat, i ≤ 4 ∧ s184 = .int .i64 (i : Int) ∧ Hid (Ds W [(B, 6 + i, bs i)] (fun u => T0 u ∧ ValsAt u (.slice (some sad) 4 4) (strs ws)) wx)) (fun s184 _ => 4 - (RowKit.intOf s184).toNat)
  case atStart => exact ⟨0, Nat.zero_le _, rfl, HR1⟩
  case round =>
    obtain ⟨i, hi, rfl, HD⟩ := hrel
    by_cases hlt : i < 4
    · obtain ⟨t, ht⟩ : ∃ t, ws[i]? = some t := ⟨_, List.getElem?_eq_getElem hlt⟩
      have hcell : wr.cell? (sad.add i) = some (.string ⟨t.toArray⟩) := ValsAt.cell HD.out.rest.2 (strs_get ht)
      have HW : Hid (Calls Tryd.prog 14 #[ptr B, .int .i64 7, .string ⟨t.toArray⟩] wr fun e w' => e = .returned (.int .i64 0) ∧ Ds W [(B, 6 + (i + 1), bs (i + 1))] (fun u => T0 u ∧ ValsAt u (.slice (some sad) 4 4) (strs ws)) w') := Lib.hid (by
        have h := Ds.write HD.out (i := 0) rfl (by omega) 7 t
        rw [bs_write ht] at h
        exact h)
      have hi4 : (i : Int) < 4 := by omega
      clear ht
      generalize wr = w0 at *
      go_wp2_with (go_at_call 14; (with_reducible refine HW.out.mono ?_); rintro e w2 ⟨rfl, h⟩; have HD2 := Lib.hid h; clear h)
      go_roundw
      case rel => exact ⟨i + 1, by omega, by go_num, HD2⟩
      case measure => simp [RowKit.intOf]; omega
    · obtain rfl : i = 4 := by omega
      replace HD : Hid (Ds W [(B, 10, bs 4)] T0 wr) := Lib.hid (Ds.weaken HD.out fun _ _ => trivial)
      generalize wr = w0 at *
      go_upto_region 28 with (first
        | (go_at_call 21; (with_reducible refine (Ds.copy HD.out (i := 0) rfl).mono ?_); rintro e w1 ⟨B1, rfl, h⟩; replace HD : Hid (Ds W [(B, 10, bs 4), (B1, 10, bs 4)] T0 w1) := Lib.hid h; clear h)
        | (go_at_call 11; (with_reducible refine (nc1 HD.out).mono ?_); rintro e w1 ⟨rfl, h⟩; replace HD := Lib.hid h; clear h)
        | (go_at_call 11; (with_reducible refine (nc2 HD.out).mono ?_); rintro e w1 ⟨rfl, h⟩; replace HD := Lib.hid h; clear h))
      go_upto_region 30 with (first
        | (go_at_call 17; (with_reducible refine (nq1 HD.out).mono ?_); rintro e w1 ⟨rfl, h⟩; replace HD := Lib.hid h; clear h)
        | (go_at_call 17; (with_reducible refine (nq2 HD.out).mono ?_); rintro e w1 ⟨rfl, h⟩; replace HD := Lib.hid h; clear h)
        | (go_at_call 18; (with_reducible refine (nq3 HD.out).mono ?_); rintro e w1 ⟨rfl, h⟩; replace HD := Lib.hid h; clear h)
        | (go_at_call 23; (with_reducible refine (z510.at _).mono ?_); rintro e w1 ⟨rfl, h⟩; replace HD := Lib.hid (HD.out.step h); clear h)
        | (go_at_call 23; (with_reducible refine (z508.at _).mono ?_); rintro e w1 ⟨rfl, h⟩; replace HD := Lib.hid (HD.out.step h); clear h))
      go_wp2_with (first
        | (go_at_call 22; (with_reducible refine (nx0 HD.out).mono ?_); rintro e w1 ⟨B2, rfl, h⟩; replace HD := Lib.hid h; clear h)
        | (go_at_call 14; (with_reducible refine (nx1 HD.out).mono ?_); rintro e w1 ⟨rfl, h⟩; replace HD := Lib.hid h; clear h)
        | (go_at_call 11; (with_reducible refine (nx2 HD.out).mono ?_); rintro e w1 ⟨rfl, h⟩; replace HD := Lib.hid h; clear h)
        | (go_at_call 22; (with_reducible refine (ny0 HD.out).mono ?_); rintro e w1 ⟨B3, rfl, h⟩; replace HD := Lib.hid h; clear h)
        | (go_at_call 14; (with_reducible refine (ny1 HD.out).mono ?_); rintro e w1 ⟨rfl, h⟩; replace HD := Lib.hid h; clear h)
        | (go_at_call 11; (with_reducible refine (ny2 HD.out).mono ?_); rintro e w1 ⟨rfl, h⟩; replace HD := Lib.hid h; clear h)
        | (go_at_call 17; (with_reducible refine (nz1 HD.out).mono ?_); rintro e w1 ⟨rfl, h⟩; replace HD := Lib.hid h; clear h)
        | (go_at_call 17; (with_reducible refine (nz2 HD.out).mono ?_); rintro e w1 ⟨rfl, h⟩; replace HD := Lib.hid h; clear h)
        | (go_at_call 16; (with_reducible refine (nz3 HD.out).mono ?_); rintro e w1 ⟨rfl, h⟩; replace HD := Lib.hid h; clear h)
        | (go_at_call 23; (with_reducible refine (z511.at _).mono ?_); rintro e w1 ⟨rfl, h⟩; replace HD := Lib.hid (HD.out.step h); clear h)
        | (go_at_call 23; (with_reducible refine (z512.at _).mono ?_); rintro e w1 ⟨rfl, h⟩; replace HD := Lib.hid (HD.out.step h); clear h))
      go_ret
      exact ⟨rfl, HD.out.below⟩
end M
end Go.Proofs.YtdgaokmmjnedhaaDoor

/- The texts DskRd, DskStep, DskUse, DskCopy, one behind the other. -/
import Derived.Test.YtoacmingocmaaaaDoorWB6
import Derived.Test.YtoacmingocmaaaaDoorWB5
import Derived.Test.YtoacmingocmaaaaDoorWB2
import Derived.Sort.OwnSortedInts
import Derived.Lib.SlKeysI
import Derived.Lib.SlicesCompact
import Derived.Lib.AppendZeros
import Derived.Test.YtoacmingocmaaaaDoorWB3
/- The walk of reading a sector. -/
namespace Go.Proofs.YtoacmingocmaaaaDoor
open Go Go.RowKit Go.Lib Go.Shelf
namespace M
open MM
attribute [local go_sem] Oper.semAt_some
theorem Box.as {W W' : World} {B : Nat} {t : TypeId} {v : Value} (h : Box W B t v) (hb : CellsAs W W') : Box W' B t v := hb _ _ _ _ h
theorem clone_any (t : By) (ht : t.length ≤ 1000000) (W : World) : Calls Tryd.prog 55 #[.string ⟨t.toArray⟩] W fun e w' => e = .returned (.string ⟨t.toArray⟩) ∧ Below W.heap.size W w' := by
  have hC := fun W => Tryd.stringslite_Clone ⟨t.toArray⟩ W (by rw [Lib.size_eq]; show t.length ≤ _; omega)
  go_enter Tryd.func55, Tryd.ntmps55
  go_wp2_with (go_at_call 77; (with_reducible refine (hC _).mono ?_); rintro e w' ⟨rfl, hb⟩)
  go_ret
  exact ⟨rfl, hb⟩
theorem read_alive {s : Dsk} (hs : s.Wf) (hd : s.dead = false) (k : Int) : (∀ t, lastOf s.c k = some t → s.read k = t ∧ t.length = 512) ∧ (lastOf s.c k = none → s.read k = s.platter k) := by
  unfold Dsk.read Dsk.platter
  rw [hd]
  refine ⟨fun t ht => ?_, fun ht => ?_⟩
  · obtain ⟨h1, h2⟩ := hs.c _ (lastOf_some ht)
    simp only at h1 h2
    simp [h1, ht, h2]
  · simp [ht]
section
variable {w : World} {F : Nat → Prop} {B N : Nat} {s : Dsk}
set_option maxRecDepth 100000 in
set_option maxHeartbeats 8000000 in
theorem read_any (h : Dk w F B N s) (k : Int) : Calls Tryd.prog 31 #[ptr B, .int .i64 k] w fun e w' => e = .returned (.string ⟨(s.read k).toArray⟩) ∧ Below w.heap.size w w' := by
  refine (callsIn_wide (n := 4)).1 ?_
  obtain ⟨g, hg⟩ : ∃ g, w.heap.size = g := ⟨_, rfl⟩
  have x1 := Box.new w 3 (.int .i64 k)
  have b1 := below_box w (.cells #[.int .i64 k] 3)
  have s1 : (w.alloc (.cells #[.int .i64 k] 3)).heap.size = g + 1 := by rw [World.size_alloc, hg]
  rw [hg] at x1
  obtain ⟨W1, hW1⟩ : ∃ W1, w.alloc (.cells #[.int .i64 k] 3) = W1 := ⟨_, rfl⟩
  rw [hW1] at x1 b1 s1
  have x2 := Box.new W1 9 (.string ⟨#[]⟩)
  have b2 := below_box W1 (.cells #[.string ⟨#[]⟩] 9)
  have s2 : (W1.alloc (.cells #[.string ⟨#[]⟩] 9)).heap.size = g + 1 + 1 := by rw [World.size_alloc, s1]
  rw [s1] at x2
  obtain ⟨W2, hW2⟩ : ∃ W2, W1.alloc (.cells #[.string ⟨#[]⟩] 9) = W2 := ⟨_, rfl⟩
  rw [hW2] at x2 b2 s2
  have y1 := x1.below b2
  have b0 : Below w.heap.size w W2 := b1.trans (b2.mono b1.size)
  have HD2 := Lib.hid (h.step b0)
  have HDE := Lib.hid (dead_any HD2.out)
  have c2 := x2.cell
  have f2 := x2.free
  obtain ⟨m, v, fu, le, n, hl⟩ := h.lies
  have cv := (box_cells ((b0.block B (h.old B h.FB)).trans hl.box)).2.1
  rw [hg] at b0
  have hl4 : 1 ≤ 4 := by omega
  by_cases hd : s.dead = true
  · rw [hd] at HDE
    have hr : s.read k = [] := by unfold Dsk.read; rw [if_pos hd]
    rw [hr]
    have HB := Lib.hid (b0.setCell (p := ⟨g + 1, 0, none⟩) (by show g ≤ g + 1; omega) (.string ⟨#[]⟩))
    have HX := Lib.hid (x2.set (.string ⟨#[]⟩))
    clear x1 b1 b2 y1 b0 x2 hl cv hr
    refine callsIn_wide.2 ?_
    go_enter Tryd.func31, Tryd.ntmps31
    go_wp2_with (go_at_call 30; (with_reducible refine HDE.out.mono ?_); rintro e w' ⟨rfl, hw'⟩; replace hw' := hw'.symm; subst hw')
    have c3 := HX.out.cell
    generalize W2.setCell ⟨g + 1, 0, none⟩ (.string ⟨#[]⟩) = W3 at *
    refine bodyPost_ret (v := .string ⟨#[]⟩) (w := W3) (by simp [results, Tryd.results31, go_sem, c3]) rfl ⟨rfl, by first | exact HB.out | (rw [hg]; exact HB.out)⟩
  have hd' : s.dead = false := by simpa using hd
  rw [hd'] at HDE
  obtain ⟨hhit, hmiss⟩ := read_alive h.wf hd' k
  obtain ⟨R, hR⟩ : ∃ R, s.read k = R := ⟨_, rfl⟩
  rw [hR] at hhit hmiss ⊢
  have HCW := Lib.hid h.wf.c
  have hfew := hl.few
  have hN := h.N
  obtain ⟨co, L, cap, rfl, hLL, hcap⟩ : ∃ co L cap, v = .slice co L cap ∧ s.c.length = L ∧ L ≤ cap := by
    rcases hl.cache.rd with ⟨rfl, hn⟩ | ⟨g', cap, hv, hc, _⟩
    · exact ⟨none, 0, 0, rfl, by rw [hn]; rfl, Nat.le_refl _⟩
    · exact ⟨_, _, cap, hv, rfl, hc⟩
  have HDW : Hid (∀ X, Below g w X → Dk X F B N s) := Lib.hid fun X hX => h.step (hg ▸ hX)
  have HB2 := Lib.hid b0
  have HX2 := Lib.hid x2
  have HY1 := Lib.hid y1
  have HCA : Hid (∀ X, Below g w X → CacheAt X (.slice co L cap) s.c) := Lib.hid fun X hX => hl.cache.of fun g' hg' => hX.block g' (by have := h.old g' (hl.vF g' hg'); omega)
  have hgw := Lib.hid hg
  clear hd hl h x1 b1 b2 hR
  refine callsIn_of_wp_marks Tryd.func31 rfl trivial ?_ rfl
  simp only [Tryd.ntmps31, List.size_toArray, List.length_cons, List.length_nil, Nat.reduceAdd, Nat.reduceSub, Array.replicate_succ, Array.replicate_zero, List.push_toArray, List.append_toArray, List.nil_append, List.cons_append]
  gi_upto_region 3 with (refine ⟨trivial, ?_⟩; gi_at_call 30; refine (callsIn_wide.2 HDE.out).mono ?_; rintro e w' ⟨rfl, hw'⟩; replace hw' := hw'.symm; subst hw')
  gi_wp2_with (refine ⟨trivial, ?_⟩; gi_at_call 54; refine (callsIn_wide.2 (backward_any (.slice co L cap) _ ⟨_, _, _, rfl⟩)).mono ?_; rintro e w4 ⟨rfl, hw4⟩; have HW4 := Lib.hid hw4; clear hw4)
  have b3 := below_box W2 (.cells #[.slice co L cap] 80)
  have x3 := Box.new W2 80 (.slice co L cap)
  have s3 : (W2.alloc (.cells #[.slice co L cap] 80)).heap.size = g + 1 + 1 + 1 := by rw [World.size_alloc, s2]
  rw [HW4.out] at b3 x3 s3
  rw [s2] at x3
  have b04 : Below g w w4 := HB2.out.trans (b3.mono (by omega))
  have k2 := HX2.out.below b3
  have k1 := HY1.out.below b3

  clear x2 y1 b0 c2 f2 cv HW4 b3 HDE
  obtain ⟨I, hI⟩ : ∃ I : Nat → World → Prop, I = fun j X => Below g w X ∧ Box X g 3 (.int .i64 k) ∧ Box X (g + 1) 9 (.string ⟨#[]⟩) ∧ Box X (g + 1 + 1) 80 (.slice co L cap) ∧ ∀ (i : Nat) (y : Int × By), L - j ≤ i → s.c[i]? = some y → y.1 ≠ k := ⟨_, rfl⟩
  obtain ⟨Ix, hIx⟩ : ∃ Ix : World → Prop, Ix = fun X => Below g w X ∧ Box X (g + 1) 9 (.string ⟨R.toArray⟩) := ⟨_, rfl⟩
  refine RL.range (gf := 76) (lb := #[.pointer (some ⟨g + 1 + 1, 0, none⟩)]) (g + 1 + 1 + 1) L I Ix (fun j args _ => ∃ x, s.c[L - 1 - j]? = some x ∧ args = #[.int .i64 ((L - 1 - j : Nat) : Int), wv x.1 x.2]) rfl (enters_of Tryd.func76 (by kernel_rfl) rfl) (Nat.le_of_eq s3.symm) ?hS ?hSx (fun _ _ _ _ h _ => h) ?h0 ?hseq ?hround ?hend ?hstop
  case hS =>
    intro j X Y h hb hc
    rw [hI] at h ⊢
    obtain ⟨h1, h2, h3, h4, h5⟩ := h
    exact ⟨h1.trans (hb.mono (by omega)), h2.as hc, h3.as hc, h4.as hc, h5⟩
  case hSx =>
    intro X Y h hb hc
    rw [hIx] at h ⊢
    exact ⟨h.1.trans (hb.mono (by omega)), h.2.as hc⟩
  case h0 =>
    rw [hI]
    refine ⟨b04, k1, k2, x3, fun i y hi hy => ?_⟩
    have := (List.getElem?_eq_some_iff.1 hy).1
    omega
  case hseq =>
    exact back_seq (4 - 1) (g + 1 + 1) co L cap s.c hLL (by omega) hcap (fun j X => I j X ∧ g + 1 + 1 + 1 ≤ X.heap.size) (fun j X h => by rw [hI] at h; exact ⟨h.1.2.2.2.1, HCA.out X h.1.1⟩)
  case hround =>
    rintro l j args X hj hIX ⟨x, hx, rfl⟩ hBl hBX
    have HXI := Lib.hid hx
    obtain ⟨_, hx5⟩ := HCW.out x (List.mem_of_getElem? hx)
    obtain ⟨xk, xt⟩ := x
    simp only at hx5
    have q1 := below_box X (.cells #[.int .i64 xk, .string ⟨xt.toArray⟩] 86)
    have n1 := heap_alloc_new X (.cells #[.int .i64 xk, .string ⟨xt.toArray⟩] 86)
    obtain ⟨h, hh⟩ : ∃ h, X.heap.size = h := ⟨_, rfl⟩
    apply Exists.intro
    refine ⟨X.alloc (.cells #[.int .i64 xk, .string ⟨xt.toArray⟩] 86), q1, rfl, fun K hK => ?_, fun X1 hc hI1 _ hB1 => ?_⟩
    · gi_wp2
      exact hK
    · have d0 : (X.alloc (.cells #[.int .i64 xk, .string ⟨xt.toArray⟩] 86)).cell? ⟨X.heap.size, 0, none⟩ = some (.int .i64 xk) := (cell_of_row _ _ 0 _ _ _ n1).trans rfl
      have d1 : (X.alloc (.cells #[.int .i64 xk, .string ⟨xt.toArray⟩] 86)).cell? ⟨X.heap.size, 1, none⟩ = some (.string ⟨xt.toArray⟩) := (cell_of_row _ _ 1 _ _ _ n1).trans rfl
      have v0 := hc.cell d0
      have v1 := hc.cell d1
      rw [hI] at hI1
      obtain ⟨i1, i2, i3, i4, i5⟩ := hI1
      have ck := i2.cell
      simp only [hh] at v0 v1 ⊢
      have hl2 : 1 ≤ 4 - 1 - 1 := by omega
      clear d0 d1 n1 q1 hc hIX
      by_cases he : xk = k
      · have hlast := lastOf_hit HXI.out (show ((xk, xt) : Int × By).1 = k from he) (fun i' y h1 h2 => i5 i' y (by omega) h2)
        have hRx := (hhit _ hlast).1
        have HCL := Lib.hid (clone_any xt (by omega) X1)
        have HI3 := Lib.hid (And.intro i1 i3)
        have HRX := Lib.hid hRx
        clear i1 i3 i4 i5 hlast hRx
        gi_wp2_with (refine ⟨trivial, ?_⟩; gi_at_call 55; refine ((callsIn_wide.2 HCL.out).inRound _).mono ?_; rintro E X2 ⟨rfl, hb2⟩; have HB2 := Lib.hid hb2; have r3 := (HI3.out.2.below hb2).cell; have r4 := (HI3.out.2.below hb2).free; clear hb2)
        have h3 := HI3.out.2.below HB2.out
        refine ⟨⟨?_, by rw [World.size_setCell]; exact Nat.le_trans hB1 HB2.out.size⟩, (RL.Objs.of_below HB2.out).trans (RL.Objs.setCell h3.cell _)⟩
        rw [hIx, HRX.out]
        exact ⟨(HI3.out.1.trans (HB2.out.mono (by omega))).setCell (p := ⟨g + 1, 0, none⟩) (by show g ≤ g + 1; omega) _, h3.set _⟩
      · have HIJ : Hid (I (j + 1) X1) := Lib.hid (by
          rw [hI]
          refine ⟨i1, i2, i3, i4, fun i' y h1 h2 => ?_⟩
          by_cases e : i' = L - 1 - j
          · subst e
            rw [HXI.out] at h2
            cases h2
            exact he
          · exact i5 i' y (by omega) h2)
        clear i1 i3 i4 i5 hI hIx
        gi_wp2
        exact ⟨⟨HIJ.out, hB1⟩, RL.Objs.refl _⟩
  case hend =>
    intro Y D hIY hD hBD hBY
    rw [hI] at hIY
    obtain ⟨i1, i2, i3, i4, i5⟩ := hIY
    have hlast : lastOf s.c k = none := lastOf_miss fun i' y h => i5 i' y (by omega) h
    have hRP := hmiss hlast
    have HPL := platter_any (HDW.out Y i1) k
    rw [← hRP] at HPL
    have HPL := Lib.hid HPL
    have ck := i2.cell
    have HI3 := Lib.hid (And.intro i1 i3)
    have HD := Lib.hid hD
    clear i1 i3 i4 i5 hlast hRP hhit hmiss hI hIx
    gi_wp2_with (refine ⟨trivial, ?_⟩; gi_at_call 19; refine (callsIn_wide.2 HPL.out).mono ?_; rintro E X2 ⟨rfl, hb2⟩; have HB2 := Lib.hid hb2; have r3 := (HI3.out.2.below hb2).cell; have r4 := (HI3.out.2.below hb2).free; clear hb2)
    have h3 := HI3.out.2.below HB2.out
    have HFIN := Lib.hid (And.intro ((HI3.out.1.trans (HB2.out.mono (by omega))).setCell (p := ⟨g + 1, 0, none⟩) (by show g ≤ g + 1; omega) (.string ⟨R.toArray⟩)) (h3.set (.string ⟨R.toArray⟩)))
    have HMK : Hid (Marks [D] (X2.setCell ⟨g + 1, 0, none⟩ (.string ⟨R.toArray⟩))) := Lib.hid ⟨by simp, fun E hE => by
      have e : E = D := by simpa using hE
      rw [e]; exact RL.Objs.setCell r3 _ _ _ rfl ((HB2.out.block D (row_lt HD.out)).trans HD.out)⟩
    clear h3
    refine leaves_marks (B := g) [D] _ HMK.out (fun E hE => by
      have e : E = D := by simpa using hE
      omega) fun w' hb' hcs => ?_
    have hcell := hcs _ _ _ _ HFIN.out.2
    have hc := Box.cell hcell
    refine ⟨.string ⟨R.toArray⟩, by simp [results, Tryd.results31, go_sem, hc], rfl, ?_⟩
    rw [hgw.out]
    exact HFIN.out.1.trans hb'
  case hstop =>
    intro Y D hIY hD hBD hBY
    rw [hIx] at hIY
    obtain ⟨i1, i3⟩ := hIY
    have HFIN := Lib.hid (And.intro i1 i3)
    have hmk : Marks [D] Y := ⟨by simp, fun E hE => by
      have e : E = D := by simpa using hE
      rw [e]; exact hD⟩
    have HMK := Lib.hid hmk
    clear i1 i3 hmk hI hIx
    gi_wp2
    refine leaves_marks (B := g) [D] _ HMK.out (fun E hE => by
      have e : E = D := by simpa using hE
      omega) fun w' hb' hcs => ?_
    have hcell := hcs _ _ _ _ HFIN.out.2
    have hc := Box.cell hcell
    refine ⟨.string ⟨R.toArray⟩, by simp [results, Tryd.results31, go_sem, hc], rfl, ?_⟩
    rw [hgw.out]
    exact HFIN.out.1.trans hb'
end
end M
end Go.Proofs.YtoacmingocmaaaaDoor
/- One step of a statement, done to a disk of the program's. -/
namespace Go.Proofs.YtoacmingocmaaaaDoor
open Go Go.RowKit Go.Lib
namespace M
open MM
section
variable {w : World} {F : Nat → Prop} {B N : Nat} {s : Dsk}
theorem Did.after {w1 w' : World} {M : Nat} {s' : Dsk} (hb : Below w.heap.size w w1) (h : Did w1 F B M s' w') : Did w F B M s' w' := by
  obtain ⟨F', h1, h2, h3⟩ := h
  exact ⟨F', h1, fun k hk => (h2 k hk).imp id fun h => Nat.le_trans hb.size h, (Chg.of_below F hb).trans h3 fun _ h => .inl h⟩
theorem Did.up {w' : World} {M M' : Nat} {s' : Dsk} (h : Did w F B M s' w') (hM : M ≤ M') (hM' : M' ≤ 1000000) : Did w F B M' s' w' := by
  obtain ⟨F', h1, h2, h3⟩ := h
  exact ⟨F', h1.up hM hM', h2, h3⟩
theorem Did.of {w' : World} {M : Nat} {s' : Dsk} (h : Dk w' F B M s') (hc : Chg F w w') : Did w F B M s' w' := ⟨F, h, fun _ h => .inl h, hc⟩
set_option maxRecDepth 100000 in
set_option maxHeartbeats 4000000 in
theorem do_0 (h : Dk w F B N s) (hN : N + 1 ≤ 1000000) (a n : Int) (t : List UInt8) (ko : Option Addr) (kl kc : Nat) :
    Calls Tryd.prog 28 #[.agg #[.int .u8 0, .int .i64 a, .string ⟨t.toArray⟩, .int .i64 n, .slice ko kl kc], ptr B] w fun e w' => e = .returned (.int .i64 ((s.write a t).1 : Int)) ∧ Did w F B (N + 1) (s.write a t).2 w' := by
  have hbA := below_box w (.cells #[.int .u8 0, .int .i64 a, .string ⟨t.toArray⟩, .int .i64 n, .slice ko kl kc] 54)
  have HW := Lib.hid (write_any (h.step hbA) hN a t)
  have HB := Lib.hid hbA
  clear hbA h
  go_enter Tryd.func28, Tryd.ntmps28
  go_wp2_with (go_at_call 43; (with_reducible refine HW.out.mono ?_); rintro e w' ⟨rfl, hd⟩; have HD := Lib.hid hd; clear hd)
  go_ret
  exact ⟨rfl, HD.out.after HB.out⟩
set_option maxRecDepth 100000 in
set_option maxHeartbeats 4000000 in
theorem do_1 (h : Dk w F B N s) (hN : 2 * N ≤ 1000000) (a n : Int) (t : List UInt8) (ko : Option Addr) (kl kc : Nat) :
    Calls Tryd.prog 28 #[.agg #[.int .u8 1, .int .i64 a, .string ⟨t.toArray⟩, .int .i64 n, .slice ko kl kc], ptr B] w fun e w' => e = .returned (.int .i64 (s.sync.1 : Int)) ∧ Did w F B N s.sync.2 w' := by
  have hbA := below_box w (.cells #[.int .u8 1, .int .i64 a, .string ⟨t.toArray⟩, .int .i64 n, .slice ko kl kc] 54)
  have HW := Lib.hid (sync_any (h.step hbA) hN)
  have HB := Lib.hid hbA
  clear hbA h
  go_enter Tryd.func28, Tryd.ntmps28
  go_wp2_with (go_at_call 24; (with_reducible refine HW.out.mono ?_); rintro e w' ⟨rfl, hd⟩; have HD := Lib.hid hd; clear hd)
  go_ret
  exact ⟨rfl, HD.out.after HB.out⟩
set_option maxRecDepth 100000 in
set_option maxHeartbeats 4000000 in
theorem do_2 (h : Dk w F B N s) (a n : Int) (hn : n ≤ 9223372036854775807) (t : List UInt8) (ko : Option Addr) (kl kc : Nat) :
    Calls Tryd.prog 28 #[.agg #[.int .u8 2, .int .i64 a, .string ⟨t.toArray⟩, .int .i64 n, .slice ko kl kc], ptr B] w fun e w' => e = .returned (.int .i64 0) ∧ Did w F B N (s.setFuse n) w' := by
  have hbA := below_box w (.cells #[.int .u8 2, .int .i64 a, .string ⟨t.toArray⟩, .int .i64 n, .slice ko kl kc] 54)
  have HW := Lib.hid (fuse_any (h.step hbA) n hn)
  have HB := Lib.hid hbA
  clear hbA h
  go_enter Tryd.func28, Tryd.ntmps28
  go_wp2_with (go_at_call 17; (with_reducible refine HW.out.mono ?_); rintro e w' ⟨rfl, hd, hc⟩; have HD := Lib.hid (Did.of hd hc); clear hd hc)
  go_ret
  exact ⟨rfl, HD.out.after HB.out⟩
set_option maxRecDepth 100000 in
set_option maxHeartbeats 4000000 in
theorem do_3 (h : Dk w F B N s) (hN : 2 * N ≤ 1000000) (a n : Int) (t : List UInt8) (ko : Option Addr) (kc : Nat) (keep : List Bool) (hkeep : ∀ u, Chg F w u → BoolsAt u ko keep) :
    Calls Tryd.prog 28 #[.agg #[.int .u8 3, .int .i64 a, .string ⟨t.toArray⟩, .int .i64 n, .slice ko keep.length kc], ptr B] w fun e w' => e = .returned (.int .i64 0) ∧ Did w F B N (s.crash keep n) w' := by
  have hbA := below_box w (.cells #[.int .u8 3, .int .i64 a, .string ⟨t.toArray⟩, .int .i64 n, .slice ko keep.length kc] 54)
  have HW := Lib.hid (crash_any (h.step hbA) hN keep ko kc n fun u hu => hkeep u ((Chg.of_below F hbA).trans hu fun _ h => .inl h))
  have HB := Lib.hid hbA
  clear hbA h hkeep
  generalize s.crash keep n = s' at *
  generalize keep.length = kl at *
  go_enter Tryd.func28, Tryd.ntmps28
  go_wp2_with (go_at_call 23; (with_reducible refine HW.out.mono ?_); rintro e w' ⟨rfl, hd⟩; have HD := Lib.hid hd; clear hd)
  go_ret
  exact ⟨rfl, HD.out.after HB.out⟩
set_option maxRecDepth 100000 in
set_option maxHeartbeats 4000000 in
theorem do_4 (h : Dk w F B N s) (k : Nat) (hk : 4 ≤ k) (a n : Int) (t : List UInt8) (ko : Option Addr) (kl kc : Nat) :
    Calls Tryd.prog 28 #[.agg #[.int .u8 (k : Int), .int .i64 a, .string ⟨t.toArray⟩, .int .i64 n, .slice ko kl kc], ptr B] w fun e w' => e = .returned (.int .i64 0) ∧ Did w F B N s.start w' := by
  have hbA := below_box w (.cells #[.int .u8 (k : Int), .int .i64 a, .string ⟨t.toArray⟩, .int .i64 n, .slice ko kl kc] 54)
  have HW := Lib.hid (start_any (h.step hbA))
  have HB := Lib.hid hbA
  have h0 : ¬ (k : Int) = 0 := by omega
  have h1 : ¬ (k : Int) = 1 := by omega
  have h2 : ¬ (k : Int) = 2 := by omega
  have h3 : ¬ (k : Int) = 3 := by omega
  have g0 : ¬ k = 0 := by omega
  have g1 : ¬ k = 1 := by omega
  have g2 : ¬ k = 2 := by omega
  have g3 : ¬ k = 3 := by omega
  clear hbA h
  go_enter Tryd.func28, Tryd.ntmps28
  go_wp2_with (go_at_call 18; (with_reducible refine HW.out.mono ?_); rintro e w' ⟨rfl, hd, hc⟩; have HD := Lib.hid (Did.of hd hc); clear hd hc)
  go_ret
  exact ⟨rfl, HD.out.after HB.out⟩
theorem do_any (h : Dk w F B N s) (hN : 2 * (N + 1) ≤ 1000000) (x : Sp) (hx : x.Ok) (hkeep : ∀ u, Chg F w u → BoolsAt u x.ko x.keep) :
    Calls Tryd.prog 28 #[.agg x.cells, ptr B] w fun e w' => e = .returned (.int .i64 ((s.step x.st).1 : Int)) ∧ Did w F B (N + 1) (s.step x.st).2 w' := by
  obtain ⟨k, a, t, n, ko, kc, keep⟩ := x
  unfold Dsk.step Sp.st
  simp only at hkeep ⊢
  match k with
  | 0 => exact do_0 h (by omega) a n t ko keep.length kc
  | 1 => exact (do_1 h (by omega) a n t ko keep.length kc).mono fun e w' ⟨h1, h2⟩ => ⟨h1, h2.up (by omega) (by omega)⟩
  | 2 => exact (do_2 h a n hx.n t ko keep.length kc).mono fun e w' ⟨h1, h2⟩ => ⟨h1, h2.up (by omega) (by omega)⟩
  | 3 => exact (do_3 h (by omega) a n t ko kc keep hkeep).mono fun e w' ⟨h1, h2⟩ => ⟨h1, h2.up (by omega) (by omega)⟩
  | k + 4 =>
    rw [if_neg (by omega), if_neg (by omega), if_neg (by omega), if_neg (by omega)]
    exact (do_4 h (k + 4) (by omega) a n t ko keep.length kc).mono fun e w' ⟨h1, h2⟩ => ⟨h1, h2.up (by omega) (by omega)⟩
end
end M
end Go.Proofs.YtoacmingocmaaaaDoor
/- What is used on a disk: the maths of a sorted row without doubles, a map's keys collected, and the walk. -/
namespace Go.Proofs.YtoacmingocmaaaaDoor
namespace MM
/-- Ascending, no number twice. -/
def Asc (l : List Int) : Prop := l.Pairwise (· < ·)
theorem asc_ext : ∀ {l l' : List Int}, Asc l → Asc l' → (∀ k, k ∈ l ↔ k ∈ l') → l = l' := fun {l l'} h h' he => by
  refine List.Perm.eq_of_pairwise (le := fun a b => a ≤ b) (fun a b _ _ h1 h2 => Int.le_antisymm h1 h2) (h.imp Int.le_of_lt) (h'.imp Int.le_of_lt) ?_
  exact (List.perm_ext_iff_of_nodup (h.imp Int.ne_of_lt) (h'.imp Int.ne_of_lt)).2 he
theorem compactTo_asc (d : Array Int) (hs : ∀ i j : Nat, i ≤ j → j < d.size → d[i]! ≤ d[j]!) : ∀ m, m ≤ d.size → Asc (Lib.compactUpTo d m) ∧ (∀ x, x ∈ Lib.compactUpTo d m ↔ ∃ j, j < m ∧ d[j]! = x) ∧ ∀ x ∈ Lib.compactUpTo d m, ∀ j, m ≤ j + 1 → j < d.size → x ≤ d[j]!
  | 0, _ => ⟨List.Pairwise.nil, fun x => by simp [Lib.compactUpTo], fun x hx => by simp [Lib.compactUpTo] at hx⟩
  | m + 1, hm => by
    obtain ⟨h1, h2, h3⟩ := compactTo_asc d hs m (by omega)
    rw [Lib.compactUpTo_succ]
    by_cases hk : Lib.keeps d m = true
    · rw [if_pos hk]
      have hk' : m = 0 ∨ d[m]! ≠ d[m - 1]! := by simpa [Lib.keeps] using hk
      have hlt : ∀ x ∈ Lib.compactUpTo d m, x < d[m]! := fun x hx => by
        rcases hk' with rfl | hne
        · simp [Lib.compactUpTo] at hx
        · have e1 := h3 x hx (m - 1) (by omega) (by omega)
          have e2 := hs (m - 1) m (by omega) (by omega)
          omega
      refine ⟨?_, fun x => ?_, fun x hx j hj hjs => ?_⟩
      · refine List.pairwise_append.2 ⟨h1, List.pairwise_singleton _ _, fun a ha b hb => ?_⟩
        obtain rfl : b = d[m]! := by simpa using hb
        exact hlt a ha
      · rw [List.mem_append, h2]
        constructor
        · rintro (⟨j, hj, rfl⟩ | hx)
          · exact ⟨j, by omega, rfl⟩
          · exact ⟨m, by omega, (List.mem_singleton.1 hx).symm⟩
        · rintro ⟨j, hj, rfl⟩
          by_cases e : j = m
          · subst e; exact .inr (by simp)
          · exact .inl ⟨j, by omega, rfl⟩
      · have hm2 := hs m j (by omega) hjs
        rcases List.mem_append.1 hx with hx | hx
        · have := hlt x hx; omega
        · obtain rfl : x = d[m]! := by simpa using hx
          exact hm2
    · rw [if_neg hk, List.append_nil]
      have hk' : m ≠ 0 ∧ d[m]! = d[m - 1]! := by simpa [Lib.keeps] using hk
      refine ⟨h1, fun x => ?_, fun x hx j hj hjs => ?_⟩
      · rw [h2]
        constructor
        · rintro ⟨j, hj, rfl⟩; exact ⟨j, by omega, rfl⟩
        · rintro ⟨j, hj, rfl⟩
          by_cases e : j = m
          · subst e; exact ⟨j - 1, by omega, hk'.2.symm⟩
          · exact ⟨j, by omega, rfl⟩
      · exact h3 x hx j (by omega) hjs
/-- A row sorted, then without doubles. -/
theorem compact_sorted (zs : List Int) : Asc (Lib.compact (zs.mergeSort fun x y => decide (x ≤ y))) ∧ ∀ k, k ∈ Lib.compact (zs.mergeSort fun x y => decide (x ≤ y)) ↔ k ∈ zs := by
  obtain ⟨ys, hy⟩ : ∃ ys, zs.mergeSort (fun x y => decide (x ≤ y)) = ys := ⟨_, rfl⟩
  have hp : ys.Perm zs := hy ▸ List.mergeSort_perm zs _
  have hs : ys.Pairwise (fun a b => decide (a ≤ b) = true) := by
    rw [← hy]
    exact List.pairwise_mergeSort (fun a b c h1 h2 => by simp only [decide_eq_true_eq] at *; exact Int.le_trans h1 h2) (fun a b => by simp only [Bool.or_eq_true, decide_eq_true_eq]; exact Int.le_total a b) zs
  rw [hy]
  have hget : ∀ i : Nat, (h : i < ys.length) → ys.toArray[i]! = ys[i] := fun i h => by rw [getElem!_pos _ i (by simpa using h)]; simp
  obtain ⟨h1, h2, _⟩ := compactTo_asc ys.toArray (fun i j hij hj => by
    have hj' : j < ys.length := by simpa using hj
    rw [hget i (by omega), hget j hj']
    by_cases e : i = j
    · subst e; exact Int.le_refl _
    · have := List.pairwise_iff_getElem.1 hs i j (by omega) hj' (by omega)
      simpa using this) ys.length (by simp)
  refine ⟨h1, fun k => (h2 k).trans ?_⟩
  rw [← hp.mem_iff]
  constructor
  · rintro ⟨j, hj, rfl⟩
    rw [hget j hj]; exact List.getElem_mem hj
  · intro hk
    obtain ⟨j, hj, e⟩ := List.getElem_of_mem hk
    exact ⟨j, hj, by rw [hget j hj, e]⟩
/-- What Used tells. -/
structure UsedIs (s : Dsk) (l : List Int) : Prop where
  asc : Asc l
  mem : ∀ k, k ∈ l ↔ (s.p k ≠ zero ∨ ∃ x ∈ s.c, x.1 = k)
theorem UsedIs.one {s : Dsk} {l l' : List Int} (h : UsedIs s l) (h' : UsedIs s l') : l = l' := asc_ext h.asc h'.asc fun k => (h.mem k).trans (h'.mem k).symm
end MM
open Go Go.RowKit Go.Lib Go.Shelf
open Go.Maps (Keyed)
namespace M
open MM
theorem keys_any (mb : Option Nat) (w : World) : Calls Tryd.prog 60 #[.map mb] w fun e w' => e = .returned (.func (.func 79) #[] #[.pointer (some ⟨w.heap.size, 0, none⟩)]) ∧ w' = w.alloc (.cells #[.map mb] 79) :=
  (callsIn_wide (n := 5)).1 (AnyZI.keys_in Tryd.keysA Fence.wide 5 trivial rfl mb w)
/-- The sectors that a map has, in some row, in memory of the call's own. -/
theorem collect_any {w : World} {mv : Value} {n : Nat} {p : Int → By} (h : PlatAt w mv n p) (hn : n ≤ 1000000) (W : World) (hb : Below w.heap.size w W) (Bm : Nat) (hB : Bm < W.heap.size) (hm : W.cell? ⟨Bm, 0, none⟩ = some mv) :
    Calls Tryd.prog 59 #[.func (.func 79) #[] #[.pointer (some ⟨Bm, 0, none⟩)]] W fun e w' => ∃ (v : Value) (ss : List Int), e = .returned v ∧ ss.length ≤ n ∧ (∀ k, k ∈ ss ↔ p k ≠ zero) ∧ OwnE W 3 v (ints ss) w' := by
  refine (callsIn_wide (n := 5)).1 ?_
  have fin : ∀ (S : List Int → Prop) (N : Nat), N ≤ n → (∀ ss, S ss → ∀ k, k ∈ ss ↔ p k ≠ zero) → SeqGives Fence.wide (5 - 1 - 1) Tryd.prog 79 #[.pointer (some ⟨Bm, 0, none⟩)] encZ S N W →
      CallsIn Fence.wide 5 Tryd.prog 59 #[.func (.func 79) #[] #[.pointer (some ⟨Bm, 0, none⟩)]] W fun e w' => ∃ (v : Value) (ss : List Int), e = .returned v ∧ ss.length ≤ n ∧ (∀ k, k ∈ ss ↔ p k ≠ zero) ∧ OwnE W 3 v (ints ss) w' := fun S N hN hS hseq => by
    have hc := AnyZI.collect_in Tryd.collectA Fence.wide 5 trivial trivial rfl (by omega) 79 #[.pointer (some ⟨Bm, 0, none⟩)] trivial (enters_of Tryd.func79 (by kernel_rfl) rfl) _ N (by unfold maxLen; omega) (by omega) W hseq.bounded
    exact CallsIn.mono hc fun e w' ⟨v, ss, h1, ⟨h2, h3⟩, h4, _, h6⟩ => ⟨v, ss, h1, by omega, hS ss h2, ⟨by rw [ints_len]; exact h4, h6⟩⟩
  rcases h with ⟨rfl, hz⟩ | ⟨b, rfl, D, hown, hhas, _⟩
  · refine fin (fun ss => ss = []) 0 (Nat.zero_le _) (fun ss hs k => ?_) (AnyZI.keys_gives_nil (ρ := Tryd.keysA_ren) { Tryd.keysA with } Fence.wide _ trivial rfl Bm W hB hm)
    subst hs
    simp [hz k]
  · have hlt := hown.lt
    refine fin (fun ss => ss.Perm (intKeys D)) (Maps.size D) hown.size_le (fun ss hs k => ?_) (AnyZI.keys_gives (ρ := Tryd.keysA_ren) { Tryd.keysA with } Fence.wide _ trivial rfl (by omega) Bm b n D W hB hm (ownsMap_of hown (hb.block b hlt)))
    rw [hs.mem_iff]
    obtain ⟨es, hD, _, hlit⟩ := hown.entries keyInt
    obtain ⟨es', hD', hko⟩ := hown.keysOf
    obtain rfl : es = es' := by rw [hD] at hD'; simpa using hD'
    have hk := hhas k
    subst hD
    rw [Go.Maps.has_eq] at hk
    have hiff : (es.any fun p => p.1.sameKey (key k)) = true ↔ k ∈ intKeys (.map es) := by
      rw [List.any_eq_true]
      show _ ↔ k ∈ es.map fun p => Go.intOf p.1
      rw [List.mem_map]
      constructor
      · rintro ⟨x, hx, hs⟩
        obtain ⟨v, hv⟩ := hko x hx
        obtain ⟨a, _, ha, _⟩ := Go.Maps.keyOf_i64 Tryd.underlying3 hv
        rw [ha] at hs
        exact ⟨x, hx, by rw [ha]; simpa [Lit.sameKey, Go.intOf, key] using hs⟩
      · rintro ⟨x, hx, rfl⟩
        obtain ⟨v, hv⟩ := hko x hx
        obtain ⟨a, _, ha, _⟩ := Go.Maps.keyOf_i64 Tryd.underlying3 hv
        exact ⟨x, hx, by rw [ha]; simp [Lit.sameKey, Go.intOf, key]⟩
    rw [← hiff, hk]
    simp
section
variable {w0 w : World} {v : Value} {zs : List Int}
theorem sort_any (h : OwnE w0 3 v (ints zs) w) (hl : zs.length ≤ 3000000) : Calls Tryd.prog 61 #[v] w fun e w' => e = .returned (.tuple #[]) ∧ OwnE w0 3 v (ints (zs.mergeSort fun x y => decide (x ≤ y))) w' := by
  have hlen : (zs.mergeSort fun x y => decide (x ≤ y)).length = zs.length := List.length_mergeSort zs
  obtain ⟨h1, ⟨rfl, hz⟩ | ⟨g, cap, cur, rfl, hg, hh, hc, hcm, hcs, htk⟩⟩ := h.own
  · have h0 : zs = [] := by rw [ints_len] at hz; exact List.eq_nil_of_length_eq_zero hz
    subst h0
    refine (Tryd.slices_Sort_int_none none 0 w).mono fun e w' ⟨he, hw⟩ => ⟨he, ?_⟩
    subst hw
    rw [List.mergeSort_nil]
    exact h
  · rw [ints_len] at hc htk ⊢
    rw [Nat.mul_one] at htk
    have hgl := row_lt hh
    refine (Tryd.slices_Sort_int g 0 cap zs w (holds_of_blockI hh htk) hgl (by omega)).mono ?_
    rintro e w' ⟨he, n, os, rfl⟩
    refine ⟨he, ⟨?_, ?_⟩⟩
    · have := ownsRow_sortedI (n := n) (os := os) hlen hg hh hc hcm hcs
      rw [ints_len, hlen]
      exact this
    · exact h.below.grown (grownBy_sortedI _) h.below.size (fun k hk => by injection hk with hk; omega)
/-- A row behind all that was there. -/
def NewS (w : World) (v : Value) : Prop := ∀ ad n c, v = .slice (some ad) n c → w.heap.size ≤ ad.block
theorem compact_any (h : OwnE w0 3 v (ints zs) w) (hl : zs.length ≤ 3000000) : Calls Tryd.prog 62 #[v] w fun e w' => ∃ v', e = .returned v' ∧ ValsAt w' v' (ints (Lib.compact zs)) ∧ Below w0.heap.size w0 w' ∧ NewS w0 v' := by
  obtain ⟨h1, ⟨rfl, hz⟩ | ⟨g, cap, cur, rfl, hg, hh, hc, hcm, hcs, htk⟩⟩ := h.own
  · have h0 : zs = [] := by rw [ints_len] at hz; exact List.eq_nil_of_length_eq_zero hz
    subst h0
    refine (Tryd.slices_Compact_int_empty none 0 w).mono fun e w' ⟨he, hw⟩ => ⟨_, he, ⟨none, 0, rfl, fun i u hi => ?_⟩, hw ▸ h.below, fun _ _ _ e => by cases e⟩
    simp [ints, Lib.compact, Lib.compactUpTo] at hi
  · rw [ints_len] at hc htk ⊢
    rw [Nat.mul_one] at htk
    refine (Tryd.slices_Compact_int g 0 cap zs w (holds_of_blockI hh htk) (by omega) hc).mono ?_
    rintro e w' ⟨he, n, rfl⟩
    have hgr := grownBy_sortedI (w := w) (g := g) (n := n) (os := #[]) (Lib.compact zs ++ List.replicate (zs.length - (Lib.compact zs).length) 0).toArray
    have hhp := heap_sortedI (n := n) (os := #[]) (Lib.compact zs ++ List.replicate (zs.length - (Lib.compact zs).length) 0).toArray hh
    rw [Go.Sort.grow_empty] at hgr hhp
    refine ⟨_, he, ⟨_, cap, by rw [ints_len], fun i u hi => ⟨_, rfl, ?_⟩⟩, h.below.grown hgr h.below.size (fun k hk => by injection hk with hk; omega), fun ad n c e => by injection e with e1 _ _; injection e1 with e2; rw [← e2]; exact hg⟩
    have hil : i < (Lib.compact zs).length := by have := (List.getElem?_eq_some_iff.1 hi).1; rwa [ints_len] at this
    have hcl : (Lib.compact zs).length ≤ zs.length := by
      unfold Lib.compact Lib.compactUpTo
      rw [List.length_map]
      exact Nat.le_trans (List.length_filter_le _ _) (by rw [List.length_range]; exact Nat.le_refl _)
    rw [Addr.add_lit, Nat.zero_add, cell_of_row _ g i _ _ _ hhp]
    simp only [ints, List.getElem?_map] at hi
    rw [List.getElem?_eq_getElem hil] at hi
    simp only [Option.map_some, Option.some.injEq] at hi
    rw [← hi]
    simp only [Go.Sort.putCells]
    simp [show i < cur.size by omega]
    rw [if_pos (by omega), List.getElem?_append_left hil, List.getElem?_eq_getElem hil]
    rfl
end
section
variable {w : World} {F : Nat → Prop} {B N : Nat} {s : Dsk}
set_option maxRecDepth 100000 in
set_option maxHeartbeats 8000000 in
theorem used_new (h : Dk w F B N s) : Calls Tryd.prog 35 #[ptr B] w fun e w' => ∃ v l, e = .returned v ∧ UsedIs s l ∧ ValsAt w' v (ints l) ∧ Below w.heap.size w w' ∧ NewS w v := by
  have hN := h.N
  obtain ⟨m, v, fu, le, n, hl⟩ := h.lies
  obtain ⟨mb, rfl⟩ : ∃ mb, m = .map mb := by
    rcases hl.plat with ⟨rfl, _⟩ | ⟨g, rfl, _⟩
    · exact ⟨_, rfl⟩
    · exact ⟨_, rfl⟩
  have hfew := hl.few
  obtain ⟨co, L, cap, rfl, hLL, hcap⟩ : ∃ co L cap, v = .slice co L cap ∧ s.c.length = L ∧ L ≤ cap := by
    rcases hl.cache.rd with ⟨rfl, hn⟩ | ⟨g', cap, hv, hc, _⟩
    · exact ⟨none, 0, 0, rfl, by rw [hn]; rfl, Nat.le_refl _⟩
    · exact ⟨_, _, cap, hv, rfl, hc⟩
  obtain ⟨c0, c1, _⟩ := box_cells hl.box
  have hBl := row_lt hl.box
  have hb1 := below_box w (.cells #[.map mb] 79)
  have hcm : (w.alloc (.cells #[.map mb] 79)).cell? ⟨w.heap.size, 0, none⟩ = some (.map mb) := (cell_of_row _ _ 0 _ _ _ (heap_alloc_new w _)).trans rfl
  have HCO := Lib.hid (collect_any hl.plat (by omega) _ hb1 w.heap.size (by simp) hcm)
  have HCA : Hid (∀ X, Below w.heap.size w X → CacheAt X (.slice co L cap) s.c) := Lib.hid fun X hX => hl.cache.of fun g' hg' => hX.block g' (h.old g' (hl.vF g' hg'))
  have HBX : Hid (∀ X, Below w.heap.size w X → X.cell? ⟨B, 1, none⟩ = some (.slice co L cap)) := Lib.hid fun X hX => (hX.cell (p := ⟨B, 1, none⟩) hBl).trans c1
  have HB1 := Lib.hid hb1
  have HLL := Lib.hid hLL
  rw [hLL] at hfew
  clear h hl hcm hb1 hLL
  go_enter Tryd.func35, Tryd.ntmps35
  go_upto_region 4 with (first
    | (go_at_call 60; (with_reducible refine (keys_any mb _).mono ?_); rintro e w' ⟨rfl, rfl⟩)
    | (go_at_call 59; (with_reducible refine HCO.out.mono ?_); rintro e w2 ⟨v2, ss, rfl, hsl, hss, hown⟩; have HSL := Lib.hid hsl; have HSS := Lib.hid hss; have HOW := Lib.hid hown; clear hsl hss hown))
  have hown := HOW.out
  generalize w.alloc (.cells #[.map mb] 79) = w1 at *
  obtain ⟨ao2, cp2, rfl, _⟩ := hown.val
  rw [ints_len] at hown ⊢
  have hb2 : Below w.heap.size w w2 := bnext HB1.out hown.below
  have cB := HBX.out w2 hb2
  obtain ⟨M, hM⟩ : ∃ M, ss.length = M := ⟨_, rfl⟩
  have HM := Lib.hid hM
  have hMn : M ≤ n := hM ▸ HSL.out
  rw [hM] at hown ⊢
  have H00 : Hid (OwnE w1 3 (.slice ao2 (M + 0) cp2) (ints (ss ++ (s.c.take 0).map (·.1))) w2) := Lib.hid (by rw [List.take_zero, List.map_nil, List.append_nil]; exact hown)
  have HLN : Hid (∀ i, i ≤ L → (ints (ss ++ (s.c.take i).map (·.1))).length = M + i) := Lib.hid fun i hi => by
    rw [ints_len, List.length_append, List.length_map, List.length_take, HM.out, HLL.out]; omega
  clear hown hb2 HOW HCO c0 c1 hM
  go_wp2_with fail
  go_loopw [3, 5, 19] (fun s3 s5 s19 wx => ∃ (i : Nat) (ao : Option Addr) (c' : Nat), i ≤ L ∧ s19 = .int .i64 (i : Int) ∧ s3 = .slice ao (M + i) c' ∧ Hid (OwnE w1 3 (.slice ao (M + i) c') (ints (ss ++ (s.c.take i).map (·.1))) wx)) (fun _ _ s19 _ => L - (RowKit.intOf s19).toNat)
  case atStart => exact ⟨0, ao2, cp2, Nat.zero_le _, rfl, rfl, H00⟩
  case round =>
    obtain ⟨i, ao, c', hi, rfl, rfl, HI⟩ := hrel
    have hbw : Below w.heap.size w wr := bnext HB1.out HI.out.below
    by_cases hlt : i < L
    · obtain ⟨x, hx⟩ : ∃ x, s.c[i]? = some x := ⟨_, List.getElem?_eq_getElem (by rw [HLL.out]; exact hlt)⟩
      obtain ⟨g, cap2, hv, hrg⟩ := write_range (HCA.out wr hbw) hx
      rw [HLL.out] at hv
      obtain rfl : co = some ⟨g, 0, none⟩ := by injection hv
      have HRG := Lib.hid hrg
      have HNX := Lib.hid (show ints (ss ++ (s.c.take i).map (·.1)) ++ [.int .i64 x.1] = ints (ss ++ (s.c.take (i + 1)).map (·.1)) by rw [ints_snoc, List.take_add_one, hx, List.map_append, List.append_assoc]; rfl)
      have hbx := below_box wr (.cells #[.int .i64 x.1, .string ⟨x.2.toArray⟩] 86)
      obtain ⟨ao', cq, w5, hr, hown5, _⟩ := (HI.out.step hbx).pushInt x.1 (by rw [HLN.out i (by omega)]; omega) 60
      rw [HLN.out i (by omega)] at hr hown5
      rw [HNX.out] at hown5
      have HO5 := Lib.hid hown5
      obtain ⟨xk, xt⟩ := x
      simp only at hr
      rw [World.size_alloc] at hr
      clear hbx hrg hv hx hown5 hbw
      go_wp2_with (first
        | (refine wpList_load_mid rfl 86 _ rfl g (i * 2) rfl [.int .i64 xk, .string ⟨xt.toArray⟩] _ HRG.out Tryd.underlying86 rfl (info_w2 (xk, xt)) ?_)
        | (at_builtin; refine Lib.wpList_append_run _ rfl _ _ _ _ rfl _ _ rfl rfl _ _ hr ?_))
      go_roundw
      case rel => exact ⟨i + 1, ao', cq, by omega, by go_num, rfl, HO5⟩
      case measure => simp [RowKit.intOf]; omega
    · obtain rfl : i = L := by omega
      have hown := HI.out
      obtain ⟨zs, hzs⟩ : ∃ zs, ss ++ (s.c.take i).map (·.1) = zs := ⟨_, rfl⟩
      have hzl : zs.length ≤ 3000000 := by
        have := HLN.out i (Nat.le_refl _)
        rw [hzs, ints_len] at this
        omega
      rw [hzs] at hown
      have HU : Hid (UsedIs s (Lib.compact (zs.mergeSort fun x y => decide (x ≤ y)))) := Lib.hid (by
        obtain ⟨h1, h2⟩ := compact_sorted zs
        refine ⟨h1, fun k => (h2 k).trans ?_⟩
        rw [← hzs, ← HLL.out, List.take_length, List.mem_append, HSS.out k, List.mem_map])
      have HSO := Lib.hid (sort_any hown hzl)
      have hzl2 : (zs.mergeSort fun x y => decide (x ≤ y)).length ≤ 3000000 := by rw [List.length_mergeSort]; exact hzl
      clear hown hzs hbw cB
      go_wp2_with (first
        | (go_at_call 61; (with_reducible refine HSO.out.mono ?_); rintro e w5 ⟨rfl, hown5⟩; have HCP := Lib.hid (compact_any hown5 hzl2); clear hown5)
        | (go_at_call 62; (with_reducible refine HCP.out.mono ?_); rintro e w6 ⟨v6, rfl, hv6, hb6, hn6⟩; have HV6 := Lib.hid hv6; have HB6 := Lib.hid hb6; have HN6 := Lib.hid hn6; clear hv6 hb6 hn6))
      go_ret
      exact ⟨_, _, rfl, HU.out, HV6.out, bnext HB1.out HB6.out, fun ad n c e => Nat.le_trans HB1.out.size (HN6.out ad n c e)⟩
theorem used_any (h : Dk w F B N s) : Calls Tryd.prog 35 #[ptr B] w fun e w' => ∃ v l, e = .returned v ∧ UsedIs s l ∧ ValsAt w' v (ints l) ∧ Below w.heap.size w w' := (used_new h).mono fun _ _ ⟨v, l, h1, h2, h3, h4, _⟩ => ⟨v, l, h1, h2, h3, h4⟩
end
end M
end Go.Proofs.YtoacmingocmaaaaDoor
/- The walk of a copy of a disk. -/
namespace Go.Proofs.YtoacmingocmaaaaDoor
open Go Go.RowKit Go.Lib Go.Shelf
namespace M
open MM
section
variable {w : World} {F : Nat → Prop} {B N : Nat} {s : Dsk}
end
end M
end Go.Proofs.YtoacmingocmaaaaDoor

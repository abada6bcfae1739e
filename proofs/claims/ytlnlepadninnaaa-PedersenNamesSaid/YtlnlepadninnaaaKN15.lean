/- The texts PedComs, one behind the other. -/
import Derived.Test.YtlnlepadninnaaaKN10
import Derived.Test.YtlnlepadninnaaaKN9
import Derived.Test.YtlnlepadninnaaaKN11
import Derived.Test.YtlnlepadninnaaaKN14
/- The walks of package pedersen's commitments: to one polynomial, to one for each secret, to polynomials of two. -/
namespace Go.Proofs.Ytlnlepadninnaaa
open Go Go.RowKit Go.Lib Go.Shelf
namespace M
attribute [local go_sem] Oper.semAt_some
theorem info_cubs : (Try.prog.info? 28).map (fun i => (i.zero, i.size, i.bytes)) = some (some (.slice none 0 0), 1, 24) := by kernel_rfl

section
attribute [-go_sem] Builtin.append_
set_option maxRecDepth 100000 in
set_option maxHeartbeats 8000000 in
/-- The commitments to one polynomial. -/
theorem commitments_any (p : Pm) (hG : p.G < 18446744073709551616) (hH : p.H < 18446744073709551616) (ao bo : Option Addr) (la ca lb cb : Nat) (z y : Nat → Nat) (hz : ∀ i, z i < 18446744073709551616) (hy : ∀ i, y i < 18446744073709551616) (hla : la ≤ 1000) (hlb : lb ≤ 1000) (w0 : World) (ha : Rd w0 ao la z) (hb : Rd w0 bo lb y) :
    Calls Try.prog 24 #[.agg p.cells, .slice ao la ca, .slice bo lb cb] w0 fun e w' => ∃ v, e = .returned v ∧ (RowC w0.heap.size w' v (max la lb) (fun j => MM.comU p.P p.G p.H (getU la z j) (getU lb y j)) ∧ CapOk v) ∧ Below w0.heap.size w0 w' := by
  refine (callsIn_wide (n := 4)).1 ?_
  obtain ⟨N, hN⟩ : ∃ N, max la lb = N := ⟨_, rfl⟩
  have HPRE := Lib.hid (And.intro ha hb)
  clear ha hb
  refine callsIn_of_wp_marks Try.func24 rfl trivial ?_ rfl
  simp only [Try.ntmps24, List.size_toArray, List.length_cons, List.length_nil, Nat.reduceAdd, Nat.reduceSub, Array.replicate_succ, Array.replicate_zero, List.push_toArray, List.append_toArray, List.nil_append, List.cons_append]
  gi_upto_region 2 with fail
  obtain ⟨g, hg⟩ : ∃ g, w0.heap.size = g := ⟨_, rfl⟩
  have x1 := PBox.new w0 p
  have b1 := below_box w0 (.cells p.cells 25)
  have s1 : (w0.alloc (.cells p.cells 25)).heap.size = g + 1 := by rw [World.size_alloc, hg]
  rw [hg] at x1 b1 ⊢
  generalize w0.alloc (.cells p.cells 25) = W1 at *
  have x2 := Box.new W1 27 (.slice none 0 0)
  have b2 := below_box W1 (.cells #[.slice none 0 0] 27)
  have s2 : (W1.alloc (.cells #[.slice none 0 0] 27)).heap.size = g + 1 + 1 := by rw [World.size_alloc, s1]
  rw [s1] at x2
  generalize W1.alloc (.cells #[.slice none 0 0] 27) = W2 at *
  have y1 := x1.below b2
  gi_wp2_with (refine ⟨trivial, ?_⟩; gi_at_call 36; refine (callsIn_wide.2 (bothUU_any _ _ _ _ _ _ _)).mono ?_; rintro E w' ⟨rfl, rfl⟩)
  have x3 := Box.new W2 27 (.slice ao la ca)
  have b3 := below_box W2 (.cells #[.slice ao la ca] 27)
  have s3 : (W2.alloc (.cells #[.slice ao la ca] 27)).heap.size = g + 1 + 1 + 1 := by rw [World.size_alloc, s2]
  rw [s2] at x3
  generalize W2.alloc (.cells #[.slice ao la ca] 27) = W3 at *
  have x4 := Box.new W3 27 (.slice bo lb cb)
  have b4 := below_box W3 (.cells #[.slice bo lb cb] 27)
  have s4 : (W3.alloc (.cells #[.slice bo lb cb] 27)).heap.size = g + 1 + 1 + 1 + 1 := by rw [World.size_alloc, s3]
  rw [s3] at x4
  generalize W3.alloc (.cells #[.slice bo lb cb] 27) = W4 at *
  have z1 := (y1.below b3).below b4
  have z2 := (x2.below b3).below b4
  have z3 := x3.below b4
  have b0 : Below g w0 W4 := ((b1.trans (b2.mono (by omega))).trans (b3.mono (by omega))).trans (b4.mono (by omega))
  clear x1 x2 x3 y1 b1 b2 b3 b4 s1 s2 s3
  obtain ⟨C, hC⟩ : ∃ C : Nat → Value → World → Prop, C = fun j u _ => u = .int .u64 ((MM.comU p.P p.G p.H (getU la z j) (getU lb y j) : Nat) : Int) := ⟨_, rfl⟩
  have hCs : ∀ j u X Y, C j u X → Sm 23 27 X Y → C j u Y := fun j u X Y h hs => by
    rw [hC] at h ⊢
    exact h
  obtain ⟨I, hI⟩ : ∃ I : Nat → World → Prop, I = fun j X => Below g w0 X ∧ PBox X g p ∧ Box X (g + 1 + 1) 27 (.slice ao la ca) ∧ Box X (g + 1 + 1 + 1) 27 (.slice bo lb cb) ∧ ∃ v, Box X (g + 1) 27 v ∧ Grow 23 (g + 1 + 1 + 1 + 1) C v j X := ⟨_, rfl⟩
  have hIA : ∀ X, Below g w0 X → Rd X ao la z := fun X h => by rw [← hg] at h; exact HPRE.out.1.below h
  have hIB : ∀ X, Below g w0 X → Rd X bo lb y := fun X h => by rw [← hg] at h; exact HPRE.out.2.below h
  have hmix : Try.prog.follows .mixedOrders = true := by kernel_rfl
  have hl4 : 1 ≤ 4 := by omega
  refine RL.range (gf := 43) (lb := #[.pointer (some ⟨g + 1 + 1, 0, none⟩), .pointer (some ⟨g + 1 + 1 + 1, 0, none⟩)]) (g + 1 + 1 + 1 + 1) N I (fun _ => False) (fun j args X => ∃ va vb, args = #[va, vb] ∧ va = .int .u64 ((getU la z j : Nat) : Int) ∧ vb = .int .u64 ((getU lb y j : Nat) : Int)) rfl (enters_of Try.func43 (by kernel_rfl) rfl) (Nat.le_of_eq s4.symm) ?hS (fun _ _ h => h.elim) ?hE ?h0 ?hseq ?hround ?hend (fun _ _ h => h.elim)
  case hS =>
    intro j X Y h hb hc
    rw [hI] at h ⊢
    obtain ⟨h1, h2, h3, h4, v, h5, h6⟩ := h
    exact ⟨h1.trans (hb.mono (by omega)), h2.as hc, h3.as hc, h4.as hc, v, h5.as hc, h6.as (fun j u _ h => hCs j u _ _ h (.of_as hc)) fun _ _ _ e => hc _ _ _ _ e⟩
  case hE =>
    rintro j args X Y ⟨va, vb, rfl, h1, h2⟩ hc
    exact ⟨va, vb, rfl, h1, h2⟩
  case h0 =>
    rw [hI]
    exact ⟨b0, z1, z3, x4, _, z2, Grow.start _ _ _ _⟩
  case hseq =>
    rw [← hN]
    refine bothUU_seq (4 - 1) (by omega) (g + 1 + 1) (g + 1 + 1 + 1) ao bo la ca lb cb (by omega) (by omega) _ (fun j va X => va = .int .u64 ((getU la z j : Nat) : Int)) (fun j vb X => vb = .int .u64 ((getU lb y j : Nat) : Int)) (fun j X h => ?_) (fun j i X h => ?_) (fun j i X h => ?_) (fun j v X Y h hb => h)
    · rw [hI] at h; exact ⟨h.1.2.2.1, h.1.2.2.2.1⟩
    · rw [hI] at h
      exact (atU_any ao la ca i z X (hIA X h.1.1)).mono (fun e Y ⟨h1, h2⟩ => ⟨⟨_, h1, rfl⟩, h2⟩)
    · rw [hI] at h
      exact (atU_any bo lb cb i y X (hIB X h.1.1)).mono (fun e Y ⟨h1, h2⟩ => ⟨⟨_, h1, rfl⟩, h2 ▸ Below.refl _ _⟩)
  case hround =>
    rintro l j args X hj hIX ⟨va0, vb0, rfl, hva0, hvb0⟩ hBl hBX
    apply Exists.intro
    refine ⟨X, Below.refl _ _, rfl, fun K hK => ?_, fun X1 hcX hI1 hE1 hB1 => ?_⟩
    · gi_wp2
      exact hK
    · rw [hI] at hI1
      obtain ⟨k1, k2, k3, k4, v, k5, k6⟩ := hI1
      clear hva0 hvb0 hIX hBX hcX
      obtain ⟨va, vb, hargs, hva, hvb⟩ := hE1
      obtain ⟨rfl, rfl⟩ : va0 = va ∧ vb0 = vb := by simpa using hargs
      clear hargs
      subst hva hvb
      obtain ⟨a, ha9⟩ : ∃ a, getU la z j = a := ⟨_, rfl⟩
      obtain ⟨b, hb9⟩ : ∃ b, getU lb y j = b := ⟨_, rfl⟩
      have hal : a < 18446744073709551616 := ha9 ▸ getU_lt hz j
      have hbl : b < 18446744073709551616 := hb9 ▸ getU_lt hy j
      have hc9 : MM.comU p.P p.G p.H a b = MM.comU p.P p.G p.H (getU la z j) (getU lb y j) := by rw [ha9, hb9]
      rw [ha9, hb9]
      gi_upto_region 5 with fail
      refine RK.region_in l _ (fun W => PBox W g p ∧ Box W (g + 1) 27 v) 8 (by kernel_rfl) (by simp) (fun h => by obtain ⟨_, _, h⟩ := h; exact h) ?_
      have HS0 : PBox X1.drew g p ∧ Box X1.drew (g + 1) 27 v := ⟨k2, k5⟩
      refine RK.Any.take 0 15 v rfl rfl (by kernel_rfl) (by kernel_rfl) (by kernel_rfl) (by kernel_rfl) (fun _ _ _ h => h) (by rfl) (fun W' hb => ?_) HS0 ?_
      · have c := hb.2.cell; go_simp
      simp only [List.setIfInBounds_toArray, List.set_cons_zero, List.set_cons_succ]
      refine RK.Any.take 1 16 (.agg p.cells) rfl rfl (by kernel_rfl) (by kernel_rfl) (by kernel_rfl) (by kernel_rfl) (fun _ _ _ h => h) (by rfl) (fun W' hb => load_pbox hb.1 rfl rfl) HS0 ?_
      simp only [List.setIfInBounds_toArray, List.set_cons_zero, List.set_cons_succ]
      refine RK.Any.take 2 17 (.int .u64 ((a : Nat) : Int)) rfl rfl (by kernel_rfl) (by kernel_rfl) (by kernel_rfl) (by kernel_rfl) (fun _ _ _ h => h) (by rfl) (fun W' hb => ?_) HS0 ?_
      · skip; go_simp
      simp only [List.setIfInBounds_toArray, List.set_cons_zero, List.set_cons_succ]
      refine RK.Any.take 3 18 (.int .u64 ((b : Nat) : Int)) rfl rfl (by kernel_rfl) (by kernel_rfl) (by kernel_rfl) (by kernel_rfl) (fun _ _ _ h => h) (by rfl) (fun W' hb => ?_) HS0 ?_
      · skip; go_simp
      simp only [List.setIfInBounds_toArray, List.set_cons_zero, List.set_cons_succ]
      refine RK.Any.take 4 19 (.agg (pair a b)) rfl rfl (by kernel_rfl) (by kernel_rfl) (by kernel_rfl) (by kernel_rfl) (fun _ _ _ h => h) (by rfl) (fun W' hb => ?_) HS0 ?_
      · skip; go_simp
      simp only [List.setIfInBounds_toArray, List.set_cons_zero, List.set_cons_succ]
      have hb0 : Below X1.heap.size X1 X1.drew := below_drewN' X1 1 _
      have k6' : Grow 23 (g + 1 + 1 + 1 + 1) C v j X1.drew := k6.as (fun j u _ h => hCs j u _ _ h (.of_as (.of_below hb0))) fun _ _ _ e => e
      have k1' : Below g w0 X1.drew := k1.trans (hb0.mono (by omega))
      have hB1' : g + 1 + 1 + 1 + 1 ≤ X1.drew.heap.size := hB1
      have hO0 : RL.Objs X1 X1.drew := .of_below hb0
      have k3' : Box X1.drew (g + 1 + 1) 27 (.slice ao la ca) := k3
      have k4' : Box X1.drew (g + 1 + 1 + 1) 27 (.slice bo lb cb) := k4
      skip
      generalize X1.drew = Y0 at *
      refine RK.Any.call 5 20 27 #[.agg p.cells, .agg (pair a b)] (by kernel_rfl) rfl rfl (by rfl) (by go_simp) (Calls.mono (commit_any p a b hal hbl hG hH Y0) ?_)
      rintro E Y1 ⟨rfl, hb2⟩
      have HS1 : PBox Y1 g p ∧ Box Y1 (g + 1) 27 v := ⟨HS0.1.below hb2, HS0.2.below hb2⟩
      refine ⟨_, rfl, fun _ => HS1, ?_⟩
      simp only [List.setIfInBounds_toArray, List.set_cons_zero, List.set_cons_succ]
      have k6b : Grow 23 (g + 1 + 1 + 1 + 1) C v j Y1 := k6'.as (fun j u _ h => hCs j u _ _ h (.of_as (.of_below hb2))) fun _ _ _ e => CellsAs.of_below hb2 _ _ _ _ e
      have hsY1 := hb2.size
      have hB2 : g + 1 + 1 + 1 + 1 ≤ Y1.heap.size := Nat.le_trans hB1' hb2.size
      obtain ⟨i0, hi, hz0, hz1, hz2⟩ := info_parts info_u64
      obtain ⟨v', Y3, hrun, g3, m3, o3, n3, l3, e1, e2, e3⟩ := k6b.more (S := 27) Try.underlying27 hi hz0 hz1 hz2 rfl (by decide) hB2 (by omega) (.int .u64 ((MM.comU p.P p.G p.H a b : Nat) : Int)) 1 rfl (by rw [hC]; show (_ : Value) = _; rw [hc9]) (fun j x Y h hs => hCs j x _ Y h hs)
      obtain ⟨ao', c', rfl⟩ := g3.slice
      have m2 := below_box Y1 (.cells #[(.int .u64 ((MM.comU p.P p.G p.H a b : Nat) : Int))] 23)
      refine RK.Any.exec 6 21 (.slice (some ⟨Y1.heap.size, 0, none⟩) 1 1) (w1 := Y1.alloc (.cells #[(.int .u64 ((MM.comU p.P p.G p.H a b : Nat) : Int))] 23)) (by kernel_rfl) rfl rfl (by rfl) (by go_simp) ⟨HS1.1.below m2, HS1.2.below m2⟩ ?_
      simp only [List.setIfInBounds_toArray, List.set_cons_zero, List.set_cons_succ]
      have p3 : PBox Y3 g p := (l3 g (by omega)).trans HS1.1
      have q3 : Box Y3 (g + 1) 27 v := (l3 (g + 1) (by omega)).trans HS1.2
      refine RK.Any.exec 7 22 (.slice ao' (j + 1) c') (w1 := Y3) (by kernel_rfl) rfl rfl (by rfl) (RK.exec_append _ _ _ _ rfl _ _ rfl rfl hrun) ⟨p3, q3⟩ ?_
      simp only [List.setIfInBounds_toArray, List.set_cons_zero, List.set_cons_succ]
      have cq := q3.cell
      have fq := q3.free
      refine RK.Any.store 8 (w1 := Y3.setCell ⟨g + 1, 0, none⟩ (.slice ao' (j + 1) c')) (by kernel_rfl) rfl rfl (by rfl) (by go_simp) (fun e => absurd rfl e) ?_
      refine RK.Any.done (by kernel_rfl) ?_
      have hd1 : Below g w0 Y1 := k1'.trans (hb2.mono (by omega))
      have hd3 : Below g w0 Y3 := hd1.trans ⟨e1, e2, e3, n3, fun k hk => l3 k (by omega)⟩
      have hset : ∀ k, k ≠ g + 1 → (Y3.setCell ⟨g + 1, 0, none⟩ (.slice ao' (j + 1) c')).heap[k]? = Y3.heap[k]? := fun k hk => Below.heap_setCell Y3 ⟨g + 1, 0, none⟩ (.slice ao' (j + 1) c') k hk
      have hlow : ∀ k, k < g + 1 + 1 + 1 + 1 → k ≠ g + 1 → (Y3.setCell ⟨g + 1, 0, none⟩ (.slice ao' (j + 1) c')).heap[k]? = Y0.heap[k]? := fun k hk hne => (hset k hne).trans ((l3 k hk).trans (hb2.block k (by omega)))
      have hs4 : g + 1 + 1 + 1 + 1 ≤ (Y3.setCell ⟨g + 1, 0, none⟩ (.slice ao' (j + 1) c')).heap.size := by rw [World.size_setCell]; omega
      have hsm4 : Sm 23 27 Y3 (Y3.setCell ⟨g + 1, 0, none⟩ (.slice ao' (j + 1) c')) := fun k cs t fr _ hne e => (hset k (fun e' => by
        rw [e', show Y3.heap[g + 1]? = _ from q3] at e
        injection e with e
        injection e with _ e _
        exact hne e.symm)).trans e
      refine ⟨⟨?_, hs4⟩, ((hO0.trans (.of_below hb2)).trans o3).trans (RL.Objs.setCell cq _)⟩
      rw [hI]
      refine ⟨hd3.setCell (p := ⟨g + 1, 0, none⟩) (by show g ≤ g + 1; omega) _, (hlow g (by omega) (by omega)).trans HS0.1, (hlow _ (by omega) (by omega)).trans k3', (hlow _ (by omega) (by omega)).trans k4', _, q3.set _, g3.as (fun j u _ h => hCs j u _ _ h hsm4) fun k cs hk e => (hset k (by omega)).trans e⟩
  case hend =>
    intro Y D hIY hD hBD hBY
    rw [hI] at hIY
    obtain ⟨k1, k2, k3, k4, v, k5, k6⟩ := hIY
    have cq := k5.cell
    have HK := Lib.hid (And.intro k1 k6)
    have HCH := Lib.hid hC
    have HCS := Lib.hid hCs
    have hmk : Marks [D] Y := ⟨by simp, fun E hE => by
      have e : E = D := by simpa using hE
      rw [e]; exact hD⟩
    have HMK := Lib.hid hmk
    clear k1 k2 k3 k4 k5 k6 hmk hC hCs hI hIA hIB z1 z2 z3 x4 b0 s4
    gi_wp2
    refine leaves_marks (B := g) [D] Y HMK.out (fun E hE => by
      have e : E = D := by simpa using hE
      omega) fun w' hb hcs => ?_
    refine ⟨v, by simp [results, Try.results24, go_sem], v, rfl, ⟨?_, HK.out.2.cap⟩, by rw [hg]; exact HK.out.1.trans hb⟩
    rw [hg]
    rcases HK.out.2.block with h | ⟨B, c, cs, h0, h1, h2, h3⟩
    · rw [hN]; exact .inl h
    · rw [hN]
      refine .inr ⟨B, c, cs, h0, by omega, hcs _ _ _ _ h2, fun i hi => ?_⟩
      obtain ⟨u, a1, a2⟩ := h3 i hi
      rw [HCH.out] at a2
      rw [a1, a2]
end

section
attribute [-go_sem] Builtin.append_
set_option maxRecDepth 100000 in
set_option maxHeartbeats 8000000 in
/-- The commitments to a polynomial for each secret. -/
theorem coms_any (p : Pm) (hG : p.G < 18446744073709551616) (hH : p.H < 18446744073709551616) (ao bo : Option Addr) (la ca lb cb : Nat) (L L' : Nat → Nat) (F F' : Nat → Nat → Nat) (hF : ∀ i j, F i j < 18446744073709551616) (hF' : ∀ i j, F' i j < 18446744073709551616) (hL : ∀ i, i < la → L i ≤ 1000) (hL' : ∀ i, i < lb → L' i ≤ 1000) (hla : la ≤ 1000) (hlb : lb ≤ 1000) (w0 : World) (ha : Mat w0 ao la L F) (hb : Mat w0 bo lb L' F') :
    Calls Try.prog 12 #[.agg p.cells, .slice ao la ca, .slice bo lb cb] w0 fun e w' => ∃ v, e = .returned v ∧ (MatC w0.heap.size w' v (max la lb) (fun j => max (getU la L j) (getU lb L' j)) (fun j i => MM.comU p.P p.G p.H (getU (getU la L j) (F j) i) (getU (getU lb L' j) (F' j) i)) ∧ CapOk v) ∧ Below w0.heap.size w0 w' := by
  refine (callsIn_wide (n := 4)).1 ?_
  obtain ⟨N, hN⟩ : ∃ N, max la lb = N := ⟨_, rfl⟩
  have HPRE := Lib.hid (And.intro ha hb)
  clear ha hb
  refine callsIn_of_wp_marks Try.func12 rfl trivial ?_ rfl
  simp only [Try.ntmps12, List.size_toArray, List.length_cons, List.length_nil, Nat.reduceAdd, Nat.reduceSub, Array.replicate_succ, Array.replicate_zero, List.push_toArray, List.append_toArray, List.nil_append, List.cons_append]
  gi_upto_region 2 with fail
  obtain ⟨g, hg⟩ : ∃ g, w0.heap.size = g := ⟨_, rfl⟩
  have x1 := PBox.new w0 p
  have b1 := below_box w0 (.cells p.cells 25)
  have s1 : (w0.alloc (.cells p.cells 25)).heap.size = g + 1 := by rw [World.size_alloc, hg]
  rw [hg] at x1 b1 ⊢
  generalize w0.alloc (.cells p.cells 25) = W1 at *
  have x2 := Box.new W1 28 (.slice none 0 0)
  have b2 := below_box W1 (.cells #[.slice none 0 0] 28)
  have s2 : (W1.alloc (.cells #[.slice none 0 0] 28)).heap.size = g + 1 + 1 := by rw [World.size_alloc, s1]
  rw [s1] at x2
  generalize W1.alloc (.cells #[.slice none 0 0] 28) = W2 at *
  have y1 := x1.below b2
  gi_wp2_with (refine ⟨trivial, ?_⟩; gi_at_call 23; refine (callsIn_wide.2 (bothRR_any _ _ _ _ _ _ _)).mono ?_; rintro E w' ⟨rfl, rfl⟩)
  have x3 := Box.new W2 28 (.slice ao la ca)
  have b3 := below_box W2 (.cells #[.slice ao la ca] 28)
  have s3 : (W2.alloc (.cells #[.slice ao la ca] 28)).heap.size = g + 1 + 1 + 1 := by rw [World.size_alloc, s2]
  rw [s2] at x3
  generalize W2.alloc (.cells #[.slice ao la ca] 28) = W3 at *
  have x4 := Box.new W3 28 (.slice bo lb cb)
  have b4 := below_box W3 (.cells #[.slice bo lb cb] 28)
  have s4 : (W3.alloc (.cells #[.slice bo lb cb] 28)).heap.size = g + 1 + 1 + 1 + 1 := by rw [World.size_alloc, s3]
  rw [s3] at x4
  generalize W3.alloc (.cells #[.slice bo lb cb] 28) = W4 at *
  have z1 := (y1.below b3).below b4
  have z2 := (x2.below b3).below b4
  have z3 := x3.below b4
  have b0 : Below g w0 W4 := ((b1.trans (b2.mono (by omega))).trans (b3.mono (by omega))).trans (b4.mono (by omega))
  clear x1 x2 x3 y1 b1 b2 b3 b4 s1 s2 s3
  obtain ⟨C, hC⟩ : ∃ C : Nat → Value → World → Prop, C = fun j u X => RowC (g + 1 + 1 + 1 + 1) X u (max (getU la L j) (getU lb L' j)) (fun i => MM.comU p.P p.G p.H (getU (getU la L j) (F j) i) (getU (getU lb L' j) (F' j) i)) := ⟨_, rfl⟩
  have hCs : ∀ j u X Y, C j u X → Sm 27 28 X Y → C j u Y := fun j u X Y h hs => by
    rw [hC] at h ⊢
    exact h.same fun B cs e => hs _ _ _ _ (by decide) (by decide) e
  obtain ⟨I, hI⟩ : ∃ I : Nat → World → Prop, I = fun j X => Below g w0 X ∧ PBox X g p ∧ Box X (g + 1 + 1) 28 (.slice ao la ca) ∧ Box X (g + 1 + 1 + 1) 28 (.slice bo lb cb) ∧ ∃ v, Box X (g + 1) 28 v ∧ Grow 27 (g + 1 + 1 + 1 + 1) C v j X := ⟨_, rfl⟩
  have hIA : ∀ X, Below g w0 X → Mat X ao la L F := fun X h => by rw [← hg] at h; exact HPRE.out.1.below h
  have hIB : ∀ X, Below g w0 X → Mat X bo lb L' F' := fun X h => by rw [← hg] at h; exact HPRE.out.2.below h
  have hmix : Try.prog.follows .mixedOrders = true := by kernel_rfl
  have hl4 : 1 ≤ 4 := by omega
  refine RL.range (gf := 35) (lb := #[.pointer (some ⟨g + 1 + 1, 0, none⟩), .pointer (some ⟨g + 1 + 1 + 1, 0, none⟩)]) (g + 1 + 1 + 1 + 1) N I (fun _ => False) (fun j args X => ∃ va vb, args = #[va, vb] ∧ RdV X va (getU la L j) (F j) ∧ RdV X vb (getU lb L' j) (F' j)) rfl (enters_of Try.func35 (by kernel_rfl) rfl) (Nat.le_of_eq s4.symm) ?hS (fun _ _ h => h.elim) ?hE ?h0 ?hseq ?hround ?hend (fun _ _ h => h.elim)
  case hS =>
    intro j X Y h hb hc
    rw [hI] at h ⊢
    obtain ⟨h1, h2, h3, h4, v, h5, h6⟩ := h
    exact ⟨h1.trans (hb.mono (by omega)), h2.as hc, h3.as hc, h4.as hc, v, h5.as hc, h6.as (fun j u _ h => hCs j u _ _ h (.of_as hc)) fun _ _ _ e => hc _ _ _ _ e⟩
  case hE =>
    rintro j args X Y ⟨va, vb, rfl, h1, h2⟩ hc
    exact ⟨va, vb, rfl, h1.as hc, h2.as hc⟩
  case h0 =>
    rw [hI]
    exact ⟨b0, z1, z3, x4, _, z2, Grow.start _ _ _ _⟩
  case hseq =>
    rw [← hN]
    refine bothRR_seq (4 - 1) (by omega) (g + 1 + 1) (g + 1 + 1 + 1) ao bo la ca lb cb (by omega) (by omega) _ (fun j va X => RdV X va (getU la L j) (F j)) (fun j vb X => RdV X vb (getU lb L' j) (F' j)) (fun j X h => ?_) (fun j i X h => ?_) (fun j i X h => ?_) (fun j v X Y h hb => h.below hb)
    · rw [hI] at h; exact ⟨h.1.2.2.1, h.1.2.2.2.1⟩
    · rw [hI] at h
      exact (atR_any ao la ca i L F X (hIA X h.1.1)).mono (fun e Y ⟨⟨v, h1, h2⟩, h3⟩ => ⟨⟨v, h1, h3 ▸ h2⟩, h3⟩)
    · rw [hI] at h
      exact (atR_any bo lb cb i L' F' X (hIB X h.1.1)).mono (fun e Y ⟨⟨v, h1, h2⟩, h3⟩ => ⟨⟨v, h1, h3 ▸ h2⟩, h3 ▸ Below.refl _ _⟩)
  case hround =>
    rintro l j args X hj hIX ⟨va0, vb0, rfl, hva0, hvb0⟩ hBl hBX
    apply Exists.intro
    refine ⟨X, Below.refl _ _, rfl, fun K hK => ?_, fun X1 hcX hI1 hE1 hB1 => ?_⟩
    · gi_wp2
      exact hK
    · rw [hI] at hI1
      obtain ⟨k1, k2, k3, k4, v, k5, k6⟩ := hI1
      clear hva0 hvb0 hIX hBX hcX
      obtain ⟨va, vb, hargs, hva, hvb⟩ := hE1
      obtain ⟨rfl, rfl⟩ : va0 = va ∧ vb0 = vb := by simpa using hargs
      clear hargs
      gi_upto_region 5 with fail
      refine RK.region_in l _ (fun W => PBox W g p ∧ Box W (g + 1) 28 v) 7 (by kernel_rfl) (by simp) (fun h => by obtain ⟨_, _, h⟩ := h; exact h) ?_
      have HS0 : PBox X1.drew g p ∧ Box X1.drew (g + 1) 28 v := ⟨k2, k5⟩
      refine RK.Any.take 0 15 v rfl rfl (by kernel_rfl) (by kernel_rfl) (by kernel_rfl) (by kernel_rfl) (fun _ _ _ h => h) (by rfl) (fun W' hb => ?_) HS0 ?_
      · have c := hb.2.cell; go_simp
      simp only [List.setIfInBounds_toArray, List.set_cons_zero, List.set_cons_succ]
      refine RK.Any.take 1 16 (.agg p.cells) rfl rfl (by kernel_rfl) (by kernel_rfl) (by kernel_rfl) (by kernel_rfl) (fun _ _ _ h => h) (by rfl) (fun W' hb => load_pbox hb.1 rfl rfl) HS0 ?_
      simp only [List.setIfInBounds_toArray, List.set_cons_zero, List.set_cons_succ]
      refine RK.Any.take 2 17 (va0) rfl rfl (by kernel_rfl) (by kernel_rfl) (by kernel_rfl) (by kernel_rfl) (fun _ _ _ h => h) (by rfl) (fun W' hb => ?_) HS0 ?_
      · skip; go_simp
      simp only [List.setIfInBounds_toArray, List.set_cons_zero, List.set_cons_succ]
      refine RK.Any.take 3 18 (vb0) rfl rfl (by kernel_rfl) (by kernel_rfl) (by kernel_rfl) (by kernel_rfl) (fun _ _ _ h => h) (by rfl) (fun W' hb => ?_) HS0 ?_
      · skip; go_simp
      simp only [List.setIfInBounds_toArray, List.set_cons_zero, List.set_cons_succ]
      have hb0 : Below X1.heap.size X1 X1.drew := below_drewN' X1 1 _
      have k6' : Grow 27 (g + 1 + 1 + 1 + 1) C v j X1.drew := k6.as (fun j u _ h => hCs j u _ _ h (.of_as (.of_below hb0))) fun _ _ _ e => e
      have k1' : Below g w0 X1.drew := k1.trans (hb0.mono (by omega))
      have hB1' : g + 1 + 1 + 1 + 1 ≤ X1.drew.heap.size := hB1
      have hO0 : RL.Objs X1 X1.drew := .of_below hb0
      have k3' : Box X1.drew (g + 1 + 1) 28 (.slice ao la ca) := k3
      have k4' : Box X1.drew (g + 1 + 1 + 1) 28 (.slice bo lb cb) := k4
      obtain ⟨ba, c1, rfl, hva⟩ := hva.below hb0
      obtain ⟨bb, c2, rfl, hvb⟩ := hvb.below hb0
      generalize X1.drew = Y0 at *
      refine RK.Any.call 4 19 24 #[.agg p.cells, .slice ba _ c1, .slice bb _ c2] (by kernel_rfl) rfl rfl (by rfl) (by go_simp) (Calls.mono (commitments_any p hG hH _ _ _ _ _ _ _ _ (hF j) (hF' j) (getU_le (hL j)) (getU_le (hL' j)) Y0 hva.1 hvb.1) ?_)
      rintro E Y1 ⟨u, rfl, ⟨hu, _⟩, hb2⟩
      obtain ⟨bu, cu, hue, _⟩ := hu.src
      generalize max (getU la L j) (getU lb L' j) = nn at hue
      subst hue
      have HS1 : PBox Y1 g p ∧ Box Y1 (g + 1) 28 v := ⟨HS0.1.below hb2, HS0.2.below hb2⟩
      refine ⟨_, rfl, fun _ => HS1, ?_⟩
      simp only [List.setIfInBounds_toArray, List.set_cons_zero, List.set_cons_succ]
      have k6b : Grow 27 (g + 1 + 1 + 1 + 1) C v j Y1 := k6'.as (fun j u _ h => hCs j u _ _ h (.of_as (.of_below hb2))) fun _ _ _ e => CellsAs.of_below hb2 _ _ _ _ e
      have hsY1 := hb2.size
      have hB2 : g + 1 + 1 + 1 + 1 ≤ Y1.heap.size := Nat.le_trans hB1' hb2.size
      obtain ⟨i0, hi, hz0, hz1, hz2⟩ := info_parts info_rows
      obtain ⟨v', Y3, hrun, g3, m3, o3, n3, l3, e1, e2, e3⟩ := k6b.more (S := 28) Try.underlying28 hi hz0 hz1 hz2 rfl (by decide) hB2 (by omega) (.slice bu nn cu) 1 rfl (by rw [hC]; exact hu.mono (by omega)) (fun j x Y h hs => hCs j x _ Y h hs)
      obtain ⟨ao', c', rfl⟩ := g3.slice
      have m2 := below_box Y1 (.cells #[(.slice bu nn cu)] 27)
      refine RK.Any.exec 5 20 (.slice (some ⟨Y1.heap.size, 0, none⟩) 1 1) (w1 := Y1.alloc (.cells #[(.slice bu nn cu)] 27)) (by kernel_rfl) rfl rfl (by rfl) (by go_simp) ⟨HS1.1.below m2, HS1.2.below m2⟩ ?_
      simp only [List.setIfInBounds_toArray, List.set_cons_zero, List.set_cons_succ]
      have p3 : PBox Y3 g p := (l3 g (by omega)).trans HS1.1
      have q3 : Box Y3 (g + 1) 28 v := (l3 (g + 1) (by omega)).trans HS1.2
      refine RK.Any.exec 6 21 (.slice ao' (j + 1) c') (w1 := Y3) (by kernel_rfl) rfl rfl (by rfl) (RK.exec_append _ _ _ _ rfl _ _ rfl rfl hrun) ⟨p3, q3⟩ ?_
      simp only [List.setIfInBounds_toArray, List.set_cons_zero, List.set_cons_succ]
      have cq := q3.cell
      have fq := q3.free
      refine RK.Any.store 7 (w1 := Y3.setCell ⟨g + 1, 0, none⟩ (.slice ao' (j + 1) c')) (by kernel_rfl) rfl rfl (by rfl) (by go_simp) (fun e => absurd rfl e) ?_
      refine RK.Any.done (by kernel_rfl) ?_
      have hd1 : Below g w0 Y1 := k1'.trans (hb2.mono (by omega))
      have hd3 : Below g w0 Y3 := hd1.trans ⟨e1, e2, e3, n3, fun k hk => l3 k (by omega)⟩
      have hset : ∀ k, k ≠ g + 1 → (Y3.setCell ⟨g + 1, 0, none⟩ (.slice ao' (j + 1) c')).heap[k]? = Y3.heap[k]? := fun k hk => Below.heap_setCell Y3 ⟨g + 1, 0, none⟩ (.slice ao' (j + 1) c') k hk
      have hlow : ∀ k, k < g + 1 + 1 + 1 + 1 → k ≠ g + 1 → (Y3.setCell ⟨g + 1, 0, none⟩ (.slice ao' (j + 1) c')).heap[k]? = Y0.heap[k]? := fun k hk hne => (hset k hne).trans ((l3 k hk).trans (hb2.block k (by omega)))
      have hs4 : g + 1 + 1 + 1 + 1 ≤ (Y3.setCell ⟨g + 1, 0, none⟩ (.slice ao' (j + 1) c')).heap.size := by rw [World.size_setCell]; omega
      have hsm4 : Sm 27 28 Y3 (Y3.setCell ⟨g + 1, 0, none⟩ (.slice ao' (j + 1) c')) := fun k cs t fr _ hne e => (hset k (fun e' => by
        rw [e', show Y3.heap[g + 1]? = _ from q3] at e
        injection e with e
        injection e with _ e _
        exact hne e.symm)).trans e
      refine ⟨⟨?_, hs4⟩, ((hO0.trans (.of_below hb2)).trans o3).trans (RL.Objs.setCell cq _)⟩
      rw [hI]
      refine ⟨hd3.setCell (p := ⟨g + 1, 0, none⟩) (by show g ≤ g + 1; omega) _, (hlow g (by omega) (by omega)).trans HS0.1, (hlow _ (by omega) (by omega)).trans k3', (hlow _ (by omega) (by omega)).trans k4', _, q3.set _, g3.as (fun j u _ h => hCs j u _ _ h hsm4) fun k cs hk e => (hset k (by omega)).trans e⟩
  case hend =>
    intro Y D hIY hD hBD hBY
    rw [hI] at hIY
    obtain ⟨k1, k2, k3, k4, v, k5, k6⟩ := hIY
    have cq := k5.cell
    have HK := Lib.hid (And.intro k1 k6)
    have HCH := Lib.hid hC
    have HCS := Lib.hid hCs
    have hmk : Marks [D] Y := ⟨by simp, fun E hE => by
      have e : E = D := by simpa using hE
      rw [e]; exact hD⟩
    have HMK := Lib.hid hmk
    clear k1 k2 k3 k4 k5 k6 hmk hC hCs hI hIA hIB z1 z2 z3 x4 b0 s4
    gi_wp2
    refine leaves_marks (B := g) [D] Y HMK.out (fun E hE => by
      have e : E = D := by simpa using hE
      omega) fun w' hb hcs => ?_
    refine ⟨v, by simp [results, Try.results12, go_sem], v, rfl, ⟨?_, HK.out.2.cap⟩, by rw [hg]; exact HK.out.1.trans hb⟩
    rw [hg]
    rcases HK.out.2.block with h | ⟨B, c, cs, h0, h1, h2, h3⟩
    · rw [hN]; exact .inl h
    · rw [hN]
      refine .inr ⟨B, c, cs, h0, by omega, hcs _ _ _ _ h2, fun i hi => ?_⟩
      obtain ⟨u, a1, a2⟩ := h3 i hi
      rw [HCH.out] at a2
      exact ⟨u, a1, (a2.as hcs).mono (by omega)⟩
end

section
attribute [-go_sem] Builtin.append_
set_option maxRecDepth 100000 in
set_option maxHeartbeats 8000000 in
/-- The commitments to polynomials of two. -/
theorem matrix_any (p : Pm) (hG : p.G < 18446744073709551616) (hH : p.H < 18446744073709551616) (ao bo : Option Addr) (la ca lb cb : Nat) (K K' : Nat → Nat) (L L' : Nat → Nat → Nat) (F F' : Nat → Nat → Nat → Nat) (hF : ∀ i j k, F i j k < 18446744073709551616) (hF' : ∀ i j k, F' i j k < 18446744073709551616) (hK : ∀ i, i < la → K i ≤ 1000) (hK' : ∀ i, i < lb → K' i ≤ 1000) (hL : ∀ i j, L i j ≤ 1000) (hL' : ∀ i j, L' i j ≤ 1000) (hla : la ≤ 1000) (hlb : lb ≤ 1000) (w0 : World) (ha : Cub w0 ao la K L F) (hb : Cub w0 bo lb K' L' F') :
    Calls Try.prog 15 #[.agg p.cells, .slice ao la ca, .slice bo lb cb] w0 fun e w' => ∃ v, e = .returned v ∧ (CubC w0.heap.size w' v (max la lb) (fun j => max (getU la K j) (getU lb K' j)) (fun j i => max (getU (getU la K j) (L j) i) (getU (getU lb K' j) (L' j) i)) (fun j i k => MM.comU p.P p.G p.H (getU (getU (getU la K j) (L j) i) (F j i) k) (getU (getU (getU lb K' j) (L' j) i) (F' j i) k)) ∧ CapOk v) ∧ Below w0.heap.size w0 w' := by
  refine (callsIn_wide (n := 4)).1 ?_
  obtain ⟨N, hN⟩ : ∃ N, max la lb = N := ⟨_, rfl⟩
  have HPRE := Lib.hid (And.intro ha hb)
  clear ha hb
  refine callsIn_of_wp_marks Try.func15 rfl trivial ?_ rfl
  simp only [Try.ntmps15, List.size_toArray, List.length_cons, List.length_nil, Nat.reduceAdd, Nat.reduceSub, Array.replicate_succ, Array.replicate_zero, List.push_toArray, List.append_toArray, List.nil_append, List.cons_append]
  gi_upto_region 2 with fail
  obtain ⟨g, hg⟩ : ∃ g, w0.heap.size = g := ⟨_, rfl⟩
  have x1 := PBox.new w0 p
  have b1 := below_box w0 (.cells p.cells 25)
  have s1 : (w0.alloc (.cells p.cells 25)).heap.size = g + 1 := by rw [World.size_alloc, hg]
  rw [hg] at x1 b1 ⊢
  generalize w0.alloc (.cells p.cells 25) = W1 at *
  have x2 := Box.new W1 29 (.slice none 0 0)
  have b2 := below_box W1 (.cells #[.slice none 0 0] 29)
  have s2 : (W1.alloc (.cells #[.slice none 0 0] 29)).heap.size = g + 1 + 1 := by rw [World.size_alloc, s1]
  rw [s1] at x2
  generalize W1.alloc (.cells #[.slice none 0 0] 29) = W2 at *
  have y1 := x1.below b2
  gi_wp2_with (refine ⟨trivial, ?_⟩; gi_at_call 28; refine (callsIn_wide.2 (bothMM_any _ _ _ _ _ _ _)).mono ?_; rintro E w' ⟨rfl, rfl⟩)
  have x3 := Box.new W2 29 (.slice ao la ca)
  have b3 := below_box W2 (.cells #[.slice ao la ca] 29)
  have s3 : (W2.alloc (.cells #[.slice ao la ca] 29)).heap.size = g + 1 + 1 + 1 := by rw [World.size_alloc, s2]
  rw [s2] at x3
  generalize W2.alloc (.cells #[.slice ao la ca] 29) = W3 at *
  have x4 := Box.new W3 29 (.slice bo lb cb)
  have b4 := below_box W3 (.cells #[.slice bo lb cb] 29)
  have s4 : (W3.alloc (.cells #[.slice bo lb cb] 29)).heap.size = g + 1 + 1 + 1 + 1 := by rw [World.size_alloc, s3]
  rw [s3] at x4
  generalize W3.alloc (.cells #[.slice bo lb cb] 29) = W4 at *
  have z1 := (y1.below b3).below b4
  have z2 := (x2.below b3).below b4
  have z3 := x3.below b4
  have b0 : Below g w0 W4 := ((b1.trans (b2.mono (by omega))).trans (b3.mono (by omega))).trans (b4.mono (by omega))
  clear x1 x2 x3 y1 b1 b2 b3 b4 s1 s2 s3
  obtain ⟨C, hC⟩ : ∃ C : Nat → Value → World → Prop, C = fun j u X => MatC (g + 1 + 1 + 1 + 1) X u (max (getU la K j) (getU lb K' j)) (fun i => max (getU (getU la K j) (L j) i) (getU (getU lb K' j) (L' j) i)) (fun i k => MM.comU p.P p.G p.H (getU (getU (getU la K j) (L j) i) (F j i) k) (getU (getU (getU lb K' j) (L' j) i) (F' j i) k)) := ⟨_, rfl⟩
  have hCs : ∀ j u X Y, C j u X → Sm 28 29 X Y → C j u Y := fun j u X Y h hs => by
    rw [hC] at h ⊢
    exact h.same fun B cs t ht e => hs _ _ _ _ (by rcases ht with rfl | rfl <;> decide) (by rcases ht with rfl | rfl <;> decide) e
  obtain ⟨I, hI⟩ : ∃ I : Nat → World → Prop, I = fun j X => Below g w0 X ∧ PBox X g p ∧ Box X (g + 1 + 1) 29 (.slice ao la ca) ∧ Box X (g + 1 + 1 + 1) 29 (.slice bo lb cb) ∧ ∃ v, Box X (g + 1) 29 v ∧ Grow 28 (g + 1 + 1 + 1 + 1) C v j X := ⟨_, rfl⟩
  have hIA : ∀ X, Below g w0 X → Cub X ao la K L F := fun X h => by rw [← hg] at h; exact HPRE.out.1.below h
  have hIB : ∀ X, Below g w0 X → Cub X bo lb K' L' F' := fun X h => by rw [← hg] at h; exact HPRE.out.2.below h
  have hmix : Try.prog.follows .mixedOrders = true := by kernel_rfl
  have hl4 : 1 ≤ 4 := by omega
  refine RL.range (gf := 39) (lb := #[.pointer (some ⟨g + 1 + 1, 0, none⟩), .pointer (some ⟨g + 1 + 1 + 1, 0, none⟩)]) (g + 1 + 1 + 1 + 1) N I (fun _ => False) (fun j args X => ∃ va vb, args = #[va, vb] ∧ MatV X va (getU la K j) (L j) (F j) ∧ MatV X vb (getU lb K' j) (L' j) (F' j)) rfl (enters_of Try.func39 (by kernel_rfl) rfl) (Nat.le_of_eq s4.symm) ?hS (fun _ _ h => h.elim) ?hE ?h0 ?hseq ?hround ?hend (fun _ _ h => h.elim)
  case hS =>
    intro j X Y h hb hc
    rw [hI] at h ⊢
    obtain ⟨h1, h2, h3, h4, v, h5, h6⟩ := h
    exact ⟨h1.trans (hb.mono (by omega)), h2.as hc, h3.as hc, h4.as hc, v, h5.as hc, h6.as (fun j u _ h => hCs j u _ _ h (.of_as hc)) fun _ _ _ e => hc _ _ _ _ e⟩
  case hE =>
    rintro j args X Y ⟨va, vb, rfl, h1, h2⟩ hc
    exact ⟨va, vb, rfl, h1.as hc, h2.as hc⟩
  case h0 =>
    rw [hI]
    exact ⟨b0, z1, z3, x4, _, z2, Grow.start _ _ _ _⟩
  case hseq =>
    rw [← hN]
    refine bothMM_seq (4 - 1) (by omega) (g + 1 + 1) (g + 1 + 1 + 1) ao bo la ca lb cb (by omega) (by omega) _ (fun j va X => MatV X va (getU la K j) (L j) (F j)) (fun j vb X => MatV X vb (getU lb K' j) (L' j) (F' j)) (fun j X h => ?_) (fun j i X h => ?_) (fun j i X h => ?_) (fun j v X Y h hb => h.below hb)
    · rw [hI] at h; exact ⟨h.1.2.2.1, h.1.2.2.2.1⟩
    · rw [hI] at h
      exact (atM_any ao la ca i K L F X (hIA X h.1.1)).mono (fun e Y ⟨⟨v, h1, h2⟩, h3⟩ => ⟨⟨v, h1, h3 ▸ h2⟩, h3⟩)
    · rw [hI] at h
      exact (atM_any bo lb cb i K' L' F' X (hIB X h.1.1)).mono (fun e Y ⟨⟨v, h1, h2⟩, h3⟩ => ⟨⟨v, h1, h3 ▸ h2⟩, h3 ▸ Below.refl _ _⟩)
  case hround =>
    rintro l j args X hj hIX ⟨va0, vb0, rfl, hva0, hvb0⟩ hBl hBX
    apply Exists.intro
    refine ⟨X, Below.refl _ _, rfl, fun K hK => ?_, fun X1 hcX hI1 hE1 hB1 => ?_⟩
    · gi_wp2
      exact hK
    · rw [hI] at hI1
      obtain ⟨k1, k2, k3, k4, v, k5, k6⟩ := hI1
      clear hva0 hvb0 hIX hBX hcX
      obtain ⟨va, vb, hargs, hva, hvb⟩ := hE1
      obtain ⟨rfl, rfl⟩ : va0 = va ∧ vb0 = vb := by simpa using hargs
      clear hargs
      gi_upto_region 5 with fail
      refine RK.region_in l _ (fun W => PBox W g p ∧ Box W (g + 1) 29 v) 7 (by kernel_rfl) (by simp) (fun h => by obtain ⟨_, _, h⟩ := h; exact h) ?_
      have HS0 : PBox X1.drew g p ∧ Box X1.drew (g + 1) 29 v := ⟨k2, k5⟩
      refine RK.Any.take 0 15 v rfl rfl (by kernel_rfl) (by kernel_rfl) (by kernel_rfl) (by kernel_rfl) (fun _ _ _ h => h) (by rfl) (fun W' hb => ?_) HS0 ?_
      · have c := hb.2.cell; go_simp
      simp only [List.setIfInBounds_toArray, List.set_cons_zero, List.set_cons_succ]
      refine RK.Any.take 1 16 (.agg p.cells) rfl rfl (by kernel_rfl) (by kernel_rfl) (by kernel_rfl) (by kernel_rfl) (fun _ _ _ h => h) (by rfl) (fun W' hb => load_pbox hb.1 rfl rfl) HS0 ?_
      simp only [List.setIfInBounds_toArray, List.set_cons_zero, List.set_cons_succ]
      refine RK.Any.take 2 17 (va0) rfl rfl (by kernel_rfl) (by kernel_rfl) (by kernel_rfl) (by kernel_rfl) (fun _ _ _ h => h) (by rfl) (fun W' hb => ?_) HS0 ?_
      · skip; go_simp
      simp only [List.setIfInBounds_toArray, List.set_cons_zero, List.set_cons_succ]
      refine RK.Any.take 3 18 (vb0) rfl rfl (by kernel_rfl) (by kernel_rfl) (by kernel_rfl) (by kernel_rfl) (fun _ _ _ h => h) (by rfl) (fun W' hb => ?_) HS0 ?_
      · skip; go_simp
      simp only [List.setIfInBounds_toArray, List.set_cons_zero, List.set_cons_succ]
      have hb0 : Below X1.heap.size X1 X1.drew := below_drewN' X1 1 _
      have k6' : Grow 28 (g + 1 + 1 + 1 + 1) C v j X1.drew := k6.as (fun j u _ h => hCs j u _ _ h (.of_as (.of_below hb0))) fun _ _ _ e => e
      have k1' : Below g w0 X1.drew := k1.trans (hb0.mono (by omega))
      have hB1' : g + 1 + 1 + 1 + 1 ≤ X1.drew.heap.size := hB1
      have hO0 : RL.Objs X1 X1.drew := .of_below hb0
      have k3' : Box X1.drew (g + 1 + 1) 29 (.slice ao la ca) := k3
      have k4' : Box X1.drew (g + 1 + 1 + 1) 29 (.slice bo lb cb) := k4
      obtain ⟨ba, c1, rfl, hva⟩ := hva.below hb0
      obtain ⟨bb, c2, rfl, hvb⟩ := hvb.below hb0
      generalize X1.drew = Y0 at *
      refine RK.Any.call 4 19 12 #[.agg p.cells, .slice ba _ c1, .slice bb _ c2] (by kernel_rfl) rfl rfl (by rfl) (by go_simp) (Calls.mono (coms_any p hG hH _ _ _ _ _ _ _ _ _ _ (hF j) (hF' j) (fun i _ => hL j i) (fun i _ => hL' j i) (getU_le (hK j)) (getU_le (hK' j)) Y0 hva.1 hvb.1) ?_)
      rintro E Y1 ⟨u, rfl, ⟨hu, _⟩, hb2⟩
      obtain ⟨bu, cu, hue, _⟩ := hu.matV
      generalize max (getU la K j) (getU lb K' j) = nn at hue
      subst hue
      have HS1 : PBox Y1 g p ∧ Box Y1 (g + 1) 29 v := ⟨HS0.1.below hb2, HS0.2.below hb2⟩
      refine ⟨_, rfl, fun _ => HS1, ?_⟩
      simp only [List.setIfInBounds_toArray, List.set_cons_zero, List.set_cons_succ]
      have k6b : Grow 28 (g + 1 + 1 + 1 + 1) C v j Y1 := k6'.as (fun j u _ h => hCs j u _ _ h (.of_as (.of_below hb2))) fun _ _ _ e => CellsAs.of_below hb2 _ _ _ _ e
      have hsY1 := hb2.size
      have hB2 : g + 1 + 1 + 1 + 1 ≤ Y1.heap.size := Nat.le_trans hB1' hb2.size
      obtain ⟨i0, hi, hz0, hz1, hz2⟩ := info_parts info_cubs
      obtain ⟨v', Y3, hrun, g3, m3, o3, n3, l3, e1, e2, e3⟩ := k6b.more (S := 29) Try.underlying29 hi hz0 hz1 hz2 rfl (by decide) hB2 (by omega) (.slice bu nn cu) 1 rfl (by rw [hC]; exact hu.mono (by omega)) (fun j x Y h hs => hCs j x _ Y h hs)
      obtain ⟨ao', c', rfl⟩ := g3.slice
      have m2 := below_box Y1 (.cells #[(.slice bu nn cu)] 28)
      refine RK.Any.exec 5 20 (.slice (some ⟨Y1.heap.size, 0, none⟩) 1 1) (w1 := Y1.alloc (.cells #[(.slice bu nn cu)] 28)) (by kernel_rfl) rfl rfl (by rfl) (by go_simp) ⟨HS1.1.below m2, HS1.2.below m2⟩ ?_
      simp only [List.setIfInBounds_toArray, List.set_cons_zero, List.set_cons_succ]
      have p3 : PBox Y3 g p := (l3 g (by omega)).trans HS1.1
      have q3 : Box Y3 (g + 1) 29 v := (l3 (g + 1) (by omega)).trans HS1.2
      refine RK.Any.exec 6 21 (.slice ao' (j + 1) c') (w1 := Y3) (by kernel_rfl) rfl rfl (by rfl) (RK.exec_append _ _ _ _ rfl _ _ rfl rfl hrun) ⟨p3, q3⟩ ?_
      simp only [List.setIfInBounds_toArray, List.set_cons_zero, List.set_cons_succ]
      have cq := q3.cell
      have fq := q3.free
      refine RK.Any.store 7 (w1 := Y3.setCell ⟨g + 1, 0, none⟩ (.slice ao' (j + 1) c')) (by kernel_rfl) rfl rfl (by rfl) (by go_simp) (fun e => absurd rfl e) ?_
      refine RK.Any.done (by kernel_rfl) ?_
      have hd1 : Below g w0 Y1 := k1'.trans (hb2.mono (by omega))
      have hd3 : Below g w0 Y3 := hd1.trans ⟨e1, e2, e3, n3, fun k hk => l3 k (by omega)⟩
      have hset : ∀ k, k ≠ g + 1 → (Y3.setCell ⟨g + 1, 0, none⟩ (.slice ao' (j + 1) c')).heap[k]? = Y3.heap[k]? := fun k hk => Below.heap_setCell Y3 ⟨g + 1, 0, none⟩ (.slice ao' (j + 1) c') k hk
      have hlow : ∀ k, k < g + 1 + 1 + 1 + 1 → k ≠ g + 1 → (Y3.setCell ⟨g + 1, 0, none⟩ (.slice ao' (j + 1) c')).heap[k]? = Y0.heap[k]? := fun k hk hne => (hset k hne).trans ((l3 k hk).trans (hb2.block k (by omega)))
      have hs4 : g + 1 + 1 + 1 + 1 ≤ (Y3.setCell ⟨g + 1, 0, none⟩ (.slice ao' (j + 1) c')).heap.size := by rw [World.size_setCell]; omega
      have hsm4 : Sm 28 29 Y3 (Y3.setCell ⟨g + 1, 0, none⟩ (.slice ao' (j + 1) c')) := fun k cs t fr _ hne e => (hset k (fun e' => by
        rw [e', show Y3.heap[g + 1]? = _ from q3] at e
        injection e with e
        injection e with _ e _
        exact hne e.symm)).trans e
      refine ⟨⟨?_, hs4⟩, ((hO0.trans (.of_below hb2)).trans o3).trans (RL.Objs.setCell cq _)⟩
      rw [hI]
      refine ⟨hd3.setCell (p := ⟨g + 1, 0, none⟩) (by show g ≤ g + 1; omega) _, (hlow g (by omega) (by omega)).trans HS0.1, (hlow _ (by omega) (by omega)).trans k3', (hlow _ (by omega) (by omega)).trans k4', _, q3.set _, g3.as (fun j u _ h => hCs j u _ _ h hsm4) fun k cs hk e => (hset k (by omega)).trans e⟩
  case hend =>
    intro Y D hIY hD hBD hBY
    rw [hI] at hIY
    obtain ⟨k1, k2, k3, k4, v, k5, k6⟩ := hIY
    have cq := k5.cell
    have HK := Lib.hid (And.intro k1 k6)
    have HCH := Lib.hid hC
    have HCS := Lib.hid hCs
    have hmk : Marks [D] Y := ⟨by simp, fun E hE => by
      have e : E = D := by simpa using hE
      rw [e]; exact hD⟩
    have HMK := Lib.hid hmk
    clear k1 k2 k3 k4 k5 k6 hmk hC hCs hI hIA hIB z1 z2 z3 x4 b0 s4
    gi_wp2
    refine leaves_marks (B := g) [D] Y HMK.out (fun E hE => by
      have e : E = D := by simpa using hE
      omega) fun w' hb hcs => ?_
    refine ⟨v, by simp [results, Try.results15, go_sem], v, rfl, ⟨?_, HK.out.2.cap⟩, by rw [hg]; exact HK.out.1.trans hb⟩
    rw [hg]
    rcases HK.out.2.block with h | ⟨B, c, cs, h0, h1, h2, h3⟩
    · rw [hN]; exact .inl h
    · rw [hN]
      refine .inr ⟨B, c, cs, h0, by omega, hcs _ _ _ _ h2, fun i hi => ?_⟩
      obtain ⟨u, a1, a2⟩ := h3 i hi
      rw [HCH.out] at a2
      exact ⟨u, a1, (a2.as hcs).mono (by omega)⟩
end

end M
end Go.Proofs.Ytlnlepadninnaaa

/- The walks of group.Commit and group.At: what each answers. -/
import Derived.Test.YtmeaiindbkkkiaaDoorGrpW1
import Derived.Deep.Cut
import Derived.Deep.DeepCutAuto
import Derived.Deep.RegionHeld3
namespace Go.Proofs.YtmeaiindbkkkiaaDoor
open Go Go.RowKit Go.Lib
namespace M
/-- Rows that lie as they were laid; nothing old has changed. -/
structure Inr (w0 : World) (rows : List (Nat × Array Value × TypeId)) (w : World) : Prop where
  rows : ∀ r ∈ rows, w.heap[r.1]? = some (.cells r.2.1 r.2.2 (0, 0))
  below : Below w0.heap.size w0 w
theorem Inr.new (w : World) : Inr w [] w := ⟨fun _ h => by simp at h, Below.refl _ _⟩
theorem Inr.step {w0 w w' : World} {rows : List (Nat × Array Value × TypeId)} (h : Inr w0 rows w) (hb : Below w.heap.size w w') : Inr w0 rows w' :=
  ⟨fun r hr => (hb.block _ (row_lt (h.rows r hr))).trans (h.rows r hr), h.below.trans (hb.mono h.below.size)⟩
theorem Inr.drew {w0 w : World} {rows : List (Nat × Array Value × TypeId)} (h : Inr w0 rows w) : Inr w0 rows w.drew := ⟨h.rows, h.below.drew⟩
theorem Inr.alloc {w0 w : World} {rows : List (Nat × Array Value × TypeId)} (h : Inr w0 rows w) (o : Obj) : Inr w0 rows (w.alloc o) := h.step ((Below.refl _ _).alloc (Nat.le_refl _) _)
theorem Inr.drewN {w0 w : World} {rows : List (Nat × Array Value × TypeId)} (h : Inr w0 rows w) (n : Nat) : Inr w0 rows (w.drewN n) := ⟨h.rows, h.below.trans (below_drewN' w n _)⟩
theorem Inr.add {w0 w : World} {rows : List (Nat × Array Value × TypeId)} (h : Inr w0 rows w) (b : Nat) (cs : Array Value) (t : TypeId) (hb : w.heap[b]? = some (.cells cs t (0, 0))) : Inr w0 ((b, cs, t) :: rows) w :=
  ⟨fun r hr => by rcases List.mem_cons.1 hr with e | hr; · subst e; exact hb
                  · exact h.rows r hr, h.below⟩
theorem Inr.put {w0 w : World} {rows : List (Nat × Array Value × TypeId)} (h : Inr w0 rows w) (cs : Array Value) (t : TypeId) : Inr w0 ((w.heap.size, cs, t) :: rows) (w.alloc (.cells cs t)) := (h.alloc _).add _ _ _ (heap_alloc_new _ _)
theorem Inr.cell {w0 w : World} {rows : List (Nat × Array Value × TypeId)} (h : Inr w0 rows w) {b : Nat} {cs : Array Value} {t : TypeId} (hm : (b, cs, t) ∈ rows) (j : Nat) : w.cell? ⟨b, j, none⟩ = cs[j]? := cell_of_row w b j _ _ _ (h.rows _ hm)
attribute [local go_sem] setCell_drewN alloc_drewN

set_option maxHeartbeats 4000000 in
set_option maxRecDepth 100000 in
theorem commit_core (p : Pm) (s b x y r : Nat)
    (H1 : RetB 13 #[.agg p.cells, .int .u64 (p.G : Int), .int .u64 (s : Int)] (.int .u64 (x : Int)))
    (H2 : RetB 13 #[.agg p.cells, .int .u64 (p.H : Int), .int .u64 (b : Int)] (.int .u64 (y : Int)))
    (HT : ∀ (W : World) (b : Nat), W.heap[b]? = some (.cells #[.int .u64 (x : Int), .int .u64 (y : Int)] 23 (0, 0)) → Calls Tryd.prog 15 #[.agg p.cells, .slice (some ⟨b, 0, none⟩) 2 2] W fun e w' => e = .returned (.int .u64 (r : Int)) ∧ Below W.heap.size W w') :
    RetB 16 #[.agg p.cells, .agg (pair s b)] (.int .u64 (r : Int)) := by
  intro w
  have HI1 : Hid (Inr w [(w.heap.size + 1, pair s b, 35), (w.heap.size, p.cells, 25)] ((w.alloc (.cells p.cells 25)).alloc (.cells (pair s b) 35))) := Lib.hid (((Inr.new w).put p.cells 25).put (pair s b) 35 |> fun h => by simpa using h)
  go_enter Tryd.func16, Tryd.ntmps16
  go_upto_region 1 with fail
  generalize hg1 : w.heap.size + 1 = g1 at *
  generalize hg0 : w.heap.size = g0 at HI1
  generalize (w.alloc (.cells p.cells 25)).alloc (.cells (pair s b) 35) = w1 at *
  have HJ := HI1.out
  clear HI1 hg0 hg1
  have kS1 : ∀ {w' : World}, Inr w [(g1, pair s b, 35), (g0, p.cells, 25)] w' → Inr w [(g1, pair s b, 35), (g0, p.cells, 25)] w' ∧ w'.cell? ⟨g1, 0, none⟩ = some (.int .u64 (s : Int)) ∧ w'.cell? ⟨g1, 1, none⟩ = some (.int .u64 (b : Int)) ∧ w'.cell? ⟨g0, 0, none⟩ = some (.int .u64 (p.P : Int)) ∧ w'.cell? ⟨g0, 1, none⟩ = some (.int .u64 (p.Q : Int)) ∧ w'.cell? ⟨g0, 2, none⟩ = some (.int .u64 (p.G : Int)) ∧ w'.cell? ⟨g0, 3, none⟩ = some (.int .u64 (p.H : Int)) ∧ w'.cell? ⟨g0, 4, none⟩ = some (.int .i64 p.Nodes) ∧ w'.cell? ⟨g0, 5, none⟩ = some (.int .i64 p.N) ∧ w'.cell? ⟨g0, 6, none⟩ = some (.int .i64 p.T) ∧ w'.cell? ⟨g0, 7, none⟩ = some (.int .i64 p.K) ∧ w'.cell? ⟨g0, 8, none⟩ = some (.int .i64 p.D) ∧ w'.cell? ⟨g0, 9, none⟩ = some (.int .i64 p.R) ∧ w'.cell? ⟨g0, 10, none⟩ = some (.int .i64 p.M) ∧ w'.cell? ⟨g0, 11, none⟩ = some (.int .i64 p.X) := fun h => ⟨h, h.cell (b := g1) (cs := pair s b) (t := 35) (by simp) 0, h.cell (b := g1) (cs := pair s b) (t := 35) (by simp) 1, h.cell (b := g0) (cs := p.cells) (t := 25) (by simp) 0, h.cell (b := g0) (cs := p.cells) (t := 25) (by simp) 1, h.cell (b := g0) (cs := p.cells) (t := 25) (by simp) 2, h.cell (b := g0) (cs := p.cells) (t := 25) (by simp) 3, h.cell (b := g0) (cs := p.cells) (t := 25) (by simp) 4, h.cell (b := g0) (cs := p.cells) (t := 25) (by simp) 5, h.cell (b := g0) (cs := p.cells) (t := 25) (by simp) 6, h.cell (b := g0) (cs := p.cells) (t := 25) (by simp) 7, h.cell (b := g0) (cs := p.cells) (t := 25) (by simp) 8, h.cell (b := g0) (cs := p.cells) (t := 25) (by simp) 9, h.cell (b := g0) (cs := p.cells) (t := 25) (by simp) 10, h.cell (b := g0) (cs := p.cells) (t := 25) (by simp) 11⟩
  obtain ⟨_, y0, y1, y2, y3, y4, y5, y6, y7, y8, y9, y10, y11, y12, y13⟩ := kS1 HJ
  go_region_held3 (fun w' => Inr w [(g1, pair s b, 35), (g0, p.cells, 25)] w' ∧ w'.cell? ⟨g1, 0, none⟩ = some (.int .u64 (s : Int)) ∧ w'.cell? ⟨g1, 1, none⟩ = some (.int .u64 (b : Int)) ∧ w'.cell? ⟨g0, 0, none⟩ = some (.int .u64 (p.P : Int)) ∧ w'.cell? ⟨g0, 1, none⟩ = some (.int .u64 (p.Q : Int)) ∧ w'.cell? ⟨g0, 2, none⟩ = some (.int .u64 (p.G : Int)) ∧ w'.cell? ⟨g0, 3, none⟩ = some (.int .u64 (p.H : Int)) ∧ w'.cell? ⟨g0, 4, none⟩ = some (.int .i64 p.Nodes) ∧ w'.cell? ⟨g0, 5, none⟩ = some (.int .i64 p.N) ∧ w'.cell? ⟨g0, 6, none⟩ = some (.int .i64 p.T) ∧ w'.cell? ⟨g0, 7, none⟩ = some (.int .i64 p.K) ∧ w'.cell? ⟨g0, 8, none⟩ = some (.int .i64 p.D) ∧ w'.cell? ⟨g0, 9, none⟩ = some (.int .i64 p.R) ∧ w'.cell? ⟨g0, 10, none⟩ = some (.int .i64 p.M) ∧ w'.cell? ⟨g0, 11, none⟩ = some (.int .i64 p.X)) (first | exact kS1 HJ | exact kS1 (Inr.drew HJ) | exact kS1 (Inr.drewN HJ _) | exact kS1 (Inr.alloc HJ _) | exact kS1 (Inr.alloc (Inr.drew HJ) _) | exact kS1 (Inr.alloc (Inr.drewN HJ _) _) | exact kS1 (Inr.drew (Inr.alloc HJ _)) | exact kS1 (Inr.drewN (Inr.alloc HJ _) _))
    (first | (go_at_call 13; (first | (with_reducible refine (H1.at _).mono ?_) | (with_reducible refine (H2.at _).mono ?_)); rintro e w1 ⟨rfl, hb⟩; (first | (have HJ := Inr.step HJ hb) | (have HJ := Inr.step (Inr.drew HJ) hb) | (have HJ := Inr.step (Inr.drewN HJ _) hb) | (have HJ := Inr.step (Inr.alloc HJ _) hb) | (have HJ := Inr.step (Inr.alloc (Inr.drew HJ) _) hb) | (have HJ := Inr.step (Inr.alloc (Inr.drewN HJ _) _) hb) | (have HJ := Inr.step (Inr.drew (Inr.alloc HJ _)) hb) | (have HJ := Inr.step (Inr.drewN (Inr.alloc HJ _) _) hb)); clear hb) | (go_at_call 15; (refine (HT _ _ (heap_alloc_new _ _)).mono ?_); rintro e w1 ⟨rfl, hb⟩; (first | (have HJ := Inr.step HJ hb) | (have HJ := Inr.step (Inr.drew HJ) hb) | (have HJ := Inr.step (Inr.drewN HJ _) hb) | (have HJ := Inr.step (Inr.alloc HJ _) hb) | (have HJ := Inr.step (Inr.alloc (Inr.drew HJ) _) hb) | (have HJ := Inr.step (Inr.alloc (Inr.drewN HJ _) _) hb) | (have HJ := Inr.step (Inr.drew (Inr.alloc HJ _)) hb) | (have HJ := Inr.step (Inr.drewN (Inr.alloc HJ _) _) hb)); clear hb))
  go_wp2_with fail
  go_ret
  exact ⟨rfl, HJ.below⟩
theorem commit_any (p : Pm) (s b : Nat) (hs : s < 18446744073709551616) (hb : b < 18446744073709551616) (hG : p.G < 18446744073709551616) (hH : p.H < 18446744073709551616) :
    RetB 16 #[.agg p.cells, .agg (pair s b)] (.int .u64 ((MM.comU p.P p.G p.H s b : Nat) : Int)) :=
  commit_core p s b _ _ _ (power_any p p.G s hG hs) (power_any p p.H b hH hb) (times_two p _ _ _ (MM.powU_lt _ _ _) (MM.powU_lt _ _ _) rfl)

set_option maxHeartbeats 4000000 in
set_option maxRecDepth 100000 in
/-- One round of At: the product so far times the number to its power. -/
theorem at_core (p : Pm) (a : Addr) (n cap i : Nat) (z u f : Nat → Nat) (hn : n ≤ 9223372036854775807) (W : World) (hc : Row W a n z)
    (H0 : RetB 15 #[.agg p.cells, .slice none 0 0] (.int .u64 ((f 0 : Nat) : Int)))
    (H1 : ∀ k, k < n → Ret 24 #[.int .u64 (i : Int), .int .u64 (k : Int), .int .u64 (p.Q : Int)] (.int .u64 ((u k : Nat) : Int)))
    (H2 : ∀ k, k < n → ∃ y : Nat, RetB 13 #[.agg p.cells, .int .u64 ((z k : Nat) : Int), .int .u64 ((u k : Nat) : Int)] (.int .u64 (y : Int)) ∧
      ∀ (W : World) (b : Nat), W.heap[b]? = some (.cells #[.int .u64 ((f k : Nat) : Int), .int .u64 (y : Int)] 23 (0, 0)) → Calls Tryd.prog 15 #[.agg p.cells, .slice (some ⟨b, 0, none⟩) 2 2] W fun e w' => e = .returned (.int .u64 ((f (k + 1) : Nat) : Int)) ∧ Below W.heap.size W w') :
    Calls Tryd.prog 17 #[.agg p.cells, .slice (some a) n cap, .int .u64 (i : Int)] W fun e w' => e = .returned (.int .u64 ((f n : Nat) : Int)) ∧ Below W.heap.size W w' := by
  have HI1 : Hid (Inr W [(W.heap.size, p.cells, 25)] (W.alloc (.cells p.cells 25))) := Lib.hid ((Inr.new W).put p.cells 25)
  have HR := Lib.hid hc
  have HH1 := Lib.hid H1
  have HH2 := Lib.hid H2
  clear hc H1 H2
  go_enter Tryd.func17, Tryd.ntmps17
  go_upto_region 1 with fail
  generalize hg0 : W.heap.size = g0 at HI1 ⊢
  have HE := Lib.hid hg0
  clear hg0
  generalize W.alloc (.cells p.cells 25) = w1 at *
  go_wp2_with (first | (refine wpList_row_if ?_ 25 _ rfl g0 rfl 25 p.cells (0, 0) _ (HI1.out.rows (g0, p.cells, 25) (by simp)) Tryd.underlying25 rfl (by kernel_rfl) ?_; first | rfl | (simp [Region.wanted, yielded]; done)) | (go_at_call 15; (with_reducible refine (H0.at _).mono ?_); rintro e w1 ⟨rfl, hb⟩; replace HI1 := Lib.hid (HI1.out.step hb); clear hb))
  go_loopw [7, 14] (fun s7 s14 wx => ∃ k : Nat, k ≤ n ∧ s14 = .int .i64 (k : Int) ∧ s7 = .int .u64 ((f k : Nat) : Int) ∧ Hid (Inr W [(g0, p.cells, 25)] wx)) (fun _ s14 _ => n - (RowKit.intOf s14).toNat)
  case atStart => exact ⟨0, Nat.zero_le _, rfl, rfl, HI1⟩
  case round =>
    obtain ⟨k, hk, rfl, rfl, HJ0⟩ := hrel
    rename_i wr
    by_cases hlt : k < n
    · obtain ⟨y, H2, HT⟩ := HH2.out k hlt
      have H1 := HH1.out k hlt
      clear HI1 HH1 HH2
      have hcell : wr.cell? (a.add k) = some (.int .u64 ((z k : Nat) : Int)) := (HR.out.below HJ0.out.below) k hlt
      have HJ := HJ0.out
      go_upto_region 5 with fail
      clear hcell
      have hwk : IntKind.u64.wrap (k : Int) = (k : Int) := wrapN _ (by omega)
      have kS2 : ∀ {w' : World}, Inr W [(g0, p.cells, 25)] w' → Inr W [(g0, p.cells, 25)] w' ∧ w'.cell? ⟨g0, 0, none⟩ = some (.int .u64 (p.P : Int)) ∧ w'.cell? ⟨g0, 1, none⟩ = some (.int .u64 (p.Q : Int)) ∧ w'.cell? ⟨g0, 2, none⟩ = some (.int .u64 (p.G : Int)) ∧ w'.cell? ⟨g0, 3, none⟩ = some (.int .u64 (p.H : Int)) ∧ w'.cell? ⟨g0, 4, none⟩ = some (.int .i64 p.Nodes) ∧ w'.cell? ⟨g0, 5, none⟩ = some (.int .i64 p.N) ∧ w'.cell? ⟨g0, 6, none⟩ = some (.int .i64 p.T) ∧ w'.cell? ⟨g0, 7, none⟩ = some (.int .i64 p.K) ∧ w'.cell? ⟨g0, 8, none⟩ = some (.int .i64 p.D) ∧ w'.cell? ⟨g0, 9, none⟩ = some (.int .i64 p.R) ∧ w'.cell? ⟨g0, 10, none⟩ = some (.int .i64 p.M) ∧ w'.cell? ⟨g0, 11, none⟩ = some (.int .i64 p.X) := fun h => ⟨h, h.cell (b := g0) (cs := p.cells) (t := 25) (by simp) 0, h.cell (b := g0) (cs := p.cells) (t := 25) (by simp) 1, h.cell (b := g0) (cs := p.cells) (t := 25) (by simp) 2, h.cell (b := g0) (cs := p.cells) (t := 25) (by simp) 3, h.cell (b := g0) (cs := p.cells) (t := 25) (by simp) 4, h.cell (b := g0) (cs := p.cells) (t := 25) (by simp) 5, h.cell (b := g0) (cs := p.cells) (t := 25) (by simp) 6, h.cell (b := g0) (cs := p.cells) (t := 25) (by simp) 7, h.cell (b := g0) (cs := p.cells) (t := 25) (by simp) 8, h.cell (b := g0) (cs := p.cells) (t := 25) (by simp) 9, h.cell (b := g0) (cs := p.cells) (t := 25) (by simp) 10, h.cell (b := g0) (cs := p.cells) (t := 25) (by simp) 11⟩
      obtain ⟨_, y0, y1, y2, y3, y4, y5, y6, y7, y8, y9, y10, y11⟩ := kS2 HJ
      go_region_held3 (fun w' => Inr W [(g0, p.cells, 25)] w' ∧ w'.cell? ⟨g0, 0, none⟩ = some (.int .u64 (p.P : Int)) ∧ w'.cell? ⟨g0, 1, none⟩ = some (.int .u64 (p.Q : Int)) ∧ w'.cell? ⟨g0, 2, none⟩ = some (.int .u64 (p.G : Int)) ∧ w'.cell? ⟨g0, 3, none⟩ = some (.int .u64 (p.H : Int)) ∧ w'.cell? ⟨g0, 4, none⟩ = some (.int .i64 p.Nodes) ∧ w'.cell? ⟨g0, 5, none⟩ = some (.int .i64 p.N) ∧ w'.cell? ⟨g0, 6, none⟩ = some (.int .i64 p.T) ∧ w'.cell? ⟨g0, 7, none⟩ = some (.int .i64 p.K) ∧ w'.cell? ⟨g0, 8, none⟩ = some (.int .i64 p.D) ∧ w'.cell? ⟨g0, 9, none⟩ = some (.int .i64 p.R) ∧ w'.cell? ⟨g0, 10, none⟩ = some (.int .i64 p.M) ∧ w'.cell? ⟨g0, 11, none⟩ = some (.int .i64 p.X)) (first | exact kS2 HJ | exact kS2 (Inr.drew HJ) | exact kS2 (Inr.drewN HJ _) | exact kS2 (Inr.alloc HJ _) | exact kS2 (Inr.alloc (Inr.drew HJ) _) | exact kS2 (Inr.alloc (Inr.drewN HJ _) _) | exact kS2 (Inr.drew (Inr.alloc HJ _)) | exact kS2 (Inr.drewN (Inr.alloc HJ _) _))
        (first | (go_at_call 24; (with_reducible refine (H1.at _).mono ?_); rintro e w1 ⟨rfl, nd, rfl⟩) | (go_at_call 13; (with_reducible refine (H2.at _).mono ?_); rintro e w1 ⟨rfl, hb⟩; (first | (have HJ := Inr.step HJ hb) | (have HJ := Inr.step (Inr.drew HJ) hb) | (have HJ := Inr.step (Inr.drewN HJ _) hb) | (have HJ := Inr.step (Inr.alloc HJ _) hb) | (have HJ := Inr.step (Inr.alloc (Inr.drew HJ) _) hb) | (have HJ := Inr.step (Inr.alloc (Inr.drewN HJ _) _) hb) | (have HJ := Inr.step (Inr.drew (Inr.alloc HJ _)) hb) | (have HJ := Inr.step (Inr.drewN (Inr.alloc HJ _) _) hb)); clear hb) | (go_at_call 15; (refine (HT _ _ (heap_alloc_new _ _)).mono ?_); rintro e w1 ⟨rfl, hb⟩; (first | (have HJ := Inr.step HJ hb) | (have HJ := Inr.step (Inr.drew HJ) hb) | (have HJ := Inr.step (Inr.drewN HJ _) hb) | (have HJ := Inr.step (Inr.alloc HJ _) hb) | (have HJ := Inr.step (Inr.alloc (Inr.drew HJ) _) hb) | (have HJ := Inr.step (Inr.alloc (Inr.drewN HJ _) _) hb) | (have HJ := Inr.step (Inr.drew (Inr.alloc HJ _)) hb) | (have HJ := Inr.step (Inr.drewN (Inr.alloc HJ _) _) hb)); clear hb))
      clear hwk kS2
      go_wp2_with fail
      go_roundw
      case rel => exact ⟨k + 1, by omega, by go_num, rfl, HJ⟩
      case measure => simp [RowKit.intOf]; omega
    · obtain rfl : k = n := by omega
      go_wp2_with fail
      go_ret
      exact ⟨rfl, by first | exact HJ0.out.below | (rw [HE.out]; exact HJ0.out.below) | exact HE.out ▸ HJ0.out.below⟩

theorem at_any (p : Pm) (a : Addr) (n cap i : Nat) (z : Nat → Nat) (hz : ∀ k, k < n → z k < 18446744073709551616) (hi : i < 18446744073709551616) (hn : n ≤ 9223372036854775807) (W : World) (hc : Row W a n z) :
    Calls Tryd.prog 17 #[.agg p.cells, .slice (some a) n cap, .int .u64 (i : Int)] W fun e w' => e = .returned (.int .u64 ((MM.atN p.P p.Q i z n : Nat) : Int)) ∧ Below W.heap.size W w' :=
  at_core p a n cap i z (fun k => MM.powU i k p.Q) (MM.atN p.P p.Q i z) hn W hc (times_nil p) (fun k hk => ret_powU i k p.Q hi (by omega))
    (fun k hk => ⟨_, power_any p (z k) (MM.powU i k p.Q) (hz k hk) (MM.powU_lt _ _ _), times_two p _ _ _ (MM.atN_lt _ _ _ _ _) (MM.powU_lt _ _ _) rfl⟩)
set_option maxHeartbeats 400000 in
theorem at_nil (p : Pm) (i : Nat) : RetB 17 #[.agg p.cells, .slice none 0 0, .int .u64 (i : Int)] (.int .u64 ((MM.addU 0 1 p.P : Nat) : Int)) := by
  intro w
  have HI : Hid (In1 w w.heap.size p (w.alloc (.cells p.cells 25))) := Lib.hid (In1.new w p)
  have H0 := times_nil p
  generalize hg : w.heap.size = g at HI
  have HE := Lib.hid hg
  clear hg
  go_enter Tryd.func17, Tryd.ntmps17
  go_upto_region 1 with fail
  rw [HE.out]
  generalize w.alloc (.cells p.cells 25) = w1 at *
  go_wp2_with (first | (refine wpList_row_if ?_ 25 _ rfl g rfl 25 p.cells (0, 0) _ HI.out.box Tryd.underlying25 rfl (by kernel_rfl) ?_; first | rfl | (simp [Region.wanted, yielded]; done)) | (go_at_call 15; (with_reducible refine (H0.at _).mono ?_); rintro e w1 ⟨rfl, hb⟩; replace HI := Lib.hid (HI.out.step hb); clear hb))
  refine wp_loop_rounds 1 ?_
  rw [rounds_succ]
  go_wp2_with fail
  go_ret
  exact ⟨rfl, HE.out ▸ HI.out.below⟩

end M
end Go.Proofs.YtmeaiindbkkkiaaDoor

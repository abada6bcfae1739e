/- The texts GrpW3, PolyEq, PolyEq2, one behind the other. -/
import Derived.Test.YtlnlepadninnaaaDoorKR4
import Derived.Deep.Cut
import Derived.Deep.DeepCutAuto
import Derived.Deep.RegionHeld3
import Derived.Test.YtlnlepadninnaaaDoorKR7
import Derived.Test.YtlnlepadninnaaaDoorKR8
/- The walks of group.Commit and group.At: what each answers. -/
namespace Go.Proofs.YtlnlepadninnaaaDoor
open Go Go.RowKit Go.Lib
namespace M
/-- Rows that lie as they were laid; nothing old has changed. -/
structure Inr (w0 : World) (rows : List (Nat × Array Value × TypeId)) (w : World) : Prop where
  rows : ∀ r ∈ rows, w.heap[r.1]? = some (.cells r.2.1 r.2.2 (0, 0))
  below : Below w0.heap.size w0 w
theorem Inr.new (w : World) : Inr w [] w := ⟨fun _ h => by simp at h, Below.refl _ _⟩
theorem Inr.step {w0 w w' : World} {rows : List (Nat × Array Value × TypeId)} (h : Inr w0 rows w) (hb : Below w.heap.size w w') : Inr w0 rows w' :=
  ⟨fun r hr => (hb.block _ (row_lt (h.rows r hr))).trans (h.rows r hr), h.below.trans (hb.mono h.below.size)⟩
theorem Inr.drew {w0 w : World} {rows : List (Nat × Array Value × TypeId)} (h : Inr w0 rows w) : Inr w0 rows w.drew := ⟨h.rows, h.below.drew⟩
theorem Inr.alloc {w0 w : World} {rows : List (Nat × Array Value × TypeId)} (h : Inr w0 rows w) (o : Obj) : Inr w0 rows (w.alloc o) := h.step ((Below.refl _ _).alloc (Nat.le_refl _) _)
theorem Inr.drewN {w0 w : World} {rows : List (Nat × Array Value × TypeId)} (h : Inr w0 rows w) (n : Nat) : Inr w0 rows (w.drewN n) := ⟨h.rows, h.below.trans (below_drewN' w n _)⟩
theorem Inr.add {w0 w : World} {rows : List (Nat × Array Value × TypeId)} (h : Inr w0 rows w) (b : Nat) (cs : Array Value) (t : TypeId) (hb : w.heap[b]? = some (.cells cs t (0, 0))) : Inr w0 ((b, cs, t) :: rows) w :=
  ⟨fun r hr => by rcases List.mem_cons.1 hr with e | hr; · subst e; exact hb
                  · exact h.rows r hr, h.below⟩
theorem Inr.put {w0 w : World} {rows : List (Nat × Array Value × TypeId)} (h : Inr w0 rows w) (cs : Array Value) (t : TypeId) : Inr w0 ((w.heap.size, cs, t) :: rows) (w.alloc (.cells cs t)) := (h.alloc _).add _ _ _ (heap_alloc_new _ _)
theorem Inr.cell {w0 w : World} {rows : List (Nat × Array Value × TypeId)} (h : Inr w0 rows w) {b : Nat} {cs : Array Value} {t : TypeId} (hm : (b, cs, t) ∈ rows) (j : Nat) : w.cell? ⟨b, j, none⟩ = cs[j]? := cell_of_row w b j _ _ _ (h.rows _ hm)
attribute [local go_sem] setCell_drewN alloc_drewN

set_option maxHeartbeats 4000000 in
set_option maxRecDepth 100000 in
theorem commit_core (p : Pm) (s b x y r : Nat)
    (H1 : RetB 72 #[.agg p.cells, .int .u64 (p.G : Int), .int .u64 (s : Int)] (.int .u64 (x : Int)))
    (H2 : RetB 72 #[.agg p.cells, .int .u64 (p.H : Int), .int .u64 (b : Int)] (.int .u64 (y : Int)))
    (HT : ∀ (W : World) (b : Nat), W.heap[b]? = some (.cells #[.int .u64 (x : Int), .int .u64 (y : Int)] 22 (0, 0)) → Calls Tryd.prog 70 #[.agg p.cells, .slice (some ⟨b, 0, none⟩) 2 2] W fun e w' => e = .returned (.int .u64 (r : Int)) ∧ Below W.heap.size W w') :
    RetB 40 #[.agg p.cells, .agg (pair s b)] (.int .u64 (r : Int)) := by
  intro w
  have HI1 : Hid (Inr w [(w.heap.size + 1, pair s b, 48), (w.heap.size, p.cells, 24)] ((w.alloc (.cells p.cells 24)).alloc (.cells (pair s b) 48))) := Lib.hid (((Inr.new w).put p.cells 24).put (pair s b) 48 |> fun h => by simpa using h)
  go_enter Tryd.func40, Tryd.ntmps40
  go_upto_region 1 with fail
  generalize hg1 : w.heap.size + 1 = g1 at *
  generalize hg0 : w.heap.size = g0 at HI1
  generalize (w.alloc (.cells p.cells 24)).alloc (.cells (pair s b) 48) = w1 at *
  have HJ := HI1.out
  clear HI1 hg0 hg1
  have kS1 : ∀ {w' : World}, Inr w [(g1, pair s b, 48), (g0, p.cells, 24)] w' → Inr w [(g1, pair s b, 48), (g0, p.cells, 24)] w' ∧ w'.cell? ⟨g1, 0, none⟩ = some (.int .u64 (s : Int)) ∧ w'.cell? ⟨g1, 1, none⟩ = some (.int .u64 (b : Int)) ∧ w'.cell? ⟨g0, 0, none⟩ = some (.int .u64 (p.P : Int)) ∧ w'.cell? ⟨g0, 1, none⟩ = some (.int .u64 (p.Q : Int)) ∧ w'.cell? ⟨g0, 2, none⟩ = some (.int .u64 (p.G : Int)) ∧ w'.cell? ⟨g0, 3, none⟩ = some (.int .u64 (p.H : Int)) ∧ w'.cell? ⟨g0, 4, none⟩ = some (.int .i64 p.Nodes) ∧ w'.cell? ⟨g0, 5, none⟩ = some (.int .i64 p.N) ∧ w'.cell? ⟨g0, 6, none⟩ = some (.int .i64 p.T) ∧ w'.cell? ⟨g0, 7, none⟩ = some (.int .i64 p.K) ∧ w'.cell? ⟨g0, 8, none⟩ = some (.int .i64 p.D) ∧ w'.cell? ⟨g0, 9, none⟩ = some (.int .i64 p.R) ∧ w'.cell? ⟨g0, 10, none⟩ = some (.int .i64 p.M) ∧ w'.cell? ⟨g0, 11, none⟩ = some (.int .i64 p.X) := fun h => ⟨h, h.cell (b := g1) (cs := pair s b) (t := 48) (by simp) 0, h.cell (b := g1) (cs := pair s b) (t := 48) (by simp) 1, h.cell (b := g0) (cs := p.cells) (t := 24) (by simp) 0, h.cell (b := g0) (cs := p.cells) (t := 24) (by simp) 1, h.cell (b := g0) (cs := p.cells) (t := 24) (by simp) 2, h.cell (b := g0) (cs := p.cells) (t := 24) (by simp) 3, h.cell (b := g0) (cs := p.cells) (t := 24) (by simp) 4, h.cell (b := g0) (cs := p.cells) (t := 24) (by simp) 5, h.cell (b := g0) (cs := p.cells) (t := 24) (by simp) 6, h.cell (b := g0) (cs := p.cells) (t := 24) (by simp) 7, h.cell (b := g0) (cs := p.cells) (t := 24) (by simp) 8, h.cell (b := g0) (cs := p.cells) (t := 24) (by simp) 9, h.cell (b := g0) (cs := p.cells) (t := 24) (by simp) 10, h.cell (b := g0) (cs := p.cells) (t := 24) (by simp) 11⟩
  obtain ⟨_, y0, y1, y2, y3, y4, y5, y6, y7, y8, y9, y10, y11, y12, y13⟩ := kS1 HJ
  go_region_held3 (fun w' => Inr w [(g1, pair s b, 48), (g0, p.cells, 24)] w' ∧ w'.cell? ⟨g1, 0, none⟩ = some (.int .u64 (s : Int)) ∧ w'.cell? ⟨g1, 1, none⟩ = some (.int .u64 (b : Int)) ∧ w'.cell? ⟨g0, 0, none⟩ = some (.int .u64 (p.P : Int)) ∧ w'.cell? ⟨g0, 1, none⟩ = some (.int .u64 (p.Q : Int)) ∧ w'.cell? ⟨g0, 2, none⟩ = some (.int .u64 (p.G : Int)) ∧ w'.cell? ⟨g0, 3, none⟩ = some (.int .u64 (p.H : Int)) ∧ w'.cell? ⟨g0, 4, none⟩ = some (.int .i64 p.Nodes) ∧ w'.cell? ⟨g0, 5, none⟩ = some (.int .i64 p.N) ∧ w'.cell? ⟨g0, 6, none⟩ = some (.int .i64 p.T) ∧ w'.cell? ⟨g0, 7, none⟩ = some (.int .i64 p.K) ∧ w'.cell? ⟨g0, 8, none⟩ = some (.int .i64 p.D) ∧ w'.cell? ⟨g0, 9, none⟩ = some (.int .i64 p.R) ∧ w'.cell? ⟨g0, 10, none⟩ = some (.int .i64 p.M) ∧ w'.cell? ⟨g0, 11, none⟩ = some (.int .i64 p.X)) (first | exact kS1 HJ | exact kS1 (Inr.drew HJ) | exact kS1 (Inr.drewN HJ _) | exact kS1 (Inr.alloc HJ _) | exact kS1 (Inr.alloc (Inr.drew HJ) _) | exact kS1 (Inr.alloc (Inr.drewN HJ _) _) | exact kS1 (Inr.drew (Inr.alloc HJ _)) | exact kS1 (Inr.drewN (Inr.alloc HJ _) _))
    (first | (go_at_call 72; (first | (with_reducible refine (H1.at _).mono ?_) | (with_reducible refine (H2.at _).mono ?_)); rintro e w1 ⟨rfl, hb⟩; (first | (have HJ := Inr.step HJ hb) | (have HJ := Inr.step (Inr.drew HJ) hb) | (have HJ := Inr.step (Inr.drewN HJ _) hb) | (have HJ := Inr.step (Inr.alloc HJ _) hb) | (have HJ := Inr.step (Inr.alloc (Inr.drew HJ) _) hb) | (have HJ := Inr.step (Inr.alloc (Inr.drewN HJ _) _) hb) | (have HJ := Inr.step (Inr.drew (Inr.alloc HJ _)) hb) | (have HJ := Inr.step (Inr.drewN (Inr.alloc HJ _) _) hb)); clear hb) | (go_at_call 70; (refine (HT _ _ (heap_alloc_new _ _)).mono ?_); rintro e w1 ⟨rfl, hb⟩; (first | (have HJ := Inr.step HJ hb) | (have HJ := Inr.step (Inr.drew HJ) hb) | (have HJ := Inr.step (Inr.drewN HJ _) hb) | (have HJ := Inr.step (Inr.alloc HJ _) hb) | (have HJ := Inr.step (Inr.alloc (Inr.drew HJ) _) hb) | (have HJ := Inr.step (Inr.alloc (Inr.drewN HJ _) _) hb) | (have HJ := Inr.step (Inr.drew (Inr.alloc HJ _)) hb) | (have HJ := Inr.step (Inr.drewN (Inr.alloc HJ _) _) hb)); clear hb))
  go_wp2_with fail
  go_ret
  exact ⟨rfl, HJ.below⟩
theorem commit_any (p : Pm) (s b : Nat) (hs : s < 18446744073709551616) (hb : b < 18446744073709551616) (hG : p.G < 18446744073709551616) (hH : p.H < 18446744073709551616) :
    RetB 40 #[.agg p.cells, .agg (pair s b)] (.int .u64 ((MM.comU p.P p.G p.H s b : Nat) : Int)) :=
  commit_core p s b _ _ _ (power_any p p.G s hG hs) (power_any p p.H b hH hb) (times_two p _ _ _ (MM.powU_lt _ _ _) (MM.powU_lt _ _ _) rfl)

set_option maxHeartbeats 4000000 in
set_option maxRecDepth 100000 in
/-- One round of At: the product so far times the number to its power. -/
theorem at_core (p : Pm) (a : Addr) (n cap i : Nat) (z u f : Nat → Nat) (hn : n ≤ 9223372036854775807) (W : World) (hc : Row W a n z)
    (H0 : RetB 70 #[.agg p.cells, .slice none 0 0] (.int .u64 ((f 0 : Nat) : Int)))
    (H1 : ∀ k, k < n → Ret 71 #[.int .u64 (i : Int), .int .u64 (k : Int), .int .u64 (p.Q : Int)] (.int .u64 ((u k : Nat) : Int)))
    (H2 : ∀ k, k < n → ∃ y : Nat, RetB 72 #[.agg p.cells, .int .u64 ((z k : Nat) : Int), .int .u64 ((u k : Nat) : Int)] (.int .u64 (y : Int)) ∧
      ∀ (W : World) (b : Nat), W.heap[b]? = some (.cells #[.int .u64 ((f k : Nat) : Int), .int .u64 (y : Int)] 22 (0, 0)) → Calls Tryd.prog 70 #[.agg p.cells, .slice (some ⟨b, 0, none⟩) 2 2] W fun e w' => e = .returned (.int .u64 ((f (k + 1) : Nat) : Int)) ∧ Below W.heap.size W w') :
    Calls Tryd.prog 38 #[.agg p.cells, .slice (some a) n cap, .int .u64 (i : Int)] W fun e w' => e = .returned (.int .u64 ((f n : Nat) : Int)) ∧ Below W.heap.size W w' := by
  have HI1 : Hid (Inr W [(W.heap.size, p.cells, 24)] (W.alloc (.cells p.cells 24))) := Lib.hid ((Inr.new W).put p.cells 24)
  have HR := Lib.hid hc
  have HH1 := Lib.hid H1
  have HH2 := Lib.hid H2
  clear hc H1 H2
  go_enter Tryd.func38, Tryd.ntmps38
  go_upto_region 1 with fail
  generalize hg0 : W.heap.size = g0 at HI1 ⊢
  have HE := Lib.hid hg0
  clear hg0
  generalize W.alloc (.cells p.cells 24) = w1 at *
  go_wp2_with (first | (refine wpList_row_if ?_ 24 _ rfl g0 rfl 24 p.cells (0, 0) _ (HI1.out.rows (g0, p.cells, 24) (by simp)) Tryd.underlying24 rfl (by kernel_rfl) ?_; first | rfl | (simp [Region.wanted, yielded]; done)) | (go_at_call 70; (with_reducible refine (H0.at _).mono ?_); rintro e w1 ⟨rfl, hb⟩; replace HI1 := Lib.hid (HI1.out.step hb); clear hb))
  go_loopw [7, 14] (fun s7 s14 wx => ∃ k : Nat, k ≤ n ∧ s14 = .int .i64 (k : Int) ∧ s7 = .int .u64 ((f k : Nat) : Int) ∧ Hid (Inr W [(g0, p.cells, 24)] wx)) (fun _ s14 _ => n - (RowKit.intOf s14).toNat)
  case atStart => exact ⟨0, Nat.zero_le _, rfl, rfl, HI1⟩
  case round =>
    obtain ⟨k, hk, rfl, rfl, HJ0⟩ := hrel
    rename_i wr
    by_cases hlt : k < n
    · obtain ⟨y, H2, HT⟩ := HH2.out k hlt
      have H1 := HH1.out k hlt
      clear HI1 HH1 HH2
      have hcell : wr.cell? (a.add k) = some (.int .u64 ((z k : Nat) : Int)) := (HR.out.below HJ0.out.below) k hlt
      have HJ := HJ0.out
      go_upto_region 5 with fail
      clear hcell
      have hwk : IntKind.u64.wrap (k : Int) = (k : Int) := wrapN _ (by omega)
      have kS2 : ∀ {w' : World}, Inr W [(g0, p.cells, 24)] w' → Inr W [(g0, p.cells, 24)] w' ∧ w'.cell? ⟨g0, 0, none⟩ = some (.int .u64 (p.P : Int)) ∧ w'.cell? ⟨g0, 1, none⟩ = some (.int .u64 (p.Q : Int)) ∧ w'.cell? ⟨g0, 2, none⟩ = some (.int .u64 (p.G : Int)) ∧ w'.cell? ⟨g0, 3, none⟩ = some (.int .u64 (p.H : Int)) ∧ w'.cell? ⟨g0, 4, none⟩ = some (.int .i64 p.Nodes) ∧ w'.cell? ⟨g0, 5, none⟩ = some (.int .i64 p.N) ∧ w'.cell? ⟨g0, 6, none⟩ = some (.int .i64 p.T) ∧ w'.cell? ⟨g0, 7, none⟩ = some (.int .i64 p.K) ∧ w'.cell? ⟨g0, 8, none⟩ = some (.int .i64 p.D) ∧ w'.cell? ⟨g0, 9, none⟩ = some (.int .i64 p.R) ∧ w'.cell? ⟨g0, 10, none⟩ = some (.int .i64 p.M) ∧ w'.cell? ⟨g0, 11, none⟩ = some (.int .i64 p.X) := fun h => ⟨h, h.cell (b := g0) (cs := p.cells) (t := 24) (by simp) 0, h.cell (b := g0) (cs := p.cells) (t := 24) (by simp) 1, h.cell (b := g0) (cs := p.cells) (t := 24) (by simp) 2, h.cell (b := g0) (cs := p.cells) (t := 24) (by simp) 3, h.cell (b := g0) (cs := p.cells) (t := 24) (by simp) 4, h.cell (b := g0) (cs := p.cells) (t := 24) (by simp) 5, h.cell (b := g0) (cs := p.cells) (t := 24) (by simp) 6, h.cell (b := g0) (cs := p.cells) (t := 24) (by simp) 7, h.cell (b := g0) (cs := p.cells) (t := 24) (by simp) 8, h.cell (b := g0) (cs := p.cells) (t := 24) (by simp) 9, h.cell (b := g0) (cs := p.cells) (t := 24) (by simp) 10, h.cell (b := g0) (cs := p.cells) (t := 24) (by simp) 11⟩
      obtain ⟨_, y0, y1, y2, y3, y4, y5, y6, y7, y8, y9, y10, y11⟩ := kS2 HJ
      go_region_held3 (fun w' => Inr W [(g0, p.cells, 24)] w' ∧ w'.cell? ⟨g0, 0, none⟩ = some (.int .u64 (p.P : Int)) ∧ w'.cell? ⟨g0, 1, none⟩ = some (.int .u64 (p.Q : Int)) ∧ w'.cell? ⟨g0, 2, none⟩ = some (.int .u64 (p.G : Int)) ∧ w'.cell? ⟨g0, 3, none⟩ = some (.int .u64 (p.H : Int)) ∧ w'.cell? ⟨g0, 4, none⟩ = some (.int .i64 p.Nodes) ∧ w'.cell? ⟨g0, 5, none⟩ = some (.int .i64 p.N) ∧ w'.cell? ⟨g0, 6, none⟩ = some (.int .i64 p.T) ∧ w'.cell? ⟨g0, 7, none⟩ = some (.int .i64 p.K) ∧ w'.cell? ⟨g0, 8, none⟩ = some (.int .i64 p.D) ∧ w'.cell? ⟨g0, 9, none⟩ = some (.int .i64 p.R) ∧ w'.cell? ⟨g0, 10, none⟩ = some (.int .i64 p.M) ∧ w'.cell? ⟨g0, 11, none⟩ = some (.int .i64 p.X)) (first | exact kS2 HJ | exact kS2 (Inr.drew HJ) | exact kS2 (Inr.drewN HJ _) | exact kS2 (Inr.alloc HJ _) | exact kS2 (Inr.alloc (Inr.drew HJ) _) | exact kS2 (Inr.alloc (Inr.drewN HJ _) _) | exact kS2 (Inr.drew (Inr.alloc HJ _)) | exact kS2 (Inr.drewN (Inr.alloc HJ _) _))
        (first | (go_at_call 71; (with_reducible refine (H1.at _).mono ?_); rintro e w1 ⟨rfl, nd, rfl⟩) | (go_at_call 72; (with_reducible refine (H2.at _).mono ?_); rintro e w1 ⟨rfl, hb⟩; (first | (have HJ := Inr.step HJ hb) | (have HJ := Inr.step (Inr.drew HJ) hb) | (have HJ := Inr.step (Inr.drewN HJ _) hb) | (have HJ := Inr.step (Inr.alloc HJ _) hb) | (have HJ := Inr.step (Inr.alloc (Inr.drew HJ) _) hb) | (have HJ := Inr.step (Inr.alloc (Inr.drewN HJ _) _) hb) | (have HJ := Inr.step (Inr.drew (Inr.alloc HJ _)) hb) | (have HJ := Inr.step (Inr.drewN (Inr.alloc HJ _) _) hb)); clear hb) | (go_at_call 70; (refine (HT _ _ (heap_alloc_new _ _)).mono ?_); rintro e w1 ⟨rfl, hb⟩; (first | (have HJ := Inr.step HJ hb) | (have HJ := Inr.step (Inr.drew HJ) hb) | (have HJ := Inr.step (Inr.drewN HJ _) hb) | (have HJ := Inr.step (Inr.alloc HJ _) hb) | (have HJ := Inr.step (Inr.alloc (Inr.drew HJ) _) hb) | (have HJ := Inr.step (Inr.alloc (Inr.drewN HJ _) _) hb) | (have HJ := Inr.step (Inr.drew (Inr.alloc HJ _)) hb) | (have HJ := Inr.step (Inr.drewN (Inr.alloc HJ _) _) hb)); clear hb))
      clear hwk kS2
      go_wp2_with fail
      go_roundw
      case rel => exact ⟨k + 1, by omega, by go_num, rfl, HJ⟩
      case measure => simp [RowKit.intOf]; omega
    · obtain rfl : k = n := by omega
      go_wp2_with fail
      go_ret
      exact ⟨rfl, by first | exact HJ0.out.below | (rw [HE.out]; exact HJ0.out.below) | exact HE.out ▸ HJ0.out.below⟩

theorem gat_any (p : Pm) (a : Addr) (n cap i : Nat) (z : Nat → Nat) (hz : ∀ k, k < n → z k < 18446744073709551616) (hi : i < 18446744073709551616) (hn : n ≤ 9223372036854775807) (W : World) (hc : Row W a n z) :
    Calls Tryd.prog 38 #[.agg p.cells, .slice (some a) n cap, .int .u64 (i : Int)] W fun e w' => e = .returned (.int .u64 ((MM.atN p.P p.Q i z n : Nat) : Int)) ∧ Below W.heap.size W w' :=
  at_core p a n cap i z (fun k => MM.powU i k p.Q) (MM.atN p.P p.Q i z) hn W hc (times_nil p) (fun k hk => ret_powU i k p.Q hi (by omega))
    (fun k hk => ⟨_, power_any p (z k) (MM.powU i k p.Q) (hz k hk) (MM.powU_lt _ _ _), times_two p _ _ _ (MM.atN_lt _ _ _ _ _) (MM.powU_lt _ _ _) rfl⟩)
set_option maxHeartbeats 400000 in
theorem at_nil (p : Pm) (i : Nat) : RetB 38 #[.agg p.cells, .slice none 0 0, .int .u64 (i : Int)] (.int .u64 ((MM.addU 0 1 p.P : Nat) : Int)) := by
  intro w
  have HI : Hid (In1 w w.heap.size p (w.alloc (.cells p.cells 24))) := Lib.hid (In1.new w p)
  have H0 := times_nil p
  generalize hg : w.heap.size = g at HI
  have HE := Lib.hid hg
  clear hg
  go_enter Tryd.func38, Tryd.ntmps38
  go_upto_region 1 with fail
  rw [HE.out]
  generalize w.alloc (.cells p.cells 24) = w1 at *
  go_wp2_with (first | (refine wpList_row_if ?_ 24 _ rfl g rfl 24 p.cells (0, 0) _ HI.out.box Tryd.underlying24 rfl (by kernel_rfl) ?_; first | rfl | (simp [Region.wanted, yielded]; done)) | (go_at_call 70; (with_reducible refine (H0.at _).mono ?_); rintro e w1 ⟨rfl, hb⟩; replace HI := Lib.hid (HI.out.step hb); clear hb))
  refine wp_loop_rounds 1 ?_
  rw [rounds_succ]
  go_wp2_with fail
  go_ret
  exact ⟨rfl, HE.out ▸ HI.out.below⟩

end M
end Go.Proofs.YtlnlepadninnaaaDoor
/- Plain facts: a polynomial's value reckoned from the last coefficient on, and from the first one on, are the same. -/
namespace Go.Proofs.YtlnlepadninnaaaDoor
namespace MM
theorem hornL_bad {z : Nat → Nat} {x q : Nat} (hq : ¬ Good q) (l : List Nat) : hornL z x q l = 0 := by
  rcases List.eq_nil_or_concat l with rfl | ⟨l', i, rfl⟩
  · rfl
  · rw [List.concat_eq_append, hornL_snoc]; unfold addU; rw [if_neg hq]
theorem evalU_bad {z : Nat → Nat} {x q : Nat} (hq : ¬ Good q) : ∀ n, evalU z x q n = 0
  | 0 => rfl
  | n + 1 => by unfold evalU addU; rw [if_neg hq]
theorem add_mul_mod (a b c q : Nat) : (a + b % q * c) % q = (a + b * c) % q := by rw [Nat.add_mod, mul_mod_left', ← Nat.add_mod]
theorem horn_part {z : Nat → Nat} {x q n : Nat} (hq : Good q) : ∀ j m, m + j = n → (evalU z x q m + hornL z x q (M.down n m) * x ^ m) % q = evalU z x q n % q
  | 0, m, h => by
    obtain rfl : m = n := by omega
    rw [M.down_self]; simp [hornL]
  | j + 1, m, h => by
    have ih := horn_part (z := z) (x := x) (n := n) hq j (m + 1) (by omega)
    have hd := M.down_succ (n := n) (m := m) (by omega)
    rw [← ih, hd, hornL_snoc, evalU, addU_of hq, mulU_of hq, addU_of hq, mulU_of hq, powU_of hq]
    generalize hornL z x q (M.down n (m + 1)) = H
    generalize evalU z x q m = E
    have e1 : (E + (H * x % q + z m) % q * x ^ m) % q = (E + z m * x ^ m + H * x * x ^ m) % q := by
      rw [add_mul_mod, Nat.add_mul, show E + (H * x % q * x ^ m + z m * x ^ m) = E + z m * x ^ m + H * x % q * x ^ m by omega, add_mul_mod]
    have e2 : ((E + z m * (x ^ m % q) % q) % q + H * x ^ (m + 1)) % q = (E + z m * x ^ m + H * x ^ (m + 1)) % q := by
      rw [Nat.mod_add_mod, show E + z m * (x ^ m % q) % q + H * x ^ (m + 1) = E + H * x ^ (m + 1) + z m * (x ^ m % q) % q by omega, Nat.add_mod_mod, Nat.mul_comm (z m), add_mul_mod,
        show E + H * x ^ (m + 1) + x ^ m * z m = E + x ^ m * z m + H * x ^ (m + 1) by omega, Nat.mul_comm (x ^ m)]
    rw [e1, e2, Nat.pow_succ, Nat.mul_assoc H x, Nat.mul_comm x]
theorem evalU_mod {z : Nat → Nat} {x q : Nat} (hq : Good q) : ∀ n, evalU z x q n % q = evalU z x q n
  | 0 => Nat.zero_mod _
  | n + 1 => by unfold evalU; rw [addU_of hq, Nat.mod_mod]
theorem hornL_mod {z : Nat → Nat} {x q : Nat} (hq : Good q) (l : List Nat) : hornL z x q l % q = hornL z x q l := by
  rcases List.eq_nil_or_concat l with rfl | ⟨l', i, rfl⟩
  · exact Nat.zero_mod _
  · rw [List.concat_eq_append, hornL_snoc, addU_of hq, Nat.mod_mod]
theorem horn_eval (z : Nat → Nat) (x q n : Nat) : hornL z x q (M.down n 0) = evalU z x q n := by
  by_cases hq : Good q
  · have h := horn_part (z := z) (x := x) hq n 0 (Nat.zero_add n)
    rw [show evalU z x q 0 = 0 from rfl, Nat.zero_add, Nat.pow_zero, Nat.mul_one, hornL_mod hq, evalU_mod hq] at h
    exact h
  · rw [hornL_bad hq, evalU_bad hq]
end MM
end Go.Proofs.YtlnlepadninnaaaDoor
/- Plain facts: the program's weights, its polynomial through pairs, and what it refuses, are the document's: numbers alike modulo q, and which of them have inverses. -/
namespace Go.Proofs.YtlnlepadninnaaaDoor
namespace MM
/-- Alike modulo q. -/
def Cg (q : Nat) (a b : Int) : Prop := ∃ k : Int, a = b + q * k
theorem Cg.refl (q : Nat) (a : Int) : Cg q a a := ⟨0, by simp⟩
theorem Cg.of_eq {q : Nat} {a b : Int} (h : a = b) : Cg q a b := h ▸ Cg.refl q a
theorem Cg.symm {q : Nat} {a b : Int} (h : Cg q a b) : Cg q b a := by obtain ⟨k, e⟩ := h; exact ⟨-k, by grind⟩
theorem Cg.trans {q : Nat} {a b c : Int} (h : Cg q a b) (h' : Cg q b c) : Cg q a c := by obtain ⟨k, e⟩ := h; obtain ⟨l, f⟩ := h'; exact ⟨k + l, by grind⟩
theorem Cg.add {q : Nat} {a b c d : Int} (h : Cg q a b) (h' : Cg q c d) : Cg q (a + c) (b + d) := by obtain ⟨k, e⟩ := h; obtain ⟨l, f⟩ := h'; exact ⟨k + l, by grind⟩
theorem Cg.sub {q : Nat} {a b c d : Int} (h : Cg q a b) (h' : Cg q c d) : Cg q (a - c) (b - d) := by obtain ⟨k, e⟩ := h; obtain ⟨l, f⟩ := h'; exact ⟨k - l, by grind⟩
theorem Cg.mul {q : Nat} {a b c d : Int} (h : Cg q a b) (h' : Cg q c d) : Cg q (a * c) (b * d) := by obtain ⟨k, e⟩ := h; obtain ⟨l, f⟩ := h'; exact ⟨k * d + b * l + q * k * l, by subst e f; grind⟩
theorem Cg.nat {q x y : Nat} (h : Cg q x y) : x % q = y % q := mod_of_int h
theorem cg_nat {q x y : Nat} (h : x % q = y % q) : Cg q x y := int_of_mod h
theorem cg_mod (q x : Nat) : Cg q ((x % q : Nat) : Int) x := cg_nat (Nat.mod_mod _ _)
theorem cg_add {q : Nat} (hq : Good q) (a b : Nat) : Cg q (addU a b q) (a + b) := by rw [addU_of hq]; exact (cg_mod q _).trans (.of_eq (by simp))
theorem cg_mul {q : Nat} (hq : Good q) (a b : Nat) : Cg q (mulU a b q) (a * b) := by rw [mulU_of hq]; exact (cg_mod q _).trans (.of_eq (by simp))
theorem cg_sub {q : Nat} (hq : Good q) (a b : Nat) : Cg q (subU a b q) (a - b) := by unfold subU; rw [if_pos hq]; exact subm_int a b q hq.1
theorem cg_pow {q : Nat} (hq : Good q) (a n : Nat) : Cg q (powU a n q) ((a : Int) ^ n) := by rw [powU_of hq]; exact (cg_mod q _).trans (.of_eq (by simp))
/-- Has an inverse. -/
def Un (q : Nat) (a : Int) : Prop := ∃ u : Int, Cg q (a * u) 1
theorem Un.cg {q : Nat} {a b : Int} (h : Cg q a b) : Un q a ↔ Un q b :=
  ⟨fun ⟨u, hu⟩ => ⟨u, (h.symm.mul (Cg.refl q u)).trans hu⟩, fun ⟨u, hu⟩ => ⟨u, (h.mul (Cg.refl q u)).trans hu⟩⟩
theorem Un.mul {q : Nat} {a b : Int} : Un q (a * b) ↔ Un q a ∧ Un q b := by
  constructor
  · rintro ⟨u, hu⟩
    exact ⟨⟨b * u, (Cg.of_eq (by grind)).trans hu⟩, ⟨a * u, (Cg.of_eq (by grind)).trans hu⟩⟩
  · rintro ⟨⟨u, hu⟩, ⟨v, hv⟩⟩
    exact ⟨u * v, (Cg.of_eq (show a * b * (u * v) = a * u * (b * v) by grind)).trans ((hu.mul hv).trans (.of_eq (by simp)))⟩
theorem Un.neg {q : Nat} {a : Int} (h : Un q a) : Un q (-a) := by obtain ⟨u, hu⟩ := h; exact ⟨-u, (Cg.of_eq (by grind)).trans hu⟩
theorem Un.swap {q : Nat} {a b : Int} : Un q (a - b) ↔ Un q (b - a) := ⟨fun h => by have := h.neg; rwa [show -(a - b) = b - a by omega] at this, fun h => by have := h.neg; rwa [show -(b - a) = a - b by omega] at this⟩
theorem Un.one (q : Nat) : Un q 1 := ⟨1, .of_eq (by simp)⟩
theorem un_gcd {q : Nat} (hq : 0 < q) (a : Nat) : Nat.gcd a q = 1 ↔ Un q a := by
  constructor
  · intro h
    obtain ⟨x, hx⟩ := exists_inv hq h
    exact ⟨x, (Cg.of_eq (by simp)).trans ((cg_nat hx.2).trans (Cg.refl q _))⟩
  · rintro ⟨u, hu⟩
    have h0 := Int.emod_nonneg u (show (q : Int) ≠ 0 by omega)
    have h1 := Int.emod_lt_of_pos u (show (0 : Int) < q by omega)
    refine IsInv.gcd (x := (u % q).toNat) ⟨by omega, Cg.nat ?_⟩
    have e : (((u % q).toNat : Nat) : Int) = u % q := by omega
    have hc : Cg q (u % q) u := ⟨-(u / q), by have := Int.emod_add_mul_ediv u q; grind⟩
    rw [Int.natCast_mul, e]
    exact ((Cg.refl q _).mul hc).trans hu
theorem invC_un {q : Nat} (hq : Good q) (a : Nat) : invC a q = 0 ↔ Un q a := by
  rw [← un_gcd hq.1]
  unfold invC
  rw [if_pos hq]
  by_cases h : Nat.gcd a q = 1
  · rw [if_pos h]; exact ⟨fun _ => h, fun _ => rfl⟩
  · rw [if_neg h]; exact ⟨fun h' => absurd h' (by omega), fun h' => absurd h' h⟩
theorem invU_cg {q : Nat} (hq : Good q) {a : Nat} (h : Un q a) : Cg q (a * invU a q) 1 := by
  obtain ⟨x, hx⟩ := exists_inv hq.1 ((un_gcd hq.1 a).2 h)
  rw [invU_of hq hx]
  exact (Cg.of_eq (by simp)).trans ((cg_nat hx.2).trans (Cg.refl q _))
/-- A factor of the program's. -/
theorem cg_fac {q : Nat} (hq : Good q) (x c : Nat) : Cg q (addU x (subU 0 c q) q) (x - c) :=
  (cg_add hq _ _).trans (((Cg.refl q _).add (cg_sub hq 0 c)).trans (.of_eq (by simp; omega)))
theorem prodL_succ {q : Nat} (hq : Good q) (x : Nat) (z : Nat → Nat) (i n : Nat) (h : n ≠ i) : Cg q (prodL x q z i (List.range (n + 1))) (prodL x q z i (List.range n) * ((x : Int) - z n)) := by
  rw [List.range_succ, prodL_other h]
  exact (cg_mul hq _ _).trans ((Cg.refl q _).mul (cg_fac hq _ _))
theorem prodL_skip (q x : Nat) (z : Nat → Nat) (i : Nat) : prodL x q z i (List.range (i + 1)) = prodL x q z i (List.range i) := by rw [List.range_succ, prodL_same]
theorem prodL_zero (q x : Nat) (z : Nat → Nat) (i : Nat) : prodL x q z i (List.range 0) = 1 := rfl
theorem un_prod {q : Nat} (hq : Good q) (z : Nat → Nat) (i : Nat) : ∀ n, Un q (prodL (z i) q z i (List.range n)) ↔ ∀ j, j < n → j ≠ i → Un q ((z i : Int) - z j)
  | 0 => ⟨fun _ j hj => absurd hj (by omega), fun _ => by rw [prodL_zero]; exact Un.one q⟩
  | n + 1 => by
    by_cases h : n = i
    · subst h
      rw [prodL_skip, un_prod hq z n n]
      exact ⟨fun H j hj hne => H j (by omega) hne, fun H j hj hne => H j (by omega) hne⟩
    · rw [Un.cg (prodL_succ hq _ z i n h), Un.mul, un_prod hq z i n]
      constructor
      · rintro ⟨H, h1⟩ j hj hne
        by_cases e : j = n
        · subst e; exact h1
        · exact H j (by omega) hne
      · exact fun H => ⟨fun j hj hne => H j (by omega) hne, H n (by omega) h⟩
theorem noRow_iff {q : Nat} (hq : Good q) {z : Nat → Nat} {i : Nat} : ∀ n, noRow q z i n = false ↔ ∀ k, k < n → Un q ((z i : Int) - z k)
  | 0 => ⟨fun _ j hj => absurd hj (by omega), fun _ => rfl⟩
  | n + 1 => by
    unfold noRow
    rw [Bool.or_eq_false_iff, noRow_iff hq n]
    have e : (invC (subU (z i) (z n) q) q != 0) = false ↔ Un q ((z i : Int) - z n) := by rw [← Un.cg (cg_sub hq _ _), ← invC_un hq]; simp
    rw [e]
    constructor
    · rintro ⟨H, h⟩ k hk
      by_cases ek : k = n
      · subst ek; exact h
      · exact H k (by omega)
    · exact fun H => ⟨fun k hk => H k (by omega), H n (by omega)⟩
theorem noAll_iff {q : Nat} (hq : Good q) {z : Nat → Nat} : ∀ n, noAll q z n = false ↔ ∀ i k, i < n → k < i → Un q ((z i : Int) - z k)
  | 0 => ⟨fun _ j _ hj => absurd hj (by omega), fun _ => rfl⟩
  | n + 1 => by
    unfold noAll
    rw [Bool.or_eq_false_iff, noAll_iff hq n, noRow_iff hq n]
    constructor
    · rintro ⟨H, h⟩ i k hi hk
      by_cases e : i = n
      · subst e; exact h k hk
      · exact H i k (by omega) hk
    · exact fun H => ⟨fun i k hi hk => H i k (by omega) hk, fun k hk => H n k (by omega) hk⟩
/-- The program's weights have their inverses just where the document finds all differences to have them. -/
theorem und_all {q : Nat} (hq : Good q) {z : Nat → Nat} (n : Nat) : (∀ j, j < n → invC (undU q z n j) q = 0) ↔ noAll q z n = false := by
  rw [noAll_iff hq]
  constructor
  · intro H i k hi hk
    exact (un_prod hq z i n).1 ((invC_un hq _).1 (H i hi)) k (by omega) (by omega)
  · intro H j hj
    refine (invC_un hq _).2 ((un_prod hq z j n).2 fun k hk hne => ?_)
    rcases Nat.lt_or_gt_of_ne hne with h | h
    · exact H j k hj h
    · exact Un.swap.1 (H k j hk h)
theorem weightU_mod {q : Nat} (hq : Good q) (z : Nat → Nat) (p i : Nat) : ∀ n, weightU q z p i n % q = weightU q z p i n
  | 0 => by unfold weightU; rw [addU_of hq, Nat.mod_mod]
  | n + 1 => by
    unfold weightU
    by_cases h : n = i
    · rw [if_pos h]; exact weightU_mod hq z p i n
    · rw [if_neg h, mulU_of hq, Nat.mod_mod]
theorem weight_part {q : Nat} (hq : Good q) (z : Nat → Nat) (p i : Nat) : ∀ n, (∀ j, j < n → j ≠ i → Un q ((z i : Int) - z j)) → Cg q (weightU q z p i n * prodL (z i) q z i (List.range n)) (prodL p q z i (List.range n))
  | 0, _ => by
    rw [prodL_zero, prodL_zero]
    unfold weightU
    exact ((cg_add hq 1 0).mul (Cg.refl q _)).trans (.of_eq (by simp))
  | n + 1, H => by
    have ih := weight_part hq z p i n fun j hj hne => H j (by omega) hne
    unfold weightU
    by_cases h : n = i
    · rw [if_pos h]; subst h; rw [prodL_skip, prodL_skip]; exact ih
    · rw [if_neg h]
      have hu := H n (by omega) h
      have hs := cg_sub hq (z i) (z n)
      have hi := invU_cg hq ((Un.cg hs).2 hu)
      generalize invU (subU (z i) (z n) q) q = v at *
      have h1 : Cg q (((z i : Int) - z n) * v) 1 := (hs.symm.mul (Cg.refl q _)).trans hi
      have h2 := (cg_mul hq (weightU q z p i n) (mulU (subU p (z n) q) v q)).trans ((Cg.refl q _).mul ((cg_mul hq (subU p (z n) q) v).trans ((cg_sub hq p (z n)).mul (Cg.refl q _))))
      refine (h2.mul (prodL_succ hq _ z i n h)).trans (Cg.trans ?_ (prodL_succ hq _ z i n h).symm)
      generalize (prodL (z i) q z i (List.range n) : Int) = u at *
      generalize (prodL p q z i (List.range n) : Int) = w at *
      generalize (weightU q z p i n : Int) = x at *
      refine (Cg.of_eq (show x * (((p : Int) - z n) * v) * (u * ((z i : Int) - z n)) = (x * u) * ((p : Int) - z n) * (((z i : Int) - z n) * v) by grind)).trans ?_
      exact ((ih.mul (Cg.refl q _)).mul h1).trans (.of_eq (by simp))
/-- The program's weights are the document's. -/
theorem wgt_eq {q n : Nat} (hq : Good q) {z : Nat → Nat} (p i : Nat) (hi : i < n) (hn : noAll q z n = false) : wgtU p q z n i = weightU q z p i n := by
  have hU := (invC_un hq _).1 ((und_all hq n).2 hn i hi)
  have hw := weight_part hq z p i n ((un_prod hq z i n).1 hU)
  have hv := invU_cg hq hU
  have e : wgtU p q z n i % q = weightU q z p i n % q := by
    refine Cg.nat ?_
    unfold wgtU
    refine (cg_mul hq _ _).trans ?_
    unfold undU at hv ⊢
    refine (hw.symm.mul (Cg.refl q _)).trans ((Cg.of_eq (Int.mul_assoc _ _ _)).trans (((Cg.refl q _).mul hv).trans (.of_eq (by simp))))
  rw [weightU_mod hq] at e
  rw [← e]
  unfold wgtU
  rw [mulU_of hq, Nat.mod_mod]
end MM
end Go.Proofs.YtlnlepadninnaaaDoor

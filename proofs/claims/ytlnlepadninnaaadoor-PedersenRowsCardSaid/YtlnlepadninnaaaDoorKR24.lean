/- The texts PedBiv, PedFam, one behind the other. -/
import Derived.Test.YtlnlepadninnaaaDoorKR14
import Derived.Test.YtlnlepadninnaaaDoorKR8
import Derived.Test.YtlnlepadninnaaaDoorKR12
import Derived.Test.YtlnlepadninnaaaDoorKR7
import Derived.Laws.CopyOwn
import Derived.IntWalk
import Derived.Test.YtlnlepadninnaaaDoorKR10
import Derived.Maps.AppendAt
/- The walks of bivar.Row and bivar.Col: what each answers. -/
namespace Go.Proofs.YtlnlepadninnaaaDoor
open Go Go.RowKit Go.Lib
namespace M
set_option maxHeartbeats 2000000 in
theorem longest_any (ao : Option Addr) (cap m : Nat) (L : Nat → Nat) (F : Nat → Nat → Nat) (hm : m ≤ 1000) (hl : ∀ i, i < m → L i ≤ 1000) (W : World) (hr : Mat W ao m L F) :
    Calls Tryd.prog 30 #[.slice ao m cap] W fun e w' => e = .returned (.int .i64 ((MM.widU L m : Nat) : Int)) ∧ W = w' := by
  have HR := Lib.hid hr
  have HL := Lib.hid hl
  clear hr hl
  go_enter Tryd.func30, Tryd.ntmps30
  go_wp2_with fail
  go_loop [3, 8] (fun s3 s8 => ∃ k : Nat, k ≤ m ∧ s8 = .int .i64 (k : Int) ∧ s3 = .int .i64 ((MM.widU L k : Nat) : Int)) (fun _ s8 => m - (RowKit.intOf s8).toNat)
  case atStart => exact ⟨0, Nat.zero_le _, rfl, rfl⟩
  case round =>
    obtain ⟨k, hk, rfl, rfl⟩ := hrel
    by_cases hlt : k < m
    · obtain ⟨ad, bo, c, rfl, hc, _⟩ := HR.out k hlt
      have HS : Hid (MM.widU L (k + 1) = max (MM.widU L k) (L k)) := Lib.hid rfl
      have hx := MM.widU_le (n := 1000) k (fun i hi => HL.out i (by omega))
      have hy := HL.out k hlt
      generalize MM.widU L k = x at *
      generalize L k = y at *
      obtain ⟨z, hz⟩ : ∃ z, max x y = z := ⟨_, rfl⟩
      rw [hz] at HS
      have hzI : max (x : Int) (y : Int) = (z : Int) := by omega
      clear hz
      go_wp2_with fail
      go_round
      case rel => exact ⟨k + 1, by omega, by go_num, by rw [HS.out]⟩
      case measure => simp [RowKit.intOf]; omega
    · obtain rfl : k = m := by omega
      go_wp2_with fail
      go_ret
      exact ⟨rfl, rfl⟩
attribute [local go_sem] Oper.semAt_some
theorem Mine.next {w0 w : World} {B n k : Nat} {z : Nat → Nat} (h : Mine w0 B n (fun j => if j < k then z j else 0) w) : Mine w0 B n (fun j => if j < k + 1 then z j else 0) (w.setCell ⟨B, k, none⟩ (.int .u64 ((z k : Nat) : Int))) := h.set k _ fun j _ => by
  by_cases e : j = k
  · subst e; rw [if_pos (by omega), if_pos rfl]
  · rw [if_neg e]
    by_cases h : j < k
    · rw [if_pos (by omega), if_pos h]
    · rw [if_neg (by omega), if_neg h]
theorem evalP_any (ao : Option Addr) (n cap x q : Nat) (z : Nat → Nat) (hn : n ≤ 1000) (hx : x < 18446744073709551616) (w : World) (hr : Rd w ao n z) :
    Calls Tryd.prog 32 #[.slice ao n cap, .int .u64 (x : Int), .int .u64 (q : Int)] w fun e w' => e = .returned (.int .u64 ((MM.evalU z x q n : Nat) : Int)) ∧ Below w.heap.size w w' := by
  have := eval_any ao n cap x q z (by omega) hx w hr
  rwa [MM.horn_eval] at this
set_option maxRecDepth 100000 in
set_option maxHeartbeats 4000000 in
theorem col_any (ao : Option Addr) (cap m y q : Nat) (L : Nat → Nat) (F : Nat → Nat → Nat) (hm : m ≤ 1000) (hl : ∀ i, i < m → L i ≤ 1000) (hy : y < 18446744073709551616) (W : World) (hr : Mat W ao m L F) :
    Calls Tryd.prog 12 #[.slice ao m cap, .int .u64 (y : Int), .int .u64 (q : Int)] W fun e w' => e = .returned (.slice (some ⟨W.heap.size, 0, none⟩) m m) ∧ Mine W W.heap.size m (MM.colP q y L F) w' := by
  have HR := Lib.hid hr
  have HL := Lib.hid hl
  have HM0 := Mine.made W m
  have hmk := run_made m (by omega)
  obtain ⟨W1, hW1⟩ : ∃ W1, W.alloc (.cells (madeCells (Value.int .u64 0).cells (m * 1)) 22) = W1 := ⟨_, rfl⟩
  obtain ⟨B, hB⟩ : ∃ B, W.heap.size = B := ⟨_, rfl⟩
  rw [hW1] at HM0
  rw [hB] at HM0 ⊢
  have hmk0 : (Instr.makeSlice 25 (.int .i64 (m : Int)) (.int .i64 (m : Int))).run Tryd.prog W = .ok (.slice (some ⟨B, 0, none⟩) m m) W1 := by rw [hmk, hW1, hB]
  have HM1 : Hid (Mine W B m (fun _ => 0) W1) := Lib.hid HM0
  clear hr hl HM0 hmk hW1 hB
  go_enter Tryd.func12, Tryd.ntmps12
  go_wp2_with fail
  clear hmk0
  go_loopw [15] (fun s15 wx => ∃ k : Nat, k ≤ m ∧ s15 = .int .i64 (k : Int) ∧ Hid (Mine W B m (fun j => if j < k then MM.colP q y L F j else 0) wx)) (fun s15 _ => m - (RowKit.intOf s15).toNat)
  case atStart => exact ⟨0, Nat.zero_le _, rfl, Lib.hid (HM1.out.congr fun k _ => by simp)⟩
  case round =>
    clear HM1
    obtain ⟨k, hk, rfl, HJ⟩ := hrel
    by_cases hlt : k < m
    · obtain ⟨ad, bo, c, rfl, hc, hs, _⟩ := (HR.out.below HJ.out.below) k hlt
      have HEV := Lib.hid (fun (u : World) (hb : Below wr.heap.size wr u) => evalP_any bo (L k) c y q (F k) (HL.out k hlt) hy u (hs.below hb))
      have HNN := Lib.hid (fun (u : World) (h : Mine W B m (fun j => if j < k then MM.colP q y L F j else 0) u) => h.next)
      change Hid (∀ u : World, Mine W B m (fun j => if j < k then MM.colP q y L F j else 0) u → Mine W B m (fun j => if j < k + 1 then MM.colP q y L F j else 0) (u.setCell ⟨B, k, none⟩ (.int .u64 ((MM.evalU (F k) y q (L k) : Nat) : Int)))) at HNN
      have hk0 : (0 : Int) ≤ (k : Int) := Int.natCast_nonneg _
      have hk1 : (k : Int) < (m : Int) := by omega
      generalize MM.evalU (F k) y q (L k) = x at *
      generalize L k = lk at *
      clear hs
      go_wp2_with (go_at_call 32; refine (HEV.out wr (Below.refl _ _)).mono ?_; rintro e w1 ⟨rfl, hb1⟩; have HJ1 := Lib.hid (HJ.out.step hb1); have hcl1 := HJ1.out.cell hlt; have hfr1 := HJ1.out.free k; clear hb1)
      go_roundw
      case rel => exact ⟨k + 1, by omega, by go_num, Lib.hid (HNN.out _ HJ1.out)⟩
      case measure => simp [RowKit.intOf]; omega
    · obtain rfl : k = m := by omega
      go_wp2_with fail
      go_ret
      exact ⟨rfl, HJ.out.congr fun j hj => by rw [if_pos hj]⟩
set_option maxRecDepth 100000 in
set_option maxHeartbeats 8000000 in
theorem row_any (ao : Option Addr) (cap m x q : Nat) (L : Nat → Nat) (F : Nat → Nat → Nat) (hm : m ≤ 1000) (hl : ∀ i, i < m → L i ≤ 1000) (hF : ∀ i j, F i j < 18446744073709551616) (hx : x < 18446744073709551616) (W : World) (hr : Mat W ao m L F) :
    Calls Tryd.prog 11 #[.slice ao m cap, .int .u64 (x : Int), .int .u64 (q : Int)] W fun e w' => e = .returned (.slice (some ⟨W.heap.size, 0, none⟩) (MM.widU L m) (MM.widU L m)) ∧ Mine W W.heap.size (MM.widU L m) (fun j => MM.rowP q x L F j m) w' := by
  have HR := Lib.hid hr
  have HL := Lib.hid hl
  have HF := Lib.hid hF
  have HLO := Lib.hid (longest_any ao cap m L F hm hl W hr)
  have HLE := Lib.hid (fun i (h : i < m) => MM.le_widU (L := L) h)
  have hN := MM.widU_le m hl
  generalize MM.widU L m = N at *
  have HM0 := Mine.made W N
  have hmk := run_made N (by omega)
  obtain ⟨W1, hW1⟩ : ∃ W1, W.alloc (.cells (madeCells (Value.int .u64 0).cells (N * 1)) 22) = W1 := ⟨_, rfl⟩
  obtain ⟨B, hB⟩ : ∃ B, W.heap.size = B := ⟨_, rfl⟩
  rw [hW1] at HM0
  rw [hB] at HM0 ⊢
  have hmk0 : (Instr.makeSlice 25 (.int .i64 (N : Int)) (.int .i64 (N : Int))).run Tryd.prog W = .ok (.slice (some ⟨B, 0, none⟩) N N) W1 := by rw [hmk, hW1, hB]
  have HM1 : Hid (Mine W B N (fun _ => 0) W1) := Lib.hid HM0
  clear hr hl hF HM0 hmk hW1 hB
  go_enter Tryd.func11, Tryd.ntmps11
  go_wp2_with (go_at_call 30; refine HLO.out.mono ?_; rintro e w1 ⟨rfl, rfl⟩)
  clear hmk0 HLO
  go_loopw [8, 18] (fun s8 s18 wx => ∃ k : Nat, k ≤ m ∧ s18 = .int .i64 (k : Int) ∧ s8 = .int .u64 ((MM.pwr x q k : Nat) : Int) ∧ Hid (Mine W B N (fun j => MM.rowP q x L F j k) wx)) (fun _ s18 _ => m - (RowKit.intOf s18).toNat)
  case atStart => exact ⟨0, Nat.zero_le _, rfl, rfl, HM1⟩
  case round =>
    clear HM1
    obtain ⟨k, hk, rfl, rfl, HJ⟩ := hrel
    obtain ⟨wo, hwo⟩ : ∃ wo : World, wo = wr := ⟨_, rfl⟩
    subst hwo
    by_cases hlt : k < m
    · obtain ⟨ad, bo, c, rfl, hc0, hs, _⟩ := HR.out k hlt
      have hc := (HJ.out.below.cell (World.block_lt_of_cell? W _ hc0)).trans hc0
      have hlk := HL.out k hlt
      have hlw := HLE.out k hlt
      obtain ⟨pn, hpn⟩ : ∃ pn, MM.pwr x q (k + 1) = pn := ⟨_, rfl⟩
      have HPN := Lib.hid hpn
      have HPW := Lib.hid (show MM.mulU (MM.pwr x q k) x q = pn from hpn)
      have HPM := ret_mulU (MM.pwr x q k) x q (MM.pwr_lt x q k) hx
      have HPL := MM.pwr_lt x q k
      have HCE := Lib.hid (fun c => MM.pwr_mul c x q k)
      have HS := Lib.hid (fun (u : World) (hb : Below W.heap.size W u) => (hs.below hb : Rd u bo (L k) (F k)))
      have HKE := Lib.hid (MM.rowK_end q x L F k)
      have HJ0 : Hid (Mine W B N (MM.rowK q x L F k 0) wo) := Lib.hid (HJ.out.congr fun j _ => (MM.rowK_zero q x L F k j).symm)
      rw [HPW.out] at HPM
      clear hpn
      generalize MM.pwr x q k = pk at *
      generalize L k = lk at *
      clear hs HJ HPW hc0
      go_wp2_with fail
      clear hc
      go_loopw [24] (fun s24 wx => ∃ j : Nat, j ≤ lk ∧ s24 = .int .i64 (j : Int) ∧ Hid (Mine W B N (MM.rowK q x L F k j) wx)) (fun s24 _ => lk - (RowKit.intOf s24).toNat)
      case atStart => exact ⟨0, Nat.zero_le _, rfl, HJ0⟩
      case round =>
        clear HJ0
        obtain ⟨j, hj, rfl, HI⟩ := hrel
        by_cases hlj : j < lk
        · obtain ⟨bd, rfl, hcb⟩ := (HS.out _ HI.out.below).at_ hlj
          go_upto_region 9 with fail
          clear hcb
          have HNN : Hid (∀ nq, Mine W B N (MM.rowK q x L F k (j + 1)) ((wr.drewN nq).setCell ⟨B, j, none⟩ (.int .u64 ((MM.addU (MM.rowK q x L F k j j) (MM.mulU (F k j) pk q) q : Nat) : Int)))) := Lib.hid fun nq => (HI.out.drewN nq).set j _ fun i hi => by rw [MM.rowK_step, HCE.out]
          have hcl : wr.cell? ⟨B, j, none⟩ = some (.int .u64 ((MM.rowK q x L F k j j : Nat) : Int)) := HI.out.cell (by omega)
          have hfr : wr.frozen? ⟨B, j, none⟩ = false := HI.out.free j
          have HM := ret_mulU (F k j) pk q (HF.out k j) HPL
          have HA := ret_addU (MM.rowK q x L F k j j) (MM.mulU (F k j) pk q) q
          generalize MM.mulU (F k j) pk q = x1 at *
          generalize MM.addU (MM.rowK q x L F k j j) x1 q = x2 at *
          generalize MM.rowK q x L F k j j = x0 at *
          have hj0 : (0 : Int) ≤ (j : Int) := Int.natCast_nonneg _
          have hj1 : (j : Int) < (N : Int) := by omega
          refine QT.region 13 (by kernel_rfl) (by kernel_rfl) ?_
          simp only [List.take_succ_cons, List.take_zero, List.drop_succ_cons, List.drop_zero]
          repeat (quiet_step ((first | (go_at_call 31; exact (HM).quiet) | (go_at_call 25; exact (HA).quiet))))
          refine wpQuiet_nil ?_
          intro nq
          go_wp2_with fail
          clear hj0 hj1 hcl hfr HM HA
          go_roundw
          case rel => exact ⟨j + 1, by omega, by go_num, Lib.hid (HNN.out nq)⟩
          case measure => simp [RowKit.intOf]; omega
        · obtain rfl : j = lk := by omega
          go_wp2_with (go_at_call 31; (with_reducible refine (HPM.at _).mono ?_); rintro e w' ⟨rfl, nd, rfl⟩)
          go_roundw
          case rel => exact ⟨k + 1, by omega, by go_num, by rw [HPN.out], Lib.hid ((HI.out.drewN _).congr fun i _ => HKE.out i)⟩
          case measure => simp [RowKit.intOf]; omega
    · obtain rfl : k = m := by omega
      go_wp2_with fail
      go_ret
      exact ⟨rfl, HJ.out⟩
end M
end Go.Proofs.YtlnlepadninnaaaDoor
/- Rows that a call makes by appends, several of them side by side. -/
namespace Go.Proofs.YtlnlepadninnaaaDoor
open Go Go.RowKit Go.Lib
namespace M
def updV {α : Type} (f : Nat → α) (i : Nat) (x : α) (j : Nat) : α := if j = i then x else f j
theorem updV_same {α : Type} (f : Nat → α) (i : Nat) (x : α) : updV f i x i = x := if_pos rfl
theorem updV_other {α : Type} {f : Nat → α} {i j : Nat} {x : α} (h : j ≠ i) : updV f i x j = f j := if_neg h
def four {α : Type} (a b c d : α) : Nat → α
  | 0 => a
  | 1 => b
  | 2 => c
  | _ => d
/-- m rows of values; the row i has n i of them, each as C says; no two of them share a block. -/
structure Fam (T : TypeId) (B m : Nat) (C : Nat → Nat → Value → World → Prop) (v : Nat → Value) (n : Nat → Nat) (X : World) : Prop where
  rows : ∀ i, i < m → ∃ xs : List Value, xs.length = n i ∧ X.ownsRow B T 1 (v i) (n i) xs ∧ ∀ k, k < n i → ∃ u, xs[k]? = some u ∧ C i k u X
  apart : ∀ i j, i < m → j < m → i ≠ j → ∀ b, (v i).ownBlock = some b → (v j).ownBlock = some b → False
section
variable {T S : TypeId} {B m : Nat} {C : Nat → Nat → Value → World → Prop} {v v' : Nat → Value} {n n' : Nat → Nat} {X Y : World}
theorem Fam.start (T : TypeId) (B m : Nat) (C : Nat → Nat → Value → World → Prop) (X : World) (hv : ∀ i, i < m → v i = .slice none 0 0) (hn : ∀ i, i < m → n i = 0) : Fam T B m C v n X :=
  ⟨fun i hi => ⟨[], by rw [hn i hi]; rfl, by rw [hv i hi, hn i hi]; exact ⟨rfl, .inl ⟨rfl, rfl⟩⟩, fun k hk => by rw [hn i hi] at hk; omega⟩, fun i j hi _ _ b h => by rw [hv i hi] at h; cases h⟩
theorem Fam.congr (h : Fam T B m C v n X) (hv : ∀ i, i < m → v i = v' i) (hn : ∀ i, i < m → n i = n' i) : Fam T B m C v' n' X :=
  ⟨fun i hi => by rw [← hv i hi, ← hn i hi]; exact h.rows i hi, fun i j hi hj hne b h1 h2 => h.apart i j hi hj hne b (by rw [hv i hi]; exact h1) (by rw [hv j hj]; exact h2)⟩
theorem Fam.as (h : Fam T B m C v n X) (hC : ∀ i k u, C i k u X → C i k u Y) (hk : ∀ (k : Nat) (cs : Array Value), B ≤ k → X.heap[k]? = some (.cells cs T (0, 0)) → Y.heap[k]? = some (.cells cs T (0, 0))) : Fam T B m C v n Y :=
  ⟨fun i hi => let ⟨xs, h1, h2, h3⟩ := h.rows i hi; ⟨xs, h1, ownsRow_as h2 hk, fun k hk' => let ⟨u, a, b⟩ := h3 k hk'; ⟨u, a, hC i k u b⟩⟩, h.apart⟩
/-- One value more behind the row i, that lies in a block by itself. -/
theorem Fam.more {i0 : TypeInfo} {z0 : Value} {sz : Nat} (hS : Tryd.prog.underlying S = some (.slice T)) (hi0 : Tryd.prog.info? T = some i0) (hz : i0.zero = some z0) (h1 : i0.size = 1) (h2 : i0.bytes = sz) (hzs : z0.cells.size = 1) (hsz : sz ≤ 24)
    (h : Fam T B m C v n X) (hB : B ≤ X.heap.size) (i : Nat) (hi : i < m) (hk : n i ≤ 900000) (u : Value) (c : Nat) (h1u : u.oneCell' = true) (hu : C i (n i) u X) (hCs : ∀ i k u X Y, C i k u X → Sm T S X Y → C i k u Y) :
    ∃ ao' c' Y, (Builtin.append_ #[S, S] S #[v i, .slice (some ⟨X.heap.size, 0, none⟩) 1 c]).run Tryd.prog (X.alloc (.cells #[u] T)) = .ok (.slice ao' (n i + 1) c') Y ∧ Fam T B m C (updV v i (.slice ao' (n i + 1) c')) (updV n i (n i + 1)) Y ∧ Sm T S X Y ∧ X.heap.size ≤ Y.heap.size ∧ (∀ j, j < B → Y.heap[j]? = X.heap[j]?) ∧ Y.os = X.os ∧ Y.tape = X.tape ∧ Y.output = X.output := by
  obtain ⟨xs, hx, ho, hr⟩ := h.rows i hi
  have hb := below_box X (.cells #[u] T)
  have hnew := heap_alloc_new X (.cells #[u] T)
  have hs1 : (X.alloc (.cells #[u] T)).heap.size = X.heap.size + 1 := World.size_alloc _ _
  obtain ⟨X1, hX1⟩ : ∃ X1, X.alloc (.cells #[u] T) = X1 := ⟨_, rfl⟩
  rw [hX1] at hb hnew hs1 ⊢
  have ho1 : X1.ownsRow B T 1 (v i) (n i) xs := ownsRow_as ho fun j cs _ hj => (hb.block j (row_lt hj)).trans hj
  obtain ⟨w, Y, hrun, hown, hg, _, hat⟩ := run_append_own_at (P := Tryd.prog) X1 B S S T i0 z0 1 sz hS hi0 hz h1 h2 hzs (by decide) (v i) (n i) xs ho1 ⟨X.heap.size, 0, none⟩ 1 c [u] (by rfl) (fun j y hj => by
    have hl := (List.getElem?_eq_some_iff.1 hj).1
    obtain rfl : j = 0 := by simpa using hl
    cases hj
    rw [add_zero', cell_of_row _ _ _ _ _ _ hnew]; rfl) (by simpa using h1u) (by unfold maxLen; omega) (Nat.le_trans (Nat.mul_le_mul (show n i + 1 ≤ 1000000 by omega) hsz) (by decide)) (Nat.le_trans hB hb.size)
  have hob : ∀ a, a < m → ∀ j, (v a).ownBlock = some j → B ≤ j ∧ j < X.heap.size ∧ ∃ cs, X.heap[j]? = some (.cells cs T (0, 0)) := fun a ha j e => by
    obtain ⟨ys, _, h2, _⟩ := h.rows a ha
    rcases h2.2 with ⟨e1, _⟩ | ⟨g, cap, cur, e1, hg2, hg3, _⟩
    · rw [e1] at e; cases e
    · rw [e1] at e
      have e' : g = j := by simpa [Value.ownBlock] using e
      subst e'
      exact ⟨hg2, row_lt hg3, cur, hg3⟩
  have hsm1 : Sm T S X1 Y := fun j cs t fr hT _ e => (hg.block j (row_lt e) (fun e1 => by
    obtain ⟨_, hlt, cs', hcs⟩ := hob i hi j e1.symm
    have := (hb.block j hlt).trans hcs
    rw [e] at this
    injection this with hcs
    injection hcs with _ e2 _
    exact hT e2)).trans e
  have hsm : Sm T S X Y := (Sm.of_as (.of_below hb)).trans hsm1
  obtain ⟨ao', c', rfl⟩ : ∃ ao' c', w = .slice ao' (n i + 1) c' := by
    rcases hown.2 with ⟨rfl, h0⟩ | ⟨g, cap, cur, rfl, _⟩
    · omega
    · exact ⟨_, _, rfl⟩
  refine ⟨ao', c', Y, hrun, ⟨fun a ha => ?_, fun a b ha hb' hne j e1 e2 => ?_⟩, hsm, Nat.le_trans hb.size hg.size, fun j hj => ?_, hg.os.trans hb.os, hg.tape.trans hb.tape, hg.output.trans hb.output⟩
  · by_cases e : a = i
    · subst e
      rw [updV_same, updV_same]
      refine ⟨xs ++ [u], by simp [hx], hown, fun k hk' => ?_⟩
      by_cases e : k = n a
      · subst e
        exact ⟨u, by rw [List.getElem?_append_right (by omega), hx]; simp, hCs _ _ _ _ _ hu hsm⟩
      · obtain ⟨y, p1, p2⟩ := hr k (by omega)
        exact ⟨y, by rw [List.getElem?_append_left (by omega)]; exact p1, hCs _ _ _ _ _ p2 hsm⟩
    · rw [updV_other e, updV_other e]
      obtain ⟨ys, q1, q2, q3⟩ := h.rows a ha
      refine ⟨ys, q1, ?_, fun k hk' => let ⟨y, p1, p2⟩ := q3 k hk'; ⟨y, p1, hCs _ _ _ _ _ p2 hsm⟩⟩
      have q2' : X1.ownsRow B T 1 (v a) (n a) ys := ownsRow_as q2 fun j cs _ hj => (hb.block j (row_lt hj)).trans hj
      refine q2'.kept (row := (v i).ownBlock) hg ?_
      cases e3 : (v a).ownBlock with
      | none => exact .inl rfl
      | some b => exact .inr fun e2 => h.apart a i ha hi e b e3 e2.symm
  · by_cases ea : a = i
    · subst ea
      rw [updV_same] at e1
      rw [updV_other (fun e => hne e.symm)] at e2
      obtain ⟨_, hlt, _⟩ := hob b hb' j e2
      rcases hat with hat | hat
      · exact h.apart a b ha hb' hne j (hat ▸ e1) e2
      · rw [hat] at e1
        have : X1.heap.size = j := by simpa using e1
        omega
    · rw [updV_other ea] at e1
      by_cases eb : b = i
      · subst eb
        rw [updV_same] at e2
        obtain ⟨_, hlt, _⟩ := hob a ha j e1
        rcases hat with hat | hat
        · exact h.apart a b ha hb' hne j e1 (hat ▸ e2)
        · rw [hat] at e2
          have : X1.heap.size = j := by simpa using e2
          omega
      · rw [updV_other eb] at e2
        exact h.apart a b ha hb' hne j e1 e2
  · have := hb.size
    exact (hg.block j (by omega) (fun e1 => by have := (hob i hi j e1.symm).1; omega)).trans (hb.block j (by omega))
end
/-- What a row of lists reads as. -/
theorem Fam.mat {B m lo t : Nat} {Z : Nat → Nat → Nat → Nat} {v : Nat → Value} {n : Nat → Nat} {X : World} (h : Fam 25 B m (fun i k u X => RowC lo X u t (Z i k)) v n X) {i : Nat} (hi : i < m) : ∃ ao c, v i = .slice ao (n i) c ∧ Mat X ao (n i) (fun _ => t) (Z i) := by
  obtain ⟨xs, hx, ⟨_, ⟨h1, h0⟩ | ⟨g, cap, cur, h1, h2, h3, h4, h5, _, h7⟩⟩, hr⟩ := h.rows i hi
  · exact ⟨none, 0, by rw [h1, h0], fun k hk => by omega⟩
  · refine ⟨_, cap, h1, fun k hk => ?_⟩
    obtain ⟨u, a, b⟩ := hr k hk
    obtain ⟨bo, cu, rfl, hs⟩ := b.src
    refine ⟨_, bo, cu, rfl, ?_, hs⟩
    rw [add_zero', cell_of_row _ _ _ _ _ _ h3]
    have e1 : (cur.toList.take (n i * 1))[k]? = xs[k]? := by rw [h7]
    rw [a, List.getElem?_take_of_lt (by omega)] at e1
    simpa using e1
end M
end Go.Proofs.YtlnlepadninnaaaDoor

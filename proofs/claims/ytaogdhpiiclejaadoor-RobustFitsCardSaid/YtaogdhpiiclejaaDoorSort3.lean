/- The library's Compact of a row of numbers: how many it leaves. -/
import Derived.Test.YtaogdhpiiclejaaDoorSort2
import Derived.Lib.SliceRun
import Derived.Deep.QuietTactic
import Derived.BigQuiet
namespace Go.Proofs.YtaogdhpiiclejaaDoor
open Go Go.RowKit Go.Lib
namespace MM
def NoAdj (k : Nat) (z : Nat → Nat) : Prop := ∀ i, i + 1 < k → z i ≠ z (i + 1)
theorem NoAdj.dup {n : Nat} {z : Nat → Nat} (ha : Asc 0 n z) : NoAdj n z ↔ ¬ Dup n z := by
  constructor
  · rintro h ⟨p, q, hpq, hq, e⟩
    have h1 := ha p (p + 1) (Nat.zero_le _) (by omega) (by omega)
    have h2 : z (p + 1) ≤ z q := by
      rcases Nat.lt_or_ge (p + 1) q with h3 | h3
      · exact ha (p + 1) q (Nat.zero_le _) h3 hq
      · rw [show q = p + 1 by omega]; omega
    exact h p (by omega) (by omega)
  · intro h i hi e
    exact h ⟨i, i + 1, by omega, hi, e⟩
end MM
namespace M
theorem Mine.setCells {w0 : World} {B n : Nat} (xs : List Value) : ∀ {w : World} {z : Nat → Nat} (o : Nat), Mine w0 B n z w → (∀ x ∈ xs, x = .int .u64 0) → ∃ y, Mine w0 B n y (w.setCells B o xs) := by
  induction xs with
  | nil => intro w z o h _; exact ⟨z, h⟩
  | cons x xs ih =>
    intro w z o h hx
    obtain rfl : x = .int .u64 0 := hx x (by simp)
    have h1 := h.set (y := fun j => if j = o then 0 else z j) o 0 (fun _ _ => rfl)
    exact ih (o + 1) h1 (fun x hx' => hx x (by simp [hx']))
/-- What Compact leaves: k numbers, all of them just where no two neighbours were the same. A plain definition: the walk does not look into it. -/
def Compacted (W0 : World) (B n : Nat) (y : Nat → Nat) (e : Ending) (w' : World) : Prop := ∃ k c : Nat, e = .returned (.slice (some ⟨B, 0, none⟩) k c) ∧ k ≤ n ∧ (k = n ↔ MM.NoAdj n y) ∧ Below W0.heap.size W0 w'
theorem zero_u64 (w : World) : (zeroValue 23).run Tryd.prog w = .ok (.int .u64 0) w := by kernel_rfl

set_option maxHeartbeats 8000000 in
theorem compact_any (W0 : World) (B n : Nat) (y : Nat → Nat) (hn : n ≤ 1000000) (w : World) (hM : Mine W0 B n y w) :
    Calls Tryd.prog 41 #[.slice (some ⟨B, 0, none⟩) n n] w (Compacted W0 B n y) := by
  have HM := Lib.hid hM
  clear hM
  by_cases h2 : n < 2
  · have h3 : (n : Int) < 2 := by omega
    go_enter Tryd.func41, Tryd.ntmps41
    go_wp2_with fail
    go_ret
    exact ⟨n, n, rfl, Nat.le_refl _, ⟨fun _ i hi => absurd hi (by omega), fun _ => rfl⟩, HM.out.below⟩
  · have h3 : ¬ (n : Int) < 2 := by omega
    go_enter Tryd.func41, Tryd.ntmps41
    go_wp2_with fail
    go_loopw [3] (fun s3 wx => ∃ k : Nat, 1 ≤ k ∧ k ≤ n ∧ s3 = .int .i64 (k : Int) ∧ Hid (Mine W0 B n y wx ∧ MM.NoAdj k y)) (fun s3 _ => n - (RowKit.intOf s3).toNat)
    case atStart => exact ⟨1, Nat.le_refl _, by omega, rfl, Lib.hid ⟨HM.out, fun i hi => absurd hi (by omega)⟩⟩
    case round =>
      clear HM
      obtain ⟨k, hk1, hk2, rfl, HJ⟩ := hrel
      obtain ⟨wo, hwo⟩ : ∃ wo : World, wo = wr := ⟨_, rfl⟩
      subst hwo
      by_cases hlt : k < n
      · obtain ⟨j, hj⟩ : ∃ j, k = j + 1 := ⟨k - 1, by omega⟩
        have c1 := HJ.out.1.cell (k := k) (by omega)
        have c2 := HJ.out.1.cell (k := j) (by omega)
        have e1 : (k : Int) - 1 = (j : Int) := by omega
        have e2 : IntKind.i64.wrap (j : Int) = (j : Int) := IntWalk.i64_in _ (by omega)
        have p1 : (0 : Int) ≤ (k : Int) := Int.natCast_nonneg _
        have p2 : (0 : Int) ≤ (j : Int) := Int.natCast_nonneg _
        have p3 : (k : Int) < (n : Int) := by omega
        have p4 : (j : Int) < (n : Int) := by omega
        have HK := Lib.hid hj
        clear hj
        by_cases he : y k = y j
        · have HNA : Hid (¬ MM.NoAdj n y) := Lib.hid fun h => h j (by have := HK.out; omega) (by rw [← HK.out, he])
          rw [he] at c1
          clear he
          generalize y j = v at *
          go_upto_region 6 with fail
          go_quiet (fail)
          clear c1 c2 e1 e2 p2 p4
          have p5 : (k : Int) ≤ (n : Int) := by omega
          go_wp2_with fail
          obtain ⟨m, hm⟩ : ∃ m, n - k = m := ⟨_, rfl⟩
          rw [hm]
          have hkm : k + m = n := by omega
          have HKM := Lib.hid hkm
          have hm0 : 1 ≤ m := by omega
          have hm1 : m ≤ 1000000 := by omega
          clear hm hkm
          go_loopw [3, 5] (fun s3 s5 wx => ∃ (kk k2 : Nat) (yy : Nat → Nat), k ≤ kk ∧ kk < k + k2 ∧ 1 ≤ k2 ∧ k2 ≤ m ∧ s3 = .int .i64 (kk : Int) ∧ s5 = .int .i64 (k2 : Int) ∧ Hid (Mine W0 B n yy wx)) (fun _ s5 _ => m - (RowKit.intOf s5).toNat)
          case atStart => exact ⟨k, 1, y, Nat.le_refl _, by omega, Nat.le_refl _, hm0, rfl, rfl, Lib.hid (HJ.out.1.drewN _)⟩
          case round =>
            obtain ⟨kk, k2, yy, g1, g2, g3, g4, rfl, rfl, HI⟩ := hrel
            by_cases hl2 : k2 < m
            · obtain ⟨j2, hj2⟩ : ∃ j2, k2 = j2 + 1 := ⟨k2 - 1, by omega⟩
              have c1 := HI.out.cell (k := k + k2) (by have := HKM.out; omega)
              have c2 := HI.out.cell (k := k + j2) (by have := HKM.out; omega)
              have c3 := HI.out.cell (k := kk) (by have := HKM.out; omega)
              have f3 := HI.out.free kk
              have e1 : (k2 : Int) - 1 = (j2 : Int) := by omega
              have e2 : IntKind.i64.wrap (j2 : Int) = (j2 : Int) := IntWalk.i64_in _ (by omega)
              have q1 : (0 : Int) ≤ (k2 : Int) := Int.natCast_nonneg _
              have q2 : (0 : Int) ≤ (j2 : Int) := Int.natCast_nonneg _
              have q3 : (k2 : Int) < (m : Int) := by omega
              have q4 : (j2 : Int) < (m : Int) := by omega
              have q5 : (kk : Int) < (n : Int) := by have := HKM.out; omega
              have HJ2 := Lib.hid hj2
              clear hj2
              by_cases he : yy (k + k2) = yy (k + j2)
              · rw [he] at c1
                clear he c3 f3
                generalize yy (k + j2) = v2 at *
                go_upto_region 11 with fail
                go_quiet (fail)
                clear c1 c2 e1 e2 q2 q4
                go_wp2_with fail
                go_roundw
                case rel => exact ⟨kk, k2 + 1, yy, g1, by omega, by omega, by omega, rfl, by go_num, Lib.hid (HI.out.drewN _)⟩
                case measure => simp [RowKit.intOf]; omega
              · have e3 : (((yy (k + k2) : Nat) : Int) != ((yy (k + j2) : Nat) : Int)) = true := by simp; omega
                have e4 : ((yy (k + k2)) != (yy (k + j2))) = true := by simpa using he
                have HN : Hid (∀ m, Mine W0 B n (fun j => if j = kk then yy (k + k2) else yy j) ((wr.drewN m).setCell ⟨B, kk, none⟩ (.int .u64 ((yy (k + k2) : Nat) : Int)))) := Lib.hid fun m => (HI.out.drewN m).set kk _ (fun _ _ => rfl)
                clear he
                generalize yy (k + j2) = v2 at *
                generalize yy (k + k2) = u2 at *
                go_upto_region 11 with fail
                go_quiet (fail)
                clear c2 e1 e2 q2 q4 e3 e4
                go_wp2_with fail
                go_roundw
                case rel => exact ⟨kk + 1, k2 + 1, _, by omega, by omega, by omega, by omega, by go_num, by go_num, Lib.hid (HN.out _)⟩
                case measure => simp [RowKit.intOf]; omega
            · obtain rfl : k2 = m := by omega
              have hkn : kk < n := by have := HKM.out; omega
              obtain ⟨yz, hyz⟩ := Mine.setCells (List.replicate (n - kk) (Value.int .u64 0)) kk HI.out (fun x hx => (List.mem_replicate.1 hx).2)
              have HYZ := Lib.hid hyz
              have hcl : ∀ ty, (Builtin.clear_ #[22] ty #[.slice (some ⟨B, kk, none⟩) (n - kk) (n - kk)]).run Tryd.prog wr = .ok (.tuple #[]) (wr.setCells B kk (List.replicate (n - kk) (.int .u64 0))) :=
                fun ty => Lib.run_clear_slice wr _ _ ty _ Tryd.underlying22 zero_u64 rfl rfl B kk _ _ (by omega) (fun j hj => by rw [HI.out.cell (by omega)]; rfl) (fun j _ => HI.out.free _)
              have q5 : (kk : Int) ≤ (n : Int) := by omega
              clear hyz
              go_wp2_with fail
              go_ret
              exact ⟨kk, n, rfl, by omega, ⟨fun h => absurd h (by omega), fun h => absurd h HNA.out⟩, HYZ.out.below⟩
        · have e3 : (((y k : Nat) : Int) == ((y j : Nat) : Int)) = false := by simp; omega
          have e4 : ((y k) == (y j)) = false := by simpa using he
          have HNX : Hid (MM.NoAdj (k + 1) y) := Lib.hid fun i hi => by
            by_cases e : i = j
            · subst e; rw [← HK.out]; exact fun h => he h.symm
            · exact HJ.out.2 i (by have := HK.out; omega)
          clear he
          generalize y j = v at *
          generalize y k = u at *
          go_upto_region 6 with fail
          go_quiet (fail)
          clear c1 c2 e1 e2 p2 p4 e3 e4
          go_wp2_with fail
          go_roundw
          case rel => exact ⟨k + 1, by omega, by omega, by go_num, Lib.hid ⟨HJ.out.1.drewN _, HNX.out⟩⟩
          case measure => simp [RowKit.intOf]; omega
      · obtain rfl : k = n := by omega
        go_wp2_with fail
        go_ret
        exact ⟨k, k, rfl, Nat.le_refl _, ⟨fun _ => HJ.out.2, fun _ => rfl⟩, HJ.out.1.below⟩
end M
end Go.Proofs.YtaogdhpiiclejaaDoor

/- GroupTells: for any parameters, any row of numbers, any two numbers and any pair, what the program says of the group, products, powers, commitments and values is what the document's own answer says. -/
import Derived.Test.YtmeaiindbkkkiaaRows
import Derived.Test.YtmeaiindbkkkiaaOpen
import Derived.Test.YtmeaiindbkkkiaaOpenS
import Derived.Test.YtmeaiindbkkkiaaGrpR2
import Derived.Test.YtmeaiindbkkkiaaGroupTellsC
namespace Go.Proofs.Ytmeaiindbkkkiaa
open Go.ChangeShapes Go.WideShapes Go.ChangeAt Go.RowKit
namespace GroupTells
open M

set_option maxHeartbeats 400000 in
theorem long (p : Pm) (a : Addr) (n cap x e s b : Nat) (hn : 100 < n) (w : World) :
    Calls Try.prog 3 #[.agg p.cells, .slice (some a) n cap, .int .u64 (x : Int), .int .u64 (e : Int), .agg (pair s b)] w fun e w' => e = .returned (.bool true) ∧ Below w.heap.size w w' := by
  have HB := Lib.hid ((below_box w (.cells p.cells 24)).trans ((below_box (w.alloc (.cells p.cells 24)) (.cells (pair s b) 27)).mono (by simp)))
  go_enter Try.func3, Try.ntmps3
  go_wp2_with fail
  go_ret
  exact ⟨rfl, HB.out⟩
theorem walk (p : Pm) (v : Value) (x e s b : Nat) (ok : PmOk p) (hx : x < 18446744073709551616) (he : e < 18446744073709551616) (hs : s < 18446744073709551616) (hb : b < 18446744073709551616) (w : World) (hv : NumsIn w v) :
    Calls Try.prog 3 #[.agg p.cells, v, .int .u64 (x : Int), .int .u64 (e : Int), .agg (pair s b)] w fun e w' => e = .returned (.bool true) ∧ Below w.heap.size w w' := by
  have I1 := is_any p x hx ok.b1
  have I2 := ris_any p x hx ok.b1
  have P1 := power_any p x e hx he
  have P2 := rpower_any p x hx e he
  have C1 := commit_any p s b hs hb ok.b2 ok.b3
  have C2 := rcommit_any p s b hs hb ok.b2 ok.b3
  rcases hv with rfl | ⟨a, n, cap, z, rfl, _, hz, hr⟩
  · have z0 : ∀ k, k < 0 → (fun _ : Nat => (0 : Nat)) k < 18446744073709551616 := fun k h => absurd h (by omega)
    exact core_nil p s b x e (MM.addU 0 1 p.P) _ _ (MM.addU 0 1 p.P) _ (fun _ => 0) w I1 I2 P1 P2 C1 C2 (fun a' cap' W' h => times_any p a' 0 cap' (fun _ => 0) z0 (by omega) W' h) (fun a' cap' W' h => at_any p a' 0 cap' e (fun _ => 0) z0 he (by omega) W' h) (rtimes_nil p) (rat_nil p e)
  · by_cases hn : n ≤ 100
    · exact core p s b x e n cap (MM.timesN p.P z n) _ _ (MM.atN p.P p.Q e z n) _ a z w hn hr I1 I2 P1 P2 C1 C2 (fun a' cap' W' h => times_any p a' n cap' z (fun k _ => hz k) (by omega) W' h) (fun a' cap' W' h => at_any p a' n cap' e z (fun k _ => hz k) he (by omega) W' h)
        (fun a' cap' W' h => rtimes_any p a' n cap' z (fun k _ => hz k) (by omega) W' h) (fun a' cap' W' h => rat_any p a' n cap' e z (fun k _ => hz k) he (by omega) W' h)
    · exact long p a n cap x e s b (by omega) w

set_option maxRecDepth 100000 in
theorem lifted (os : Os) (started : os.Started) (H : Type) (enc : TypeId × Value → H) :
    ReturnsInHanded {} Try.checked os 3 .any (Rows.groupTellsSpec.pre6 enc Try.prog Try.f3 Rows.groupTellsRow.domain false) (Rows.groupTellsSpec.post enc Try.prog Try.f3 false true false false) := by
  refine returnsInHanded_of_change (C := Try.checked) M.own started (by kernel_rfl) Try.func3
    (ChangeSpec.witness6 (enc := enc) (C := Try.checked) false ⟨#[], #[.agg #[.int .u64 0, .int .u64 0, .int .u64 0, .int .u64 0, .int .i64 0, .int .i64 0, .int .i64 0, .int .i64 0, .int .i64 0, .int .i64 0, .int .i64 0, .int .i64 0], .slice none 0 0, .int .u64 0, .int .u64 0, .agg #[.int .u64 0, .int .u64 0]], []⟩ 8 (by kernel_rfl) (by kernel_rfl) (by kernel_rfl) (by kernel_rfl)) ?_
  intro W base args ds gs before hval0 hW _ _
  have hval : ∀ (j : Nat) t v, Try.f3.params[j]? = some t → args[j]? = some v → Value.okWide Try.prog W .any base t v := hval0
  have hW' := hW
  obtain ⟨p, q, hA0, hV, rfl, _, _⟩ := hW
  have hA : DataW.TrodAll enc Try.prog W 0 (fun _ => true) true Try.f3.params.toList args.toList ds p := hA0
  rw [Try.params3] at hA hval
  obtain ⟨v0, vs0, d0, ds0, p0, q0, hargs, rfl, rfl, h0, r0⟩ := trodAll_cons hA
  obtain ⟨v1, vs1, d1, ds1, p1, q1, rfl, rfl, rfl, h1, r1⟩ := trodAll_cons r0
  obtain ⟨v2, vs2, d2, ds2, p2, q2, rfl, rfl, rfl, h2, r2⟩ := trodAll_cons r1
  obtain ⟨v3, vs3, d3, ds3, p3, q3, rfl, rfl, rfl, h3, r3⟩ := trodAll_cons r2
  obtain ⟨v4, vs4, d4, ds4, p4, q4, rfl, rfl, rfl, h4, r4⟩ := trodAll_cons r3
  obtain ⟨rfl, rfl, rfl⟩ := trodAll_nil r4
  obtain rfl : args = #[v0, v1, v2, v3, v4] := by cases args; simp_all
  obtain ⟨rfl, rfl⟩ := trodVars_none hV
  have k0 := h0
  have lt0 : ∀ x ∈ p0, x.block < W.heap.size := by obtain ⟨m, hm⟩ := k0; exact DataW.trod_lt m _ _ _ hm
  obtain ⟨a0, rfl, ok0⟩ := M.open_pm (hval 0 24 v0 rfl rfl) h0
  have k1 := h1
  have lt1 : ∀ x ∈ p1, x.block < W.heap.size := by obtain ⟨m, hm⟩ := k1; exact DataW.trod_lt m _ _ _ hm
  have ns1 := M.open_nums (hval 1 25 v1 rfl rfl) h1
  have k2 := h2
  have lt2 : ∀ x ∈ p2, x.block < W.heap.size := by obtain ⟨m, hm⟩ := k2; exact DataW.trod_lt m _ _ _ hm
  obtain ⟨x2, rfl, rfl, rfl, w2⟩ := open_int Try.underlying22 (hval 2 22 v2 rfl rfl) h2
  obtain ⟨lo2, hi2⟩ := M.u64_bounds w2
  obtain ⟨a2, rfl⟩ : ∃ a : Nat, x2 = a := ⟨x2.toNat, by omega⟩
  have k3 := h3
  have lt3 : ∀ x ∈ p3, x.block < W.heap.size := by obtain ⟨m, hm⟩ := k3; exact DataW.trod_lt m _ _ _ hm
  obtain ⟨x3, rfl, rfl, rfl, w3⟩ := open_int Try.underlying22 (hval 3 22 v3 rfl rfl) h3
  obtain ⟨lo3, hi3⟩ := M.u64_bounds w3
  obtain ⟨a3, rfl⟩ : ∃ a : Nat, x3 = a := ⟨x3.toNat, by omega⟩
  have k4 := h4
  have lt4 : ∀ x ∈ p4, x.block < W.heap.size := by obtain ⟨m, hm⟩ := k4; exact DataW.trod_lt m _ _ _ hm
  obtain ⟨a4, b4, rfl, oka4, okb4⟩ := M.open_pair (hval 4 27 v4 rfl rfl) h4
  clear hA0 hval0
  simp only [List.append_nil] at hW'
  refine (walk a0 v1 a2 a3 a4 b4 ok0 (by omega) (by omega) oka4 okb4 W ns1).mono fun e W' ⟨he, bel⟩ => ?_
  subst he
  exact ⟨_, rfl, _, _, _, [], _, [], hW', (trodAll_cons_mk (shut_bool Try.underlying4 _) trodAll_mk0), (trodAll_cons_mk (Below.trod M.laidOut (by kernel_rfl) (of_decide_eq_true (by kernel_rfl)) k0 bel lt0) (trodAll_cons_mk (Below.trod M.laidOut (by kernel_rfl) (of_decide_eq_true (by kernel_rfl)) k1 bel lt1) (trodAll_cons_mk (Below.trod M.laidOut (by kernel_rfl) (of_decide_eq_true (by kernel_rfl)) k2 bel lt2) (trodAll_cons_mk (Below.trod M.laidOut (by kernel_rfl) (of_decide_eq_true (by kernel_rfl)) k3 bel lt3) (trodAll_cons_mk (Below.trod M.laidOut (by kernel_rfl) (of_decide_eq_true (by kernel_rfl)) k4 bel lt4) trodAll_mk0))))), rfl, bel.frame _, fun h => by cases h⟩

theorem holds : Rows.GroupTellsSaid :=
  OpenClaim.holds_of_wide 3 Try.f3 rfl rfl rfl rfl rfl rfl rfl ⟨rfl, rfl, rfl, rfl, rfl⟩ rfl rfl rfl rfl rfl (by kernel_rfl) Try.func3 (by kernel_rfl)
    (of_decide_eq_true (by kernel_rfl)) (by unfold Func.isWrapper; first | (rw [if_pos (by decide +kernel)]; kernel_rfl) | (rw [if_neg (by decide +kernel)]; exact ⟨rfl, rfl⟩))
    (fun os started H enc _ => lifted os started H enc)

end GroupTells

theorem groupTells_holds : Rows.GroupTellsSaid := GroupTells.holds
#print axioms groupTells_holds
end Go.Proofs.Ytmeaiindbkkkiaa

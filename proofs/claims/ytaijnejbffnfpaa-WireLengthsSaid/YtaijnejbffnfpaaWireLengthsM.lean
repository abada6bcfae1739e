/- Things of the same kinds, and texts and lists of the same lengths, have as many bytes, whatever they are; unlike ones unlike bytes: whatever comes in. -/
import Derived.Test.YtaijnejbffnfpaaRows
import Derived.Test.YtaijnejbffnfpaaWB1
import Derived.Test.YtaijnejbffnfpaaWB13
import Derived.Test.YtaijnejbffnfpaaWB14
import Derived.SizedLaws
namespace Go.Proofs.Ytaijnejbffnfpaa
open Go.ChangeShapes Go.WideShapes Go.ChangeAt Go.RowKit
namespace WireLengths
open M

theorem walk (t o : Th) (ht : t.Ok) (ho : o.Ok) (W : World) (hrt : Rd W t.ao t.len t.z) (hst : t.s.length ≤ 140737488355328 ∧ t.len ≤ 140737488355328) (hro : Rd W o.ao o.len o.z) (hso : o.s.length ≤ 140737488355328 ∧ o.len ≤ 140737488355328) :
    Calls Try.prog 7 #[.agg t.cells, .agg o.cells] W fun e w' => e = .returned (.bool true) ∧ Below W.heap.size W w' := by
  by_cases h3 : t.k = 3
  · exact walk_text t o ht ho h3 W hrt hst hro hso
  by_cases h4 : t.k = 4
  · exact walk_list t o ht ho h4 W hrt hst hro hso
  exact walk_other t o ht ho h3 h4 W hrt hst hro hso

set_option maxRecDepth 100000 in
theorem lifted (os : Os) (started : os.Started) (H : Type) (enc : TypeId × Value → H) :
    ReturnsInHanded {} Try.checked os 7 .any (Rows.wireLengthsSpec.pre6 enc Try.prog Try.f7 Rows.wireLengthsRow.domain false) (Rows.wireLengthsSpec.post enc Try.prog Try.f7 false true false false) := by
  refine returnsInHanded_of_change_sized (C := Try.checked) M.own started (by kernel_rfl) Try.func7
    (ChangeSpec.witness6 (enc := enc) (C := Try.checked) false ⟨#[], #[.agg #[.int .u8 0, .int .u64 0, .string ⟨#[]⟩, .slice none 0 0, .int .i64 0], .agg #[.int .u8 0, .int .u64 0, .string ⟨#[]⟩, .slice none 0 0, .int .i64 0]], []⟩ 8 (by kernel_rfl) (by kernel_rfl) (by kernel_rfl) (by kernel_rfl)) ?_
  intro W base args ds gs before hval0 hW _ hsz0 _
  have hval : ∀ (j : Nat) t v, Try.f7.params[j]? = some t → args[j]? = some v → Value.okWide Try.prog W .any base t v := hval0
  have hW' := hW
  obtain ⟨p, q, hA0, hV, rfl, _, _⟩ := hW
  have hA : DataW.TrodAll enc Try.prog W 0 (fun _ => true) true Try.f7.params.toList args.toList ds p := hA0
  rw [Try.params7] at hA hval
  obtain ⟨v0, vs0, d0, ds0, p0, q0, hargs, rfl, rfl, h0, r0⟩ := trodAll_cons hA
  obtain ⟨v1, vs1, d1, ds1, p1, q1, rfl, rfl, rfl, h1, r1⟩ := trodAll_cons r0
  obtain ⟨rfl, rfl, rfl⟩ := trodAll_nil r1
  obtain rfl : args = #[v0, v1] := by cases args; simp_all
  obtain ⟨rfl, rfl⟩ := trodVars_none hV
  have k0 := h0
  have lt0 : ∀ x ∈ p0, x.block < W.heap.size := by obtain ⟨m, hm⟩ := k0; exact DataW.trod_lt m _ _ _ hm
  obtain ⟨a0, rfl, ok0, rd0⟩ := M.open_thing (hval 0 45 v0 rfl rfl) h0
  have sm0 : M.Small d0 45 := M.small_each hsz0 (j := 0) (by rw [Try.params7]; rfl) rfl
  have ns0 := M.one_small h0 sm0
  have k1 := h1
  have lt1 : ∀ x ∈ p1, x.block < W.heap.size := by obtain ⟨m, hm⟩ := k1; exact DataW.trod_lt m _ _ _ hm
  obtain ⟨a1, rfl, ok1, rd1⟩ := M.open_thing (hval 1 45 v1 rfl rfl) h1
  have sm1 : M.Small d1 45 := M.small_each hsz0 (j := 1) (by rw [Try.params7]; rfl) rfl
  have ns1 := M.one_small h1 sm1
  clear hA0 hval0
  simp only [List.append_nil] at hW'
  refine (walk a0 a1 ok0 ok1 W rd0 ns0 rd1 ns1).mono fun e W' ⟨he, bel⟩ => ?_
  subst he
  exact ⟨_, rfl, _, _, _, [], _, [], hW', (trodAll_cons_mk (shut_bool Try.underlying4 _) trodAll_mk0), (trodAll_cons_mk (Below.trod M.laidOut (by kernel_rfl) (of_decide_eq_true (by kernel_rfl)) k0 bel lt0) (trodAll_cons_mk (Below.trod M.laidOut (by kernel_rfl) (of_decide_eq_true (by kernel_rfl)) k1 bel lt1) trodAll_mk0)), rfl, bel.frame _, fun h => by cases h⟩

theorem holds : Rows.WireLengthsSaid :=
  OpenClaim.holds_of_wide 7 Try.f7 rfl rfl rfl rfl rfl rfl rfl ⟨rfl, rfl, rfl, rfl, rfl⟩ rfl rfl rfl rfl rfl (by kernel_rfl) Try.func7 (by kernel_rfl)
    (of_decide_eq_true (by kernel_rfl)) (by unfold Func.isWrapper; first | (rw [if_pos (by decide +kernel)]; kernel_rfl) | (rw [if_neg (by decide +kernel)]; exact ⟨rfl, rfl⟩))
    (fun os started H enc _ => lifted os started H enc)

end WireLengths

theorem wireLengths_holds : Rows.WireLengthsSaid := WireLengths.holds
#print axioms wireLengths_holds
end Go.Proofs.Ytaijnejbffnfpaa

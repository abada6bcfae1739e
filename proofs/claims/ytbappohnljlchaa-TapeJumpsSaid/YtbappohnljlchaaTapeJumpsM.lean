/- Of whatever seed: n draws of any number later a tape draws as the one of the seed to which n times the step was put. -/
import Derived.Test.YtbappohnljlchaaRows
import Derived.Test.YtbappohnljlchaaWB1
import Derived.Test.YtbappohnljlchaaWB5
import Derived.Test.YtbappohnljlchaaWB6
import Derived.Laws.Bits64
namespace Go.Proofs.Ytbappohnljlchaa
open Go.ChangeShapes Go.WideShapes Go.ChangeAt Go.RowKit
namespace TapeJumps
open M

open MM Go.Lib
theorem wrap_sum (s p : Nat) : IntKind.u64.wrap ((s : Int) + (p : Int)) = (((s + p) % 18446744073709551616 : Nat) : Int) := by
  rw [IntKind.wrap_u64]
  omega
theorem wrap_steps (n : Nat) : IntKind.u64.wrap ((n : Int) * 11400714819323198485) = ((n * 11400714819323198485 % 18446744073709551616 : Nat) : Int) := by
  rw [IntKind.wrap_u64]
  omega
theorem u64_nat (x : Int) : ∃ a : Nat, IntKind.u64.wrap x = (a : Int) := ⟨(x % 18446744073709551616).toNat, by rw [IntKind.wrap_u64]; omega⟩
theorem rem_nat {a n k : Nat} (h : a % k = n) : (a : Int) % (k : Int) = (n : Int) := by rw [← h]; rfl
theorem u64_small {n : Nat} (h : n < 1000) : IntKind.u64.wrap (n : Int) = (n : Int) := by
  rw [IntKind.wrap_u64]
  omega
set_option maxHeartbeats 4000000 in
set_option maxRecDepth 100000 in
theorem walk (s : Nat) (x y : Int) (hs : s < 18446744073709551616) (W : World) :
    Calls Try.prog 6 #[.int .u64 (s : Int), .int .i64 x, .int .i64 y] W fun e w' => e = .returned (.bool true) ∧ Below W.heap.size W w' := by
  obtain ⟨a, ha⟩ := u64_nat x
  obtain ⟨b, hb⟩ := u64_nat y
  obtain ⟨n, hn⟩ : ∃ n : Nat, a % 1000 = n := ⟨_, rfl⟩
  obtain ⟨m, hm⟩ : ∃ m : Nat, b % 100 = m := ⟨_, rfl⟩
  have HEA : Hid ((a : Int) % 1000 = (n : Int)) := Lib.hid (rem_nat hn)
  have HEB : Hid ((b : Int) % 100 = (m : Int)) := Lib.hid (rem_nat hm)
  have hn1 : n < 1000 := by rw [← hn]; exact Nat.mod_lt _ (by decide)
  have hm1 : m < 100 := by rw [← hm]; exact Nat.mod_lt _ (by decide)
  have HAE := Lib.hid ha
  have HBE := Lib.hid hb
  clear hn hm ha hb
  have wn : wrap64 (n : Int) = (n : Int) := IntWalk.wrap64_in _ ⟨by omega, by omega⟩
  have wm : wrap64 (m : Int) = (m : Int) := IntWalk.wrap64_in _ ⟨by omega, by omega⟩
  have un := u64_small hn1
  have wnm : wrap64 ((n : Int) + (m : Int)) = ((n + m : Nat) : Int) := by rw [IntWalk.wrap64_in _ ⟨by omega, by omega⟩]; omega
  have up := wrap_steps n
  have us := wrap_sum s (n * 11400714819323198485 % 18446744073709551616)
  rw [Nat.add_mod_mod] at us
  have hs3 : (s + n * 11400714819323198485) % 18446744073709551616 < 18446744073709551616 := Nat.mod_lt _ (by decide)
  have hrun0 := run_free s hs n
  generalize (s + n * 11400714819323198485) % 18446744073709551616 = s2 at *
  generalize n * 11400714819323198485 % 18446744073709551616 = p at *
  have hrun : (Tp.new s).run (allq 0) n = (Tp.new s2).as n := hrun0
  have HUP := Lib.hid up
  have HUS := Lib.hid us
  clear up us hrun0
  have H1 := Lib.hid (fun w (hb : Below W.heap.size W w) => (Tz.start hb).new_ hs)
  have H2 := Lib.hid (fun L w (h : Tz W L w) => h.new_ hs3)
  have HT : Hid (∀ B C w, Tz W [(true, B, Tp.new s), (true, C, Tp.new s2)] w → Calls Try.prog 12 #[ptr B, .int .i64 (n : Int), .int .u64 0] w fun e w' => ∃ R, e = .returned (.slice (some ⟨R, 0, none⟩) n n) ∧ Tz W [(true, B, (Tp.new s2).as n), (true, C, Tp.new s2)] w') := Lib.hid fun B C w h => (h.draws (i := 0) rfl n 0 (by omega) (by omega) (by show (0 : Nat) < _; decide)).mono fun _ _ ⟨R, e, _, _, d, _⟩ => ⟨R, e, by rw [hrun] at d; exact d⟩
  have HA : Hid (∀ B C w, Tz W [(true, B, (Tp.new s2).as n), (true, C, Tp.new s2)] w → Calls Try.prog 12 #[ptr B, .int .i64 (m : Int), .int .u64 0] w fun e w' => ∃ R, e = .returned (.slice (some ⟨R, 0, none⟩) m m) ∧ Nm R m ((Tp.new s2).get (allq 0)) w' ∧ Tz W [(true, B, ((Tp.new s2).as n).run (allq 0) m), (true, C, Tp.new s2)] w') := Lib.hid fun B C w h => (h.draws (i := 0) rfl m 0 (by omega) (by omega) (by show n < _; omega)).mono fun _ _ ⟨R, e, _, b, d, _⟩ => ⟨R, e, b.congr fun k _ => Tp.as_get _ _ _ k, d⟩
  have HC : Hid (∀ B C R t w, Tz W [(true, B, t), (true, C, Tp.new s2)] w → Nm R m ((Tp.new s2).get (allq 0)) w → Calls Try.prog 12 #[ptr C, .int .i64 (m : Int), .int .u64 0] w fun e w' => ∃ R2, e = .returned (.slice (some ⟨R2, 0, none⟩) m m) ∧ Nm R2 m ((Tp.new s2).get (allq 0)) w' ∧ Nm R m ((Tp.new s2).get (allq 0)) w' ∧ Tz W [(true, B, t), (true, C, (Tp.new s2).run (allq 0) m)] w') := Lib.hid fun B C R t w h hnm => by
    obtain ⟨lo, hi, hts⟩ := h
    obtain ⟨T, cs, hbx, hT⟩ := (hts.each 1 _ rfl).bx
    exact (hts.draws (i := 1) rfl m 0 (by omega) (by omega) (by show (0 : Nat) < _; decide)).mono fun _ _ ⟨R2, e, _, b, d, f⟩ => ⟨R2, e, b, hnm.turn f (hnm.apart hbx hT), _, _, d⟩
  have HNM : Hid (∀ R R2 w, Nm R m ((Tp.new s2).get (allq 0)) w → Nm R2 m ((Tp.new s2).get (allq 0)) w → Calls Try.prog 20 #[.slice (some ⟨R, 0, none⟩) m m, .slice (some ⟨R2, 0, none⟩) m m] w fun e w' => e = .returned (.bool true) ∧ ∃ d, w' = w.drewN d) := Lib.hid fun R R2 w h1 h2 => nums_any _ _ m m m _ (by omega) w h1.rd h2.rd
  have HB1 : Hid (∀ B C w, Tz W [(true, B, ((Tp.new s2).as n).run (allq 0) m), (true, C, (Tp.new s2).run (allq 0) m)] w → Calls Try.prog 13 #[ptr B] w fun e w' => e = .returned (.int .i64 ((n + m : Nat) : Int)) ∧ w' = w) := Lib.hid fun B C w h => by
    have := h.at_ (i := 0) rfl
    rwa [Tp.run_n] at this
  have HB2 : Hid (∀ B C w, Tz W [(true, B, ((Tp.new s2).as n).run (allq 0) m), (true, C, (Tp.new s2).run (allq 0) m)] w → Calls Try.prog 13 #[ptr C] w fun e w' => e = .returned (.int .i64 ((m : Nat) : Int)) ∧ w' = w) := Lib.hid fun B C w h => by
    have := h.at_ (i := 1) rfl
    rw [Tp.run_n] at this
    exact (show (Tp.new s2).n + m = m from Nat.zero_add m) ▸ this
  have HWF : Hid True := Lib.hid trivial
  generalize ((Tp.new s2).as n).run (allq 0) m = t1 at *
  generalize (Tp.new s2).run (allq 0) m = t2 at *
  clear hs3 hrun hs hn1 hm1
  have up := HUP.out
  have us := HUS.out
  have ha := HAE.out
  have hb := HBE.out
  have ea := HEA.out
  have eb := HEB.out
  clear HAE HBE HEA HEB HUP HUS
  go_enter Try.func6, Try.ntmps6
  go_wp2_with (first
    | (go_at_call 10; (with_reducible refine (works_any _).mono ?_); rintro e w1 ⟨rfl, hb⟩; have HB := Lib.hid hb; clear hb)
    | (go_at_call 15; (with_reducible refine (H1.out _ HB.out).mono ?_); rintro e w2 ⟨B, rfl, hd⟩; have HD := Lib.hid hd; clear hd HB)
    | (go_at_call 15; (with_reducible refine (H2.out _ _ HD.out).mono ?_); rintro e w3 ⟨C, rfl, hd⟩; have HD3 : Hid (Tz W [(true, B, Tp.new s), (true, C, Tp.new s2)] w3) := Lib.hid hd; clear hd)
    | (go_at_call 12; (with_reducible refine (HT.out _ _ _ HD3.out).mono ?_); rintro e w4 ⟨R0, rfl, hd⟩; have HD4 := Lib.hid hd; clear hd HD3)
    | (go_at_call 12; (with_reducible refine (HA.out _ _ _ HD4.out).mono ?_); rintro e w5 ⟨R, rfl, hr, hd⟩; have HR := Lib.hid hr; have HD5 := Lib.hid hd; clear hd hr HD4)
    | (go_at_call 12; (with_reducible refine (HC.out _ _ _ _ _ HD5.out HR.out).mono ?_); rintro e w6 ⟨R2, rfl, hr2, hr, hd⟩; have HR2 := Lib.hid hr2; have HR3 := Lib.hid hr; have HD6 := Lib.hid hd; clear hd hr hr2 HD5)
    | (go_at_call 20; (with_reducible refine (HNM.out _ _ _ HR3.out HR2.out).mono ?_); rintro e w7 ⟨rfl, nd, rfl⟩; have HD7 := Lib.hid (HD6.out.step (below_drewN _ nd)); clear HD6)
    | (go_at_call 13; (with_reducible refine (HB1.out _ _ _ HD7.out).mono ?_); rintro e w8 ⟨rfl, rfl⟩)
    | (go_at_call 13; (with_reducible refine (HB2.out _ _ _ HD7.out).mono ?_); rintro e w8 ⟨rfl, rfl⟩))
  go_ret
  exact ⟨rfl, HD7.out.below⟩

set_option maxRecDepth 100000 in
theorem lifted (os : Os) (started : os.Started) (H : Type) (enc : TypeId × Value → H) :
    ReturnsInHanded {} Try.checked os 6 .any (Rows.tapeJumpsSpec.pre6 enc Try.prog Try.f6 Rows.tapeJumpsRow.domain false) (Rows.tapeJumpsSpec.post enc Try.prog Try.f6 false true false false) := by
  refine returnsInHanded_of_change (C := Try.checked) M.own started (by kernel_rfl) Try.func6
    (ChangeSpec.witness6 (enc := enc) (C := Try.checked) false ⟨#[], #[.int .u64 0, .int .i64 0, .int .i64 0], []⟩ 8 (by kernel_rfl) (by kernel_rfl) (by kernel_rfl) (by kernel_rfl)) ?_
  intro W base args ds gs before hval0 hW _ _
  have hval : ∀ (j : Nat) t v, Try.f6.params[j]? = some t → args[j]? = some v → Value.okWide Try.prog W .any base t v := hval0
  have hW' := hW
  obtain ⟨p, q, hA0, hV, rfl, _, _⟩ := hW
  have hA : DataW.TrodAll enc Try.prog W 0 (fun _ => true) true Try.f6.params.toList args.toList ds p := hA0
  rw [Try.params6] at hA hval
  obtain ⟨v0, vs0, d0, ds0, p0, q0, hargs, rfl, rfl, h0, r0⟩ := trodAll_cons hA
  obtain ⟨v1, vs1, d1, ds1, p1, q1, rfl, rfl, rfl, h1, r1⟩ := trodAll_cons r0
  obtain ⟨v2, vs2, d2, ds2, p2, q2, rfl, rfl, rfl, h2, r2⟩ := trodAll_cons r1
  obtain ⟨rfl, rfl, rfl⟩ := trodAll_nil r2
  obtain rfl : args = #[v0, v1, v2] := by cases args; simp_all
  obtain ⟨rfl, rfl⟩ := trodVars_none hV
  have k0 := h0
  have lt0 : ∀ x ∈ p0, x.block < W.heap.size := by obtain ⟨m, hm⟩ := k0; exact DataW.trod_lt m _ _ _ hm
  obtain ⟨x0, rfl, rfl, rfl, w0⟩ := open_int Try.underlying24 (hval 0 24 v0 rfl rfl) h0
  obtain ⟨lo0, hi0⟩ := M.u64_bounds w0
  obtain ⟨a0, rfl⟩ : ∃ a : Nat, x0 = a := ⟨x0.toNat, by omega⟩
  have k1 := h1
  have lt1 : ∀ x ∈ p1, x.block < W.heap.size := by obtain ⟨m, hm⟩ := k1; exact DataW.trod_lt m _ _ _ hm
  obtain ⟨x1, rfl, rfl, rfl, w1⟩ := open_int Try.underlying3 (hval 1 3 v1 rfl rfl) h1
  have k2 := h2
  have lt2 : ∀ x ∈ p2, x.block < W.heap.size := by obtain ⟨m, hm⟩ := k2; exact DataW.trod_lt m _ _ _ hm
  obtain ⟨x2, rfl, rfl, rfl, w2⟩ := open_int Try.underlying3 (hval 2 3 v2 rfl rfl) h2
  clear hA0 hval0
  simp only [List.append_nil] at hW'
  refine (walk a0 x1 x2 (by omega) W ).mono fun e W' ⟨he, bel⟩ => ?_
  subst he
  exact ⟨_, rfl, _, _, _, [], _, [], hW', (trodAll_cons_mk (shut_bool Try.underlying4 _) trodAll_mk0), (trodAll_cons_mk (Below.trod M.laidOut (by kernel_rfl) (of_decide_eq_true (by kernel_rfl)) k0 bel lt0) (trodAll_cons_mk (Below.trod M.laidOut (by kernel_rfl) (of_decide_eq_true (by kernel_rfl)) k1 bel lt1) (trodAll_cons_mk (Below.trod M.laidOut (by kernel_rfl) (of_decide_eq_true (by kernel_rfl)) k2 bel lt2) trodAll_mk0))), rfl, bel.frame _, fun h => by cases h⟩

theorem holds : Rows.TapeJumpsSaid :=
  OpenClaim.holds_of_wide 6 Try.f6 rfl rfl rfl rfl rfl rfl rfl ⟨rfl, rfl, rfl, rfl, rfl⟩ rfl rfl rfl rfl rfl (by kernel_rfl) Try.func6 (by kernel_rfl)
    (of_decide_eq_true (by kernel_rfl)) (by unfold Func.isWrapper; first | (rw [if_pos (by decide +kernel)]; kernel_rfl) | (rw [if_neg (by decide +kernel)]; exact ⟨rfl, rfl⟩))
    (fun os started H enc _ => lifted os started H enc)

end TapeJumps

theorem tapeJumps_holds : Rows.TapeJumpsSaid := TapeJumps.holds
#print axioms tapeJumps_holds
end Go.Proofs.Ytbappohnljlchaa

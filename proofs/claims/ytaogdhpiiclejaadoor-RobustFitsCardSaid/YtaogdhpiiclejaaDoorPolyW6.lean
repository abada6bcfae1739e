/- The factors of points, one after another: what the program's iterator hands to a loop. -/
import Derived.Test.YtaogdhpiiclejaaDoorPolyW4
namespace Go.Proofs.YtaogdhpiiclejaaDoor
open Go Go.RowKit Go.Lib Go.Shelf
namespace M
attribute [local go_sem] Oper.semAt_some
theorem factors_any (ao : Option Addr) (n cap q : Nat) (w : World) :
    Calls Tryd.prog 27 #[.slice ao n cap, .int .u64 (q : Int)] w fun e w' =>
      e = .returned (.func (.func 42) #[] #[.pointer (some ⟨w.heap.size, 0, none⟩), .pointer (some ⟨w.heap.size + 1, 0, none⟩)]) ∧ (w.alloc (.cells #[.slice ao n cap] 22)).alloc (.cells #[.int .u64 (q : Int)] 23) = w' := by
  go_enter Tryd.func27, Tryd.ntmps27
  go_wp2_with fail
  go_ret
  exact ⟨rfl, rfl⟩
theorem grownBy_drewN (W : World) (n : Nat) : W.grownBy (W.drewN n) none := ⟨rfl, rfl, rfl, Nat.le_refl _, fun _ _ _ => rfl⟩
theorem range_succ_eq (k : Nat) : List.range (k + 1) = List.range k ++ [k] := List.range_succ

set_option maxRecDepth 100000 in
set_option maxHeartbeats 4000000 in
theorem factors1_in (m : Nat) (hm : 1 ≤ m) (S : Nat → Prop) (l Pb Qb q : Nat) (ao : Option Addr) (n cap : Nat) (z : Nat → Nat) (hn : n ≤ 1000000) (J Jx : List Nat → World → Prop)
    (hJ : ∀ pre W k, J pre W → J pre (W.drewN k))
    (hY : ∀ pre (x : Nat) W, x < n → J pre W → pre.length < n → YieldAt Fence.wide (m - 1) Tryd.prog l #[.int .i64 (x : Int), .int .u64 ((MM.subU 0 (z x) q : Nat) : Int)] W fun e W' =>
      (e = .returned (.bool true) ∧ J (pre ++ [x]) W' ∧ KeepS S W W') ∨ (e = .returned (.bool false) ∧ Jx (pre ++ [x]) W'))
    (W : World) (hPb : Box W Pb 22 (.slice ao n cap)) (hQb : Box W Qb 23 (.int .u64 (q : Int))) (hSQ : S Qb) (hr : 0 < n → ∃ ad, ao = some ad ∧ S ad.block ∧ Row W ad n z) (h0 : J [] W) :
    CallsIn Fence.wide m Tryd.prog 42 #[.func (.yield l) #[] #[], .pointer (some ⟨Pb, 0, none⟩), .pointer (some ⟨Qb, 0, none⟩)] W fun e W' => (∃ v, e = .returned v) ∧
      ((∃ ys, ys = List.range n ∧ J ys W') ∨ (∃ pre, (∃ k, k < n ∧ pre = List.range (k + 1)) ∧ Jx pre W')) := by
  have HJD := Lib.hid hJ
  have HY := Lib.hid hY
  have HB := Lib.hid hQb
  have HR := Lib.hid hr
  have HS := Lib.hid hSQ
  have H0 := Lib.hid h0
  have hc := hPb.cell
  have hn1 : (n : Int) ≤ 1000000 := by omega
  clear hY hPb hQb hr hSQ h0 hJ
  refine callsIn_of_wp Tryd.func42 rfl trivial ?_ rfl
  simp only [Tryd.ntmps42, List.size_toArray, List.length_cons, List.length_nil, Nat.reduceAdd, Nat.reduceSub, Array.replicate_succ, Array.replicate_zero, List.push_toArray, List.append_toArray, List.nil_append, List.cons_append]
  gi_wp2
  clear hc
  gi_loopw [8] (fun i wr => ∃ k : Nat, k ≤ n ∧ i = .int .i64 (k : Int) ∧ Hid (J (List.range k) wr) ∧ Hid (KeepS S W wr))
    (fun i _ => n - (RowKit.intOf i).toNat)
  case atStart => exact ⟨0, Nat.zero_le _, rfl, Lib.hid H0.out, Lib.hid (KeepS.refl _ _)⟩
  case round =>
    clear H0
    obtain ⟨k, hk, rfl, HJ, HK⟩ := hrel
    by_cases hlt : k < n
    · obtain ⟨ad, rfl, hSad, hrow⟩ := HR.out (by omega)
      have hcj := (hrow.keepS HK.out hSad) k hlt
      have hcq := (HB.out.keepS HK.out HS.out).cell
      have HSU := Lib.hid (ret_subU 0 (z k) q)
      have HSA := Lib.hid hSad
      have hj0 : (0 : Int) ≤ (k : Int) := Int.natCast_nonneg _
      have hj1 : (k : Int) < (n : Int) := by omega
      clear hSad hrow
      have hsub : ∀ W, Calls Tryd.prog 29 #[.int .u64 0, .int .u64 ((z k : Nat) : Int), .int .u64 (q : Int)] W fun e w' => e = .returned (.int .u64 ((MM.subU 0 (z k) q : Nat) : Int)) ∧ ∃ m, w' = W.drewN m := fun W => HSU.out W
      have HSB := Lib.hid hsub
      clear hsub
      gi_wp2_with (refine ⟨trivial, ?_⟩; gi_at_call 29; refine (callsIn_wide.2 (HSB.out _)).mono ?_; rintro e w' ⟨rfl, nd, rfl⟩; obtain ⟨fn, tmps, assign, body, hy, hR⟩ := HY.out _ k (wr.drewN nd) hlt (HJD.out _ _ nd HJ.out) (by simp; omega); have HRD := Lib.hid hR; clear hR)
      refine HRD.out.mono ?_
      have HD : Hid (List.range (k + 1) = List.range k ++ [k]) := Lib.hid List.range_succ
      rintro e W3 (⟨rfl, hJ3, hk3⟩ | ⟨rfl, hJx3⟩)
      · have HJ3 := Lib.hid hJ3
        have HK3 := Lib.hid hk3
        clear hJ3 hk3
        gi_wp2
        go_roundw
        case rel => exact ⟨k + 1, by omega, by go_num, Lib.hid (by rw [HD.out]; exact HJ3.out), Lib.hid ((HK.out.drewN nd).trans HK3.out)⟩
        case measure => simp [RowKit.intOf]; omega
      · have HJ3 := Lib.hid hJx3
        clear hJx3
        gi_wp2
        refine bodyPost_ret (results_none rfl _ _ _) rfl ?_
        exact ⟨⟨_, rfl⟩, .inr ⟨_, ⟨k, hlt, rfl⟩, by rw [HD.out]; exact HJ3.out⟩⟩
    · obtain rfl : k = n := by omega
      gi_wp2
      go_end0
      exact ⟨⟨_, rfl⟩, .inl ⟨_, rfl, HJ.out⟩⟩
theorem factors_stops (m : Nat) (hm : 1 ≤ m) (S : Nat → Prop) (Pb Qb q : Nat) (ao : Option Addr) (n cap : Nat) (z : Nat → Nat) (hn : n ≤ 1000000) (w : World) (hSl : ∀ k, S k → k < w.heap.size)
    (hPb : Box w Pb 22 (.slice ao n cap)) (hQb : Box w Qb 23 (.int .u64 (q : Int))) (hSP : S Pb) (hSQ : S Qb) (hr : 0 < n → ∃ ad, ao = some ad ∧ S ad.block ∧ Row w ad n z) :
    SeqStopsK Fence.wide m Tryd.prog 42 #[.pointer (some ⟨Pb, 0, none⟩), .pointer (some ⟨Qb, 0, none⟩)] (fun x : Nat => #[.int .i64 (x : Int), .int .u64 ((MM.subU 0 (z x) q : Nat) : Int)]) (KeepS S) (fun ys => ys = List.range n) (fun pre => ∃ k, k < n ∧ pre = List.range (k + 1)) n w := fun l J Jx W hW hJ _ hY h0 => by
  have hk : KeepS S w W := KeepS.below hW hSl
  refine (factors1_in m hm S l Pb Qb q ao n cap z hn J Jx (fun pre W' k h => hJ _ _ _ none h (grownBy_drewN W' k) (fun r e => by cases e)) (fun pre x W _ => hY pre x W) W (hPb.keepS hk hSP) (hQb.keepS hk hSQ) hSQ (fun h => ?_) h0).mono ?_
  · obtain ⟨ad, e, h1, h2⟩ := hr h
    exact ⟨ad, e, h1, h2.keepS hk h1⟩
  · rintro e W' ⟨he, ⟨ys, rfl, hj⟩ | ⟨pre, hp, hj⟩⟩
    · exact ⟨he, .inl ⟨_, rfl, hj⟩⟩
    · exact ⟨he, .inr ⟨_, hp, hj⟩⟩
/-- The same, where the loop is told that each index is one. -/
theorem factors_fin (m : Nat) (hm : 1 ≤ m) (S : Nat → Prop) (Pb Qb q : Nat) (ao : Option Addr) (n cap : Nat) (z : Nat → Nat) (hn : n ≤ 1000000) (w : World) (hSl : ∀ k, S k → k < w.heap.size)
    (hPb : Box w Pb 22 (.slice ao n cap)) (hQb : Box w Qb 23 (.int .u64 (q : Int))) (hSP : S Pb) (hSQ : S Qb) (hr : 0 < n → ∃ ad, ao = some ad ∧ S ad.block ∧ Row w ad n z) :
    SeqStopsK Fence.wide m Tryd.prog 42 #[.pointer (some ⟨Pb, 0, none⟩), .pointer (some ⟨Qb, 0, none⟩)] (fun x : Fin n => #[.int .i64 ((x.1 : Nat) : Int), .int .u64 ((MM.subU 0 (z x.1) q : Nat) : Int)]) (KeepS S) (fun ys => ys.map (·.1) = List.range n) (fun pre => ∃ k, k < n ∧ pre.map (·.1) = List.range (k + 1)) n w := fun l J Jx W hW hJ _ hY h0 => by
  have hk : KeepS S w W := KeepS.below hW hSl
  refine (factors1_in m hm S l Pb Qb q ao n cap z hn (fun pre W => ∃ l : List (Fin n), l.map (·.1) = pre ∧ J l W) (fun pre W => ∃ l : List (Fin n), l.map (·.1) = pre ∧ Jx l W) (fun pre W' k ⟨l, e, h⟩ => ⟨l, e, hJ _ _ _ none h (grownBy_drewN W' k) (fun r e => by cases e)⟩)
    (fun pre x W1 hx ⟨l, e, h⟩ hlen => ?_) W (hPb.keepS hk hSP) (hQb.keepS hk hSQ) hSQ (fun h => ?_) ⟨[], rfl, h0⟩).mono ?_
  · obtain ⟨fn, tmps, assign, body, hy, hR⟩ := hY l ⟨x, hx⟩ W1 h (by rw [← e] at hlen; simpa using hlen)
    refine ⟨fn, tmps, assign, body, hy, hR.mono ?_⟩
    rintro e' W' (⟨he, hj, hk'⟩ | ⟨he, hj⟩)
    · exact .inl ⟨he, ⟨_, by rw [List.map_append, e]; rfl, hj⟩, hk'⟩
    · exact .inr ⟨he, ⟨_, by rw [List.map_append, e]; rfl, hj⟩⟩
  · obtain ⟨ad, e, h1, h2⟩ := hr h
    exact ⟨ad, e, h1, h2.keepS hk h1⟩
  · rintro e W' ⟨he, ⟨ys, rfl, l, hl, hj⟩ | ⟨pre, ⟨k, hk, rfl⟩, l, hl, hj⟩⟩
    · exact ⟨he, .inl ⟨l, hl, hj⟩⟩
    · exact ⟨he, .inr ⟨l, ⟨k, hk, hl⟩, hj⟩⟩
end M
end Go.Proofs.YtaogdhpiiclejaaDoor

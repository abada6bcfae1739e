/- The texts DskW5, DskW6, DskW7, DskOpen, one behind the other. -/
import Derived.Test.YtoacmingocmaaaaGreatDoorWB4
import Derived.Deep.MidRow
import Derived.Test.YtoacmingocmaaaaGreatDoorWB2
import Derived.Deep.Grids
import Derived.Deep.Slices
import Derived.Deep.Fields
import Derived.ProofKit
import Derived.OpenShut
import Derived.ChangeOld
import Derived.ChangeSlices
import Derived.ChangeMaps5
import Derived.ChangeSame
import Derived.ChangeArms
/- The walk of a write that is torn. -/
namespace Go.Proofs.YtoacmingocmaaaaGreatDoor
open Go Go.RowKit Go.Lib
namespace M
open MM
theorem ext_take (t : By) (n : Nat) : (⟨t.toArray⟩ : ByteArray).extract 0 n = ⟨(t.take n).toArray⟩ := by rw [ByteArray.extract_mk]; simp
theorem ext_drop (t : By) (n m : Nat) (h : t.length = m) : (⟨t.toArray⟩ : ByteArray).extract n m = ⟨(t.drop n).toArray⟩ := by
  subst h; rw [Lib.extract_eq]; congr 2; show (t.drop n).take (t.length - n) = t.drop n
  rw [List.take_of_length_le (by rw [List.length_drop]; omega)]
section
variable {w w1 w2 w' : World} {F : Nat → Prop} {B N : Nat} {s : Dsk}
theorem DidP.after (hb : Below w.heap.size w w1) (h : DidP w1 F B N s w') : DidP w F B N s w' := by
  obtain ⟨⟨F', h1, h2, h3⟩, h4⟩ := h
  exact ⟨⟨F', h1, fun k hk => (h2 k hk).imp id fun h => Nat.le_trans hb.size h, (Chg.of_below F hb).trans h3 fun _ h => .inl h⟩, (SameW.of_below hb).trans h4⟩
set_option maxRecDepth 100000 in
set_option maxHeartbeats 4000000 in
theorem tear_any (h : Dk w F B N s) (hN : N + 1 ≤ 1000000) (k : Int) (t : By) (n : Nat) (hk : sec k = true) (ht : t.length = 512) (hn : n ≤ 512) :
    Calls Tryz.prog 48 #[ptr B, wv k t, .int .i64 (n : Int)] w fun e w' => e = .returned (.tuple #[]) ∧ DidP w F B (N + 1) { s with p := upd s.p (k, t.take n ++ (s.p k).drop n) } w' := by
  have hlt : (⟨t.toArray⟩ : ByteArray).size = 512 := by rw [Lib.size_eq]; exact ht
  have hq : (s.p k).length = 512 := h.wf.p.len k
  have hpl : s.platter k = s.p k := by unfold Dsk.platter; rw [if_pos hk]
  have hx1 := ext_take t n
  have hx2 := ext_drop (s.p k) n 512 hq
  have hlq : (⟨(s.p k).toArray⟩ : ByteArray).size = 512 := by rw [Lib.size_eq]; exact hq
  have hl3 := torn_len n hn ht hq
  have hsum : ¬ 9223372036854775807 < (t.take n).length + ((s.p k).drop n).length := by rw [List.length_take, List.length_drop]; omega
  have hcat : (⟨(t.take n).toArray⟩ ++ ⟨((s.p k).drop n).toArray⟩ : ByteArray) = ⟨(t.take n ++ (s.p k).drop n).toArray⟩ := ByteArray.mk_append_mk _ _
  have hbA := below_box w (.cells #[.int .i64 k, .string ⟨t.toArray⟩] 77)
  have hWB := heap_alloc_new w (.cells #[.int .i64 k, .string ⟨t.toArray⟩] 77)
  have hD := h.step hbA
  have HP : ∀ u, Dk u F B N s → Calls Tryz.prog 14 #[ptr B, .int .i64 k] u fun e w' => e = .returned (.string ⟨(s.p k).toArray⟩) ∧ Below u.heap.size u w' := fun u hu => by
    have := platter_any hu k
    rwa [hpl] at this
  have H := Lib.hid h
  have HBA := Lib.hid hbA
  generalize s.p k = q at *
  generalize hy : t.take n ++ q.drop n = y at *
  have HPU : ∀ u, Dk u F B N s → Calls Tryz.prog 47 #[ptr B, wv k y] u fun e w' => e = .returned (.tuple #[]) ∧ DidP u F B (N + 1) { s with p := upd s.p (k, y) } w' := fun u hu => put_any hu hN k y hk hl3
  have HO := Lib.hid (H.out.old)
  have hn0 : (0 : Int) ≤ (n : Int) := by omega
  have hn5 : (n : Int) ≤ 512 := by omega
  generalize t.take n = t1 at *
  generalize q.drop n = q1 at *
  clear h hbA hy
  go_enter Tryz.func48, Tryz.ntmps48
  go_upto_region 1 with fail
  generalize w.alloc (.cells #[.int .i64 k, .string ⟨t.toArray⟩] 77) = w1 at *
  obtain ⟨b3, hb3⟩ : ∃ b3, w.heap.size = b3 := ⟨_, rfl⟩
  simp only [hb3] at hWB ⊢
  have HK3 := Lib.hid hb3
  refine RK.region (fun u => u.heap[b3]? = some (.cells #[.int .i64 k, .string ⟨t.toArray⟩] 77 (0, 0))) 16 (by kernel_rfl) ?_
  have HS0 : w1.drew.heap[b3]? = some (.cells #[.int .i64 k, .string ⟨t.toArray⟩] 77 (0, 0)) := hWB
  have hD0 : Dk w1.drew F B N s := hD.drewN 1
  have hb0 := below_drewN w1 1
  change Below w1.heap.size w1 w1.drew at hb0
  refine RK.Any.take 0 6 (ptr B) rfl rfl (by kernel_rfl) (by kernel_rfl) (by kernel_rfl) (by kernel_rfl) (fun _ _ _ h => h) (by rfl) (fun W' hb => ?_) HS0 ?_
  · go_simp
  simp only [List.setIfInBounds_toArray, List.set_cons_zero, List.set_cons_succ]
  refine RK.Any.take 1 7 (.pointer (some ⟨b3, 0, none⟩)) rfl rfl (by kernel_rfl) (by kernel_rfl) (by kernel_rfl) (by kernel_rfl) (fun _ _ _ h => h) (by rfl) (fun W' hb => ?_) HS0 ?_
  · go_simp
  simp only [List.setIfInBounds_toArray, List.set_cons_zero, List.set_cons_succ]
  refine RK.Any.take 2 8 (.int .i64 k) rfl rfl (by kernel_rfl) (by kernel_rfl) (by kernel_rfl) (by kernel_rfl) (fun _ _ _ h => h) (by rfl) (fun W' hb => ?_) HS0 ?_
  · have c := (cell_of_row W' b3 0 _ _ _ hb).trans rfl; go_simp
  simp only [List.setIfInBounds_toArray, List.set_cons_zero, List.set_cons_succ]
  refine RK.Any.take 3 9 (.pointer (some ⟨b3, 1, none⟩)) rfl rfl (by kernel_rfl) (by kernel_rfl) (by kernel_rfl) (by kernel_rfl) (fun _ _ _ h => h) (by rfl) (fun W' hb => ?_) HS0 ?_
  · go_simp
  simp only [List.setIfInBounds_toArray, List.set_cons_zero, List.set_cons_succ]
  refine RK.Any.take 4 10 (.string ⟨t.toArray⟩) rfl rfl (by kernel_rfl) (by kernel_rfl) (by kernel_rfl) (by kernel_rfl) (fun _ _ _ h => h) (by rfl) (fun W' hb => ?_) HS0 ?_
  · have c := (cell_of_row W' b3 1 _ _ _ hb).trans rfl; go_simp
  simp only [List.setIfInBounds_toArray, List.set_cons_zero, List.set_cons_succ]
  refine RK.Any.take 5 11 (.int .i64 (n : Int)) rfl rfl (by kernel_rfl) (by kernel_rfl) (by kernel_rfl) (by kernel_rfl) (fun _ _ _ h => h) (by rfl) (fun W' hb => ?_) HS0 ?_
  · go_simp
  simp only [List.setIfInBounds_toArray, List.set_cons_zero, List.set_cons_succ]
  refine RK.Any.take 6 12 (.string ⟨t1.toArray⟩) rfl rfl (by kernel_rfl) (by kernel_rfl) (by kernel_rfl) (by kernel_rfl) (fun _ _ _ h => h) (by rfl) (fun W' hb => ?_) HS0 ?_
  · go_simp
  simp only [List.setIfInBounds_toArray, List.set_cons_zero, List.set_cons_succ]
  refine RK.Any.take 7 13 (ptr B) rfl rfl (by kernel_rfl) (by kernel_rfl) (by kernel_rfl) (by kernel_rfl) (fun _ _ _ h => h) (by rfl) (fun W' hb => ?_) HS0 ?_
  · go_simp
  simp only [List.setIfInBounds_toArray, List.set_cons_zero, List.set_cons_succ]
  refine RK.Any.take 8 14 (.pointer (some ⟨b3, 0, none⟩)) rfl rfl (by kernel_rfl) (by kernel_rfl) (by kernel_rfl) (by kernel_rfl) (fun _ _ _ h => h) (by rfl) (fun W' hb => ?_) HS0 ?_
  · go_simp
  simp only [List.setIfInBounds_toArray, List.set_cons_zero, List.set_cons_succ]
  refine RK.Any.take 9 15 (.int .i64 k) rfl rfl (by kernel_rfl) (by kernel_rfl) (by kernel_rfl) (by kernel_rfl) (fun _ _ _ h => h) (by rfl) (fun W' hb => ?_) HS0 ?_
  · have c := (cell_of_row W' b3 0 _ _ _ hb).trans rfl; go_simp
  simp only [List.setIfInBounds_toArray, List.set_cons_zero, List.set_cons_succ]
  refine RK.Any.take 11 17 (.int .i64 (n : Int)) rfl rfl (by kernel_rfl) (by kernel_rfl) (by kernel_rfl) (by kernel_rfl) (fun _ _ _ h => h) (by rfl) (fun W' hb => ?_) HS0 ?_
  · go_simp
  simp only [List.setIfInBounds_toArray, List.set_cons_zero, List.set_cons_succ]
  generalize w1.drew = w2 at *
  refine RK.Any.call 10 16 14 #[ptr B, .int .i64 k] (by kernel_rfl) rfl rfl (by rfl) (by go_simp) (Calls.mono (HP _ hD0) ?_)
  rintro e w3 ⟨rfl, hb3'⟩
  have HS1 : w3.heap[b3]? = _ := (hb3'.block b3 (row_lt HS0)).trans HS0
  refine ⟨_, rfl, fun _ => HS1, ?_⟩
  simp only [List.setIfInBounds_toArray, List.set_cons_zero, List.set_cons_succ]
  refine RK.Any.exec 12 18 (.string ⟨q1.toArray⟩) (w1 := w3) (by kernel_rfl) rfl rfl (by rfl) (by go_simp) HS1 ?_
  simp only [List.setIfInBounds_toArray, List.set_cons_zero, List.set_cons_succ]
  refine RK.Any.exec 13 19 (.string ⟨y.toArray⟩) (w1 := w3) (by kernel_rfl) rfl rfl (by rfl) (by go_simp) HS1 ?_
  simp only [List.setIfInBounds_toArray, List.set_cons_zero, List.set_cons_succ]
  refine RK.Any.exec 14 20 (wv k y) (w1 := w3) (by kernel_rfl) rfl rfl (by rfl) (by go_simp) HS1 ?_
  simp only [List.setIfInBounds_toArray, List.set_cons_zero, List.set_cons_succ]
  have hD3 := hD0.step hb3'
  refine RK.Any.call 15 21 47 #[ptr B, wv k y] (by kernel_rfl) rfl rfl (by rfl) (by go_simp) (Calls.mono (HPU _ hD3) ?_)
  rintro e w5 ⟨rfl, hdid⟩
  have HS2 : w5.heap[b3]? = _ := (hdid.1.choose_spec.2.2.block b3 (row_lt HS1) (fun hf => by have := HO.out b3 hf; have := HK3.out; omega)).trans HS1
  refine ⟨_, rfl, fun _ => HS2, ?_⟩
  simp only [List.setIfInBounds_toArray, List.set_cons_zero, List.set_cons_succ]
  refine RK.Any.done (by kernel_rfl) ?_
  have HF := Lib.hid (hdid.after (bnext HBA.out (bnext hb0 hb3')))
  clear hdid HS2 HS1 hD3 hb3' hb0 hD0 HS0
  go_wp2_with fail
  go_end0
  exact ⟨rfl, HF.out⟩
end
end M
end Go.Proofs.YtoacmingocmaaaaGreatDoor
/- The walk of a sync. -/
namespace Go.Proofs.YtoacmingocmaaaaGreatDoor
open Go Go.RowKit Go.Lib
namespace M
open MM
theorem info_w2 (x : Int × By) : (Tryz.prog.info? 77).map (·.size) = some ([Value.int .i64 x.1, .string ⟨x.2.toArray⟩] : List Value).length := by kernel_rfl
/-- A write of a cache, as it lies. -/
theorem write_range {w : World} {v : Value} {c : List (Int × By)} (h : CacheAt w v c) {i : Nat} {x : Int × By} (hi : c[i]? = some x) : ∃ g cap, v = .slice (some ⟨g, 0, none⟩) c.length cap ∧ w.rangeAt g (i * 2) [.int .i64 x.1, .string ⟨x.2.toArray⟩] := by
  rcases h.rd with ⟨_, rfl⟩ | ⟨g, cap, hv, _, _, _, hc⟩
  · simp at hi
  · refine ⟨g, cap, hv, fun j u hj => ?_⟩
    obtain ⟨h1, h2⟩ := hc i x hi
    match j with
    | 0 => obtain rfl : _ = u := by simpa using hj
           exact h1
    | 1 => obtain rfl : _ = u := by simpa using hj
           exact h2
    | j + 2 => simp at hj
section
variable {w w1 w' : World} {F : Nat → Prop} {B N : Nat} {s : Dsk}
theorem CacheAt.sameW {v : Value} {c : List (Int × By)} (h : CacheAt w v c) (hs : SameW w w') : CacheAt w' v c := by
  obtain ⟨h1, h2⟩ := h
  refine ⟨h1, h2.imp id ?_⟩
  rintro ⟨g, cap, cur, hv, hb, hh, r⟩
  exact ⟨g, cap, cur, hv, hb, hs g cur hh, r⟩
theorem DidP.step (h : DidP w F B N s w1) (hb : Below w1.heap.size w1 w') : DidP w F B N s w' := ⟨h.1.step hb, h.2.trans (.of_below hb)⟩
/-- One step more. -/
theorem DidP.next {s' : Dsk} {N' : Nat} (h : DidP w F B N s w1) (k : ∀ F', Dk w1 F' B N s → DidP w1 F' B N' s' w') : DidP w F B N' s' w' := by
  obtain ⟨⟨F', h1, h2, h3⟩, h4⟩ := h
  obtain ⟨⟨F2, k1, k2, k3⟩, k4⟩ := k F' h1
  refine ⟨⟨F2, k1, fun j hj => ?_, h3.trans k3 h2⟩, h4.trans k4⟩
  rcases k2 j hj with h5 | h5
  · exact h2 j h5
  · exact .inr (Nat.le_trans h3.size h5)
/-- The cache is let go. -/
theorem Lies.clear {s' : Dsk} {m v : Value} {fu : Bool} {le : Int} {n N' : Nat} (h : Lies w F B N s m v fu le n) (hd : Dk w F B N s) (hp : s'.p = s.p) (hc : s'.c = []) (hb : w'.heap[B]? = some (.cells #[m, .slice none 0 0, .bool fu, .int .i64 le, .bool s'.dead] 57 (0, 0)))
    (hf : FuseAt s' fu le) (e : ∀ k, k ≠ B → w'.heap[k]? = w.heap[k]?) (hs : w.heap.size ≤ w'.heap.size) (hn : n ≤ N') (hN' : N' ≤ 1000000) : Dk w' F B N' s' := by
  refine ⟨⟨hp ▸ hd.wf.p, by rw [hc]; exact fun _ h => (by cases h)⟩, ⟨m, .slice none 0 0, fu, le, n, hb, hf, by rw [hc]; exact CacheAt.nil _, ?_, by rw [hc]; exact hn, fun g hg => (by cases hg), h.mF⟩, hd.FB, fun k hk => Nat.lt_of_lt_of_le (hd.old k hk) hs, hN'⟩
  rw [hp]; exact h.plat.of fun g hg => e g (fun e' => h.mB (e' ▸ hg))
set_option maxRecDepth 100000 in
set_option maxHeartbeats 4000000 in
theorem sync_any (h : Dk w F B N s) (hN : 2 * N ≤ 1000000) : Calls Tryz.prog 23 #[ptr B] w fun e w' => e = .returned (.int .i64 (s.sync.1 : Int)) ∧ Did w F B N s.sync.2 w' := by
  have HU : Hid (Did w F B N s w) := Lib.hid (.refl h)
  obtain ⟨m, v, fu, le, n, h1⟩ := h.lies
  have hb := h1.box
  obtain ⟨c0, c1, c2, c3, c4, fr⟩ := box_cells hb
  have H := Lib.hid h
  clear h h1 hb
  unfold Dsk.sync
  by_cases hd : s.dead = true
  · rw [if_pos hd]
    rw [hd] at c4
    go_enter Tryz.func23, Tryz.ntmps23
    go_wp2_with fail
    go_ret
    exact ⟨rfl, HU.out⟩
  have hd' : s.dead = false := by simpa using hd
  rw [if_neg hd]
  rw [hd'] at c4
  have HR := Lib.hid (runOut_any H.out hd')
  clear hd
  by_cases hf : s.fuse = some 0
  · rw [if_pos hf]
    have e1 : outB s = true := by unfold outB; simp [hf]
    have e2 : outS s = s.died := by unfold outS; rw [if_pos hf]
    rw [e1, e2] at HR
    go_enter Tryz.func23, Tryz.ntmps23
    go_wp2_with (go_at_call 49; (with_reducible refine HR.out.mono ?_); rintro e w1 ⟨rfl, hdk, hch⟩)
    go_ret
    exact ⟨rfl, F, hdk, fun _ h => .inl h, hch⟩
  rw [if_neg hf]
  have e1 : outB s = false := by unfold outB; simp [hf]
  have e2 : outS s = s.burnt := by unfold outS; rw [if_neg hf]
  rw [e1, e2] at HR
  have hsc : s.c = s.burnt.c := rfl
  have hsp : s.p = s.burnt.p := rfl
  rw [hsc, hsp]
  clear e1 e2 hf hsc hsp
  generalize s.burnt = q at *
  go_enter Tryz.func23, Tryz.ntmps23
  go_upto_region 5 with (go_at_call 49; (with_reducible refine HR.out.mono ?_); rintro e w1 ⟨rfl, hdk, hch⟩; have HDK := Lib.hid hdk; have HCH := Lib.hid hch; clear hdk hch)
  clear c0 c1 c2 c3 c4 fr HR HU
  obtain ⟨m1, v1, fu1, le1, n1, hl1⟩ := HDK.out.lies
  obtain ⟨_, c1, _⟩ := box_cells hl1.box
  have HL := Lib.hid hl1
  have hN1 := hl1.few
  have HW := Lib.hid (show CacheAt w1 v1 q.c from hl1.cache)
  obtain ⟨ao, cap, rfl, hcap⟩ : ∃ ao cap, v1 = .slice ao q.c.length cap ∧ q.c.length ≤ cap := by
    rcases hl1.cache.rd with ⟨rfl, hn⟩ | ⟨g, cap, hv, hc, _⟩
    · exact ⟨none, 0, by rw [hn]; rfl, by rw [hn]; exact Nat.le_refl _⟩
    · exact ⟨_, cap, hv, hc⟩
  clear hl1
  obtain ⟨L, hL⟩ : ∃ L, q.c.length = L := ⟨_, rfl⟩
  have HLL := Lib.hid hL
  rw [hL] at c1 hN1 hcap HW HL
  have h00 : DidP w1 F B (N + 0) { q with p := putAll q.p (q.c.take 0) } w1 := ⟨⟨F, HDK.out, fun _ h => .inl h, .refl F w1⟩, .refl w1⟩
  have H00 := Lib.hid h00
  clear h00 hL
  go_wp2_with fail
  go_loopw [4, 20] (fun s4 s20 wx => ∃ i : Nat, i ≤ L ∧ s20 = .int .i64 (i : Int) ∧ Hid (DidP w1 F B (N + i) { q with p := putAll q.p (q.c.take i) } wx)) (fun _ s20 _ => L - (RowKit.intOf s20).toNat)
  case atStart => exact ⟨0, Nat.zero_le _, rfl, H00⟩
  case round =>
    obtain ⟨i, hi, rfl, HI⟩ := hrel
    by_cases hlt : i < L
    · obtain ⟨x, hx⟩ : ∃ x, q.c[i]? = some x := ⟨_, List.getElem?_eq_getElem (by rw [HLL.out]; exact hlt)⟩
      obtain ⟨hxs, hxl⟩ := HDK.out.wf.c x (List.mem_of_getElem? hx)
      obtain ⟨g, cap2, hv, hrg⟩ := write_range (HW.out.sameW HI.out.2) hx
      rw [HLL.out] at hv
      obtain rfl : ao = some ⟨g, 0, none⟩ := by injection hv
      have HRG := Lib.hid hrg
      have HNX := Lib.hid (show putAll q.p (q.c.take (i + 1)) = upd (putAll q.p (q.c.take i)) x by rw [List.take_add_one, hx]; exact putAll_snoc _ _ _)
      have HX := Lib.hid hxl
      obtain ⟨xk, xt⟩ := x
      simp only at hxs hrg hxl HX
      have hbx := below_box wr (.cells #[.int .i64 xk, .string ⟨xt.toArray⟩] 77)
      have HPU : ∀ F', Dk wr F' B (N + i) { q with p := putAll q.p (q.c.take i) } → Calls Tryz.prog 47 #[ptr B, wv xk xt] (wr.alloc (.cells #[.int .i64 xk, .string ⟨xt.toArray⟩] 77)) fun e w' => e = .returned (.tuple #[]) ∧ DidP wr F' B (N + i + 1) { q with p := upd (putAll q.p (q.c.take i)) (xk, xt) } w' := fun F' hF' => (put_any (hF'.step hbx) (by omega) xk xt hxs hxl).mono fun e w' ⟨h1, h2⟩ => ⟨h1, h2.after hbx⟩
      obtain ⟨F', hF1, hF2, hF3⟩ := HI.out.1
      have hF4 := HI.out.2
      have HPU1 := Lib.hid (HPU F' hF1)
      have HGO : Hid (∀ w5, DidP wr F' B (N + i + 1) { q with p := upd (putAll q.p (q.c.take i)) (xk, xt) } w5 → DidP w1 F B (N + (i + 1)) { q with p := putAll q.p (q.c.take (i + 1)) } w5) := Lib.hid fun w5 h5 => by
        rw [HNX.out]
        obtain ⟨⟨F2, k1, k2, k3⟩, k4⟩ := h5
        exact ⟨⟨F2, k1, fun j hj => (k2 j hj).elim (hF2 j) fun h => .inr (Nat.le_trans hF3.size h), hF3.trans k3 hF2⟩, hF4.trans k4⟩
      clear HPU hbx hrg hv hx hxs hxl hF1 hF2 hF3 hF4
      go_wp2_with (first
        | (refine wpList_load_mid rfl 77 _ rfl g (i * 2) rfl [.int .i64 xk, .string ⟨xt.toArray⟩] _ HRG.out Tryz.underlying77 rfl (info_w2 (xk, xt)) ?_)
        | (go_at_call 47; (with_reducible refine HPU1.out.mono ?_); rintro e w5 ⟨rfl, hdp⟩; have HDP := Lib.hid hdp; clear hdp))
      go_roundw
      case rel => exact ⟨i + 1, by omega, by go_num, Lib.hid (HGO.out _ HDP.out)⟩
      case measure => simp [RowKit.intOf]; omega
    · obtain rfl : i = L := by omega
      obtain ⟨F', hF1, hF2, hF3⟩ := HI.out.1
      rw [← HLL.out, List.take_length] at hF1
      obtain ⟨m2, v2, fu2, le2, n2, hl2⟩ := hF1.lies
      have hbx2 := hl2.box
      obtain ⟨_, b1, _, _, _, bfr⟩ := box_cells hbx2
      have bfr1 := bfr 1
      have hfew : n2 ≤ N := by have := hl2.few; have : q.c.length = i := HLL.out; simp only at *; omega
      have HG : Hid (Did w F B N { q with p := putAll q.p q.c, c := [] } (wr.setCell ⟨B, 1, none⟩ (.slice none 0 0))) := Lib.hid ⟨F', hl2.clear hF1 rfl rfl (box_set hbx2 1 _) hl2.fuse (fun j hj => set_other _ _ _ _ hj) (by simp) hfew (by omega), fun j hj => (hF2 j hj).imp id fun h => Nat.le_trans HCH.out.size h, HCH.out.trans (hF3.trans ((Chg.refl F' wr).setCell (.inl hF1.FB) _) hF2) fun _ h => .inl h⟩
      clear hF1 hF2 hF3 hl2 hbx2 bfr hfew
      go_wp2_with fail
      go_ret
      exact ⟨rfl, HG.out⟩
end
end M
end Go.Proofs.YtoacmingocmaaaaGreatDoor
/- The walk of a crash. -/
namespace Go.Proofs.YtoacmingocmaaaaGreatDoor
open Go Go.RowKit Go.Lib
namespace M
open MM
/-- Whether things are kept, as a slice reads it. -/
def BoolsAt (w : World) (ao : Option Addr) (l : List Bool) : Prop := ∀ (i : Nat) (b : Bool), l[i]? = some b → ∃ ad, ao = some ad ∧ w.cell? (ad.add i) = some (.bool b)
theorem BoolsAt.step {w w' : World} {ao : Option Addr} {l : List Bool} (h : BoolsAt w ao l) (hb : Below w.heap.size w w') : BoolsAt w' ao l := fun i b hi => by
  obtain ⟨ad, e, hc⟩ := h i b hi
  exact ⟨ad, e, by rw [hb.cell (World.block_lt_of_cell? w _ hc)]; exact hc⟩
theorem BoolsAt.nil (w : World) : BoolsAt w none [] := fun i b h => by simp at h
section
variable {w w1 w' : World} {F : Nat → Prop} {B N : Nat} {s : Dsk}
/-- What a crash has made of a disk by its i-th write. -/
def CrashAt (w1 : World) (F : Nat → Prop) (B N : Nat) (q : Dsk) (keep : List Bool) (n i : Nat) (torn : Bool) (w : World) : Prop :=
  ∃ p, crashGo keep n i (q.c.drop i) p torn = crashGo keep n 0 q.c q.p false ∧ DidP w1 F B (N + i) { q with p := p } w
theorem CrashAt.kept {q : Dsk} {keep : List Bool} {n i : Nat} {torn : Bool} {x : Int × By} {p : Int → By} (hx : q.c[i]? = some x) (hk : keep.getD i false = true) (hp : crashGo keep n i (q.c.drop i) p torn = crashGo keep n 0 q.c q.p false) :
    crashGo keep n (i + 1) (q.c.drop (i + 1)) (upd p x) torn = crashGo keep n 0 q.c q.p false := by
  rw [← hp, List.drop_eq_getElem_cons (List.getElem?_eq_some_iff.1 hx).1, (List.getElem?_eq_some_iff.1 hx).2, crashGo, if_pos hk]
theorem CrashAt.lost {q : Dsk} {keep : List Bool} {n i : Nat} {x : Int × By} {p : Int → By} (hx : q.c[i]? = some x) (hk : keep.getD i false = false) (hp : crashGo keep n i (q.c.drop i) p true = crashGo keep n 0 q.c q.p false) :
    crashGo keep n (i + 1) (q.c.drop (i + 1)) p true = crashGo keep n 0 q.c q.p false := by
  rw [← hp, List.drop_eq_getElem_cons (List.getElem?_eq_some_iff.1 hx).1, (List.getElem?_eq_some_iff.1 hx).2, crashGo, if_neg (by rw [hk]; simp), if_pos rfl]
theorem CrashAt.torn {q : Dsk} {keep : List Bool} {n i : Nat} {x : Int × By} {p : Int → By} (hx : q.c[i]? = some x) (hk : keep.getD i false = false) (hp : crashGo keep n i (q.c.drop i) p false = crashGo keep n 0 q.c q.p false) :
    crashGo keep n (i + 1) (q.c.drop (i + 1)) (upd p (x.1, x.2.take n ++ (p x.1).drop n)) true = crashGo keep n 0 q.c q.p false := by
  rw [← hp, List.drop_eq_getElem_cons (List.getElem?_eq_some_iff.1 hx).1, (List.getElem?_eq_some_iff.1 hx).2, crashGo, if_neg (by rw [hk]; simp), if_neg (by simp)]
set_option maxRecDepth 100000 in
set_option maxHeartbeats 8000000 in
theorem crash_any (h : Dk w F B N s) (hN : 2 * N ≤ 1000000) (keep : List Bool) (ao : Option Addr) (kc : Nat) (n : Int) (hkeep : ∀ u, Chg F w u → BoolsAt u ao keep) :
    Calls Tryz.prog 20 #[ptr B, .slice ao keep.length kc, .int .i64 n] w fun e w' => e = .returned (.tuple #[]) ∧ Did w F B N (s.crash keep n) w' := by
  have HDK := Lib.hid h
  obtain ⟨m1, v1, fu1, le1, n1, hl1⟩ := h.lies
  obtain ⟨_, c1, _⟩ := box_cells hl1.box
  have HL := Lib.hid hl1
  have hN1 := hl1.few
  have HW := Lib.hid (show CacheAt w v1 s.c from hl1.cache)
  obtain ⟨co, cap, rfl, hcap⟩ : ∃ co cap, v1 = .slice co s.c.length cap ∧ s.c.length ≤ cap := by
    rcases hl1.cache.rd with ⟨rfl, hn⟩ | ⟨g, cap, hv, hc, _⟩
    · exact ⟨none, 0, by rw [hn]; rfl, by rw [hn]; exact Nat.le_refl _⟩
    · exact ⟨_, cap, hv, hc⟩
  have HKP := Lib.hid hkeep
  have hcl := clamp_le n
  have HCL := Lib.hid hcl
  unfold Dsk.crash
  obtain ⟨cn, hcn⟩ : ∃ cn, clamp n = cn := ⟨_, rfl⟩
  obtain ⟨mx, hmx⟩ : ∃ mx, max n 0 = mx := ⟨_, rfl⟩
  have hmn : min mx 512 = (cn : Int) := by rw [← hmx, ← hcn]; unfold clamp; omega
  rw [hcn] at HCL ⊢
  clear hl1 h hkeep hcl hcn
  obtain ⟨L, hL⟩ : ∃ L, s.c.length = L := ⟨_, rfl⟩
  obtain ⟨kl, hKL⟩ : ∃ kl, keep.length = kl := ⟨_, rfl⟩
  have HLL := Lib.hid hL
  have HKL := Lib.hid hKL
  rw [hL] at c1 hN1 hcap HW HL
  rw [hKL]
  have H00 : Hid (CrashAt w F B N s keep cn 0 false w) := Lib.hid ⟨s.p, rfl, ⟨F, HDK.out, fun _ h => .inl h, .refl F w⟩, .refl w⟩
  clear hL hKL
  go_enter Tryz.func20, Tryz.ntmps20
  go_wp2_with fail
  go_loopw [6, 7, 8, 16] (fun s6 s7 s8 s16 wx => ∃ (i : Nat) (torn : Bool), i ≤ L ∧ s16 = .int .i64 (i : Int) ∧ s6 = .bool torn ∧ Hid (CrashAt w F B N s keep cn i torn wx)) (fun _ _ _ s16 _ => L - (RowKit.intOf s16).toNat)
  case atStart => exact ⟨0, false, Nat.zero_le _, rfl, rfl, H00⟩
  case round =>
    obtain ⟨i, torn, hi, rfl, rfl, HI⟩ := hrel
    by_cases hlt : i < L
    · obtain ⟨p, hp, hdid⟩ := HI.out
      have HP := Lib.hid hp
      obtain ⟨x, hx⟩ : ∃ x, s.c[i]? = some x := ⟨_, List.getElem?_eq_getElem (by rw [HLL.out]; exact hlt)⟩
      have HXI := Lib.hid hx
      obtain ⟨hxs, hxl⟩ := HDK.out.wf.c x (List.mem_of_getElem? hx)
      obtain ⟨g, cap2, hv, hrg⟩ := write_range (HW.out.sameW hdid.2) hx
      rw [HLL.out] at hv
      obtain rfl : co = some ⟨g, 0, none⟩ := by injection hv
      have HRG := Lib.hid hrg
      obtain ⟨xk, xt⟩ := x
      simp only at hxs hrg hxl
      have hbx := below_box wr (.cells #[.int .i64 xk, .string ⟨xt.toArray⟩] 77)
      obtain ⟨F', hF1, hF2, hF3⟩ := hdid.1
      have hF4 := hdid.2
      have HGO : Hid (∀ (M : Nat) (p' : Int → By) w5, DidP wr F' B M { s with p := p' } w5 → DidP w F B M { s with p := p' } w5) := Lib.hid fun M p' w5 h5 => by
        obtain ⟨⟨F2, k1, k2, k3⟩, k4⟩ := h5
        exact ⟨⟨F2, k1, fun j hj => (k2 j hj).elim (hF2 j) fun h => .inr (Nat.le_trans hF3.size h), hF3.trans k3 hF2⟩, hF4.trans k4⟩
      have HPU : Hid (Calls Tryz.prog 47 #[ptr B, wv xk xt] (wr.alloc (.cells #[.int .i64 xk, .string ⟨xt.toArray⟩] 77)) fun e w' => e = .returned (.tuple #[]) ∧ DidP wr F' B (N + i + 1) { s with p := upd p (xk, xt) } w') := Lib.hid ((put_any (hF1.step hbx) (by omega) xk xt hxs hxl).mono fun e w' ⟨h1, h2⟩ => ⟨h1, h2.after hbx⟩)
      have HTE : Hid (Calls Tryz.prog 48 #[ptr B, wv xk xt, .int .i64 (cn : Int)] (wr.alloc (.cells #[.int .i64 xk, .string ⟨xt.toArray⟩] 77)) fun e w' => e = .returned (.tuple #[]) ∧ DidP wr F' B (N + i + 1) { s with p := upd p (xk, xt.take cn ++ (p xk).drop cn) } w') := Lib.hid ((tear_any (hF1.step hbx) (by omega) xk xt cn hxs hxl HCL.out).mono fun e w' ⟨h1, h2⟩ => ⟨h1, h2.after hbx⟩)
      have HNO : Hid (DidP w F B (N + (i + 1)) { s with p := p } (wr.alloc (.cells #[.int .i64 xk, .string ⟨xt.toArray⟩] 77))) := Lib.hid (HGO.out _ _ _ ⟨⟨F', (hF1.step hbx).up (by omega) (by omega), fun _ h => .inl h, .of_below F' hbx⟩, .of_below hbx⟩)
      have hbk := HKP.out wr hF3
      have HBK := Lib.hid (hbk.step hbx)
      clear hbx hrg hv hx hxs hxl hF1 hF2 hF3 hF4 hbk hdid hp
      by_cases hk : keep.getD i false = true
      · have hik : i < kl := by
          rw [← HKL.out]
          refine Nat.lt_of_not_le fun h => ?_
          rw [List.getD_eq_getElem?_getD, List.getElem?_eq_none h] at hk
          cases hk
        have hgi : keep[i]? = some true := by
          rw [List.getD_eq_getElem?_getD] at hk
          cases e : keep[i]? with
          | none => rw [e] at hk; cases hk
          | some b => rw [e] at hk; simp at hk; rw [hk]
        obtain ⟨ad, rfl, hcell⟩ := HBK.out i true hgi
        have HOK := Lib.hid (CrashAt.kept HXI.out hk HP.out)
        have hikI : (i : Int) < (kl : Int) := by omega
        clear hk hgi
        go_wp2_with (first
          | (refine wpList_load_mid rfl 77 _ rfl g (i * 2) rfl [.int .i64 xk, .string ⟨xt.toArray⟩] _ HRG.out Tryz.underlying77 rfl (info_w2 (xk, xt)) ?_)
          | (go_at_call 47; (with_reducible refine HPU.out.mono ?_); rintro e w5 ⟨rfl, hdp⟩; have HDP := Lib.hid hdp; clear hdp))
        go_roundw
        case rel => exact ⟨i + 1, torn, by omega, by go_num, rfl, Lib.hid ⟨_, HOK.out, HGO.out _ _ _ HDP.out⟩⟩
        case measure => simp [RowKit.intOf]; omega
      · have hk' : keep.getD i false = false := by simpa using hk
        by_cases hik : i < kl
        · have hgi : keep[i]? = some false := by
            rw [List.getD_eq_getElem?_getD] at hk'
            cases e : keep[i]? with
            | none => rw [List.getElem?_eq_none_iff] at e; have := HKL.out; omega
            | some b => rw [e] at hk'; simp at hk'; rw [hk']
          obtain ⟨ad, rfl, hcell⟩ := HBK.out i false hgi
          have hikI : (i : Int) < (kl : Int) := by omega
          clear hgi
          cases torn with
          | true =>
            have HOK := Lib.hid (CrashAt.lost HXI.out hk' HP.out)
            clear hk hk'
            go_wp2_with (refine wpList_load_mid rfl 77 _ rfl g (i * 2) rfl [.int .i64 xk, .string ⟨xt.toArray⟩] _ HRG.out Tryz.underlying77 rfl (info_w2 (xk, xt)) ?_)
            go_roundw
            case rel => exact ⟨i + 1, true, by omega, by go_num, rfl, Lib.hid ⟨_, HOK.out, HNO.out⟩⟩
            case measure => simp [RowKit.intOf]; omega
          | false =>
            have HOK := Lib.hid (CrashAt.torn HXI.out hk' HP.out)
            clear hk hk'
            go_wp2_with (first
              | (refine wpList_load_mid rfl 77 _ rfl g (i * 2) rfl [.int .i64 xk, .string ⟨xt.toArray⟩] _ HRG.out Tryz.underlying77 rfl (info_w2 (xk, xt)) ?_)
              | (go_at_call 48; (with_reducible refine HTE.out.mono ?_); rintro e w5 ⟨rfl, hdp⟩; have HDP := Lib.hid hdp; clear hdp))
            go_roundw
            case rel => exact ⟨i + 1, true, by omega, by go_num, rfl, Lib.hid ⟨_, HOK.out, HGO.out _ _ _ HDP.out⟩⟩
            case measure => simp [RowKit.intOf]; omega
        · have hikI : ¬ (i : Int) < (kl : Int) := by omega
          cases torn with
          | true =>
            have HOK := Lib.hid (CrashAt.lost HXI.out hk' HP.out)
            clear hk hk'
            go_wp2_with (refine wpList_load_mid rfl 77 _ rfl g (i * 2) rfl [.int .i64 xk, .string ⟨xt.toArray⟩] _ HRG.out Tryz.underlying77 rfl (info_w2 (xk, xt)) ?_)
            go_roundw
            case rel => exact ⟨i + 1, true, by omega, by go_num, rfl, Lib.hid ⟨_, HOK.out, HNO.out⟩⟩
            case measure => simp [RowKit.intOf]; omega
          | false =>
            have HOK := Lib.hid (CrashAt.torn HXI.out hk' HP.out)
            clear hk hk'
            go_wp2_with (first
              | (refine wpList_load_mid rfl 77 _ rfl g (i * 2) rfl [.int .i64 xk, .string ⟨xt.toArray⟩] _ HRG.out Tryz.underlying77 rfl (info_w2 (xk, xt)) ?_)
              | (go_at_call 48; (with_reducible refine HTE.out.mono ?_); rintro e w5 ⟨rfl, hdp⟩; have HDP := Lib.hid hdp; clear hdp))
            go_roundw
            case rel => exact ⟨i + 1, true, by omega, by go_num, rfl, Lib.hid ⟨_, HOK.out, HGO.out _ _ _ HDP.out⟩⟩
            case measure => simp [RowKit.intOf]; omega
    · obtain rfl : i = L := by omega
      obtain ⟨p, hp, hdid⟩ := HI.out
      rw [← HLL.out, List.drop_length] at hp
      obtain ⟨F', hF1, hF2, hF3⟩ := hdid.1
      obtain ⟨m2, v2, fu2, le2, n2, hl2⟩ := hF1.lies
      have hbx2 := hl2.box
      obtain ⟨_, b1, _, _, b4, bfr⟩ := box_cells hbx2
      have bfr1 := bfr 1
      have bfr4 := bfr 4
      have hfew : n2 ≤ N := by have := hl2.few; have : s.c.length = i := HLL.out; simp only at *; omega
      have HG : Hid (Did w F B N { s with p := crashGo keep cn 0 s.c s.p false, c := [], dead := true } ((wr.setCell ⟨B, 1, none⟩ (.slice none 0 0)).setCell ⟨B, 4, none⟩ (.bool true))) := Lib.hid ⟨F', hl2.clear hF1 hp.symm rfl (box_set (box_set hbx2 1 _) 4 _) (fun h => by cases h) (fun j hj => (set_other _ _ _ _ hj).trans (set_other _ _ _ _ hj)) (by simp) hfew (by omega), hF2, hF3.trans (((Chg.refl F' wr).setCell (.inl hF1.FB) _).setCell (.inl hF1.FB) _) hF2⟩
      clear hF1 hF2 hF3 hl2 hbx2 bfr hfew hp hdid
      go_wp2_with fail
      go_end0
      exact ⟨rfl, HG.out⟩
end
end M
end Go.Proofs.YtoacmingocmaaaaGreatDoor
/- How rows of steps, and rows of bools, that come in are opened. -/
namespace Go.Proofs.YtoacmingocmaaaaGreatDoor
open Go.ChangeShapes Go.WideShapes Go.ChangeAt Go.RowKit Go.Deep
/-- A step as it lies: its kind, its sector, its text, its number, what it keeps (where that lies). -/
structure Sp where
  k : Nat
  at_ : Int
  s : List UInt8
  n : Int
  ko : Option Addr
  kc : Nat
  keep : List Bool
instance : Inhabited Sp := ⟨⟨0, 0, [], 0, none, 0, []⟩⟩
namespace Sp
abbrev cells (x : Sp) : Array Value := #[.int .u8 (x.k : Int), .int .i64 x.at_, .string ⟨x.s.toArray⟩, .int .i64 x.n, .slice x.ko x.keep.length x.kc]
structure Ok (x : Sp) : Prop where
  k : x.k < 256
  n : x.n ≤ 9223372036854775807
  s : x.s.length ≤ 9223372036854775807
  keep : x.keep.length ≤ 9223372036854775807
def st (x : Sp) : MM.St := ⟨x.k, x.at_, x.s, x.n, x.keep⟩
end Sp
namespace M
theorem laidOut : laidOutB Tryz.prog = true := by kernel_rfl
theorem own : ownKnob Tryz.prog.godebug = none := by kernel_rfl
/-- A row of bools that came in. -/
def BoolsIn (w : World) (v : Value) : Prop := ∃ (ao : Option Addr) (c : Nat) (l : List Bool), v = .slice ao l.length c ∧ l.length ≤ 9223372036854775807 ∧ BoolsAt w ao l
/-- A row of steps that came in. -/
def StepsAt (w : World) (ao : Option Addr) (n : Nat) (f : Nat → Sp) : Prop := ∀ i, i < n → (f i).Ok ∧ BoolsAt w (f i).ko (f i).keep ∧ ∃ a, ao = some a ∧ ∀ (j : Nat) (u : Value), (f i).cells[j]? = some u → w.cell? (a.add (i * 5 + j)) = some u
def StepsIn (w : World) (v : Value) : Prop := ∃ (ao : Option Addr) (n c : Nat) (f : Nat → Sp), v = .slice ao n c ∧ n ≤ 9223372036854775807 ∧ StepsAt w ao n f
theorem StepsAt.step {w w' : World} {ao : Option Addr} {n : Nat} {f : Nat → Sp} (h : StepsAt w ao n f) (hb : Below w.heap.size w w') : StepsAt w' ao n f := fun i hi => by
  obtain ⟨h1, h2, a, h3, h4⟩ := h i hi
  exact ⟨h1, h2.step hb, a, h3, fun j u hu => by rw [hb.cell (World.block_lt_of_cell? w _ (h4 j u hu))]; exact h4 j u hu⟩
section
variable {H : Type} {enc : TypeId × Value → H} {w : World} {base : Nat} {held : Bool}
set_option maxRecDepth 100000 in
theorem trod_bools {spare : Nat → Bool} {fuel : Nat} {cs : List Value} {x : DataW H × List MemPlace} (h : DataW.trod enc Tryz.prog w base spare held fuel 29 cs = some x) : ∃ v, cs = [v] ∧ BoolsIn w v := by
  rcases open_slice1 Tryz.underlying29 (by kernel_rfl) h with ⟨hcs, _⟩ | ⟨a, len, cap, m, n, V, D, Pl, hcs, _, hl, hm, hmm, _, hx⟩
  · exact ⟨_, hcs, none, 0, [], rfl, by simp, fun i b hi => by simp at hi⟩
  · unfold maxLen at hm
    have hle : len ≤ m := by rw [hmm]; split <;> omega
    obtain ⟨bf, hbf⟩ := choose_lt (α := Bool) (p := fun i b => V i = .bool b) (fun i (hi : i < m) => by
      obtain ⟨b, h1, _⟩ := DataW.trod_bool Tryz.underlying4 (hx i hi).2
      exact ⟨b, by simpa using h1⟩)
    have hlen : ((List.range len).map bf).length = len := by simp
    refine ⟨_, hcs, some a, cap, (List.range len).map bf, by rw [hlen], by rw [hlen]; omega, fun i b hi => ⟨a, rfl, ?_⟩⟩
    have hil : i < len := by have := (List.getElem?_eq_some_iff.1 hi).1; omega
    have hb : bf i = b := by simpa [hil] using hi
    rw [(hx i (by omega)).1, hbf i (by omega), hb]
set_option maxRecDepth 100000 in
theorem open_boolsIn {spare : Nat → Bool} {r : Reach} {b0 : Nat} {v : Value} {d : DataW H} {pl : List MemPlace} (hv : Value.okWide Tryz.prog w r b0 29 v) (h : DataW.Trod enc Tryz.prog w base spare held 29 v d pl) : BoolsIn w v := by
  obtain ⟨ad, len0, cap0, rfl⟩ := okWide_slice Tryz.underlying29 hv
  obtain ⟨fuel, hf⟩ := h
  obtain ⟨v, hv2, hn⟩ := trod_bools hf
  obtain rfl : Value.slice ad len0 cap0 = v := by simpa [Value.cells] using hv2
  exact hn
set_option maxRecDepth 100000 in
/-- Five cells that read as a step. -/
theorem step_of {spare : Nat → Bool} {n : Nat} {u0 u1 u2 u3 u4 : Value} {y0 y1 y2 y3 y4 : DataW H × List MemPlace}
    (h0 : DataW.trod enc Tryz.prog w base spare held n 5 [u0] = some y0) (h1 : DataW.trod enc Tryz.prog w base spare held n 3 [u1] = some y1) (h2 : DataW.trod enc Tryz.prog w base spare held n 9 [u2] = some y2)
    (h3 : DataW.trod enc Tryz.prog w base spare held n 3 [u3] = some y3) (h4 : DataW.trod enc Tryz.prog w base spare held n 29 [u4] = some y4) :
    ∃ t : Sp, t.cells = #[u0, u1, u2, u3, u4] ∧ t.Ok ∧ BoolsAt w t.ko t.keep := by
  obtain ⟨k, e0, _, w0⟩ := DataW.trod_int Tryz.underlying5 h0
  obtain ⟨m, e1, _, w1⟩ := DataW.trod_int Tryz.underlying3 h1
  obtain ⟨s, e2, _, w2⟩ := DataW.trod_string Tryz.underlying9 h2
  obtain ⟨b, e3, _, w3⟩ := DataW.trod_int Tryz.underlying3 h3
  obtain ⟨v, e4, ao, c, l, rfl, hl, hr⟩ := trod_bools h4
  obtain rfl := List.cons.inj e0 |>.1
  obtain rfl := List.cons.inj e1 |>.1
  obtain rfl := List.cons.inj e2 |>.1
  obtain rfl := List.cons.inj e3 |>.1
  obtain rfl := List.cons.inj e4 |>.1
  obtain ⟨k0, k1⟩ := u8_bounds w0
  obtain ⟨_, b1⟩ := i64_bounds w3
  obtain ⟨k, rfl⟩ : ∃ a : Nat, k = a := ⟨k.toNat, by omega⟩
  refine ⟨⟨k, m, s.data.toList, b, ao, c, l⟩, ?_, ⟨by show k < 256; omega, b1, by unfold maxLen at w2; rw [← Lib.size_eq]; omega, hl⟩, hr⟩
  show #[Value.int .u8 (k : Int), .int .i64 m, .string ⟨s.data.toList.toArray⟩, .int .i64 b, .slice ao l.length c] = _
  rw [Lib.mk_data]
end
end M
end Go.Proofs.YtoacmingocmaaaaGreatDoor

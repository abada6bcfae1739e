/- The texts SltW4, SltW5, SltRead, one behind the other. -/
import Derived.Test.YtoacmingocmaaaaGreatDoorWB14
import Derived.Test.YtoacmingocmaaaaGreatDoorWB12
import Derived.Test.YtoacmingocmaaaaGreatDoorWB13
import Derived.Test.YtoacmingocmaaaaGreatDoorWB3
import Derived.Test.YtoacmingocmaaaaGreatDoorWB5
/- The walks of the row of operations, of Write and of Twice. -/
namespace Go.Proofs.YtoacmingocmaaaaGreatDoor
open Go Go.RowKit Go.Lib
namespace M
open MM
abbrev opsC (B b : Nat) : Array Value := #[.func (.func 23) #[ptr B] #[], .func (.func 60) #[] #[.pointer (some ⟨b, 0, none⟩), .pointer (some ⟨b + 1, 0, none⟩)], .func (.func 23) #[ptr B] #[],
  .func (.func 61) #[] #[.pointer (some ⟨b, 0, none⟩), .pointer (some ⟨b + 1, 0, none⟩), .pointer (some ⟨b + 3, 0, none⟩)], .func (.func 63) #[] #[.pointer (some ⟨b, 0, none⟩), .pointer (some ⟨b + 1, 0, none⟩), .pointer (some ⟨b + 3, 0, none⟩)], .func (.func 23) #[ptr B] #[],
  .func (.func 66) #[] #[.pointer (some ⟨b, 0, none⟩), .pointer (some ⟨b + 1, 0, none⟩), .pointer (some ⟨b + 2, 0, none⟩), .pointer (some ⟨b + 3, 0, none⟩)], .func (.func 23) #[ptr B] #[]]
section
variable {w w' : World} {F : Nat → Prop} {b B N a : Nat} {k : Int} {t : By} {s : Dsk}
theorem at_old {w : World} {o x : Obj} {k : Nat} (h : w.heap[k]? = some x) : (w.alloc o).heap[k]? = some x := ((below_box w o).block k (row_lt h)).trans h
theorem at_new (w : World) (o p : Obj) : ((w.alloc o).alloc p).heap[w.heap.size + 1]? = some p := by have := heap_alloc_new (w.alloc o) p; rwa [World.size_alloc] at this
theorem at_new2 (w : World) (o p q : Obj) : (((w.alloc o).alloc p).alloc q).heap[w.heap.size + 2]? = some q := by have := at_new (w.alloc o) p q; rwa [World.size_alloc] at this
theorem at_new3 (w : World) (o p q r : Obj) : ((((w.alloc o).alloc p).alloc q).alloc r).heap[w.heap.size + 3]? = some r := by have := at_new2 (w.alloc o) p q r; rwa [World.size_alloc] at this
theorem at_new4 (w : World) (o p q r u : Obj) : (((((w.alloc o).alloc p).alloc q).alloc r).alloc u).heap[w.heap.size + 4]? = some u := by have := at_new3 (w.alloc o) p q r u; rwa [World.size_alloc] at this
set_option maxRecDepth 100000 in
set_option maxHeartbeats 8000000 in
theorem operations_any (w : World) (B : Nat) (k : Int) (a : Nat) (t : By) : Calls Tryz.prog 46 #[ptr B, .int .i64 k, .int .i64 (a : Int), .string ⟨t.toArray⟩] w fun e w' => ∃ b g, e = .returned (.slice (some ⟨g, 0, none⟩) 8 8) ∧ w.heap.size ≤ b ∧ Bxs w' b B k a t ∧ w'.heap[g]? = some (.cells (opsC B b) 50 (0, 0)) ∧ w.heap.size ≤ g ∧ Below w.heap.size w w' := by
  have hmf : ∀ (fn : Fn) (first cap : Array Value) (w : World), (Instr.makeFunc fn first cap).run Tryz.prog w = .ok (.func fn first cap) w := fun _ _ _ _ => rfl
  go_enter Tryz.func46, Tryz.ntmps46
  go_wp2_with fail
  go_ret
  refine ⟨w.heap.size, w.heap.size + 4, rfl, Nat.le_refl _, ⟨?_, ?_, ?_, ?_⟩, ?_, Nat.le_add_right _ _, ?_⟩
  · exact at_old (at_old (at_old (at_old (heap_alloc_new w _))))
  · exact at_old (at_old (at_old (at_new w _ _)))
  · exact at_old (at_old (at_new2 w _ _ _))
  · exact at_old (at_new3 w _ _ _ _)
  · exact at_new4 w _ _ _ _ _
  · exact bnext (below_box _ _) (bnext (below_box _ _) (bnext (below_box _ _) (bnext (below_box _ _) (below_box _ _))))
theorem goS_at {k : Int} {a : Nat} {t : By} {j : Nat} (hj : j < 8) (x : Dsk) : goS k a t (8 - j) x = if (stg k a t j x).1 = 0 then goS k a t (8 - (j + 1)) (stg k a t j x).2 else stg k a t j x := by
  rw [show 8 - j = (7 - j) + 1 by omega, goS_succ, show 7 - (7 - j) = j by omega, show 8 - (j + 1) = 7 - j by omega]
theorem nb_le (N : Nat) : ∀ i, 1 ≤ i → nb N i ≤ 131072
  | 1, _ => by show (65536 : Nat) ≤ 131072; omega
  | 2, _ => by show (65537 : Nat) ≤ 131072; omega
  | 3, _ => by show (65536 : Nat) ≤ 131072; omega
  | 4, _ => by show (98304 : Nat) ≤ 131072; omega
  | 5, _ => by show (131072 : Nat) ≤ 131072; omega
  | 6, _ => by show (65536 : Nat) ≤ 131072; omega
  | 7, _ => by show (65537 : Nat) ≤ 131072; omega
  | i + 8, _ => by show (65536 : Nat) ≤ 131072; omega
theorem nb_ge (N : Nat) : ∀ i, 1 ≤ i → 65536 ≤ nb N i
  | 1, _ => by show (65536 : Nat) ≤ 65536; omega
  | 2, _ => by show (65536 : Nat) ≤ 65537; omega
  | 3, _ => by show (65536 : Nat) ≤ 65536; omega
  | 4, _ => by show (65536 : Nat) ≤ 98304; omega
  | 5, _ => by show (65536 : Nat) ≤ 131072; omega
  | 6, _ => by show (65536 : Nat) ≤ 65536; omega
  | 7, _ => by show (65536 : Nat) ≤ 65537; omega
  | i + 8, _ => by show (65536 : Nat) ≤ 65536; omega
/-- What the loop over the operations keeps. -/
structure StW (wo : World) (F : Nat → Prop) (B N b g : Nat) (k : Int) (a : Nat) (t : By) (j : Nat) (x : Dsk) (wx : World) : Prop where
  did : Did wo F B (nb N j) x wx
  bx : Bxs wx b B k a t
  row : wx.heap[g]? = some (.cells (opsC B b) 50 (0, 0))
  pre : Pre k t j x
/-- What an operation makes of it. -/
def StN (wo : World) (F : Nat → Prop) (B N b g : Nat) (k : Int) (a : Nat) (t : By) (j : Nat) (x : Dsk) (e : Ending) (w' : World) : Prop :=
  e = .returned (.int .i64 ((stg k a t j x).1 : Int)) ∧ ((stg k a t j x).1 = 0 → StW wo F B N b g k a t (j + 1) (stg k a t j x).2 w') ∧ Did wo F B (max N 131072) (stg k a t j x).2 w'
theorem stage_any {wo wx : World} {g j : Nat} {x : Dsk} (h : StW wo F B N b g k a t j x wx) (hj : j < 8) (hk : k = 0 ∨ k = half) (ha : a ≤ top) (ht : t.length ≤ most) (hN : N ≤ 400000) (hb : ∀ i, b ≤ i → i ≤ b + 3 → ¬ F i ∧ i < wo.heap.size) (hg : ¬ F g ∧ g < wo.heap.size) :
    ((opsC B b)[j]? = some (.func (.func 23) #[ptr B] #[]) ∧ Calls Tryz.prog 23 #[ptr B] wx (StN wo F B N b g k a t j x)) ∨
    ∃ f ca, (opsC B b)[j]? = some (.func (.func f) #[] ca) ∧ (∀ (args : Array Value) (w : World), (callFunc f args).run Tryz.prog w = .ok (.enter f args) w) ∧ Calls Tryz.prog f ca wx (StN wo F B N b g k a t j x) := by
  obtain ⟨F', h1, h2, h3⟩ := h.did
  have hbF : ∀ i, b ≤ i → i ≤ b + 3 → ¬ F' i := fun i i1 i2 hf => by
    rcases h2 i hf with q | q
    · exact (hb i i1 i2).1 q
    · have := (hb i i1 i2).2; omega
  have hgF : ¬ F' g := fun hf => by
    rcases h2 g hf with q | q
    · exact hg.1 q
    · have := hg.2; omega
  have hsec := secs_le ht
  have fin : ∀ {M : Nat} {e : Ending} {w' : World}, (M ≤ nb N (j + 1) ∨ (stg k a t j x).2.c = [] ∨ (stg k a t j x).1 ≠ 0) → M ≤ max N 131072 → (65536 ≤ nb N (j + 1)) → (e = .returned (.int .i64 ((stg k a t j x).1 : Int)) ∧ Did wx F' B M (stg k a t j x).2 w') → StN wo F B N b g k a t j x e w' := fun {M e w'} hM hM2 h65 ⟨he, hd⟩ => by
    have hd2 := hd.comp h2 h3
    refine ⟨he, fun h0 => ?_, hd2.upN hM2 (by omega)⟩
    obtain ⟨_, q1, q2, q3⟩ := hd
    refine ⟨?_, h.bx.chg q3 hbF, (q3.block g (row_lt h.row) hgF).trans h.row, h.pre.next h0 ht hk⟩
    have hnb : nb N (j + 1) ≤ 131072 := by
      have this := nb_le N
      exact this _ (by omega)
    rcases hM with hM | hM | hM
    · exact hd2.upN hM (by omega)
    · exact (hd2.small hM).upN h65 (by omega)
    · exact absurd h0 hM
  have syn : (j = 0 ∨ j = 2 ∨ j = 5 ∨ j = 7) → 65536 ≤ nb N (j + 1) → nb N j ≤ max N 131072 → Calls Tryz.prog 23 #[ptr B] wx (StN wo F B N b g k a t j x) := fun hj2 h65 hM => by
    have e : stg k a t j x = x.sync := by rcases hj2 with rfl | rfl | rfl | rfl <;> rfl
    refine (sync_any h1 (by have := Nat.le_max_left N 131072; omega)).mono fun e' w' hh => fin (M := nb N j) (.inr ?_) hM h65 (by rw [e]; exact hh)
    by_cases h0 : (stg k a t j x).1 = 0
    · exact .inl (stg_c hj2 h0)
    · exact .inr h0
  have ge : 65536 ≤ nb N (j + 1) := nb_ge N _ (by omega)
  have cases8 : j = 0 ∨ j = 1 ∨ j = 2 ∨ j = 3 ∨ j = 4 ∨ j = 5 ∨ j = 6 ∨ j = 7 := by omega
  have le : 1 ≤ j → nb N j ≤ max N 131072 := fun h1 => Nat.le_trans (nb_le N j h1) (Nat.le_max_right _ _)
  rcases cases8 with rfl | rfl | rfl | rfl | rfl | rfl | rfl | rfl
  · exact .inl ⟨rfl, syn (.inl rfl) ge (by show N ≤ _; omega)⟩
  · refine .inr ⟨_, _, rfl, Tryz.call60, (op1_any h1 h.bx ?_).mono fun e' w' hh => fin (M := 65537) (.inl ?_) (by omega) ge hh⟩
    · show 65536 + 1 ≤ 1000000; omega
    · show (65537 : Nat) ≤ 65537; omega
  · exact .inl ⟨rfl, syn (.inr (.inl rfl)) ge (le (by omega))⟩
  · refine .inr ⟨_, _, rfl, Tryz.call61, (op2_any h1 h.bx hk ht ?_).mono fun e' w' hh => fin (M := 65536 + secs t.length) (.inl ?_) (by omega) ge hh⟩
    · show 65536 + secs t.length ≤ 1000000; omega
    · show 65536 + secs t.length ≤ 98304; omega
  · refine .inr ⟨_, _, rfl, Tryz.call63, (op3_any h1 h.bx hbF hk ht (h.pre.2 rfl) ?_).mono fun e' w' hh => fin (M := 98304 + 32767) (.inl ?_) (by omega) ge hh⟩
    · show 98304 + 32767 ≤ 1000000; omega
    · show 98304 + 32767 ≤ 131072; omega
  · exact .inl ⟨rfl, syn (.inr (.inr (.inl rfl))) ge (le (by omega))⟩
  · refine .inr ⟨_, _, rfl, Tryz.call66, (op4_any h1 h.bx hbF ha ht ?_).mono fun e' w' hh => fin (M := 65537) (.inl ?_) (by omega) ge hh⟩
    · show 65536 + 1 ≤ 1000000; omega
    · show (65537 : Nat) ≤ 65537; omega
  · exact .inl ⟨rfl, syn (.inr (.inr (.inr rfl))) ge (le (by omega))⟩
end
end M
end Go.Proofs.YtoacmingocmaaaaGreatDoor
/- The walks of Write and of Twice. -/
namespace Go.Proofs.YtoacmingocmaaaaGreatDoor
open Go Go.RowKit Go.Lib
namespace M
open MM
section
variable {w w' : World} {F : Nat → Prop} {B N : Nat} {t : By} {s : Dsk}
theorem write_dead (h : Dk w F B N s) (hd : s.dead = true) : Calls Tryz.prog 17 #[ptr B, .string ⟨t.toArray⟩] w fun e w' => e = .returned (.int .i64 42) ∧ w' = w := by
  have HDE := dead_any h
  rw [hd] at HDE
  go_enter Tryz.func17, Tryz.ntmps17
  go_wp2_with (go_at_call 45; (with_reducible refine HDE.mono ?_); rintro e w' ⟨rfl, hw'⟩; replace hw' := hw'.symm; subst hw')
  go_ret
  exact ⟨rfl, rfl⟩
theorem write_long (h : Dk w F B N s) (hd : s.dead = false) (ht : most < t.length) : Calls Tryz.prog 17 #[ptr B, .string ⟨t.toArray⟩] w fun e w' => e = .returned (.int .i64 10) ∧ w' = w := by
  have HDE := dead_any h
  rw [hd] at HDE
  have hl : (16776704 : Int) < (t.length : Int) := by unfold most at ht; omega
  go_enter Tryz.func17, Tryz.ntmps17
  go_wp2_with (go_at_call 45; (with_reducible refine HDE.mono ?_); rintro e w' ⟨rfl, hw'⟩; replace hw' := hw'.symm; subst hw')
  go_ret
  exact ⟨rfl, rfl⟩
set_option maxRecDepth 100000 in
set_option maxHeartbeats 8000000 in
theorem write_full (h : Dk w F B N s) (hd : s.dead = false) (ht : t.length ≤ most) (ha : ageV s.read = top) : Calls Tryz.prog 17 #[ptr B, .string ⟨t.toArray⟩] w fun e w' => e = .returned (.int .i64 41) ∧ Below w.heap.size w w' := by
  have HDE := dead_any h
  rw [hd] at HDE
  have hl : ¬ (16776704 : Int) < (t.length : Int) := by unfold most at ht; omega
  have H := Lib.hid (byAge_any h)
  obtain ⟨x, hx⟩ : ∃ x, newV s.read = x := ⟨_, rfl⟩
  obtain ⟨y, hy⟩ : ∃ y, othV s.read = y := ⟨_, rfl⟩
  have hax : x.age = 1099511627776 := by unfold ageV at ha; rw [hx] at ha; exact ha
  have hai : ((x.age : Int) == 1099511627776) = true := by rw [hax]; rfl
  unfold twoV at H
  rw [hx, hy] at H
  clear hx hy h ha hax ht
  go_enter Tryz.func17, Tryz.ntmps17
  go_upto_region 8 with (first
    | (go_at_call 45; (with_reducible refine HDE.mono ?_); rintro e w' ⟨rfl, hw'⟩; replace hw' := hw'.symm; subst hw')
    | (go_at_call 33; (with_reducible refine H.out.mono ?_); rintro e w3 ⟨rfl, hb⟩; have HB := Lib.hid hb; clear hb))
  have gx := heap_alloc_new w3 (.cells (slC x) 60)
  have hbx := below_box w3 (.cells (slC x) 60)
  have hby := below_box (w3.alloc (.cells (slC x) 60)) (.cells (slC y) 60)
  have X5 := (hby.block _ (row_lt gx)).trans gx
  have HB5 := Lib.hid (bnext HB.out (bnext hbx hby))
  clear hbx hby gx
  generalize (w3.alloc (.cells (slC x) 60)).alloc (.cells (slC y) 60) = w5 at *
  obtain ⟨x0, x1, x2, _⟩ := sl_cells X5
  go_wp2_with fail
  go_ret
  exact ⟨rfl, HB5.out⟩
set_option maxRecDepth 100000 in
set_option maxHeartbeats 8000000 in
theorem write_goes (h : Dk w F B N s) (hN : N ≤ 400000) (hd : s.dead = false) (ht : t.length ≤ most) (ha : ageV s.read ≠ top) : Calls Tryz.prog 17 #[ptr B, .string ⟨t.toArray⟩] w fun e w' => e = .returned (.int .i64 ((s.save t).1 : Int)) ∧ Did w F B (max N 131072) (s.save t).2 w' := by
  have HDE := dead_any h
  rw [hd] at HDE
  have hl : ¬ (16776704 : Int) < (t.length : Int) := by unfold most at ht; omega
  have H := Lib.hid (byAge_any h)
  have hle := ageV_le s.read
  have hoth := oth_two s.read
  have hsv : s.save t = goS (othV s.read).at_ (ageV s.read + 1) t 8 s := (save_eq hd ht ha).trans (goS_all _ _ _ s).symm
  rw [hsv]
  unfold ageV at *
  obtain ⟨x, hx⟩ : ∃ x, newV s.read = x := ⟨_, rfl⟩
  obtain ⟨y, hy⟩ : ∃ y, othV s.read = y := ⟨_, rfl⟩
  unfold twoV at H
  rw [hx, hy] at H
  rw [hx] at ha hle
  rw [hy] at hoth
  rw [hx, hy]
  have hx41 : ¬ (x.age : Int) = 1099511627776 := by unfold top at ha; omega
  have hx42 : (x.age : Int) ≤ 1099511627776 := by unfold top at hle; omega
  have HA : Hid (x.age + 1 ≤ top) := Lib.hid (by omega)
  have HOT := Lib.hid hoth
  have HT := Lib.hid ht
  have HD0 := Lib.hid h
  have HOP : Hid (∀ w, Calls Tryz.prog 46 #[ptr B, .int .i64 y.at_, .int .i64 ((x.age : Int) + 1), .string ⟨t.toArray⟩] w fun e w' => ∃ b g, e = .returned (.slice (some ⟨g, 0, none⟩) 8 8) ∧ w.heap.size ≤ b ∧ Bxs w' b B y.at_ (x.age + 1) t ∧ w'.heap[g]? = some (.cells (opsC B b) 50 (0, 0)) ∧ w.heap.size ≤ g ∧ Below w.heap.size w w') := Lib.hid fun w => by
    have := operations_any w B y.at_ (x.age + 1) t
    rwa [show ((x.age + 1 : Nat) : Int) = (x.age : Int) + 1 by omega] at this
  clear hx hy h ha hle hoth hsv ht
  go_enter Tryz.func17, Tryz.ntmps17
  go_upto_region 8 with (first
    | (go_at_call 45; (with_reducible refine HDE.mono ?_); rintro e w' ⟨rfl, hw'⟩; replace hw' := hw'.symm; subst hw')
    | (go_at_call 33; (with_reducible refine H.out.mono ?_); rintro e w3 ⟨rfl, hb⟩; have HB := Lib.hid hb; clear hb))
  have gx := heap_alloc_new w3 (.cells (slC x) 60)
  have gy := at_new w3 (.cells (slC x) 60) (.cells (slC y) 60)
  have X5 := at_old (o := .cells (slC y) 60) gx
  have HB5 := Lib.hid (bnext HB.out (bnext (below_box w3 (.cells (slC x) 60)) (below_box _ (.cells (slC y) 60))))
  clear gx HB HDE H
  generalize (w3.alloc (.cells (slC x) 60)).alloc (.cells (slC y) 60) = w5 at *
  generalize w3.heap.size = g5 at *
  obtain ⟨x0, x1, x2, _⟩ := sl_cells X5
  obtain ⟨y0, y1, y2, _⟩ := sl_cells gy
  go_upto_region 11 with (go_at_call 46; (with_reducible refine (HOP.out _).mono ?_); rintro e wo ⟨b, g, rfl, hb, hbx, hrow, hg, hbo⟩; have HLB := Lib.hid hb; have HBX := Lib.hid hbx; have HROW := Lib.hid hrow; have HLG := Lib.hid hg; have HBO := Lib.hid hbo; clear hb hbx hrow hg hbo)
  have HBW := Lib.hid (bnext HB5.out HBO.out)
  have HBF : Hid (∀ i, b ≤ i → i ≤ b + 3 → ¬ F i ∧ i < wo.heap.size) := Lib.hid fun i h1 h2 => by
    have q0 := HB5.out.size
    have q1 := HLB.out
    have q2 := row_lt HBX.out.b3
    exact ⟨fun hf => by have := HD0.out.old i hf; omega, by omega⟩
  have HGF : Hid (¬ F g ∧ g < wo.heap.size) := Lib.hid (by
    have q0 := HB5.out.size
    have q1 := HLG.out
    exact ⟨fun hf => by have := HD0.out.old g hf; omega, row_lt HROW.out⟩)
  have HS0 : Hid (StW wo F B N b g y.at_ (x.age + 1) t 0 s wo) := Lib.hid ⟨.refl (HD0.out.step HBW.out), HBX.out, HROW.out, Pre.start _ _ _⟩
  clear HOP HD0 HBX HROW HLB HLG HBO HB5 X5 gy x0 x1 x2 y0 y1 y2 hx41 hx42
  go_loopw [8, 9, 34] (fun s8 s9 s34 wx => ∃ (j : Nat) (z : Dsk), j ≤ 8 ∧ s34 = .int .i64 (j : Int) ∧ Hid (goS y.at_ (x.age + 1) t 8 s = goS y.at_ (x.age + 1) t (8 - j) z) ∧ Hid (StW wo F B N b g y.at_ (x.age + 1) t j z wx)) (fun _ _ s34 _ => 8 - (RowKit.intOf s34).toNat)
  case atStart => exact ⟨0, s, Nat.zero_le _, rfl, Lib.hid rfl, HS0⟩
  case round =>
    obtain ⟨j, z, hj, rfl, HG, HS⟩ := hrel
    by_cases hlt : j < 8
    · have HAT := Lib.hid (goS_at (k := y.at_) (a := x.age + 1) (t := t) hlt z)
      obtain ⟨E, hE⟩ : ∃ E, (stg y.at_ (x.age + 1) t j z).1 = E := ⟨_, rfl⟩
      have HE := Lib.hid hE
      have hst := stage_any HS.out hlt HOT.out HA.out HT.out hN HBF.out HGF.out
      have hrow := HS.out.row
      have hji : (j : Int) < 8 := by omega
      clear hE
      by_cases hz : E = 0
      · have HZ := Lib.hid hz
        have hok : ((E : Int) != 0) = false := by rw [hz]; rfl
        clear hz
        have HGN : Hid (goS y.at_ (x.age + 1) t 8 s = goS y.at_ (x.age + 1) t (8 - (j + 1)) (stg y.at_ (x.age + 1) t j z).2) := Lib.hid (by rw [HG.out, HAT.out, if_pos (HE.out.trans HZ.out)])
        rcases hst with ⟨hel, hc⟩ | ⟨f, ca, hel, hcf, hc⟩
        · have hcell := (cell_of_row wr g j _ _ _ hrow).trans hel
          have HC := Lib.hid hc
          clear hc hel hrow HS
          go_wp2_with (go_at_call 23; (with_reducible refine HC.out.mono ?_); rintro e w' ⟨he, hn, _⟩; rw [HE.out] at he; subst he; have HN2 := Lib.hid (hn (HE.out.trans HZ.out)); clear hn)
          go_roundw
          case rel => first | exact ⟨j + 1, _, by omega, by go_num, HGN, HN2⟩ | ((repeat apply Exists.intro); exact ⟨⟨j + 1, _, by omega, by go_num, HGN, HN2⟩, rfl⟩)
          case measure => simp [RowKit.intOf]; omega
        · have hcell := (cell_of_row wr g j _ _ _ hrow).trans hel
          have HC := Lib.hid hc
          clear hc hel hrow HS
          go_wp2_with fail
          (with_reducible refine HC.out.mono ?_)
          rintro e w' ⟨he, hn, _⟩; rw [HE.out] at he; subst he; have HN2 := Lib.hid (hn (HE.out.trans HZ.out)); clear hn
          go_wp2_with fail
          go_roundw
          case rel => first | exact ⟨j + 1, _, by omega, by go_num, HGN, HN2⟩ | ((repeat apply Exists.intro); exact ⟨⟨j + 1, _, by omega, by go_num, HGN, HN2⟩, rfl⟩)
          case measure => simp [RowKit.intOf]; omega
      · have HGN : Hid (goS y.at_ (x.age + 1) t 8 s = stg y.at_ (x.age + 1) t j z) := Lib.hid (by rw [HG.out, HAT.out, if_neg (by rw [HE.out]; exact hz)])
        have hok : ((E : Int) != 0) = true := by simpa using (by omega : ¬ (E : Int) = 0)
        clear hz
        rcases hst with ⟨hel, hc⟩ | ⟨f, ca, hel, hcf, hc⟩
        · have hcell := (cell_of_row wr g j _ _ _ hrow).trans hel
          have HC := Lib.hid hc
          clear hc hel hrow HS
          go_wp2_with (go_at_call 23; (with_reducible refine HC.out.mono ?_); rintro e w' ⟨he, _, hd⟩; rw [HE.out] at he; subst he; have HD2 := Lib.hid hd; clear hd)
          go_ret
          rw [HGN.out, HE.out]
          exact ⟨rfl, HD2.out.base HBW.out⟩
        · have hcell := (cell_of_row wr g j _ _ _ hrow).trans hel
          have HC := Lib.hid hc
          clear hc hel hrow HS
          go_wp2_with fail
          (with_reducible refine HC.out.mono ?_)
          rintro e w' ⟨he, _, hd⟩; rw [HE.out] at he; subst he; have HD2 := Lib.hid hd; clear hd
          go_wp2_with fail
          go_ret
          rw [HGN.out, HE.out]
          exact ⟨rfl, HD2.out.base HBW.out⟩
    · obtain rfl : j = 8 := by omega
      have HGN : Hid (goS y.at_ (x.age + 1) t 8 s = (0, z)) := Lib.hid HG.out
      have HD2 : Hid (Did wo F B (max N 131072) z wr) := Lib.hid (HS.out.did.upN (by show 65536 ≤ _; omega) (by omega))
      clear HG HS
      go_wp2_with fail
      go_ret
      rw [HGN.out]
      exact ⟨rfl, HD2.out.base HBW.out⟩
theorem save_any (h : Dk w F B N s) (hN : N ≤ 400000) (t : By) : Calls Tryz.prog 17 #[ptr B, .string ⟨t.toArray⟩] w fun e w' => e = .returned (.int .i64 ((s.save t).1 : Int)) ∧ Did w F B (max N 131072) (s.save t).2 w' := by
  have hM : max N 131072 ≤ 1000000 := by omega
  have hU := (Did.refl h).upN (Nat.le_max_left N 131072) hM
  cases hd : s.dead with
  | true =>
    rw [save_dead hd]
    exact (write_dead h hd).mono fun e w' ⟨he, hw⟩ => ⟨he, hw ▸ hU⟩
  | false =>
    by_cases ht : t.length ≤ most
    · by_cases ha : ageV s.read = top
      · rw [save_full hd ht ha]
        exact (write_full h hd ht ha).mono fun e w' ⟨he, hb⟩ => ⟨he, hU.step hb⟩
      · exact write_goes h hN hd ht ha
    · have ht : most < t.length := by omega
      rw [save_long hd ht]
      exact (write_long h hd ht).mono fun e w' ⟨he, hw⟩ => ⟨he, hw ▸ hU⟩
set_option maxRecDepth 100000 in
set_option maxHeartbeats 4000000 in
theorem twice_any (h : Dk w F B N s) (hN : N ≤ 400000) (t : By) : Calls Tryz.prog 18 #[ptr B, .string ⟨t.toArray⟩] w fun e w' => e = .returned (.int .i64 ((s.twice t).1 : Int)) ∧ Did w F B (max N 131072) (s.twice t).2 w' := by
  have HS := Lib.hid (save_any h hN t)
  have HN : Hid (∀ w1, Did w F B (max N 131072) (s.save t).2 w1 → Calls Tryz.prog 17 #[ptr B, .string ⟨t.toArray⟩] w1 fun e w' => e = .returned (.int .i64 (((s.save t).2.save t).1 : Int)) ∧ Did w F B (max N 131072) ((s.save t).2.save t).2 w') := Lib.hid fun w1 hd => by
    have := hd.goes (M' := max (max N 131072) 131072) fun F' hF => save_any hF (by omega) t
    rwa [Nat.max_assoc, Nat.max_self] at this
  unfold Dsk.twice
  generalize (s.save t).2.save t = r2 at *
  generalize s.save t = r1 at *
  obtain ⟨E, z⟩ := r1
  simp only at HS HN ⊢
  clear h
  by_cases hE : E = 0
  · subst hE
    simp only [if_true]
    go_enter Tryz.func18, Tryz.ntmps18
    go_wp2_with (first
      | (go_at_call 17; (with_reducible refine HS.out.mono ?_); rintro e w1 ⟨rfl, hd⟩; have HD := Lib.hid hd; clear hd)
      | (go_at_call 17; (with_reducible refine (HN.out _ HD.out).mono ?_); rintro e w2 ⟨rfl, hd⟩; have HD2 := Lib.hid hd; clear hd))
    go_ret
    exact ⟨rfl, HD2.out⟩
  · simp only [if_neg hE]
    have hok : ((E : Int) != 0) = true := by simpa using (by omega : ¬ (E : Int) = 0)
    clear hE
    go_enter Tryz.func18, Tryz.ntmps18
    go_wp2_with (go_at_call 17; (with_reducible refine HS.out.mono ?_); rintro e w1 ⟨rfl, hd⟩; have HD := Lib.hid hd; clear hd)
    go_ret
    exact ⟨rfl, HD.out⟩
end
end M
end Go.Proofs.YtoacmingocmaaaaGreatDoor
/- The walk of Read. -/
namespace Go.Proofs.YtoacmingocmaaaaGreatDoor
namespace MM
theorem rows_take {v : Int → By} {k : Int} {n i : Nat} (hv : ∀ j : Nat, j < secs n → (v (k + 1 + (j : Int))).length = 512) (hi : i < secs n) : (rows v k i).take n = rows v k i ∧ (rows v k i).length = 512 * i ∧ (rows v k (i + 1)).take n = rows v k i ++ (v (k + 1 + (i : Int))).take (n - 512 * i) := by
  have hl := rows_len (v := v) (k := k) (i := i) (fun j hj => hv j (by omega))
  have hlt := secs_lt hi
  refine ⟨List.take_of_length_le (by omega), hl, ?_⟩
  rw [rows_succ, List.take_append, List.take_of_length_le (by omega), hl]
end MM
open Go Go.RowKit Go.Lib
namespace M
open MM
theorem at_old' {w : World} {o x : Obj} {k : Nat} (h : w.heap[k]? = some x) : (w.alloc o).heap[k]? = some x := ((below_box w o).block k (row_lt h)).trans h
section
variable {w : World} {F : Nat → Prop} {B N : Nat} {s : Dsk}
theorem LBld.len {w0 : World} {b : Nat} {l : List UInt8} {w : World} (h : LBld w0 b l w) : Calls Tryz.prog 34 #[.pointer (some ⟨b, 0, none⟩)] w fun e w' => e = .returned (.int .i64 (l.length : Int)) ∧ w' = w := by
  have := Tryz.Builder_Len _ b _ w h.bld
  rwa [Lib.byteCells_length] at this
/-- What Read tells. -/
abbrev textR (v : Int → By) : Value := .tuple #[.string ⟨((textV v).getD []).toArray⟩, .bool (textV v).isSome]
set_option maxRecDepth 100000 in
set_option maxHeartbeats 8000000 in
theorem rtext_none (h : Dk w F B N s) (ha : ageV s.read = 0) : Calls Tryz.prog 10 #[ptr B] w fun e w' => e = .returned (textR s.read) ∧ Below w.heap.size w w' := by
  have H := Lib.hid (byAge_any h)
  have hR : textR s.read = .tuple #[.string ⟨#[]⟩, .bool false] := by unfold textR textV; rw [if_pos ha]; rfl
  rw [hR]
  obtain ⟨x, hx⟩ : ∃ x, newV s.read = x := ⟨_, rfl⟩
  obtain ⟨y, hy⟩ : ∃ y, othV s.read = y := ⟨_, rfl⟩
  have hax : x.age = 0 := by unfold ageV at ha; rw [hx] at ha; exact ha
  have hai : ((x.age : Int) == 0) = true := by rw [hax]; rfl
  unfold twoV at H
  rw [hx, hy] at H
  clear hx hy h ha hax hR
  go_enter Tryz.func10, Tryz.ntmps10
  go_upto_region 2 with (go_at_call 33; (with_reducible refine H.out.mono ?_); rintro e w3 ⟨rfl, hb⟩; have HB := Lib.hid hb; clear hb)
  have gx := heap_alloc_new w3 (.cells (slC x) 60)
  have hbx := below_box w3 (.cells (slC x) 60)
  have hby := below_box (w3.alloc (.cells (slC x) 60)) (.cells (slC y) 60)
  have X5 := (hby.block _ (row_lt gx)).trans gx
  have HB5 := Lib.hid (bnext HB.out (bnext hbx hby))
  clear hbx hby gx
  generalize (w3.alloc (.cells (slC x) 60)).alloc (.cells (slC y) 60) = w5 at *
  obtain ⟨x0, x1, x2, _⟩ := sl_cells X5
  go_wp2_with fail
  go_ret2
  exact ⟨rfl, HB5.out⟩
set_option maxRecDepth 100000 in
set_option maxHeartbeats 8000000 in
theorem rtext_some (h : Dk w F B N s) (ha : ageV s.read ≠ 0) : Calls Tryz.prog 10 #[ptr B] w fun e w' => e = .returned (textR s.read) ∧ Below w.heap.size w w' := by
  have H := Lib.hid (byAge_any h)
  have hlive : s.dead = false := by
    cases hd : s.dead with
    | false => rfl
    | true =>
      refine absurd ?_ ha
      unfold ageV; rw [newV_is]
      show (headOf (s.read _)).1 = 0
      rw [show s.read (newV s.read).at_ = [] by unfold Dsk.read; rw [hd]; rfl, headOf_nil]
  have hk := newV_at s.read
  have hn := newV_len s.read
  obtain ⟨x, hx⟩ : ∃ x, newV s.read = x := ⟨_, rfl⟩
  obtain ⟨y, hy⟩ : ∃ y, othV s.read = y := ⟨_, rfl⟩
  have hR : textR s.read = .tuple #[.string ⟨((rows s.read x.at_ (secs x.len)).take x.len).toArray⟩, .bool true] := by unfold textR textV; rw [if_neg ha, hx]; rfl
  obtain ⟨T, hT⟩ : ∃ T, (rows s.read x.at_ (secs x.len)).take x.len = T := ⟨_, rfl⟩
  rw [hT] at hR
  rw [hR]
  unfold ageV at ha
  unfold twoV at H
  rw [hx] at ha hk hn
  rw [hx, hy] at H
  have hsc := secs_le hn
  have hvl : ∀ j : Nat, j < secs x.len → (s.read (x.at_ + 1 + (j : Int))).length = 512 := fun j hj => read_len h.wf hlive (sec_yes.2 (by rcases hk with e | e <;> rw [e] <;> first | omega | (unfold half; omega)))
  have hai : ((x.age : Int) == 0) = false := by simpa using (by omega : ¬ (x.age : Int) = 0)
  have hkb : 0 ≤ x.at_ ∧ x.at_ ≤ 32768 := by rcases hk with e | e <;> rw [e] <;> decide
  have hnn : x.len ≤ 16776704 := hn
  have HVL := Lib.hid hvl
  have HDK := Lib.hid h
  have HRT : Hid (∀ i, i < secs x.len → (rows s.read x.at_ i).take x.len = rows s.read x.at_ i ∧ (rows s.read x.at_ i).length = 512 * i ∧ (rows s.read x.at_ (i + 1)).take x.len = rows s.read x.at_ i ++ (s.read (x.at_ + 1 + (i : Int))).take (x.len - 512 * i)) := Lib.hid fun i hi => rows_take hvl hi
  have HT := Lib.hid hT
  have HEND : Hid (T.length = x.len) := Lib.hid (by
    rw [← hT, List.length_take, rows_len hvl]; have := secs_ge x.len; omega)
  clear hx hy h ha hR hk hn hvl hlive hT
  go_enter Tryz.func10, Tryz.ntmps10
  go_upto_region 2 with (go_at_call 33; (with_reducible refine H.out.mono ?_); rintro e w3 ⟨rfl, hb⟩; have HB := Lib.hid hb; clear hb)
  have gx := heap_alloc_new w3 (.cells (slC x) 60)
  have hbx := below_box w3 (.cells (slC x) 60)
  have hby := below_box (w3.alloc (.cells (slC x) 60)) (.cells (slC y) 60)
  have X5 := (hby.block _ (row_lt gx)).trans gx
  have HB5 := Lib.hid (bnext HB.out (bnext hbx hby))
  clear hbx hby gx H HB
  generalize (w3.alloc (.cells (slC x) 60)).alloc (.cells (slC y) 60) = w5 at *
  generalize w3.heap.size = g5 at *
  have HX5 := Lib.hid X5
  obtain ⟨x0, x1, x2, _⟩ := sl_cells X5
  have HL0 : Hid (LBld w5 w5.heap.size [] (w5.alloc (.cells #[.pointer none, .slice none 0 0] 66))) := Lib.hid ⟨bld_new w5, below_box _ _⟩
  go_upto_region 5 with fail
  have HX6 := Lib.hid (sl_cells (at_old' (o := .cells #[.pointer none, .slice none 0 0] 66) X5))
  clear X5 x0 x1 x2
  generalize w5.alloc (.cells #[.pointer none, .slice none 0 0] 66) = w6 at *
  generalize hbb : w5.heap.size = bb at *
  have HBB := Lib.hid hbb
  clear hbb
  obtain ⟨x0, _, _, _⟩ := HX6.out
  clear HX6
  go_upto_region 6 with fail
  go_loopw [7] (fun s7 wx => ∃ i : Nat, i ≤ secs x.len ∧ s7 = .int .i64 (x.at_ + 1 + (i : Int)) ∧ Hid (LBld w5 bb ((rows s.read x.at_ i).take x.len) wx)) (fun s7 _ => (x.at_ + 1 + (secs x.len : Int) - RowKit.intOf s7).toNat)
  case atStart => exact ⟨0, Nat.zero_le _, by simp, by simpa [rows] using HL0⟩
  case round =>
    clear x0 HL0
    obtain ⟨i, hi, rfl, HL⟩ := hrel
    have HXC : Hid (∀ u l, LBld w5 bb l u → u.cell? ⟨g5, 2, none⟩ = some (.int .i64 (x.len : Int))) := Lib.hid fun u l hu => (sl_cells ((hu.below.block g5 (row_lt HX5.out)).trans HX5.out)).2.2.1
    by_cases hlt : i < secs x.len
    · obtain ⟨k1, k2, k3⟩ := HRT.out i hlt
      have hq5 := secs_lt hlt
      obtain ⟨rd, hrd⟩ : ∃ rd, s.read (x.at_ + 1 + (i : Int)) = rd := ⟨_, rfl⟩
      have hrl : rd.length = 512 := hrd ▸ HVL.out i hlt
      rw [k1] at HL
      rw [hrd] at k3
      obtain ⟨l, hll⟩ : ∃ l, rows s.read x.at_ i = l := ⟨_, rfl⟩
      rw [hll] at HL k2 k3
      obtain ⟨q, hq⟩ : ∃ q, 512 * i = q := ⟨_, rfl⟩
      rw [hq] at k2 k3 hq5
      have HQL := Lib.hid k2
      obtain ⟨m, hm⟩ : ∃ m : Nat, min (x.len - q) 512 = m := ⟨_, rfl⟩
      have hmi : min ((x.len : Int) - (q : Int)) 512 = (m : Int) := by omega
      have hm0 : (0 : Int) ≤ (m : Int) := Int.natCast_nonneg _
      have hm1 : (m : Int) ≤ (rd.length : Int) := by omega
      have hx1 : (⟨rd.toArray⟩ : ByteArray).extract 0 m = ⟨(rd.take m).toArray⟩ := by rw [ByteArray.extract_mk]; simp
      have HK3 : Hid ((rows s.read x.at_ (i + 1)).take x.len = l ++ rd.take m) := Lib.hid (by
        rw [k3, ← hm]; congr 1
        rw [← hrl, List.take_eq_take_min (i := x.len - q)])
      have hlt6 : (q : Int) < (x.len : Int) := by omega
      have hqi : (l.length : Int) = (q : Int) := by omega
      go_upto_region 6 with fail
      refine RK.region (fun u => ∃ l, LBld w5 bb l u) 4 (by kernel_rfl) ?_
      have HL1 := Lib.hid (show LBld w5 bb _ wr.drew from HL.out.step (below_drewN wr 1))
      have HS0 : ∃ l, LBld w5 bb l wr.drew := ⟨_, HL1.out⟩
      generalize wr.drew = v1 at *
      refine RK.Any.take 1 20 (.pointer (some ⟨g5, 2, none⟩)) rfl rfl (by kernel_rfl) (by kernel_rfl) (by kernel_rfl) (by kernel_rfl) (fun _ _ _ h => h) (by rfl) (fun W' hb => ?_) HS0 ?_
      · go_simp
      try simp only [List.setIfInBounds_toArray, List.set_cons_zero, List.set_cons_succ]
      refine RK.Any.take 2 21 (.int .i64 (x.len : Int)) rfl rfl (by kernel_rfl) (by kernel_rfl) (by kernel_rfl) (by kernel_rfl) (fun _ _ _ h => h) (by rfl) (fun W' hb => ?_) HS0 ?_
      · obtain ⟨ql, hq⟩ := hb; have cc := HXC.out _ _ hq; go_simp
      try simp only [List.setIfInBounds_toArray, List.set_cons_zero, List.set_cons_succ]
      refine RK.Any.call 0 19 34 #[.pointer (some ⟨bb, 0, none⟩)] (by kernel_rfl) rfl rfl (by rfl) (by go_simp) (Calls.mono (HL1.out.len) ?_)
      rintro e v2 ⟨rfl, hv2⟩
      replace hv2 := hv2.symm
      subst hv2
      refine ⟨_, rfl, fun _ => HS0, ?_⟩
      try simp only [List.setIfInBounds_toArray, List.set_cons_zero, List.set_cons_succ]
      refine RK.Any.exec 3 22 (.bool (decide ((l.length : Int) < (x.len : Int)))) (w1 := v1) (by kernel_rfl) rfl rfl (by rfl) (by go_simp) HS0 ?_
      try simp only [List.setIfInBounds_toArray, List.set_cons_zero, List.set_cons_succ]
      refine RK.Any.done (by kernel_rfl) ?_
      go_upto_region 8 with fail
      refine RK.region (fun u => ∃ l, LBld w5 bb l u) 10 (by kernel_rfl) ?_
      have HL2 := Lib.hid (show LBld w5 bb _ v1.drew from HL1.out.step (below_drewN v1 1))
      have HS1 : ∃ l, LBld w5 bb l v1.drew := ⟨_, HL2.out⟩
      generalize v1.drew = v3 at *
      refine RK.Any.take 0 25 (ptr B) rfl rfl (by kernel_rfl) (by kernel_rfl) (by kernel_rfl) (by kernel_rfl) (fun _ _ _ h => h) (by rfl) (fun W' hb => ?_) HS1 ?_
      · go_simp
      try simp only [List.setIfInBounds_toArray, List.set_cons_zero, List.set_cons_succ]
      refine RK.Any.take 1 26 (.int .i64 (x.at_ + 1 + (i : Int))) rfl rfl (by kernel_rfl) (by kernel_rfl) (by kernel_rfl) (by kernel_rfl) (fun _ _ _ h => h) (by rfl) (fun W' hb => ?_) HS1 ?_
      · go_simp
      try simp only [List.setIfInBounds_toArray, List.set_cons_zero, List.set_cons_succ]
      refine RK.Any.take 3 28 (.pointer (some ⟨g5, 2, none⟩)) rfl rfl (by kernel_rfl) (by kernel_rfl) (by kernel_rfl) (by kernel_rfl) (fun _ _ _ h => h) (by rfl) (fun W' hb => ?_) HS1 ?_
      · go_simp
      try simp only [List.setIfInBounds_toArray, List.set_cons_zero, List.set_cons_succ]
      refine RK.Any.take 4 29 (.int .i64 (x.len : Int)) rfl rfl (by kernel_rfl) (by kernel_rfl) (by kernel_rfl) (by kernel_rfl) (fun _ _ _ h => h) (by rfl) (fun W' hb => ?_) HS1 ?_
      · obtain ⟨ql, hq⟩ := hb; have cc := HXC.out _ _ hq; go_simp
      try simp only [List.setIfInBounds_toArray, List.set_cons_zero, List.set_cons_succ]
      refine RK.Any.call 2 27 36 #[ptr B, .int .i64 (x.at_ + 1 + (i : Int))] (by kernel_rfl) rfl rfl (by rfl) (by go_simp) (Calls.mono (read_any (HDK.out.step (HB5.out.trans (HL2.out.below.mono HB5.out.size))) _) ?_)
      rintro e v4 ⟨he, hb4⟩
      rw [hrd] at he
      subst he
      have HL4 := Lib.hid (HL2.out.step hb4)
      have HS2 : ∃ l, LBld w5 bb l v4 := ⟨_, HL4.out⟩
      refine ⟨_, rfl, fun _ => HS2, ?_⟩
      try simp only [List.setIfInBounds_toArray, List.set_cons_zero, List.set_cons_succ]
      refine RK.Any.call 5 30 34 #[.pointer (some ⟨bb, 0, none⟩)] (by kernel_rfl) rfl rfl (by rfl) (by go_simp) (Calls.mono (HL4.out.len) ?_)
      rintro e v5 ⟨he, hv5⟩
      rw [HQL.out] at he
      subst he
      replace hv5 := hv5.symm
      subst hv5
      refine ⟨_, rfl, fun _ => HS2, ?_⟩
      try simp only [List.setIfInBounds_toArray, List.set_cons_zero, List.set_cons_succ]
      refine RK.Any.take 6 31 (.int .i64 ((x.len : Int) - (q : Int))) rfl rfl (by kernel_rfl) (by kernel_rfl) (by kernel_rfl) (by kernel_rfl) (fun _ _ _ h => h) (by rfl) (fun W' hb => ?_) HS2 ?_
      · go_simp; simp [IntKind.wrap, IntKind.bits, IntKind.signed]; omega
      try simp only [List.setIfInBounds_toArray, List.set_cons_zero, List.set_cons_succ]
      refine RK.Any.take 7 32 (.int .i64 (m : Int)) rfl rfl (by kernel_rfl) (by kernel_rfl) (by kernel_rfl) (by kernel_rfl) (fun _ _ _ h => h) (by rfl) (fun W' hb => ?_) HS2 ?_
      · go_simp
      try simp only [List.setIfInBounds_toArray, List.set_cons_zero, List.set_cons_succ]
      refine RK.Any.take 8 33 (.string ⟨(rd.take m).toArray⟩) rfl rfl (by kernel_rfl) (by kernel_rfl) (by kernel_rfl) (by kernel_rfl) (fun _ _ _ h => h) (by rfl) (fun W' hb => ?_) HS2 ?_
      · go_simp; exact fun h9 => absurd h9 (by omega)
      try simp only [List.setIfInBounds_toArray, List.set_cons_zero, List.set_cons_succ]
      refine RK.Any.call 9 34 35 #[.pointer (some ⟨bb, 0, none⟩), .string ⟨(rd.take m).toArray⟩] (by kernel_rfl) rfl rfl (by rfl) (by go_simp) (Calls.mono (HL4.out.write (rd.take m) (by rw [HQL.out, List.length_take]; omega)) ?_)
      rintro e v6 ⟨⟨vv, rfl⟩, hl6⟩
      have HL6 := Lib.hid hl6
      clear hl6
      refine ⟨_, rfl, fun _ => ⟨_, HL6.out⟩, ?_⟩
      try simp only [List.setIfInBounds_toArray, List.set_cons_zero, List.set_cons_succ]
      refine RK.Any.done (by kernel_rfl) ?_
      go_wp2_with fail
      go_roundw
      case rel => exact ⟨i + 1, by omega, by go_num, by rw [HK3.out]; exact HL6⟩
      case measure => simp [RowKit.intOf]; omega
    · obtain rfl : i = secs x.len := by omega
      rw [HT.out] at HL
      have hqi : ¬ (T.length : Int) < (x.len : Int) := by have := HEND.out; omega
      go_upto_region 6 with fail
      refine RK.region (fun u => ∃ l, LBld w5 bb l u) 4 (by kernel_rfl) ?_
      have HL1 := Lib.hid (show LBld w5 bb _ wr.drew from HL.out.step (below_drewN wr 1))
      have HS0 : ∃ l, LBld w5 bb l wr.drew := ⟨_, HL1.out⟩
      generalize wr.drew = v1 at *
      refine RK.Any.take 1 20 (.pointer (some ⟨g5, 2, none⟩)) rfl rfl (by kernel_rfl) (by kernel_rfl) (by kernel_rfl) (by kernel_rfl) (fun _ _ _ h => h) (by rfl) (fun W' hb => ?_) HS0 ?_
      · go_simp
      try simp only [List.setIfInBounds_toArray, List.set_cons_zero, List.set_cons_succ]
      refine RK.Any.take 2 21 (.int .i64 (x.len : Int)) rfl rfl (by kernel_rfl) (by kernel_rfl) (by kernel_rfl) (by kernel_rfl) (fun _ _ _ h => h) (by rfl) (fun W' hb => ?_) HS0 ?_
      · obtain ⟨ql, hq⟩ := hb; have cc := HXC.out _ _ hq; go_simp
      try simp only [List.setIfInBounds_toArray, List.set_cons_zero, List.set_cons_succ]
      refine RK.Any.call 0 19 34 #[.pointer (some ⟨bb, 0, none⟩)] (by kernel_rfl) rfl rfl (by rfl) (by go_simp) (Calls.mono (HL1.out.len) ?_)
      rintro e v2 ⟨rfl, hv2⟩
      replace hv2 := hv2.symm
      subst hv2
      refine ⟨_, rfl, fun _ => HS0, ?_⟩
      try simp only [List.setIfInBounds_toArray, List.set_cons_zero, List.set_cons_succ]
      refine RK.Any.exec 3 22 (.bool (decide ((T.length : Int) < (x.len : Int)))) (w1 := v1) (by kernel_rfl) rfl rfl (by rfl) (by go_simp) HS0 ?_
      try simp only [List.setIfInBounds_toArray, List.set_cons_zero, List.set_cons_succ]
      refine RK.Any.done (by kernel_rfl) ?_
      go_wp2_with (go_at_call 37; (with_reducible refine HL1.out.text.mono ?_); rintro e w7 ⟨rfl, hb7⟩)
      go_ret2
      exact ⟨rfl, HB5.out.trans (hb7.mono HB5.out.size)⟩
theorem text_any (h : Dk w F B N s) : Calls Tryz.prog 10 #[ptr B] w fun e w' => e = .returned (textR s.read) ∧ Below w.heap.size w w' := by
  by_cases ha : ageV s.read = 0
  · exact rtext_none h ha
  · exact rtext_some h ha
end
end M
end Go.Proofs.YtoacmingocmaaaaGreatDoor

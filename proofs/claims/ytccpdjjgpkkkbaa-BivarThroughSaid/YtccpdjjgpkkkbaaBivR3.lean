/- The walk of the document's own polynomial of two through rows (consistoryref06). -/
import Derived.Test.YtccpdjjgpkkkbaaBivB
import Derived.Test.YtccpdjjgpkkkbaaPolyR7
namespace Go.Proofs.Ytccpdjjgpkkkbaa
open Go Go.RowKit Go.Lib
namespace M
theorem Own.src {w0 w : World} {B k : Nat} {v : Value} {z : Nat → Nat} (h : Own w0 B v k z w) : ∃ ao c, v = .slice ao k c ∧ SrcN w ao k c z := (RowC.of_own h.own).src
theorem Own.made0' (w : World) (z : Nat → Nat) : Own w w.heap.size (.slice (some ⟨w.heap.size, 0, none⟩) 0 0) 0 z (w.alloc (.cells #[] 22)) :=
  ⟨World.ownsRow_made w #[] 0 (Nat.le_refl _) (by unfold maxLen; omega) (by simp), by simp, Nat.le_refl _, below_box _ _⟩
/-- The document's polynomial through points, or how it is refused, in one word. -/
theorem rthru_any (xo yo : Option Addr) (n m cx cy q : Nat) (z y : Nat → Nat) (hz : ∀ k, z k < 18446744073709551616) (W : World) (hx : Rd W xo n z) (hy : Rd W yo m y) :
    Calls Try.prog 32 #[.slice xo n cx, .slice yo m cy, .int .u64 (q : Int)] W fun e w' => ∃ k, (MM.thruC q n m z = 0 → k = n) ∧ Gives2 W k (MM.thruU q z y n) (MM.thruC q n m z) e w' := by
  unfold MM.thruC
  by_cases hl : n = m
  · subst hl
    rw [if_neg (by simp)]
    by_cases hq : MM.Good q
    · by_cases hw : MM.wrongU q n z = 0
      · refine (rthrough_yes xo yo n cx cy q z y hz W hx hy hw).mono fun e w' h => ⟨n, fun _ => rfl, ?_⟩
        rw [hw]; exact h
      · exact (rthrough_no xo yo n cx cy q z _ hq W hx hw).mono fun e w' h => ⟨0, fun h0 => absurd h0 hw, h⟩
    · have hw : MM.wrongU q n z = 1 := by unfold MM.wrongU; rw [if_pos hq]
      rw [hw]
      exact (rthrough_bad xo yo n n cx cy q _ hq W).mono fun e w' h => ⟨0, fun h0 => by omega, h⟩
  · rw [if_pos hl]
    exact (rthrough_len xo yo n m cx cy q _ hl W).mono fun e w' h => ⟨0, fun h0 => by omega, h⟩
theorem OwnR.from {w0 w1 w : World} {B k : Nat} {v : Value} {L : Nat → Nat} {F : Nat → Nat → Nat} (h : OwnR w1 B v k L F w) (hb : Below w0.heap.size w0 w1) : OwnR w0 B v k L F w := by
  obtain ⟨xs, h1, h2, h3⟩ := h
  exact ⟨xs, h1, ⟨h2.own, h2.size, Nat.le_trans hb.size h2.low, hb.trans (h2.below.mono hb.size)⟩, h3⟩
theorem OwnR.relen {w0 w : World} {B k : Nat} {v : Value} {L L' : Nat → Nat} {F F' : Nat → Nat → Nat} (h : OwnR w0 B v k L F w) (hL : ∀ i, i < k → L i = L' i) (hF : ∀ i, i < k → ∀ j, j < L i → F i j = F' i j) : OwnR w0 B v k L' F' w := by
  obtain ⟨xs, hx, ho, hrs⟩ := h
  refine ⟨xs, hx, ho, fun j hj => ?_⟩
  obtain ⟨u, h1, h2⟩ := hrs j hj
  rw [← hL j hj]
  exact ⟨u, h1, h2.congr fun i hi => hF j hj i hi⟩
set_option maxRecDepth 100000 in
set_option maxHeartbeats 8000000 in
theorem rbt_any (xo ro : Option Addr) (n m cx cr q : Nat) (z : Nat → Nat) (L : Nat → Nat) (F : Nat → Nat → Nat) (hz : ∀ k, z k < 18446744073709551616) (hn : n ≤ 12) (hm : m ≤ 1000) (hl : ∀ i, i < m → L i ≤ 1000) (W : World) (hr : Rd W xo n z) (hs : Mat W ro m L F) :
    Calls Try.prog 19 #[.slice xo n cx, .slice ro m cr, .int .u64 (q : Int)] W fun e w' =>
      (MM.thruC q n m z ≠ 0 ∧ e = .returned (.tuple #[.slice none 0 0, .int .i64 (MM.thruC q n m z)]) ∧ Below W.heap.size W w') ∨
      (MM.thruC q n m z = 0 ∧ ∃ v B, e = .returned (.tuple #[v, .int .i64 0]) ∧ OwnR W B v n (fun _ => MM.widU L m) (fun i j => MM.thruU q z (MM.trn L F j) n i) w') := by
  have HX := Lib.hid hr
  have HR := Lib.hid hs
  have HL := Lib.hid hl
  have HLO := Lib.hid (fun (u : World) (hb : Below W.heap.size W u) => wide_any ro cr m L F (by omega) (fun i h => Nat.le_trans (hl i h) (by omega)) u (hs.below hb))
  have HTH := Lib.hid (fun (u : World) (bo : Option Addr) (c2 : Nat) (y : Nat → Nat) (hb : Below W.heap.size W u) (h : Rd u bo m y) => rthru_any xo bo n m cx c2 q z y hz u (hr.below hb) h)
  have hnm : MM.thruC q n m z = 0 → n = m := fun h => by
    unfold MM.thruC at h
    by_cases e : n = m
    · exact e
    · rw [if_pos e] at h; omega
  have HNM := Lib.hid hnm
  have hN := MM.widU_le m hl
  obtain ⟨c, hc⟩ : ∃ c, MM.thruC q n m z = c := ⟨_, rfl⟩
  rw [hc] at HTH HNM ⊢
  obtain ⟨N, hNN⟩ : ∃ N, MM.widU L m = N := ⟨_, rfl⟩
  rw [hNN] at HLO hN ⊢
  obtain ⟨C, hC⟩ : ∃ C : Nat → Nat → Nat, C = fun j i => MM.thruU q z (MM.trn L F j) n i := ⟨_, rfl⟩
  have HC := Lib.hid hC
  clear hr hs hl hz hc hnm hNN hC
  have hwd : max (1 : Int) (N : Int) = ((max 1 N : Nat) : Int) := by omega
  have hw1 : max 1 N ≤ 1000 := by omega
  obtain ⟨T, hT⟩ : ∃ T, max 1 N = T := ⟨_, rfl⟩
  rw [hT] at hwd hw1
  have HT := Lib.hid hT
  clear hT
  go_enter Try.func19, Try.ntmps19
  go_wp2_with fail
  go_loopw [8, 9] (fun s8 s9 wx => ∃ j : Nat, j ≤ T ∧ s9 = .int .i64 (j : Int) ∧ (0 < j → c = 0) ∧ Hid (OwnR W W.heap.size s8 (min j N) (fun _ => n) C wx)) (fun _ s9 _ => T - (RowKit.intOf s9).toNat)
  case atStart => exact ⟨0, Nat.zero_le _, rfl, fun h => absurd h (by omega), Lib.hid (by rw [Nat.zero_min]; exact OwnR.start W _ _)⟩
  case round =>
    obtain ⟨j, hj, rfl, hcj, HJ⟩ := hrel
    obtain ⟨wo, hwo⟩ : ∃ wo : World, wo = wr := ⟨_, rfl⟩
    subst hwo
    have HW := HLO.out _ HJ.out.below
    by_cases hlt : j < T
    · have hjI : (j : Int) < (T : Int) := by omega
      have hj0 : (0 : Int) ≤ (j : Int) := Int.natCast_nonneg _
      go_wp2_with (go_at_call 28; refine HW.mono ?_; rintro e w1 ⟨rfl, rfl⟩)
      clear HW
      go_loopw [10, 11] (fun s5 s6 wx => ∃ i : Nat, i ≤ m ∧ s6 = .int .i64 (i : Int) ∧ Hid (Own wo wo.heap.size s5 i (MM.trn L F j) wx)) (fun _ s6 _ => m - (RowKit.intOf s6).toNat)
      case atStart => exact ⟨0, Nat.zero_le _, rfl, Lib.hid (Own.start wo _)⟩
      case round =>
        obtain ⟨i, hi, rfl, HI⟩ := hrel
        by_cases hli : i < m
        · have hBl := HJ.out.below.trans (HI.out.below.mono HJ.out.below.size)
          obtain ⟨ad, bo, cc, rfl, hcl, hs, _⟩ := (HR.out.below hBl) i hli
          have hiI : (i : Int) < (m : Int) := by omega
          have hi0 : (0 : Int) ≤ (i : Int) := Int.natCast_nonneg _
          have hlk := HL.out i hli
          obtain ⟨v2, w2, hr2, ho2⟩ := HI.out.push 1 (by omega)
          have HO := Lib.hid ho2
          have HTT : Hid (MM.trn L F j i = if j < L i then F i j else 0) := Lib.hid rfl
          clear ho2 hBl
          generalize MM.trn L F j i = x at *
          by_cases hb : j < L i
          · obtain ⟨bd, rfl, hcb⟩ := hs.at_ hb
            have hbI : (j : Int) < (L i : Int) := by omega
            rw [if_pos hb] at HTT
            obtain rfl := HTT.out
            generalize L i = li at *
            clear hs HTT
            go_wp2_with (at_builtin; refine Lib.wpList_append_run _ rfl _ _ _ _ rfl _ _ rfl rfl _ _ hr2 ?_)
            go_roundw
            case rel => exact ⟨i + 1, by omega, by go_num, HO⟩
            case measure => simp [RowKit.intOf]; omega
          · have hbI : ¬ (j : Int) < (L i : Int) := by omega
            rw [if_neg hb] at HTT
            obtain rfl := HTT.out
            generalize L i = li at *
            clear hs HTT
            change (Builtin.append_ #[23, 23] 23 #[_, .slice (some ⟨wr.heap.size, 0, none⟩) 1 1]).run Try.prog (wr.alloc (.cells #[.int .u64 0] 22)) = _ at hr2
            go_wp2_with (at_builtin; refine Lib.wpList_append_run _ rfl _ _ _ _ rfl _ _ rfl rfl _ _ hr2 ?_)
            go_roundw
            case rel => exact ⟨i + 1, by omega, by go_num, HO⟩
            case measure => simp [RowKit.intOf]; omega
        · have hiI : ¬ (i : Int) < (m : Int) := by omega
          obtain rfl : i = m := by omega
          obtain ⟨yo, cy, rfl, hys, _⟩ := HI.out.src
          have hBl := HJ.out.below.trans (HI.out.below.mono HJ.out.below.size)
          have hth := HTH.out wr yo cy _ hBl hys
          have HWr := Lib.hid (fun (u : World) (hb : Below wr.heap.size wr u) => HLO.out u (hBl.trans (hb.mono hBl.size)))
          have HJ1 := Lib.hid (HJ.out.step HI.out.below)
          clear HI HJ hys
          go_upto_region 14 with (go_at_call 32; refine hth.mono ?_; rintro e w3 ⟨k, hk, v, rfl, ho, hb3⟩; have hro := (RowC.of_own ho); obtain ⟨vo, vc, rfl, _⟩ := hro.src)
          have HJ3 := Lib.hid (HJ1.out.step hb3)
          have HW3 := HWr.out w3 hb3
          clear hth HJ1 HWr
          by_cases h0 : c = 0
          · subst h0
            obtain rfl := hk rfl
            by_cases hjN : j < N
            · have hjN2 : (j : Int) < (N : Int) := by omega
              have hmin : min j N = j := by omega
              have hmin2 : min (j + 1) N = j + 1 := by omega
              rw [hmin] at HJ3
              have hro2 : RowC W.heap.size w3 (.slice vo k vc) k (C j) := by rw [HC.out]; exact hro.mono (by have := hBl.size; omega)
              obtain ⟨v4, w4, hr4, ho4⟩ := HJ3.out.more 1 hro2 (by omega)
              have HO := Lib.hid ho4
              clear ho4 hro hro2 ho hBl
              go_wp2_with (first | (go_at_call 28; refine HW3.mono ?_; rintro e w5 ⟨rfl, rfl⟩) | (at_builtin; refine Lib.wpList_append_run _ rfl _ _ _ _ rfl _ _ rfl rfl _ _ hr4 ?_))
              go_roundw
              case rel => exact ⟨j + 1, by omega, by go_num, fun _ => trivial, by rw [hmin2]; exact HO⟩
              case measure => simp [RowKit.intOf]; omega
            · have hjN2 : ¬ (j : Int) < (N : Int) := by omega
              have hmin : min j N = min (j + 1) N := by omega
              rw [hmin] at HJ3
              clear hro ho hBl
              go_wp2_with (go_at_call 28; refine HW3.mono ?_; rintro e w5 ⟨rfl, rfl⟩)
              go_roundw
              case rel => exact ⟨j + 1, by omega, by go_num, fun _ => trivial, HJ3⟩
              case measure => simp [RowKit.intOf]; omega
          · have hcb : (c != 0) = true := by simpa using h0
            clear hro ho hBl HW3
            go_wp2_with fail
            exact bodyPost_ret (v := .tuple #[.slice none 0 0, .int .i64 c]) (by simp [results, Try.results19, go_sem]) rfl (.inl ⟨h0, rfl, HJ3.out.below⟩)
    · have hjI : ¬ (j : Int) < (T : Int) := by omega
      obtain rfl : j = T := by omega
      have h0 : c = 0 := hcj (by have := HT.out; omega)
      subst h0
      obtain rfl := HNM.out rfl
      have hmin : min j N = N := by have := HT.out; omega
      rw [hmin] at HJ
      obtain ⟨co, cc, rfl, hmat, _⟩ := HJ.out.mat
      have hTU := rturned_any co cc N (fun _ => n) C hN (fun _ _ => by omega) wo hmat
      have HB := Lib.hid HJ.out.below
      have hK : MM.widU (fun _ => n) N ≤ n := MM.widU_le N fun _ _ => Nat.le_refl _
      have HKN : Hid (MM.widU (fun _ => n) N = n ∨ N = 0) := Lib.hid (by
        by_cases e : N = 0
        · exact .inr e
        · exact .inl (MM.widU_same n N (by omega)))
      generalize MM.widU (fun _ => n) N = K at *
      clear hmat HJ hmin
      go_upto_region 19 with (first | (go_at_call 28; refine HW.mono ?_; rintro e w1 ⟨rfl, rfl⟩) | (go_at_call 21; refine hTU.mono ?_; rintro e w2 ⟨v2, rfl, ho2⟩; have HO2 := Lib.hid ho2; clear ho2))
      have HJ0 : Hid ((K = n ∨ N = 0) ∧ OwnR wo wo.heap.size v2 K (fun _ => N) (fun i j => C j i) w2) := Lib.hid ⟨HKN.out, HO2.out.congr fun i hi k _ => by
        show (if i < n then C k i else 0) = C k i
        rw [if_pos (by omega)]⟩
      clear HO2 HKN hTU HW
      go_loopw [15] (fun s15 wx => ∃ k : Nat, k ≤ n ∧ Hid ((k = n ∨ N = 0) ∧ OwnR wo wo.heap.size s15 k (fun _ => N) (fun i j => C j i) wx)) (fun s15 _ => match s15 with | .slice _ k _ => n - k | _ => 0)
      case atStart => exact ⟨K, hK, HJ0⟩
      case round =>
        clear HJ0
        obtain ⟨k, hk, HI⟩ := hrel
        obtain ⟨ko, kc, rfl, _⟩ := HI.out.2.mat
        by_cases hlk : k < n
        · have hkI : (k : Int) < (n : Int) := by omega
          have hN0 : N = 0 := by rcases HI.out.1 with h | h <;> omega
          obtain ⟨v3, w3, hr3, ho3⟩ := HI.out.2.more (u := .slice none 0 0) 1 (.inl ⟨rfl, hN0⟩) (by omega)
          have HO := Lib.hid ho3
          have HL3 : Hid (∃ bo c, v3 = .slice bo (k + 1) c) := Lib.hid (by obtain ⟨bo, c, e, _⟩ := ho3.mat; exact ⟨bo, c, e⟩)
          have HN0 := Lib.hid hN0
          clear ho3 HI hN0
          go_wp2_with (at_builtin; refine Lib.wpList_append_run _ rfl _ _ _ _ rfl _ _ rfl rfl _ _ hr3 ?_)
          go_roundw
          case rel => exact ⟨k + 1, by omega, Lib.hid ⟨.inr HN0.out, HO.out⟩⟩
          case measure => obtain ⟨bo, c, e⟩ := HL3.out; subst e; show n - (k + 1) < n - k; omega
        · have hkI : ¬ (k : Int) < (n : Int) := by omega
          obtain rfl : k = n := by omega
          go_wp2_with fail
          refine bodyPost_ret (v := .tuple #[.slice ko k kc, .int .i64 0]) (by simp [results, Try.results19, go_sem]) rfl ⟨_, rfl, wo.heap.size, ?_⟩
          have h := HI.out.2.from HB.out
          rw [HC.out] at h
          exact h
end M
end Go.Proofs.Ytccpdjjgpkkkbaa

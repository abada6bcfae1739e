/- The walk of ModInverse over variables, in its three cases: given what each call answers, it returns true. -/
import Derived.Test.YtojekblcdokjjaaDoorModFrame
import Derived.Deep.Cut
namespace Go.Proofs.YtojekblcdokjjaaDoor
open Go.ChangeShapes Go.WideShapes Go.ChangeAt Go.RowKit
namespace ModInverse
open M
set_option maxHeartbeats 4000000 in
set_option maxRecDepth 100000 in
theorem core1 (a b n m p r y x one z : Nat) (w : World) (hl : Laid w)
    (hr : (a : Int) % (m : Int) = (r : Int)) (hm0 : m ≠ 0) (hone : Int.tmod 1 (m : Int) = (one : Int)) (hxm : x < m)
    (HIa : Ret 12 #[.int .u64 (a : Int), .int .u64 (m : Int)] (.tuple #[.int .u64 (x : Int), .int .i64 0]))
    (HIb : Ret 12 #[.int .u64 (b : Int), .int .u64 (m : Int)] (.tuple #[.int .u64 (y : Int), .int .i64 0]))
    (HMab : Ret 15 #[.int .u64 (a : Int), .int .u64 (b : Int), .int .u64 (m : Int)] (.int .u64 (p : Int)))
    (HIp : Ret 12 #[.int .u64 (p : Int), .int .u64 (m : Int)] (.tuple #[.int .u64 (z : Int), .int .i64 0]))
    (HC : Ret 25 #[.int .u64 (r : Int), .int .u64 (m : Int)] (.int .u64 1))
    (HIx : Ret 12 #[.int .u64 (x : Int), .int .u64 (m : Int)] (.tuple #[.int .u64 (r : Int), .int .i64 0]))
    (HMax : Ret 15 #[.int .u64 (a : Int), .int .u64 (x : Int), .int .u64 (m : Int)] (.int .u64 (one : Int)))
    (HMxy : Ret 15 #[.int .u64 (x : Int), .int .u64 (y : Int), .int .u64 (m : Int)] (.int .u64 (z : Int)))
    (hw : ∀ W : World, Calls Tryd.prog 24 #[.int .u64 n] W fun e w' => e = .returned (.int .u64 (m : Int)) ∧ W = w') :
    Calls Tryd.prog 8 #[.int .u64 a, .int .u64 b, .int .u64 n] w fun e w' => e = .returned (.bool true) ∧ Grown w w' := by
  have HK : RetL 11 #[] (.bool true) := fun W hW => awake_any W hW
  have HW := Lib.hid hw
  have HL := Lib.hid hl
  clear hw hl
  go_enter Tryd.func8, Tryd.ntmps8
  go_upto_region 12 with (first | (go_at_call 12; first | ((with_reducible refine (HIa.at _).mono ?_); rintro e w' ⟨rfl, n, rfl⟩) | ((with_reducible refine (HIb.at _).mono ?_); rintro e w' ⟨rfl, n, rfl⟩) | ((with_reducible refine (HIp.at _).mono ?_); rintro e w' ⟨rfl, n, rfl⟩) | ((with_reducible refine (HIx.at _).mono ?_); rintro e w' ⟨rfl, n, rfl⟩)) | (go_at_call 15; first | ((with_reducible refine (HMab.at _).mono ?_); rintro e w' ⟨rfl, n, rfl⟩)) | (go_at_call 25; first | ((with_reducible refine (HC.at _).mono ?_); rintro e w' ⟨rfl, n, rfl⟩)) | (go_at_call 24; first | ((with_reducible refine (HW.out _).mono ?_); rintro e w' ⟨rfl, rfl⟩)) | (go_at_call 11; first | ((with_reducible refine (HK.at _ (HL.out.drewN _)).mono ?_); rintro e w' ⟨rfl, n, rfl⟩) | ((with_reducible refine (HK.at _ HL.out).mono ?_); rintro e w' ⟨rfl, n, rfl⟩)))
  generalize hW : w.drewN _ = W
  have HG : Hid (Grown w W) := by rw [← hW]; exact grown_drewN (Grown.refl w) _
  clear hW
  go_quiet ((first | (go_at_call 15; first | (with_reducible exact HMax.quiet) | (with_reducible exact HMxy.quiet))))
  go_wp2_with fail
  go_ret
  exact ⟨rfl, grown_drewN HG.out _⟩

set_option maxHeartbeats 4000000 in
set_option maxRecDepth 100000 in
theorem core2 (a b n m p r y x one : Nat) (w : World) (hl : Laid w)
    (hr : (a : Int) % (m : Int) = (r : Int)) (hm0 : m ≠ 0) (hone : Int.tmod 1 (m : Int) = (one : Int)) (hxm : x < m)
    (HIa : Ret 12 #[.int .u64 (a : Int), .int .u64 (m : Int)] (.tuple #[.int .u64 (x : Int), .int .i64 0]))
    (HIb : Ret 12 #[.int .u64 (b : Int), .int .u64 (m : Int)] (.tuple #[.int .u64 (y : Int), .int .i64 5]))
    (HMab : Ret 15 #[.int .u64 (a : Int), .int .u64 (b : Int), .int .u64 (m : Int)] (.int .u64 (p : Int)))
    (HIp : Ret 12 #[.int .u64 (p : Int), .int .u64 (m : Int)] (.tuple #[.int .u64 0, .int .i64 5]))
    (HC : Ret 25 #[.int .u64 (r : Int), .int .u64 (m : Int)] (.int .u64 1))
    (HIx : Ret 12 #[.int .u64 (x : Int), .int .u64 (m : Int)] (.tuple #[.int .u64 (r : Int), .int .i64 0]))
    (HMax : Ret 15 #[.int .u64 (a : Int), .int .u64 (x : Int), .int .u64 (m : Int)] (.int .u64 (one : Int)))
    (hw : ∀ W : World, Calls Tryd.prog 24 #[.int .u64 n] W fun e w' => e = .returned (.int .u64 (m : Int)) ∧ W = w') :
    Calls Tryd.prog 8 #[.int .u64 a, .int .u64 b, .int .u64 n] w fun e w' => e = .returned (.bool true) ∧ Grown w w' := by
  have HK : RetL 11 #[] (.bool true) := fun W hW => awake_any W hW
  have HW := Lib.hid hw
  have HL := Lib.hid hl
  clear hw hl
  go_enter Tryd.func8, Tryd.ntmps8
  go_upto_region 12 with (first | (go_at_call 12; first | ((with_reducible refine (HIa.at _).mono ?_); rintro e w' ⟨rfl, n, rfl⟩) | ((with_reducible refine (HIb.at _).mono ?_); rintro e w' ⟨rfl, n, rfl⟩) | ((with_reducible refine (HIp.at _).mono ?_); rintro e w' ⟨rfl, n, rfl⟩) | ((with_reducible refine (HIx.at _).mono ?_); rintro e w' ⟨rfl, n, rfl⟩)) | (go_at_call 15; first | ((with_reducible refine (HMab.at _).mono ?_); rintro e w' ⟨rfl, n, rfl⟩)) | (go_at_call 25; first | ((with_reducible refine (HC.at _).mono ?_); rintro e w' ⟨rfl, n, rfl⟩)) | (go_at_call 24; first | ((with_reducible refine (HW.out _).mono ?_); rintro e w' ⟨rfl, rfl⟩)) | (go_at_call 11; first | ((with_reducible refine (HK.at _ (HL.out.drewN _)).mono ?_); rintro e w' ⟨rfl, n, rfl⟩) | ((with_reducible refine (HK.at _ HL.out).mono ?_); rintro e w' ⟨rfl, n, rfl⟩)))
  generalize hW : w.drewN _ = W
  have HG : Hid (Grown w W) := by rw [← hW]; exact grown_drewN (Grown.refl w) _
  clear hW
  go_quiet ((first | (go_at_call 15; first | (with_reducible exact HMax.quiet))))
  go_wp2_with fail
  go_ret
  exact ⟨rfl, grown_drewN HG.out _⟩

set_option maxHeartbeats 4000000 in
set_option maxRecDepth 100000 in
theorem core3 (a b n m p r y gv : Nat) (cf : Int) (w : World) (hl : Laid w)
    (hr : (a : Int) % (m : Int) = (r : Int)) (hm : 0 < m) (hgv : ((gv : Int) == 1) = false)
    (HIa : Ret 12 #[.int .u64 (a : Int), .int .u64 (m : Int)] (.tuple #[.int .u64 0, .int .i64 5]))
    (HIb : Ret 12 #[.int .u64 (b : Int), .int .u64 (m : Int)] (.tuple #[.int .u64 (y : Int), .int .i64 (cf : Int)]))
    (HMab : Ret 15 #[.int .u64 (a : Int), .int .u64 (b : Int), .int .u64 (m : Int)] (.int .u64 (p : Int)))
    (HIp : Ret 12 #[.int .u64 (p : Int), .int .u64 (m : Int)] (.tuple #[.int .u64 0, .int .i64 5]))
    (HC : Ret 25 #[.int .u64 (r : Int), .int .u64 (m : Int)] (.int .u64 (gv : Int)))
    (hw : ∀ W : World, Calls Tryd.prog 24 #[.int .u64 n] W fun e w' => e = .returned (.int .u64 (m : Int)) ∧ W = w') :
    Calls Tryd.prog 8 #[.int .u64 a, .int .u64 b, .int .u64 n] w fun e w' => e = .returned (.bool true) ∧ Grown w w' := by
  have HK : RetL 11 #[] (.bool true) := fun W hW => awake_any W hW
  have HW := Lib.hid hw
  have HL := Lib.hid hl
  clear hw hl
  go_enter Tryd.func8, Tryd.ntmps8
  go_wp2_with (first | (go_at_call 12; first | ((with_reducible refine (HIa.at _).mono ?_); rintro e w' ⟨rfl, n, rfl⟩) | ((with_reducible refine (HIb.at _).mono ?_); rintro e w' ⟨rfl, n, rfl⟩) | ((with_reducible refine (HIp.at _).mono ?_); rintro e w' ⟨rfl, n, rfl⟩)) | (go_at_call 15; first | ((with_reducible refine (HMab.at _).mono ?_); rintro e w' ⟨rfl, n, rfl⟩)) | (go_at_call 25; first | ((with_reducible refine (HC.at _).mono ?_); rintro e w' ⟨rfl, n, rfl⟩)) | (go_at_call 24; first | ((with_reducible refine (HW.out _).mono ?_); rintro e w' ⟨rfl, rfl⟩)) | (go_at_call 11; first | ((with_reducible refine (HK.at _ (HL.out.drewN _)).mono ?_); rintro e w' ⟨rfl, n, rfl⟩) | ((with_reducible refine (HK.at _ HL.out).mono ?_); rintro e w' ⟨rfl, n, rfl⟩)))
  go_ret
  exact ⟨rfl, grown_drewN (Grown.refl w) _⟩

end ModInverse
end Go.Proofs.YtojekblcdokjjaaDoor

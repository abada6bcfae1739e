/- The walk of ModRing over variables: given what each call answers, it returns true. -/
import Derived.Test.YtojekblcdokjjaaDoorModFrame
import Derived.Deep.Cut
namespace Go.Proofs.YtojekblcdokjjaaDoor
open Go.ChangeShapes Go.WideShapes Go.ChangeAt Go.RowKit
namespace ModRing
open M
set_option maxHeartbeats 4000000 in
set_option maxRecDepth 100000 in
theorem core (a b c n m s p d t bc u v x y r e : Nat) (w : World) (hl : Laid w) (hm : 0 < m) (hs : s < m) (hp : p < m) (hd : d < m)
    (hr : (a : Int) % (m : Int) = (r : Int))
    (Hab : Ret 13 #[.int .u64 (a : Int), .int .u64 (b : Int), .int .u64 (m : Int)] (.int .u64 (s : Int)))
    (Hab2 : Ret 15 #[.int .u64 (a : Int), .int .u64 (b : Int), .int .u64 (m : Int)] (.int .u64 (p : Int)))
    (Hab3 : Ret 14 #[.int .u64 (a : Int), .int .u64 (b : Int), .int .u64 (m : Int)] (.int .u64 (d : Int)))
    (Hba : Ret 13 #[.int .u64 (b : Int), .int .u64 (a : Int), .int .u64 (m : Int)] (.int .u64 (s : Int)))
    (Hba2 : Ret 15 #[.int .u64 (b : Int), .int .u64 (a : Int), .int .u64 (m : Int)] (.int .u64 (p : Int)))
    (Hsc : Ret 13 #[.int .u64 (s : Int), .int .u64 (c : Int), .int .u64 (m : Int)] (.int .u64 (t : Int)))
    (Hbc : Ret 13 #[.int .u64 (b : Int), .int .u64 (c : Int), .int .u64 (m : Int)] (.int .u64 (bc : Int)))
    (Habc : Ret 13 #[.int .u64 (a : Int), .int .u64 (bc : Int), .int .u64 (m : Int)] (.int .u64 (t : Int)))
    (Hpc : Ret 15 #[.int .u64 (p : Int), .int .u64 (c : Int), .int .u64 (m : Int)] (.int .u64 (u : Int)))
    (Hbc2 : Ret 15 #[.int .u64 (b : Int), .int .u64 (c : Int), .int .u64 (m : Int)] (.int .u64 (v : Int)))
    (Hav : Ret 15 #[.int .u64 (a : Int), .int .u64 (v : Int), .int .u64 (m : Int)] (.int .u64 (u : Int)))
    (Hsc2 : Ret 15 #[.int .u64 (s : Int), .int .u64 (c : Int), .int .u64 (m : Int)] (.int .u64 (x : Int)))
    (Hac : Ret 15 #[.int .u64 (a : Int), .int .u64 (c : Int), .int .u64 (m : Int)] (.int .u64 (y : Int)))
    (Hyv : Ret 13 #[.int .u64 (y : Int), .int .u64 (v : Int), .int .u64 (m : Int)] (.int .u64 (x : Int)))
    (Hsb : Ret 14 #[.int .u64 (s : Int), .int .u64 (b : Int), .int .u64 (m : Int)] (.int .u64 (r : Int)))
    (Hdb : Ret 13 #[.int .u64 (d : Int), .int .u64 (b : Int), .int .u64 (m : Int)] (.int .u64 (r : Int)))
    (Ha1 : Ret 15 #[.int .u64 (a : Int), .int .u64 1, .int .u64 (m : Int)] (.int .u64 (r : Int)))
    (Ha0 : Ret 13 #[.int .u64 (a : Int), .int .u64 0, .int .u64 (m : Int)] (.int .u64 (r : Int)))
    (Hba3 : Ret 14 #[.int .u64 (b : Int), .int .u64 (a : Int), .int .u64 (m : Int)] (.int .u64 (e : Int)))
    (Hde : Ret 13 #[.int .u64 (d : Int), .int .u64 (e : Int), .int .u64 (m : Int)] (.int .u64 0))
    (hw : ∀ W : World, Calls Tryd.prog 24 #[.int .u64 n] W fun e w' => e = .returned (.int .u64 (m : Int)) ∧ W = w') :
    Calls Tryd.prog 6 #[.int .u64 a, .int .u64 b, .int .u64 c, .int .u64 n] w fun e w' => e = .returned (.bool true) ∧ Grown w w' := by
  have HK : RetL 11 #[] (.bool true) := fun W hW => awake_any W hW
  have HW := Lib.hid hw
  have HL := Lib.hid hl
  have s1 : ¬ ((m : Int) ≤ (s : Int)) := by omega
  have s2 : ¬ ((m : Int) ≤ (p : Int)) := by omega
  have s3 : ¬ ((m : Int) ≤ (d : Int)) := by omega
  have s1d : decide ((m : Int) ≤ (s : Int)) = false := decide_eq_false s1
  have s2d : decide ((m : Int) ≤ (p : Int)) = false := decide_eq_false s2
  have s3d : decide ((m : Int) ≤ (d : Int)) = false := decide_eq_false s3
  clear hw hl hs hp hd
  go_enter Tryd.func6, Tryd.ntmps6
  go_upto_region 9 with (first | (go_at_call 13; first | ((with_reducible refine (Hab.at _).mono ?_); rintro e w' ⟨rfl, n, rfl⟩) | ((with_reducible refine (Hba.at _).mono ?_); rintro e w' ⟨rfl, n, rfl⟩) | ((with_reducible refine (Hsc.at _).mono ?_); rintro e w' ⟨rfl, n, rfl⟩) | ((with_reducible refine (Hbc.at _).mono ?_); rintro e w' ⟨rfl, n, rfl⟩) | ((with_reducible refine (Habc.at _).mono ?_); rintro e w' ⟨rfl, n, rfl⟩) | ((with_reducible refine (Hyv.at _).mono ?_); rintro e w' ⟨rfl, n, rfl⟩)) | (go_at_call 15; first | ((with_reducible refine (Hab2.at _).mono ?_); rintro e w' ⟨rfl, n, rfl⟩) | ((with_reducible refine (Hba2.at _).mono ?_); rintro e w' ⟨rfl, n, rfl⟩) | ((with_reducible refine (Hpc.at _).mono ?_); rintro e w' ⟨rfl, n, rfl⟩) | ((with_reducible refine (Hbc2.at _).mono ?_); rintro e w' ⟨rfl, n, rfl⟩) | ((with_reducible refine (Hav.at _).mono ?_); rintro e w' ⟨rfl, n, rfl⟩) | ((with_reducible refine (Hsc2.at _).mono ?_); rintro e w' ⟨rfl, n, rfl⟩) | ((with_reducible refine (Hac.at _).mono ?_); rintro e w' ⟨rfl, n, rfl⟩)) | (go_at_call 14; first | ((with_reducible refine (Hab3.at _).mono ?_); rintro e w' ⟨rfl, n, rfl⟩)) | (go_at_call 24; first | ((with_reducible refine (HW.out _).mono ?_); rintro e w' ⟨rfl, rfl⟩)) | (go_at_call 11; first | ((with_reducible refine (HK.at _ (HL.out.drewN _)).mono ?_); rintro e w' ⟨rfl, n, rfl⟩) | ((with_reducible refine (HK.at _ HL.out).mono ?_); rintro e w' ⟨rfl, n, rfl⟩)))
  generalize hW : w.drewN _ = W
  have HG : Hid (Grown w W) := by rw [← hW]; exact grown_drewN (Grown.refl w) _
  clear hW
  go_quiet ((first | (go_at_call 13; first | (with_reducible exact Hdb.quiet) | (with_reducible exact Ha0.quiet) | (with_reducible exact Hde.quiet)) | (go_at_call 15; first | (with_reducible exact Ha1.quiet)) | (go_at_call 14; first | (with_reducible exact Hsb.quiet) | (with_reducible exact Hba3.quiet))))
  go_wp2_with fail
  go_ret
  exact ⟨rfl, grown_drewN HG.out _⟩

end ModRing
end Go.Proofs.YtojekblcdokjjaaDoor

/- The walk of ModPowers over variables: given what each call answers, it returns true. -/
import Derived.Test.YtojekblcdokjjaaDoorModFrame
import Derived.Deep.Cut
namespace Go.Proofs.YtojekblcdokjjaaDoor
open Go.ChangeShapes Go.WideShapes Go.ChangeAt Go.RowKit
namespace ModPowers
open M
set_option maxHeartbeats 4000000 in
set_option maxRecDepth 100000 in
theorem core (a b d e n m s d1 e1 q pd pe ab t pb x y px z xy one r sq : Nat) (w : World) (hl : Laid w)
    (hd : (d : Int) / 2 = (d1 : Int)) (he : (e : Int) / 2 = (e1 : Int)) (hs : (d1 : Int) + (e1 : Int) = (s : Int)) (hs2 : IntKind.u64.wrap (s : Int) = (s : Int))
    (hx : (d1 : Int) % 4294967296 = (x : Int)) (hy : (e1 : Int) % 4294967296 = (y : Int)) (hxy : (x : Int) * (y : Int) = (xy : Int)) (hxy2 : IntKind.u64.wrap (xy : Int) = (xy : Int))
    (hm0 : m ≠ 0) (hone : Int.tmod 1 (m : Int) = (one : Int)) (hr : (a : Int) % (m : Int) = (r : Int))
    (H1 : Ret 16 #[.int .u64 (a : Int), .int .u64 (s : Int), .int .u64 (m : Int)] (.int .u64 (q : Int)))
    (H2 : Ret 16 #[.int .u64 (a : Int), .int .u64 (d1 : Int), .int .u64 (m : Int)] (.int .u64 (pd : Int)))
    (H3 : Ret 16 #[.int .u64 (a : Int), .int .u64 (e1 : Int), .int .u64 (m : Int)] (.int .u64 (pe : Int)))
    (H4 : Ret 15 #[.int .u64 (pd : Int), .int .u64 (pe : Int), .int .u64 (m : Int)] (.int .u64 (q : Int)))
    (H5 : Ret 15 #[.int .u64 (a : Int), .int .u64 (b : Int), .int .u64 (m : Int)] (.int .u64 (ab : Int)))
    (H6 : Ret 16 #[.int .u64 (ab : Int), .int .u64 (e1 : Int), .int .u64 (m : Int)] (.int .u64 (t : Int)))
    (H7 : Ret 16 #[.int .u64 (b : Int), .int .u64 (e1 : Int), .int .u64 (m : Int)] (.int .u64 (pb : Int)))
    (H8 : Ret 15 #[.int .u64 (pe : Int), .int .u64 (pb : Int), .int .u64 (m : Int)] (.int .u64 (t : Int)))
    (G1 : Ret 16 #[.int .u64 (a : Int), .int .u64 (x : Int), .int .u64 (m : Int)] (.int .u64 (px : Int)))
    (G2 : Ret 16 #[.int .u64 (px : Int), .int .u64 (y : Int), .int .u64 (m : Int)] (.int .u64 (z : Int)))
    (G3 : Ret 16 #[.int .u64 (a : Int), .int .u64 (xy : Int), .int .u64 (m : Int)] (.int .u64 (z : Int)))
    (G4 : Ret 16 #[.int .u64 (a : Int), .int .u64 0, .int .u64 (m : Int)] (.int .u64 (one : Int)))
    (G5 : Ret 16 #[.int .u64 (a : Int), .int .u64 1, .int .u64 (m : Int)] (.int .u64 (r : Int)))
    (G6 : Ret 16 #[.int .u64 (a : Int), .int .u64 2, .int .u64 (m : Int)] (.int .u64 (sq : Int)))
    (G7 : Ret 15 #[.int .u64 (a : Int), .int .u64 (a : Int), .int .u64 (m : Int)] (.int .u64 (sq : Int)))
    (hw : ∀ W : World, Calls Tryd.prog 24 #[.int .u64 n] W fun e w' => e = .returned (.int .u64 (m : Int)) ∧ W = w') :
    Calls Tryd.prog 7 #[.int .u64 a, .int .u64 b, .int .u64 d, .int .u64 e, .int .u64 n] w fun e w' => e = .returned (.bool true) ∧ Grown w w' := by
  have HK : RetL 11 #[] (.bool true) := fun W hW => awake_any W hW
  have HW := Lib.hid hw
  have HL := Lib.hid hl
  clear hw hl
  go_enter Tryd.func7, Tryd.ntmps7
  go_upto_region 8 with (first | (go_at_call 16; first | ((with_reducible refine (H1.at _).mono ?_); rintro e w' ⟨rfl, n, rfl⟩) | ((with_reducible refine (H2.at _).mono ?_); rintro e w' ⟨rfl, n, rfl⟩) | ((with_reducible refine (H3.at _).mono ?_); rintro e w' ⟨rfl, n, rfl⟩) | ((with_reducible refine (H6.at _).mono ?_); rintro e w' ⟨rfl, n, rfl⟩) | ((with_reducible refine (H7.at _).mono ?_); rintro e w' ⟨rfl, n, rfl⟩)) | (go_at_call 15; first | ((with_reducible refine (H4.at _).mono ?_); rintro e w' ⟨rfl, n, rfl⟩) | ((with_reducible refine (H5.at _).mono ?_); rintro e w' ⟨rfl, n, rfl⟩) | ((with_reducible refine (H8.at _).mono ?_); rintro e w' ⟨rfl, n, rfl⟩)) | (go_at_call 24; first | ((with_reducible refine (HW.out _).mono ?_); rintro e w' ⟨rfl, rfl⟩)) | (go_at_call 11; first | ((with_reducible refine (HK.at _ (HL.out.drewN _)).mono ?_); rintro e w' ⟨rfl, n, rfl⟩) | ((with_reducible refine (HK.at _ HL.out).mono ?_); rintro e w' ⟨rfl, n, rfl⟩)))
  generalize hW : w.drewN _ = W
  have HG : Hid (Grown w W) := by rw [← hW]; exact grown_drewN (Grown.refl w) _
  clear hW
  go_quiet ((first | (go_at_call 16; first | (with_reducible exact G1.quiet) | (with_reducible exact G2.quiet) | (with_reducible exact G3.quiet) | (with_reducible exact G4.quiet) | (with_reducible exact G5.quiet) | (with_reducible exact G6.quiet)) | (go_at_call 15; first | (with_reducible exact G7.quiet))))
  go_wp2_with fail
  go_ret
  exact ⟨rfl, grown_drewN HG.out _⟩

end ModPowers
end Go.Proofs.YtojekblcdokjjaaDoor

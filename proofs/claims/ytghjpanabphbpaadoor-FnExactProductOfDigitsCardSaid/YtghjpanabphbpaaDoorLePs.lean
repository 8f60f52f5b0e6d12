/-
  Least numbers: the laws of ProductOfDigits and ProductSteps.
-/
import Derived.Test.YtghjpanabphbpaaDoorLeList
import Derived.Test.YtghjpanabphbpaaDoorDiLaw3
namespace Go.Proofs.YtghjpanabphbpaaDoor
open Go.RowKit
set_option maxRecDepth 100000

/-- What both answer. -/
def poA (n : Int) : Int := if nuB n = true then nprod n else 0
theorem poA_yes {n : Int} (h : nuB n = true) : poA n = nprod n := by rw [poA, if_pos h]
theorem poA_no {n : Int} (h : nuB n = false) : poA n = 0 := by rw [poA, if_neg (by simp [h])]
theorem sPo_any (n : Int) (w : World) :
    Calls Tryd.prog 34 #[.int .i64 n] w fun e w' => e = .returned (.tuple #[.int .i64 (poA n), .bool (nuB n)]) ∧ Below w.heap.size w w' := by
  have HZ := Lib.hid (fun W => leNumber_any n W)
  cases hb : nuB n with
  | false =>
    have HA := Lib.hid (poA_no hb)
    rw [hb] at HZ
    clear hb
    go_enter Tryd.func34, Tryd.ntmps34
    go_wp2_with (go_at_call 46; (with_reducible refine (HZ.out _).mono ?_); rintro e w' ⟨rfl, rfl⟩)
    go_ret2
    exact ⟨ret_ib HA.out.symm rfl, Below.refl _ _⟩
  | true =>
    have HA := Lib.hid (poA_yes hb)
    obtain ⟨h0, h1⟩ := (nuB_iff n).1 hb
    obtain ⟨m, rfl⟩ : ∃ m : Nat, n = (m : Int) := ⟨n.toNat, by omega⟩
    have HP := Lib.hid (fun W => leProduct_any m W (by omega))
    rw [hb] at HZ
    clear hb
    go_enter Tryd.func34, Tryd.ntmps34
    go_wp2_with (first | (go_at_call 46; (with_reducible refine (HZ.out _).mono ?_); rintro e w' ⟨rfl, rfl⟩) | (go_at_call 62; (with_reducible refine (HP.out _).mono ?_); rintro e w1 ⟨rfl, b1⟩))
    go_ret2
    exact ⟨ret_ib HA.out.symm rfl, b1⟩
theorem iPo_any (n : Int) (w : World) (htab : Tab w) :
    Calls Tryd.prog 35 #[.int .i64 n] w fun e w' => e = .returned (.tuple #[.int .i64 (poA n), .bool (nuB n)]) ∧ Below w.heap.size w w' := by
  have h := iDigitProduct_any n w htab
  rw [show DigitProductA n = poA n from rfl] at h
  have HD := Lib.hid h
  clear h htab
  go_enter Tryd.func35, Tryd.ntmps35
  go_wp2_with (go_at_call 63; refine HD.out.mono ?_; rintro e w1 ⟨rfl, b1⟩)
  go_ret2
  exact ⟨rfl, b1⟩
theorem FnExactProductOfDigits_law (n : Int) (_h0 : (Lit.int .i64 n).wf = true) (w : World) (htab : Tab w) :
    Calls Tryd.prog 13 #[.int .i64 n] w fun e w' => e = .returned (.bool true) ∧ Below w.heap.size w w' := by
  have HT := Lib.hid (fun W hW => iPo_any n W (htab.keep hW))
  clear htab
  go_enter Tryd.func13, Tryd.ntmps13
  go_wp2_with (first | (go_at_call 34; go_must ((with_reducible refine (sPo_any _ _).mono ?_); rintro e w1 ⟨rfl, b1⟩)) | (go_at_call 35; go_must ((refine (HT.out _ b1).mono ?_); rintro e w2 ⟨rfl, b2⟩)))
  go_ret
  exact ⟨rfl, chain b1 b2⟩
end Go.Proofs.YtghjpanabphbpaaDoor

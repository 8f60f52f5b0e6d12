/-
  The laws of DigitSum, DigitProduct, DigitRoot, ProductEnd and DigitAtPlace.
-/
import Derived.Test.YtghjpanabphbpaaDoorDiSum
import Derived.Test.YtghjpanabphbpaaDoorDiNap
namespace Go.Proofs.YtghjpanabphbpaaDoor
open Go.RowKit

theorem itr_bd {f : Int → Int} (hf : Lessens f) {n : Int} (h0 : 0 ≤ n) : ∀ k : Nat, (∀ j, j < k → 9 < itr f n j) → 0 ≤ itr f n k ∧ itr f n k + (k : Int) ≤ n := by
  intro k
  induction k with
  | zero => intro _; exact ⟨h0, by simp [itr]⟩
  | succ k ih =>
    intro h
    have h1 := ih (fun j hj => h j (by omega))
    have h2 := h k (by omega)
    have h3 := hf.lt (itr f n k) (by omega)
    have h4 := hf.nn (itr f n k) h1.1
    exact ⟨h4, by rw [itr]; omega⟩
/-- What DigitSum answers. -/
def DigitSumA (n : Int) : Int := if nuB n = true then nsum n else 0
/-- What DigitProduct answers. -/
def DigitProductA (n : Int) : Int := if nuB n = true then nprod n else 0
theorem iDigitProduct_any (n : Int) (w : World) (htab : Tab w) :
    Calls Tryd.prog 63 #[.int .i64 n] w fun e w' => e = .returned (.tuple #[.int .i64 (DigitProductA n), .bool (nuB n)]) ∧ Below w.heap.size w w' := by
  cases h : nuB n with
  | true =>
    obtain ⟨h0, h1⟩ := (nuB_iff n).1 h
    have HZ : Hid (nprod n = DigitProductA n) := by show _ = _; unfold DigitProductA; rw [if_pos h]
    have HF := Lib.hid (ofW_yes n _ 83 #[] w h (enters_of Tryd.func83 (by kernel_rfl) rfl) (digitProduct_any n w h0 h1 htab))
    clear htab
    go_enter Tryd.func63, Tryd.ntmps63
    go_wp2_with (go_at_call 82; refine HF.out.mono ?_; rintro e w1 ⟨rfl, b1⟩)
    go_ret2
    exact ⟨ret_ib HZ.out rfl, b1⟩
  | false =>
    have HZ : Hid (0 = DigitProductA n) := by show _ = _; unfold DigitProductA; rw [if_neg (by simp [h])]
    clear htab
    go_enter Tryd.func63, Tryd.ntmps63
    go_wp2_with (go_at_call 82; refine (ofW_no n _ w h).mono ?_; rintro e w1 ⟨rfl, b1⟩)
    go_ret2
    exact ⟨ret_ib HZ.out rfl, b1⟩
/-- The digit at a place. -/
def DgtIs (k x : Int) : Prop := ∃ n a : Int, PlaceIs k n a ∧ ∃ s, TxtOf n s ∧ x = dj s (a - 1).toNat
theorem DgtIs.uniq {k x y : Int} (u : DgtIs k x) (v : DgtIs k y) : x = y := by
  obtain ⟨n, a, h1, s, h2, rfl⟩ := u
  obtain ⟨m, b, h3, t, h4, rfl⟩ := v
  obtain ⟨rfl, rfl⟩ := h1.uniq h3
  have : s = t := ByteArray.ext (Array.ext' (h2.trans h4.symm))
  rw [this]
end Go.Proofs.YtghjpanabphbpaaDoor

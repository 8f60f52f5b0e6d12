/-
  Readings: the program's rounds and distances.
-/
import Derived.Test.YtlkeemnnncnibaaDoorMiLeaf
import Derived.Test.YtlkeemnnncnibaaDoorShelf
namespace Go.Proofs.YtlkeemnnncnibaaDoor
open Go.RowKit

theorem rep_nines (n : Nat) (h1 : 1 ≤ n) (h9 : n ≤ 9) : (Lib.repeatL (⟨#[57]⟩ : ByteArray).data.toList n).length = n ∧ digB (Lib.repeatL (⟨#[57]⟩ : ByteArray).data.toList n) = true ∧ nu (Lib.repeatL (⟨#[57]⟩ : ByteArray).data.toList n) + 1 = 10 ^ n := by
  have : n = 1 ∨ n = 2 ∨ n = 3 ∨ n = 4 ∨ n = 5 ∨ n = 6 ∨ n = 7 ∨ n = 8 ∨ n = 9 := by omega
  rcases this with h | h | h | h | h | h | h | h | h <;> subst h <;> decide +kernel
theorem pow_bd (n : Nat) (h9 : n ≤ 9) : 1 ≤ 10 ^ n ∧ 10 ^ n ≤ 1000000000 :=
  ⟨Nat.pos_of_ne_zero (by simp), Nat.le_trans (Nat.pow_le_pow_right (by omega) h9) (by decide)⟩
theorem roundOf_any (n : Nat) (w : World) (h1 : 1 ≤ n) (h9 : n ≤ 9) :
    Calls Tryd.prog 24 #[.int .i64 n] w fun e w' => e = .returned (.int .i64 ((10 ^ n : Nat) : Int)) ∧ Below w.heap.size w w' := by
  obtain ⟨L, hL⟩ : ∃ L, L = Lib.repeatL (⟨#[57]⟩ : ByteArray).data.toList n := ⟨_, rfl⟩
  have hr := rep_nines n h1 h9
  have hrep : ∀ W, Calls Tryd.prog 36 #[.string ⟨#[57]⟩, .int .i64 n] W fun e w' => e = .returned (.string ⟨L.toArray⟩) ∧ Below W.heap.size W w' := by
    intro W
    rw [hL]
    exact Tryd.strings_Repeat _ n W (by omega) (by rw [show (⟨#[57]⟩ : ByteArray).size = 1 from rfl]; omega)
  rw [← hL] at hr
  obtain ⟨r1, r2, r3⟩ := hr
  have hb := pow_bd n h9
  have hnum : ∀ W, Calls Tryd.prog 23 #[.string ⟨L.toArray⟩] W fun e w' => e = .returned (.int .i64 ((10 ^ n - 1 : Nat) : Int)) ∧ W = w' := by
    intro W
    have := numberIn_any ⟨L.toArray⟩ W (by rw [sz_of]; omega) r2
    rw [show nu (⟨L.toArray⟩ : ByteArray).data.toList = 10 ^ n - 1 by show nu L = _; omega] at this
    exact this
  obtain ⟨R, hR⟩ : ∃ R, R = 10 ^ n := ⟨_, rfl⟩
  rw [← hR] at hnum hb
  rw [← hR]
  have HR := Lib.hid hrep
  have HN := Lib.hid hnum
  have HX : Hid (((R - 1 : Nat) : Int) + 1 = (R : Int)) := by show _ = _; omega
  obtain ⟨Q, hQ⟩ : ∃ Q, Q = R - 1 := ⟨_, rfl⟩
  rw [← hQ] at HN HX
  have hQb : Q ≤ 1000000000 := by omega
  clear hrep hnum hL r1 r2 r3 hR hQ hb
  go_enter Tryd.func24, Tryd.ntmps24
  go_wp2_with (first | (go_at_call 36; refine (HR.out _).mono ?_; rintro e w1 ⟨rfl, b1⟩) | (go_at_call 23; refine (HN.out _).mono ?_; rintro e w1 ⟨rfl, rfl⟩))
  go_ret
  exact ⟨ret_int HX.out, b1⟩
end Go.Proofs.YtlkeemnnncnibaaDoor

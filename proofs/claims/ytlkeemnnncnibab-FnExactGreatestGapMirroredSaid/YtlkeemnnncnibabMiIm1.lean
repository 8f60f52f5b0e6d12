/-
  Readings: the program's rounds and distances.
-/
import Derived.Test.YtlkeemnnncnibabMiLeaf
import Derived.Test.YtlkeemnnncnibabShelf
namespace Go.Proofs.Ytlkeemnnncnibab
open Go.RowKit

theorem rep_nines (n : Nat) (h1 : 1 ≤ n) (h9 : n ≤ 9) : (Lib.repeatL (⟨#[57]⟩ : ByteArray).data.toList n).length = n ∧ digB (Lib.repeatL (⟨#[57]⟩ : ByteArray).data.toList n) = true ∧ nu (Lib.repeatL (⟨#[57]⟩ : ByteArray).data.toList n) + 1 = 10 ^ n := by
  have : n = 1 ∨ n = 2 ∨ n = 3 ∨ n = 4 ∨ n = 5 ∨ n = 6 ∨ n = 7 ∨ n = 8 ∨ n = 9 := by omega
  rcases this with h | h | h | h | h | h | h | h | h <;> subst h <;> decide +kernel
theorem pow_bd (n : Nat) (h9 : n ≤ 9) : 1 ≤ 10 ^ n ∧ 10 ^ n ≤ 1000000000 :=
  ⟨Nat.pos_of_ne_zero (by simp), Nat.le_trans (Nat.pow_le_pow_right (by omega) h9) (by decide)⟩
theorem roundOf_any (n : Nat) (w : World) (h1 : 1 ≤ n) (h9 : n ≤ 9) :
    Calls Try.prog 80 #[.int .i64 n] w fun e w' => e = .returned (.int .i64 ((10 ^ n : Nat) : Int)) ∧ Below w.heap.size w w' := by
  obtain ⟨L, hL⟩ : ∃ L, L = Lib.repeatL (⟨#[57]⟩ : ByteArray).data.toList n := ⟨_, rfl⟩
  have hr := rep_nines n h1 h9
  have hrep : ∀ W, Calls Try.prog 94 #[.string ⟨#[57]⟩, .int .i64 n] W fun e w' => e = .returned (.string ⟨L.toArray⟩) ∧ Below W.heap.size W w' := by
    intro W
    rw [hL]
    exact Try.strings_Repeat _ n W (by omega) (by have : (⟨#[57]⟩ : ByteArray).size = 1 := rfl
                                                  rw [this]; omega)
  rw [← hL] at hr
  obtain ⟨r1, r2, r3⟩ := hr
  have hb := pow_bd n h9
  have hnum : ∀ W, Calls Try.prog 68 #[.string ⟨L.toArray⟩] W fun e w' => e = .returned (.int .i64 ((10 ^ n - 1 : Nat) : Int)) ∧ W = w' := by
    intro W
    have := numberIn_any ⟨L.toArray⟩ W (by rw [sz_of]; omega) r2
    rw [show nu (⟨L.toArray⟩ : ByteArray).data.toList = 10 ^ n - 1 by show nu L = _; omega] at this
    exact this
  obtain ⟨R, hR⟩ : ∃ R, R = 10 ^ n := ⟨_, rfl⟩
  rw [← hR] at hnum hb
  rw [← hR]
  have HR := Lib.hid hrep
  have HN := Lib.hid hnum
  have HX : Hid (((R - 1 : Nat) : Int) + 1 = (R : Int)) := by show _ = _; omega
  obtain ⟨Q, hQ⟩ : ∃ Q, Q = R - 1 := ⟨_, rfl⟩
  rw [← hQ] at HN HX
  have hQb : Q ≤ 1000000000 := by omega
  clear hrep hnum hL r1 r2 r3 hR hQ hb
  go_enter Try.func80, Try.ntmps80
  go_wp2_with (first | (go_at_call 94; refine (HR.out _).mono ?_; rintro e w1 ⟨rfl, b1⟩) | (go_at_call 68; refine (HN.out _).mono ?_; rintro e w1 ⟨rfl, rfl⟩))
  go_ret
  exact ⟨ret_int HX.out, b1⟩
/-- How many miles later one comes. -/
def mlt (f t : List UInt8) : Nat := (nu t + 10 ^ f.length - nu f - 1) % 10 ^ f.length + 1
theorem milesLater_any (f t : List UInt8) (w : World) (h1 : 1 ≤ f.length) (h9 : f.length ≤ 9) (hl : t.length = f.length) (hf : digB f = true) (ht : digB t = true) :
    Calls Try.prog 59 #[.string ⟨f.toArray⟩, .string ⟨t.toArray⟩] w fun e w' => e = .returned (.int .i64 ((mlt f t : Nat) : Int)) ∧ Below w.heap.size w w' := by
  obtain ⟨n, hn⟩ : ∃ n, n = f.length := ⟨_, rfl⟩
  have hrd := fun W => roundOf_any n W (by omega) (by omega)
  have hb := pow_bd n (by omega)
  have hfb := nu_lt n f hn.symm hf
  have htb := nu_lt n t (by omega) ht
  obtain ⟨R, hR⟩ : ∃ R, R = 10 ^ n := ⟨_, rfl⟩
  obtain ⟨x, hx⟩ : ∃ x, x = nu f := ⟨_, rfl⟩
  obtain ⟨y, hy⟩ : ∃ y, y = nu t := ⟨_, rfl⟩
  have hml : mlt f t = (y + R - x - 1) % R + 1 := by rw [mlt, hx, hy, hR, hn]
  have hnf : ∀ W, Calls Try.prog 68 #[.string ⟨f.toArray⟩] W fun e w' => e = .returned (.int .i64 (x : Int)) ∧ W = w' := by
    intro W; rw [hx]; exact numberIn_any ⟨f.toArray⟩ W (by rw [sz_of]; omega) hf
  have hnt : ∀ W, Calls Try.prog 68 #[.string ⟨t.toArray⟩] W fun e w' => e = .returned (.int .i64 (y : Int)) ∧ W = w' := by
    intro W; rw [hy]; exact numberIn_any ⟨t.toArray⟩ W (by rw [sz_of]; omega) ht
  rw [← hR] at hrd hb hfb htb
  rw [← hx] at hfb
  rw [← hy] at htb
  have HRd := Lib.hid hrd
  have HF := Lib.hid hnf
  have HT := Lib.hid hnt
  have hsz : ((⟨f.toArray⟩ : ByteArray).size : Int) = (n : Int) := by rw [sz_of, hn]
  have HM : Hid (((y : Int) - x + R - 1) % (R : Int) + 1 = ((mlt f t : Nat) : Int)) := by
    show _ = _
    rw [hml, show (y : Int) - x + R - 1 = ((y + R - x - 1 : Nat) : Int) by omega]; omega
  obtain ⟨M, hM⟩ : ∃ M, M = mlt f t := ⟨_, rfl⟩
  rw [← hM] at HM ⊢
  have hm0 : 0 ≤ ((y : Int) - x + R - 1) % (R : Int) := Int.emod_nonneg _ (by omega)
  have hm1 : ((y : Int) - x + R - 1) % (R : Int) < (R : Int) := Int.emod_lt_of_pos _ (by omega)
  have hR0 : (R : Int) ≠ 0 := by omega
  have hgt : ∀ W, Calls Try.prog 80 #[.int .i64 ((⟨f.toArray⟩ : ByteArray).size : Int)] W fun e w' => e = .returned (.int .i64 (R : Int)) ∧ Below W.heap.size W w' := by intro W; rw [hsz]; exact HRd.out W
  have HG := Lib.hid hgt
  obtain ⟨F, hF⟩ : ∃ F : ByteArray, F = ⟨f.toArray⟩ := ⟨_, rfl⟩
  obtain ⟨T, hT⟩ : ∃ T : ByteArray, T = ⟨t.toArray⟩ := ⟨_, rfl⟩
  rw [← hF] at HG HF
  rw [← hT] at HT
  rw [← hF, ← hT]
  clear hgt hsz hM hml hrd hnf hnt hR hx hy hF hT hf ht hl h1 h9 hn
  go_enter Try.func59, Try.ntmps59
  go_wp2_with (first | (go_at_call 80; refine (HG.out _).mono ?_; rintro e w1 ⟨rfl, b1⟩) | (go_at_call 68; (first | (with_reducible refine (HF.out _).mono ?_) | (with_reducible refine (HT.out _).mono ?_)); rintro e w1 ⟨rfl, rfl⟩))
  go_ret
  exact ⟨ret_int HM.out, b1⟩
end Go.Proofs.Ytlkeemnnncnibab

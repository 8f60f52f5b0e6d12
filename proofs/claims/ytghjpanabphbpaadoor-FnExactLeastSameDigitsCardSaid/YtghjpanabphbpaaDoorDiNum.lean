/-
  Texts of numbers: the digits of a number; the model's text.
-/
import Derived.Test.YtghjpanabphbpaaDoorDiLeaf
import Derived.Lib.LaidTab
import Derived.Lib.AppendIntMem
import Derived.Sort.Grow
namespace Go.Proofs.YtghjpanabphbpaaDoor
open Go.RowKit

theorem ret_str {a b : ByteArray} (h : a = b) : Ending.returned (.string a) = .returned (.string b) := by rw [h]
/-- The digit of n at place k from the end. -/
def dt (n k : Nat) : Nat := n / 10 ^ k % 10
def dc (u : Nat) : UInt8 := UInt8.ofNat (48 + u)
/-- The last k digits. -/
def lw (n : Nat) : Nat → List UInt8
  | 0 => []
  | k + 1 => dc (dt n k) :: lw n k
theorem lw_len (n k : Nat) : (lw n k).length = k := by
  induction k with
  | zero => rfl
  | succ k ih => simp [lw, ih]
theorem dt_le (n k : Nat) : dt n k ≤ 9 := by unfold dt; omega
theorem dt_up (n k : Nat) : dt n (k + 1) = dt (n / 10) k := by
  unfold dt; rw [Nat.pow_succ, Nat.mul_comm, Nat.div_div_eq_div_mul]
theorem lw_up (n k : Nat) : lw n (k + 1) = lw (n / 10) k ++ [dc (n % 10)] := by
  induction k with
  | zero => simp [lw, dt]
  | succ k ih => rw [lw, ih, lw, dt_up]; rfl
theorem dec_small {n : Nat} (h : n < 10) : Lib.decDigits n = [dc n] := by rw [Lib.decDigits, dif_pos h]; rfl
theorem dec_big {n : Nat} (h : ¬ n < 10) : Lib.decDigits n = Lib.decDigits (n / 10) ++ [dc (n % 10)] := by rw [Lib.decDigits, dif_neg h]; rfl
theorem dec_fits (d : Nat) : ∀ n : Nat, n < 10 ^ (d + 1) → (Lib.decDigits n).length ≤ d + 1 ∧ lw n (d + 1) = List.replicate (d + 1 - (Lib.decDigits n).length) 48 ++ Lib.decDigits n := by
  induction d with
  | zero =>
    intro n h
    have h10 : n < 10 := by simpa using h
    rw [dec_small h10, lw_up]
    simp [lw, Nat.mod_eq_of_lt h10]
  | succ d ih =>
    intro n h
    have hn : n / 10 < 10 ^ (d + 1) := by
      rw [Nat.div_lt_iff_lt_mul (by omega)]
      rwa [Nat.pow_succ] at h
    obtain ⟨h1, h2⟩ := ih (n / 10) hn
    by_cases h10 : n < 10
    · rw [dec_small h10, lw_up, h2]
      have h0 : n / 10 = 0 := by omega
      rw [h0, dec_small (by omega)]
      refine ⟨by simp, ?_⟩
      simp only [List.length_singleton, Nat.add_sub_cancel, Nat.mod_eq_of_lt h10]
      rw [show [dc 0] = List.replicate 1 48 from rfl, List.replicate_append_replicate]
    · rw [dec_big h10, lw_up, h2]
      refine ⟨by simp; omega, ?_⟩
      rw [List.append_assoc]
      congr 2
      simp
theorem dec_pow (n : Nat) : n < 10 ^ (Lib.decDigits n).length := by
  induction n using Nat.strongRecOn with
  | _ n ih =>
    by_cases h10 : n < 10
    · rw [dec_small h10]; simpa using h10
    · rw [dec_big h10]
      have := ih (n / 10) (by omega)
      simp only [List.length_append, List.length_singleton]
      rw [Nat.pow_succ]
      omega
theorem dec_no {n d : Nat} (h : ¬ n < 10 ^ d) : d < (Lib.decDigits n).length := by
  rcases Nat.lt_or_ge d (Lib.decDigits n).length with h' | h'
  · exact h'
  · exact absurd (Nat.lt_of_lt_of_le (dec_pow n) (Nat.pow_le_pow_right (by omega) h')) h
theorem dec_pos (n : Nat) : 1 ≤ (Lib.decDigits n).length := by
  by_cases h10 : n < 10
  · rw [dec_small h10]; simp
  · rw [dec_big h10]; simp
/-- As many digits as there are places with one. -/
theorem dec_ln (n : Nat) : ∀ k : Nat, 1 ≤ n → n < 10 ^ k → ((Lib.decDigits n).length : Int) = ln (n : Int) k := by
  induction n using Nat.strongRecOn with
  | _ n ih =>
    intro k h1 hk
    cases k with
    | zero => omega
    | succ k =>
      have e0 : ∀ m : Nat, ln (m : Int) (k + 1) = (if 1 ≤ m then 1 else 0) + ln ((m / 10 : Nat) : Int) k := by
        intro m
        clear ih hk h1
        induction k with
        | zero =>
          have e1 : (1 ≤ (m : Int)) = (1 ≤ m) := propext ⟨fun h => by omega, fun h => by omega⟩
          simp only [ln, tn_zero, e1]
          omega
        | succ k ih2 =>
          rw [ln, ih2, ln]
          have : (tn (k + 1) ≤ (m : Int)) = (tn k ≤ ((m / 10 : Nat) : Int)) := by
            rw [tn_succ]; exact propext ⟨fun h => by omega, fun h => by omega⟩
          simp only [this]
          omega
      rw [e0 n, if_pos h1]
      by_cases h10 : n < 10
      · rw [dec_small h10, show n / 10 = 0 by omega]
        have : ∀ k, ln ((0 : Nat) : Int) k = 0 := by
          intro k
          induction k with
          | zero => rfl
          | succ k ih3 => have := tn_pos k; rw [ln, ih3, if_neg (by omega)]; rfl
        rw [this]; rfl
      · rw [dec_big h10, ← ih (n / 10) (by omega) k (by omega) (by rw [Nat.pow_succ] at hk; omega)]
        simp only [List.length_append, List.length_singleton]
        omega
theorem dec_13 {n : Nat} (h : n ≤ 1000000000000) : (Lib.decDigits n).length ≤ 13 := (dec_fits 12 n (by omega)).1
theorem str_two (l m : List UInt8) : (⟨l.toArray⟩ : ByteArray) ++ ⟨m.toArray⟩ = ⟨(l ++ m).toArray⟩ := by
  apply ByteArray.ext
  simp [ByteArray.data_append]
theorem conv1 (W : World) (b r : Nat) (h9 : r ≤ 9) (h : W.cell? ⟨b, 0, none⟩ = some (.int .u8 (48 + (r : Int)))) :
    (convert 49 9 (.slice (some ⟨b, 0, none⟩) 1 1)).run Tryd.prog W = .ok (.string ⟨[dc r].toArray⟩) W :=
  run_convert_bytes_back (P := Tryd.prog) W 49 9 5 ⟨b, 0, none⟩ 1 [dc r] Tryd.underlying49 Tryd.underlying5 Tryd.underlying9 (by
    intro j hj
    match j, hj with
    | 0, _ => simp only [Addr.add] at *; simp [dc, h]; omega)
theorem keep1 {w w2 : World} {c : Value} (h : Below (w.alloc (.cells #[c] 5)).heap.size (w.alloc (.cells #[c] 5)) w2) : w2.cell? ⟨w.heap.size, 0, none⟩ = some c := by
  rw [h.cell (p := ⟨w.heap.size, 0, none⟩) (by simp)]
  simp
theorem kc {w w2 : World} {r : Nat} (h9 : r ≤ 9) (h : Below (w.alloc (.cells #[.int .u8 (48 + (r : Int))] 5)).heap.size (w.alloc (.cells #[.int .u8 (48 + (r : Int))] 5)) w2) : (convert 49 9 (.slice (some ⟨w.heap.size, 0, none⟩) 1 1)).run Tryd.prog w2 = .ok (.string ⟨[dc r].toArray⟩) w2 := conv1 w2 _ r h9 (keep1 h)
theorem kcd {w w2 : World} {r : Nat} (h9 : r ≤ 9) (h : Below (w.alloc (.cells #[.int .u8 (48 + (r : Int))] 5)).drew.heap.size (w.alloc (.cells #[.int .u8 (48 + (r : Int))] 5)).drew w2) : (convert 49 9 (.slice (some ⟨w.heap.size, 0, none⟩) 1 1)).run Tryd.prog w2 = .ok (.string ⟨[dc r].toArray⟩) w2 := conv1 w2 _ r h9 (by rw [h.cell (p := ⟨w.heap.size, 0, none⟩) (by simp)]; simp)
theorem kc2 (w2 : World) {r : Nat} (h9 : r ≤ 9) : (convert 49 9 (.slice (some ⟨w2.heap.size, 0, none⟩) 1 1)).run Tryd.prog (w2.alloc (.cells #[.int .u8 (48 + (r : Int))] 5)) = .ok (.string ⟨[dc r].toArray⟩) (w2.alloc (.cells #[.int .u8 (48 + (r : Int))] 5)) := conv1 _ _ r h9 (by simp)
end Go.Proofs.YtghjpanabphbpaaDoor

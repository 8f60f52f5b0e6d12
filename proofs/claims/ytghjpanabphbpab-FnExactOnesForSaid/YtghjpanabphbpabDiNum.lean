/-
  Texts of numbers: the digits of a number; the model's text.
-/
import Derived.Test.YtghjpanabphbpabDiLeaf
import Derived.Lib.LaidTab
import Derived.Lib.AppendIntMem
import Derived.Sort.Grow
namespace Go.Proofs.Ytghjpanabphbpab
open Go.RowKit

theorem ret_str {a b : ByteArray} (h : a = b) : Ending.returned (.string a) = .returned (.string b) := by rw [h]
/-- The digit of n at place k from the end. -/
def dt (n k : Nat) : Nat := n / 10 ^ k % 10
def dc (u : Nat) : UInt8 := UInt8.ofNat (48 + u)
/-- The last k digits. -/
def lw (n : Nat) : Nat → List UInt8
  | 0 => []
  | k + 1 => dc (dt n k) :: lw n k
theorem lw_len (n k : Nat) : (lw n k).length = k := by
  induction k with
  | zero => rfl
  | succ k ih => simp [lw, ih]
theorem dt_le (n k : Nat) : dt n k ≤ 9 := by unfold dt; omega
theorem dt_up (n k : Nat) : dt n (k + 1) = dt (n / 10) k := by
  unfold dt; rw [Nat.pow_succ, Nat.mul_comm, Nat.div_div_eq_div_mul]
theorem lw_up (n k : Nat) : lw n (k + 1) = lw (n / 10) k ++ [dc (n % 10)] := by
  induction k with
  | zero => simp [lw, dt]
  | succ k ih => rw [lw, ih, lw, dt_up]; rfl
theorem dec_small {n : Nat} (h : n < 10) : Lib.decDigits n = [dc n] := by rw [Lib.decDigits, dif_pos h]; rfl
theorem dec_big {n : Nat} (h : ¬ n < 10) : Lib.decDigits n = Lib.decDigits (n / 10) ++ [dc (n % 10)] := by rw [Lib.decDigits, dif_neg h]; rfl
theorem dec_fits (d : Nat) : ∀ n : Nat, n < 10 ^ (d + 1) → (Lib.decDigits n).length ≤ d + 1 ∧ lw n (d + 1) = List.replicate (d + 1 - (Lib.decDigits n).length) 48 ++ Lib.decDigits n := by
  induction d with
  | zero =>
    intro n h
    have h10 : n < 10 := by simpa using h
    rw [dec_small h10, lw_up]
    simp [lw, Nat.mod_eq_of_lt h10]
  | succ d ih =>
    intro n h
    have hn : n / 10 < 10 ^ (d + 1) := by
      rw [Nat.div_lt_iff_lt_mul (by omega)]
      rwa [Nat.pow_succ] at h
    obtain ⟨h1, h2⟩ := ih (n / 10) hn
    by_cases h10 : n < 10
    · rw [dec_small h10, lw_up, h2]
      have h0 : n / 10 = 0 := by omega
      rw [h0, dec_small (by omega)]
      refine ⟨by simp, ?_⟩
      simp only [List.length_singleton, Nat.add_sub_cancel, Nat.mod_eq_of_lt h10]
      rw [show [dc 0] = List.replicate 1 48 from rfl, List.replicate_append_replicate]
    · rw [dec_big h10, lw_up, h2]
      refine ⟨by simp; omega, ?_⟩
      rw [List.append_assoc]
      congr 2
      simp
theorem dec_pow (n : Nat) : n < 10 ^ (Lib.decDigits n).length := by
  induction n using Nat.strongRecOn with
  | _ n ih =>
    by_cases h10 : n < 10
    · rw [dec_small h10]; simpa using h10
    · rw [dec_big h10]
      have := ih (n / 10) (by omega)
      simp only [List.length_append, List.length_singleton]
      rw [Nat.pow_succ]
      omega
theorem dec_no {n d : Nat} (h : ¬ n < 10 ^ d) : d < (Lib.decDigits n).length := by
  rcases Nat.lt_or_ge d (Lib.decDigits n).length with h' | h'
  · exact h'
  · exact absurd (Nat.lt_of_lt_of_le (dec_pow n) (Nat.pow_le_pow_right (by omega) h')) h
theorem dec_pos (n : Nat) : 1 ≤ (Lib.decDigits n).length := by
  by_cases h10 : n < 10
  · rw [dec_small h10]; simp
  · rw [dec_big h10]; simp
/-- As many digits as there are places with one. -/
theorem dec_ln (n : Nat) : ∀ k : Nat, 1 ≤ n → n < 10 ^ k → ((Lib.decDigits n).length : Int) = ln (n : Int) k := by
  induction n using Nat.strongRecOn with
  | _ n ih =>
    intro k h1 hk
    cases k with
    | zero => omega
    | succ k =>
      have e0 : ∀ m : Nat, ln (m : Int) (k + 1) = (if 1 ≤ m then 1 else 0) + ln ((m / 10 : Nat) : Int) k := by
        intro m
        clear ih hk h1
        induction k with
        | zero =>
          have e1 : (1 ≤ (m : Int)) = (1 ≤ m) := propext ⟨fun h => by omega, fun h => by omega⟩
          simp only [ln, tn_zero, e1]
          omega
        | succ k ih2 =>
          rw [ln, ih2, ln]
          have : (tn (k + 1) ≤ (m : Int)) = (tn k ≤ ((m / 10 : Nat) : Int)) := by
            rw [tn_succ]; exact propext ⟨fun h => by omega, fun h => by omega⟩
          simp only [this]
          omega
      rw [e0 n, if_pos h1]
      by_cases h10 : n < 10
      · rw [dec_small h10, show n / 10 = 0 by omega]
        have : ∀ k, ln ((0 : Nat) : Int) k = 0 := by
          intro k
          induction k with
          | zero => rfl
          | succ k ih3 => have := tn_pos k; rw [ln, ih3, if_neg (by omega)]; rfl
        rw [this]; rfl
      · rw [dec_big h10, ← ih (n / 10) (by omega) k (by omega) (by rw [Nat.pow_succ] at hk; omega)]
        simp only [List.length_append, List.length_singleton]
        omega
theorem dec_13 {n : Nat} (h : n ≤ 1000000000000) : (Lib.decDigits n).length ≤ 13 := (dec_fits 12 n (by omega)).1
theorem num_d (u : Nat) (x : Int) (w : World) (h9 : u ≤ 9) (hx : x = (u : Int)) :
    Calls Try.prog 21 #[.int .i64 x] w fun e w' => e = .returned (.string ⟨[dc u].toArray⟩) ∧ Below w.heap.size w w' := by
  subst hx
  have hcv : (convert 42 9 (.slice (some ⟨w.heap.size, 0, none⟩) 1 1)).run Try.prog (w.alloc (.cells #[.int .u8 (48 + (u : Int))] 5)) = .ok (.string ⟨[dc u].toArray⟩) (w.alloc (.cells #[.int .u8 (48 + (u : Int))] 5)) :=
    run_convert_bytes_back (P := Try.prog) (w.alloc (.cells #[.int .u8 (48 + (u : Int))] 5)) 42 9 5 ⟨w.heap.size, 0, none⟩ 1 [dc u] Try.underlying42 Try.underlying5 Try.underlying9 (by
      intro j hj
      match j, hj with
      | 0, _ => simp [Addr.add, dc]; omega)
  go_enter Try.func21, Try.ntmps21
  go_wp2
  go_ret
  exact ⟨rfl, by go_grown⟩
theorem str_two (l m : List UInt8) : (⟨l.toArray⟩ : ByteArray) ++ ⟨m.toArray⟩ = ⟨(l ++ m).toArray⟩ := by
  apply ByteArray.ext
  simp [ByteArray.data_append]
theorem conv1 (W : World) (b r : Nat) (h9 : r ≤ 9) (h : W.cell? ⟨b, 0, none⟩ = some (.int .u8 (48 + (r : Int)))) :
    (convert 42 9 (.slice (some ⟨b, 0, none⟩) 1 1)).run Try.prog W = .ok (.string ⟨[dc r].toArray⟩) W :=
  run_convert_bytes_back (P := Try.prog) W 42 9 5 ⟨b, 0, none⟩ 1 [dc r] Try.underlying42 Try.underlying5 Try.underlying9 (by
    intro j hj
    match j, hj with
    | 0, _ => simp only [Addr.add] at *; simp [dc, h]; omega)
theorem keep1 {w w2 : World} {c : Value} (h : Below (w.alloc (.cells #[c] 5)).heap.size (w.alloc (.cells #[c] 5)) w2) : w2.cell? ⟨w.heap.size, 0, none⟩ = some c := by
  rw [h.cell (p := ⟨w.heap.size, 0, none⟩) (by simp)]
  simp
theorem kc {w w2 : World} {r : Nat} (h9 : r ≤ 9) (h : Below (w.alloc (.cells #[.int .u8 (48 + (r : Int))] 5)).heap.size (w.alloc (.cells #[.int .u8 (48 + (r : Int))] 5)) w2) : (convert 42 9 (.slice (some ⟨w.heap.size, 0, none⟩) 1 1)).run Try.prog w2 = .ok (.string ⟨[dc r].toArray⟩) w2 := conv1 w2 _ r h9 (keep1 h)
theorem kcd {w w2 : World} {r : Nat} (h9 : r ≤ 9) (h : Below (w.alloc (.cells #[.int .u8 (48 + (r : Int))] 5)).drew.heap.size (w.alloc (.cells #[.int .u8 (48 + (r : Int))] 5)).drew w2) : (convert 42 9 (.slice (some ⟨w.heap.size, 0, none⟩) 1 1)).run Try.prog w2 = .ok (.string ⟨[dc r].toArray⟩) w2 := conv1 w2 _ r h9 (by rw [h.cell (p := ⟨w.heap.size, 0, none⟩) (by simp)]; simp)
theorem kc2 (w2 : World) {r : Nat} (h9 : r ≤ 9) : (convert 42 9 (.slice (some ⟨w2.heap.size, 0, none⟩) 1 1)).run Try.prog (w2.alloc (.cells #[.int .u8 (48 + (r : Int))] 5)) = .ok (.string ⟨[dc r].toArray⟩) (w2.alloc (.cells #[.int .u8 (48 + (r : Int))] 5)) := conv1 _ _ r h9 (by simp)
set_option maxHeartbeats 1000000 in
theorem l1Num_dec (n : Nat) : ∀ (x : Int) (w : World), x = (n : Int) → n ≤ 1000000000000 →
    Calls Try.prog 21 #[.int .i64 x] w fun e w' => e = .returned (.string ⟨(Lib.decDigits n).toArray⟩) ∧ Below w.heap.size w w' := by
  induction n using Nat.strongRecOn with
  | _ n ih =>
    intro x w hx hn
    by_cases h10 : n < 10
    · rw [dec_small h10]
      exact num_d n x w (by omega) hx
    · obtain ⟨q, hq⟩ : ∃ q, q = n / 10 := ⟨_, rfl⟩
      obtain ⟨r, hr⟩ : ∃ r, r = n % 10 := ⟨_, rfl⟩
      have HE : Hid (Lib.decDigits n = Lib.decDigits q ++ [dc r]) := by show _ = _; rw [dec_big h10, hq, hr]
      have HI : Hid (∀ W, Calls Try.prog 21 #[.int .i64 (q : Int)] W fun e w' => e = .returned (.string ⟨(Lib.decDigits q).toArray⟩) ∧ Below W.heap.size W w') := fun W => ih q (by omega) _ W rfl (by omega)
      obtain ⟨D, hD⟩ : ∃ D, D = Lib.decDigits q := ⟨_, rfl⟩
      have hDl : D.length ≤ 13 := by rw [hD]; exact (dec_fits 12 q (by omega)).1
      rw [HE.out]
      rw [← hD] at HI ⊢
      have hr9 : r ≤ 9 := by omega
      have hx0 : ¬ x < 10 := by omega
      have f1 : IntKind.i64.wrap (x.tdiv 10) = (q : Int) := by rw [Int.tdiv_eq_ediv_of_nonneg (by omega), IntWalk.i64_in] <;> omega
      have f2 : x.tmod 10 = (r : Int) := by rw [Int.tmod_eq_emod_of_nonneg (by omega)]; omega
      have f3 : IntKind.i64.wrap (48 + (r : Int)) = 48 + (r : Int) := by rw [IntWalk.i64_in] <;> omega
      have f4 : IntKind.u8.wrap (48 + (r : Int)) = 48 + (r : Int) := by rw [IntWalk.u8_in] <;> omega
      have g1 : ¬ 9223372036854775807 < D.length + 1 := by omega
      have g2 : D.length + 1 ≤ 9223372036854775807 := by omega
      have g3 : ¬ (9223372036854775807 : Int) < (D.length : Int) + 1 := by omega
      have g4 : (D.length : Int) + 1 ≤ 9223372036854775807 := by omega
      have hcv : ∀ (W : World) (b : Nat), W.cell? ⟨b, 0, none⟩ = some (.int .u8 (48 + (r : Int))) → (convert 42 9 (.slice (some ⟨b, 0, none⟩) 1 1)).run Try.prog W = .ok (.string ⟨[dc r].toArray⟩) W := fun W b h => conv1 W b r hr9 h
      have mixed : Try.prog.follows .mixedOrders = true := by kernel_rfl
      have k0 := conv1 (w.alloc (.cells #[.int .u8 (48 + (r : Int))] 5)).drew w.heap.size r hr9 (by simp)
      clear HE ih h10 hn hx hq hr hD hcv
      go_enter Try.func21, Try.ntmps21
      go_wp2
      go_region_with (go_at_call 21; refine (HI.out _).mono ?_; rintro e w2 ⟨rfl, b2⟩; have H2 := chain (w := w) (by go_grown) b2; have HB2 := Lib.hid b2; clear b2; have hk2 := kc2 w2 hr9; first | (have hcv2 := kcd hr9 HB2.out) | (have hcv2 := kc hr9 HB2.out) | skip)
      all_goals go_wp2
      all_goals
        go_ret
        have hs2 := H2.size
        exact ⟨ret_str (by first | rfl | (rw [← str_two])), by go_grown⟩
end Go.Proofs.Ytghjpanabphbpab

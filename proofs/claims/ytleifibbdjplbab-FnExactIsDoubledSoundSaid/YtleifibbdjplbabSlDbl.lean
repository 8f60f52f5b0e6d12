/-
  Doubled digits: the laws of DoubledSum, IsDoubledSound and DoubledDigit.
-/
import Derived.Test.YtleifibbdjplbabSlNum
namespace Go.Proofs.Ytleifibbdjplbab
open Go.RowKit

/-- What a digit counts at a place. -/
def dbi (n i : Nat) (d : Int) : Int := if (n - i) % 2 = 0 then (if 10 ≤ d * 2 then d * 2 - 9 else d * 2) else d
def dbk (t : List UInt8) (n : Nat) : Nat → Int
  | 0 => 0
  | k + 1 => dbk t n k + dbi n k (dgt t k)
/-- The sum with doubled digits. -/
def dbs (s : ByteArray) : Int := dbk s.data.toList s.size s.size
theorem dbk_bd (t : List UInt8) (n k : Nat) (h : digB t = true) : 0 ≤ dbk t n k ∧ dbk t n k ≤ 9 * (k : Int) := by
  induction k with
  | zero => simp [dbk]
  | succ k ih =>
    have := dgt_bd t k h
    rw [dbk, dbi]
    by_cases h1 : (n - k) % 2 = 0
    · by_cases h2 : 10 ≤ dgt t k * 2
      · rw [if_pos h1, if_pos h2]; omega
      · rw [if_pos h1, if_neg h2]; omega
    · rw [if_neg h1]; omega
set_option maxHeartbeats 1000000 in
theorem slDbl_any (s : ByteArray) (w : World) (hs : s.size ≤ 12) (hd : digB s.data.toList = true) :
    Calls Try.prog 37 #[.string s] w fun e w' => e = .returned (.int .i64 (dbs s)) ∧ w = w' := by
  have HD := Lib.hid hd
  clear hd
  go_enter Try.func37, Try.ntmps37
  go_wp2
  go_loop [3, 4] (fun sv i => ∃ (k : Nat) (S : Int), k ≤ s.size ∧ i = .int .i64 k ∧ sv = .int .i64 S ∧ 0 ≤ S ∧ S ≤ 9 * (k : Int) ∧ Hid (S = dbk s.data.toList s.size k)) (fun _ i => s.size - (intOf i).toNat)
  case atStart => exact ⟨0, 0, Nat.zero_le _, rfl, rfl, by omega, by omega, rfl⟩
  case round =>
    obtain ⟨k, S, hk, rfl, rfl, hS0, hS1, HS⟩ := hrel
    by_cases hlt : k < s.size
    · have hc := digB_get s k hlt HD.out
      have hd2 : dgt s.data.toList k = (s[k].toNat : Int) - 48 := dgt_get s k hlt
      obtain ⟨d, hdd⟩ : ∃ d : Nat, (s[k].toNat : Int) = 48 + (d : Int) := ⟨s[k].toNat - 48, by omega⟩
      have hd9 : d ≤ 9 := by omega
      have hi0 : (0 : Int) ≤ (k : Int) := by omega
      have hi1 : (k : Int) < (s.size : Int) := by omega
      have hp0 : 0 ≤ ((s.size : Int) - (k : Int)) % 2 := Int.emod_nonneg _ (by omega)
      have hsub : IntKind.u8.wrap ((s[k].toNat : Int) - 48) = 48 + (d : Int) - 48 := by rw [hdd]; rw [show (48 : Int) + (d : Int) - 48 = (d : Int) by omega]; exact wrap_u8 d (by omega)
      by_cases hpar : ((s.size : Int) - (k : Int)) % 2 = 0
      · by_cases h10 : 10 ≤ (48 + (d : Int) - 48) * 2
        · have HS2 : Hid (S + ((48 + (d : Int) - 48) * 2 - 9) = dbk s.data.toList s.size (k + 1)) := by
            show _ = _
            rw [dbk, ← HS.out, hd2, hdd, dbi, if_pos (by omega), if_pos h10]
          clear hd2 hc
          go_wp2
          go_round
          case rel => exact ⟨k + 1, _, by omega, by go_num, rfl, by omega, by omega, HS2⟩
          case measure => simp [intOf]; omega
        · have HS2 : Hid (S + (48 + (d : Int) - 48) * 2 = dbk s.data.toList s.size (k + 1)) := by
            show _ = _
            rw [dbk, ← HS.out, hd2, hdd, dbi, if_pos (by omega), if_neg h10]
          clear hd2 hc
          go_wp2
          go_round
          case rel => exact ⟨k + 1, _, by omega, by go_num, rfl, by omega, by omega, HS2⟩
          case measure => simp [intOf]; omega
      · have HS2 : Hid (S + (48 + (d : Int) - 48) = dbk s.data.toList s.size (k + 1)) := by
          show _ = _
          rw [dbk, ← HS.out, hd2, hdd, dbi, if_neg (by omega)]
        clear hd2 hc
        go_wp2
        go_round
        case rel => exact ⟨k + 1, _, by omega, by go_num, rfl, by omega, by omega, HS2⟩
        case measure => simp [intOf]; omega
    · have HR : Hid (S = dbs s) := by show _ = _; rw [HS.out, dbs]; congr 1; omega
      go_wp2
      go_ret
      exact ⟨ret_int HR.out, rfl⟩
set_option maxHeartbeats 1000000 in
theorem iDbl_any (s : ByteArray) (w : World) (hs : s.size ≤ 12) (hd : digB s.data.toList = true) :
    Calls Try.prog 38 #[.string s] w fun e w' => e = .returned (.int .i64 (dbs s)) ∧ w = w' := by
  have HD := Lib.hid hd
  clear hd
  go_enter Try.func38, Try.ntmps38
  go_wp2
  go_loop [3, 8] (fun sv i => ∃ (k : Nat) (S : Int), k ≤ s.size ∧ i = .int .i64 k ∧ sv = .int .i64 S ∧ 0 ≤ S ∧ S ≤ 9 * (k : Int) ∧ Hid (S = dbk s.data.toList s.size k)) (fun _ i => s.size - (intOf i).toNat)
  case atStart => exact ⟨0, 0, Nat.zero_le _, rfl, rfl, by omega, by omega, rfl⟩
  case round =>
    obtain ⟨k, S, hk, rfl, rfl, hS0, hS1, HS⟩ := hrel
    by_cases hlt : k < s.size
    · have hc := digB_get s k hlt HD.out
      have hd2 : dgt s.data.toList k = (s[k].toNat : Int) - 48 := dgt_get s k hlt
      obtain ⟨d, hdd⟩ : ∃ d : Nat, (s[k].toNat : Int) = 48 + (d : Int) := ⟨s[k].toNat - 48, by omega⟩
      have hd9 : d ≤ 9 := by omega
      have hi0 : (0 : Int) ≤ (k : Int) := by omega
      have hi1 : (k : Int) < (s.size : Int) := by omega
      have hp0 : 0 ≤ ((s.size : Int) - (k : Int)) % 2 := Int.emod_nonneg _ (by omega)
      have hsub : IntKind.u8.wrap ((s[k].toNat : Int) - 48) = 48 + (d : Int) - 48 := by rw [hdd]; rw [show (48 : Int) + (d : Int) - 48 = (d : Int) by omega]; exact wrap_u8 d (by omega)
      by_cases hpar : ((s.size : Int) - (k : Int)) % 2 = 0
      · by_cases h10 : 10 ≤ (48 + (d : Int) - 48) * 2
        · have HS2 : Hid (S + ((48 + (d : Int) - 48) * 2 - 9) = dbk s.data.toList s.size (k + 1)) := by
            show _ = _
            rw [dbk, ← HS.out, hd2, hdd, dbi, if_pos (by omega), if_pos h10]
          clear hd2 hc
          go_wp2
          go_round
          case rel => exact ⟨k + 1, _, by omega, by go_num, rfl, by omega, by omega, HS2⟩
          case measure => simp [intOf]; omega
        · have HS2 : Hid (S + (48 + (d : Int) - 48) * 2 = dbk s.data.toList s.size (k + 1)) := by
            show _ = _
            rw [dbk, ← HS.out, hd2, hdd, dbi, if_pos (by omega), if_neg h10]
          clear hd2 hc
          go_wp2
          go_round
          case rel => exact ⟨k + 1, _, by omega, by go_num, rfl, by omega, by omega, HS2⟩
          case measure => simp [intOf]; omega
      · have HS2 : Hid (S + (48 + (d : Int) - 48) = dbk s.data.toList s.size (k + 1)) := by
          show _ = _
          rw [dbk, ← HS.out, hd2, hdd, dbi, if_neg (by omega)]
        clear hd2 hc
        go_wp2
        go_round
        case rel => exact ⟨k + 1, _, by omega, by go_num, rfl, by omega, by omega, HS2⟩
        case measure => simp [intOf]; omega
    · have HR : Hid (S = dbs s) := by show _ = _; rw [HS.out, dbs]; congr 1; omega
      go_wp2
      go_ret
      exact ⟨ret_int HR.out, rfl⟩
/-- What DoubledSum answers. -/
def dbA (s : ByteArray) : Int := if ardB s 1 12 = true then dbs s else 0
/-- What IsDoubledSound answers. -/
def idA (s : ByteArray) : Bool := ardB s 1 12 && decide (dbA s % 10 = 0)
theorem dbA_bd (s : ByteArray) : 0 ≤ dbA s ∧ dbA s ≤ 108 := by
  unfold dbA
  split
  · rename_i hb
    have hq : (1 ≤ (s.size : Int) ∧ (s.size : Int) ≤ 12) ∧ digB s.data.toList = true := by simpa [ardB, and_assoc] using hb
    have := dbk_bd s.data.toList s.size s.size hq.2
    unfold dbs; omega
  · omega
set_option maxHeartbeats 1000000 in
theorem iDsum_any (s : ByteArray) (w : World) (hs : s.size ≤ maxLen) :
    Calls Try.prog 20 #[.string s] w fun e w' => e = .returned (.tuple #[.int .i64 (dbA s), .bool (ardB s 1 12)]) ∧ Below w.heap.size w w' := by
  cases hb : ardB s 1 12 with
  | false =>
    have HB := Lib.hid hb
    have HZ : Hid (0 = dbA s) := by show _ = _; unfold dbA; rw [if_neg (by simp [hb])]
    clear hb
    go_enter Try.func20, Try.ntmps20
    go_wp2_with (go_at_call 34; (refine (areDigits_any s 1 12 _ hs).mono ?_); rintro e w1 ⟨rfl, rfl⟩; rw [HB.out])
    go_ret2
    exact ⟨ret_ib HZ.out rfl, Below.refl _ _⟩
  | true =>
    have HB := Lib.hid hb
    have HZ : Hid (dbs s = dbA s) := by show _ = _; unfold dbA; rw [if_pos hb]
    have hq : (1 ≤ (s.size : Int) ∧ (s.size : Int) ≤ 12) ∧ digB s.data.toList = true := by simpa [ardB, and_assoc] using hb
    have hD := hq.2
    have hl : s.size ≤ 12 := by omega
    have HF := Lib.hid (fun W => iDbl_any s W hl hD)
    clear hb hq hD
    go_enter Try.func20, Try.ntmps20
    go_wp2_with (first | (go_at_call 34; (refine (areDigits_any s 1 12 _ hs).mono ?_); rintro e w1 ⟨rfl, rfl⟩; rw [HB.out]) | (go_at_call 38; (refine (HF.out _).mono ?_); rintro e w1 ⟨rfl, rfl⟩))
    go_ret2
    exact ⟨ret_ib HZ.out rfl, Below.refl _ _⟩
set_option maxHeartbeats 1000000 in
theorem sDsum_any (s : ByteArray) (w : World) (hs : s.size ≤ maxLen) :
    Calls Try.prog 19 #[.string s] w fun e w' => e = .returned (.tuple #[.int .i64 (dbA s), .bool (ardB s 1 12)]) ∧ Below w.heap.size w w' := by
  cases hb : ardB s 1 12 with
  | false =>
    have HB := Lib.hid hb
    have HZ : Hid (0 = dbA s) := by show _ = _; unfold dbA; rw [if_neg (by simp [hb])]
    clear hb
    go_enter Try.func19, Try.ntmps19
    go_wp2_with (go_at_call 33; (refine (slDigits_any s _ hs).mono ?_); rintro e w1 ⟨rfl, rfl⟩; rw [HB.out])
    go_ret2
    exact ⟨ret_ib HZ.out rfl, Below.refl _ _⟩
  | true =>
    have HB := Lib.hid hb
    have HZ : Hid (dbs s = dbA s) := by show _ = _; unfold dbA; rw [if_pos hb]
    have hq : (1 ≤ (s.size : Int) ∧ (s.size : Int) ≤ 12) ∧ digB s.data.toList = true := by simpa [ardB, and_assoc] using hb
    have hD := hq.2
    have hl : s.size ≤ 12 := by omega
    have HF := Lib.hid (fun W => slDbl_any s W hl hD)
    clear hb hq hD
    go_enter Try.func19, Try.ntmps19
    go_wp2_with (first | (go_at_call 33; (refine (slDigits_any s _ hs).mono ?_); rintro e w1 ⟨rfl, rfl⟩; rw [HB.out]) | (go_at_call 37; (refine (HF.out _).mono ?_); rintro e w1 ⟨rfl, rfl⟩))
    go_ret2
    exact ⟨ret_ib HZ.out rfl, Below.refl _ _⟩
set_option maxHeartbeats 1000000 in
theorem FnExactDoubledSum_law (s0 : ByteArray) (hs0 : s0.size ≤ maxLen) (w : World) :
    Calls Try.prog 5 #[.string s0] w fun e w' => e = .returned (.bool true) ∧ Below w.heap.size w w' := by
  have hs0' := hs0
  unfold maxLen at hs0'
  have hs1 : ∀ W, Calls Try.prog 19 #[.string s0] W fun e w' => e = .returned (.tuple #[.int .i64 (dbA s0), .bool (ardB s0 1 12)]) ∧ Below W.heap.size W w' := fun W => sDsum_any s0 W hs0
  have hi1 : ∀ W, Calls Try.prog 20 #[.string s0] W fun e w' => e = .returned (.tuple #[.int .i64 (dbA s0), .bool (ardB s0 1 12)]) ∧ Below W.heap.size W w' := fun W => iDsum_any s0 W hs0
  obtain ⟨A0, hA0⟩ : ∃ A0 : Int, A0 = dbA s0 := ⟨_, rfl⟩
  obtain ⟨A1, hA1⟩ : ∃ A1 : Bool, A1 = ardB s0 1 12 := ⟨_, rfl⟩
  rw [← hA0, ← hA1] at hs1 hi1
  have HS := Lib.hid hs1
  have HI := Lib.hid hi1
  clear hs1 hi1 hA0 hA1
  by_cases hb0 : (s0.size : Int) ≤ 1048576
  case neg =>
    go_enter Try.func5, Try.ntmps5
    go_wp2
    go_ret
    exact ⟨rfl, Below.refl _ _⟩
  case pos =>
    go_enter Try.func5, Try.ntmps5
    go_wp2_with (first | (go_at_call 19; (with_reducible refine (HS.out _).mono ?_); rintro e w1 ⟨rfl, b1⟩) | (go_at_call 20; (with_reducible refine (HI.out _).mono ?_); rintro e w2 ⟨rfl, b2⟩))
    go_ret
    exact ⟨rfl, chain b1 b2⟩
set_option maxHeartbeats 1000000 in
theorem sIds_any (s : ByteArray) (w : World) (hs : s.size ≤ maxLen) :
    Calls Try.prog 21 #[.string s] w fun e w' => e = .returned (.tuple #[.bool (idA s), .bool (ardB s 1 12)]) ∧ Below w.heap.size w w' := by
  have hbd := dbA_bd s
  cases hb : ardB s 1 12 with
  | false =>
    have HB := Lib.hid hb
    have HZ : Hid (false = idA s) := by show _ = _; unfold idA; rw [hb]; rfl
    clear hb hbd
    go_enter Try.func21, Try.ntmps21
    go_wp2_with (go_at_call 33; (refine (slDigits_any s _ hs).mono ?_); rintro e w1 ⟨rfl, rfl⟩; rw [HB.out])
    go_ret2
    exact ⟨ret_bb HZ.out rfl, Below.refl _ _⟩
  | true =>
    have HB := Lib.hid hb
    have hq : (1 ≤ (s.size : Int) ∧ (s.size : Int) ≤ 12) ∧ digB s.data.toList = true := by simpa [ardB, and_assoc] using hb
    have hD := hq.2
    have hl : s.size ≤ 12 := by omega
    have hc := fun W => slDbl_any s W hl hD
    have hdb : dbs s = dbA s := by unfold dbA; rw [if_pos hb]
    rw [hdb] at hc
    obtain ⟨S, hS⟩ : ∃ S, S = dbA s := ⟨_, rfl⟩
    have HZ : Hid ((S % 10 == 0) = idA s) := by show _ = _; unfold idA; rw [hb, ← hS]; rfl
    rw [← hS] at hc hbd
    obtain ⟨hb0, hb1⟩ := hbd
    have HF := Lib.hid hc
    clear hb hq hD hc hdb hS
    go_enter Try.func21, Try.ntmps21
    go_wp2_with (first | (go_at_call 33; (refine (slDigits_any s _ hs).mono ?_); rintro e w1 ⟨rfl, rfl⟩; rw [HB.out]) | (go_at_call 37; (refine (HF.out _).mono ?_); rintro e w1 ⟨rfl, rfl⟩))
    go_ret2
    exact ⟨ret_bb HZ.out rfl, Below.refl _ _⟩
set_option maxHeartbeats 1000000 in
theorem iIds_any (s : ByteArray) (w : World) (hs : s.size ≤ maxLen) :
    Calls Try.prog 22 #[.string s] w fun e w' => e = .returned (.tuple #[.bool (idA s), .bool (ardB s 1 12)]) ∧ Below w.heap.size w w' := by
  have hbd := dbA_bd s
  have hc := fun W => iDsum_any s W hs
  cases hb : ardB s 1 12 with
  | false =>
    have HZ : Hid (false = idA s) := by show _ = _; unfold idA; rw [hb]; rfl
    rw [hb] at hc
    have HF := Lib.hid hc
    clear hb hbd hc
    go_enter Try.func22, Try.ntmps22
    go_wp2_with (first | (go_at_call 20; (refine (HF.out _).mono ?_); rintro e w1 ⟨rfl, b1⟩))
    go_ret2
    exact ⟨ret_bb HZ.out rfl, b1⟩
  | true =>
    obtain ⟨S, hS⟩ : ∃ S, S = dbA s := ⟨_, rfl⟩
    have HZ : Hid ((S % 10 == 0) = idA s) := by show _ = _; unfold idA; rw [hb, ← hS]; rfl
    rw [hb, ← hS] at hc
    rw [← hS] at hbd
    obtain ⟨hb0, hb1⟩ := hbd
    have HF := Lib.hid hc
    clear hb hc hS
    go_enter Try.func22, Try.ntmps22
    go_wp2_with (first | (go_at_call 20; (refine (HF.out _).mono ?_); rintro e w1 ⟨rfl, b1⟩))
    go_ret2
    exact ⟨ret_bb HZ.out rfl, b1⟩
set_option maxHeartbeats 1000000 in
theorem FnExactIsDoubledSound_law (s0 : ByteArray) (hs0 : s0.size ≤ maxLen) (w : World) :
    Calls Try.prog 6 #[.string s0] w fun e w' => e = .returned (.bool true) ∧ Below w.heap.size w w' := by
  have hs0' := hs0
  unfold maxLen at hs0'
  have hs1 : ∀ W, Calls Try.prog 21 #[.string s0] W fun e w' => e = .returned (.tuple #[.bool (idA s0), .bool (ardB s0 1 12)]) ∧ Below W.heap.size W w' := fun W => sIds_any s0 W hs0
  have hi1 : ∀ W, Calls Try.prog 22 #[.string s0] W fun e w' => e = .returned (.tuple #[.bool (idA s0), .bool (ardB s0 1 12)]) ∧ Below W.heap.size W w' := fun W => iIds_any s0 W hs0
  obtain ⟨A0, hA0⟩ : ∃ A0 : Bool, A0 = idA s0 := ⟨_, rfl⟩
  obtain ⟨A1, hA1⟩ : ∃ A1 : Bool, A1 = ardB s0 1 12 := ⟨_, rfl⟩
  rw [← hA0, ← hA1] at hs1 hi1
  have HS := Lib.hid hs1
  have HI := Lib.hid hi1
  clear hs1 hi1 hA0 hA1
  by_cases hb0 : (s0.size : Int) ≤ 1048576
  case neg =>
    go_enter Try.func6, Try.ntmps6
    go_wp2
    go_ret
    exact ⟨rfl, Below.refl _ _⟩
  case pos =>
    go_enter Try.func6, Try.ntmps6
    go_wp2_with (first | (go_at_call 21; (with_reducible refine (HS.out _).mono ?_); rintro e w1 ⟨rfl, b1⟩) | (go_at_call 22; (with_reducible refine (HI.out _).mono ?_); rintro e w2 ⟨rfl, b2⟩))
    go_ret
    exact ⟨rfl, chain b1 b2⟩
/-- With a 0 behind. -/
def s0z (s : ByteArray) : ByteArray := s ++ ⟨#[48]⟩
theorem s0z_size (s : ByteArray) : (s0z s).size = s.size + 1 := by simp [s0z, ByteArray.size_append]; rfl
theorem s0z_dig (s : ByteArray) (h : digB s.data.toList = true) : digB (s0z s).data.toList = true := by
  have : (s0z s).data.toList = s.data.toList ++ [48] := by simp [s0z, ByteArray.data_append]
  rw [this, digB_append, h]; rfl
/-- What DoubledDigit answers. -/
def ddA (s : ByteArray) : Int := if ardB s 1 11 = true then (10 - dbs (s0z s) % 10) % 10 else 0
set_option maxHeartbeats 1000000 in
theorem iDd_any (s : ByteArray) (w : World) (hs : s.size ≤ maxLen) :
    Calls Try.prog 24 #[.string s] w fun e w' => e = .returned (.tuple #[.int .i64 (ddA s), .bool (ardB s 1 11)]) ∧ Below w.heap.size w w' := by
  cases hb : ardB s 1 11 with
  | false =>
    have HB := Lib.hid hb
    have HZ : Hid (0 = ddA s) := by show _ = _; unfold ddA; rw [if_neg (by simp [hb])]
    clear hb
    go_enter Try.func24, Try.ntmps24
    go_wp2_with (go_at_call 34; (refine (areDigits_any s 1 11 _ hs).mono ?_); rintro e w1 ⟨rfl, rfl⟩; rw [HB.out])
    go_ret2
    exact ⟨ret_ib HZ.out rfl, Below.refl _ _⟩
  | true =>
    have HB := Lib.hid hb
    have hq : (1 ≤ (s.size : Int) ∧ (s.size : Int) ≤ 11) ∧ digB s.data.toList = true := by simpa [ardB, and_assoc] using hb
    have hD := s0z_dig s hq.2
    have hsz := s0z_size s
    have hl : (s0z s).size ≤ 12 := by omega
    have HQ : Hid (ardB s 1 12 = true) := by show _ = _; rw [ard_yes (by omega)]; exact hq.2
    have hc := fun W => iDbl_any (s0z s) W hl hD
    have hbd := dbk_bd (s0z s).data.toList (s0z s).size (s0z s).size hD
    obtain ⟨S, hS⟩ : ∃ S, S = dbs (s0z s) := ⟨_, rfl⟩
    have HZ : Hid ((10 - S % 10) % 10 = ddA s) := by show _ = _; unfold ddA; rw [if_pos hb, ← hS]
    change 0 ≤ dbs (s0z s) ∧ dbs (s0z s) ≤ _ at hbd
    rw [← hS] at hc hbd
    have hb0 : 0 ≤ S := hbd.1
    have hb1 : S ≤ 108 := by have := hbd.2; omega
    have hr0 : 0 ≤ S % 10 := Int.emod_nonneg _ (by omega)
    have hr1 : S % 10 < 10 := Int.emod_lt_of_pos _ (by omega)
    obtain ⟨⟨hq1, hq2⟩, _⟩ := hq
    unfold s0z at hc
    have HF := Lib.hid hc
    have h12 : ¬ (s.size : Int) = 12 := by omega
    clear hb hD hc hS hbd hl hsz
    go_enter Try.func24, Try.ntmps24
    go_wp2_with (first | (go_at_call 34; (refine (areDigits_any s 1 11 _ hs).mono ?_); rintro e w1 ⟨rfl, rfl⟩; rw [HB.out]) | (go_at_call 38; (refine (HF.out _).mono ?_); rintro e w1 ⟨rfl, rfl⟩))
    go_ret2
    exact ⟨ret_ib HZ.out rfl, Below.refl _ _⟩
set_option maxHeartbeats 1000000 in
theorem sDd_any (s : ByteArray) (w : World) (hs : s.size ≤ maxLen) :
    Calls Try.prog 23 #[.string s] w fun e w' => e = .returned (.tuple #[.int .i64 (ddA s), .bool (ardB s 1 11)]) ∧ Below w.heap.size w w' := by
  cases hb : ardB s 1 11 with
  | false =>
    have HB := Lib.hid hb
    have HZ : Hid (0 = ddA s) := by show _ = _; unfold ddA; rw [if_neg (by simp [hb])]
    clear hb
    by_cases h12 : (s.size : Int) = 12
    · cases hq : ardB s 1 12 with
      | false =>
        have HQ := Lib.hid hq
        clear hq
        go_enter Try.func23, Try.ntmps23
        go_wp2_with (go_at_call 33; (refine (slDigits_any s _ hs).mono ?_); rintro e w1 ⟨rfl, rfl⟩; rw [HQ.out])
        go_ret2
        exact ⟨ret_ib HZ.out rfl, Below.refl _ _⟩
      | true =>
        have HQ := Lib.hid hq
        clear hq
        go_enter Try.func23, Try.ntmps23
        go_wp2_with (go_at_call 33; (refine (slDigits_any s _ hs).mono ?_); rintro e w1 ⟨rfl, rfl⟩; rw [HQ.out])
        go_ret2
        exact ⟨ret_ib HZ.out rfl, Below.refl _ _⟩
    · have hq : ardB s 1 12 = false := by
        rw [← HB.out]
        unfold ardB
        congr 1
        rw [decide_eq_decide]; omega
      have HQ := Lib.hid hq
      clear hq
      go_enter Try.func23, Try.ntmps23
      go_wp2_with (go_at_call 33; (refine (slDigits_any s _ hs).mono ?_); rintro e w1 ⟨rfl, rfl⟩; rw [HQ.out])
      go_ret2
      exact ⟨ret_ib HZ.out rfl, Below.refl _ _⟩
  | true =>
    have HB := Lib.hid hb
    have hq : (1 ≤ (s.size : Int) ∧ (s.size : Int) ≤ 11) ∧ digB s.data.toList = true := by simpa [ardB, and_assoc] using hb
    have hD := s0z_dig s hq.2
    have hsz := s0z_size s
    have hl : (s0z s).size ≤ 12 := by omega
    have HQ : Hid (ardB s 1 12 = true) := by show _ = _; rw [ard_yes (by omega)]; exact hq.2
    have hc := fun W => slDbl_any (s0z s) W hl hD
    have hbd := dbk_bd (s0z s).data.toList (s0z s).size (s0z s).size hD
    obtain ⟨S, hS⟩ : ∃ S, S = dbs (s0z s) := ⟨_, rfl⟩
    have HZ : Hid ((10 - S % 10) % 10 = ddA s) := by show _ = _; unfold ddA; rw [if_pos hb, ← hS]
    change 0 ≤ dbs (s0z s) ∧ dbs (s0z s) ≤ _ at hbd
    rw [← hS] at hc hbd
    have hb0 : 0 ≤ S := hbd.1
    have hb1 : S ≤ 108 := by have := hbd.2; omega
    have hr0 : 0 ≤ S % 10 := Int.emod_nonneg _ (by omega)
    have hr1 : S % 10 < 10 := Int.emod_lt_of_pos _ (by omega)
    obtain ⟨⟨hq1, hq2⟩, _⟩ := hq
    unfold s0z at hc
    have HF := Lib.hid hc
    have h12 : ¬ (s.size : Int) = 12 := by omega
    clear hb hD hc hS hbd hl hsz
    go_enter Try.func23, Try.ntmps23
    go_wp2_with (first | (go_at_call 33; (refine (slDigits_any s _ hs).mono ?_); rintro e w1 ⟨rfl, rfl⟩; rw [HQ.out]) | (go_at_call 37; (refine (HF.out _).mono ?_); rintro e w1 ⟨rfl, rfl⟩))
    go_ret2
    exact ⟨ret_ib HZ.out rfl, Below.refl _ _⟩
set_option maxHeartbeats 1000000 in
theorem FnExactDoubledDigit_law (s0 : ByteArray) (hs0 : s0.size ≤ maxLen) (w : World) :
    Calls Try.prog 7 #[.string s0] w fun e w' => e = .returned (.bool true) ∧ Below w.heap.size w w' := by
  have hs0' := hs0
  unfold maxLen at hs0'
  have hs1 : ∀ W, Calls Try.prog 23 #[.string s0] W fun e w' => e = .returned (.tuple #[.int .i64 (ddA s0), .bool (ardB s0 1 11)]) ∧ Below W.heap.size W w' := fun W => sDd_any s0 W hs0
  have hi1 : ∀ W, Calls Try.prog 24 #[.string s0] W fun e w' => e = .returned (.tuple #[.int .i64 (ddA s0), .bool (ardB s0 1 11)]) ∧ Below W.heap.size W w' := fun W => iDd_any s0 W hs0
  obtain ⟨A0, hA0⟩ : ∃ A0 : Int, A0 = ddA s0 := ⟨_, rfl⟩
  obtain ⟨A1, hA1⟩ : ∃ A1 : Bool, A1 = ardB s0 1 11 := ⟨_, rfl⟩
  rw [← hA0, ← hA1] at hs1 hi1
  have HS := Lib.hid hs1
  have HI := Lib.hid hi1
  clear hs1 hi1 hA0 hA1
  by_cases hb0 : (s0.size : Int) ≤ 1048576
  case neg =>
    go_enter Try.func7, Try.ntmps7
    go_wp2
    go_ret
    exact ⟨rfl, Below.refl _ _⟩
  case pos =>
    go_enter Try.func7, Try.ntmps7
    go_wp2_with (first | (go_at_call 23; (with_reducible refine (HS.out _).mono ?_); rintro e w1 ⟨rfl, b1⟩) | (go_at_call 24; (with_reducible refine (HI.out _).mono ?_); rintro e w2 ⟨rfl, b2⟩))
    go_ret
    exact ⟨rfl, chain b1 b2⟩
end Go.Proofs.Ytleifibbdjplbab

/-
  The laws of NumberOfTicket and SwapHalves.
-/
import Derived.Test.YtlkeemnnncnibabHalf
import Derived.WalkSmall
namespace Go.Proofs.Ytlkeemnnncnibab
open Go.RowKit

theorem good_le' {s : ByteArray} (h : goodB s = true) : s.size ≤ 1000 := by have := good_sz h; omega
theorem good_even' {s : ByteArray} (h : goodB s = true) : s.size % 2 = 0 := by have := good_sz h; omega
theorem good_12 {s : ByteArray} (h : goodB s = true) : s.size ≤ 12 := by have := good_sz h; omega
/-- The number that digits tell. -/
def dnum (l : List UInt8) : Int := l.foldl (fun n c => n * 10 + dv c) 0
theorem dnum_snoc (l : List UInt8) (c : UInt8) : dnum (l ++ [c]) = dnum l * 10 + dv c := by simp [dnum, List.foldl_append]
theorem dnum_bd (n : Nat) : ∀ l : List UInt8, l.length = n → digB l = true → 0 ≤ dnum l ∧ dnum l < 10 ^ n := by
  induction n with
  | zero => intro l hl _; have : l = [] := List.length_eq_zero_iff.1 hl; subst this; simp [dnum]
  | succ n ih =>
    intro l hl hd
    obtain ⟨a, c, rfl⟩ : ∃ a c, l = a ++ [c] := ⟨l.dropLast, l.getLast (by intro e; subst e; simp at hl), (List.dropLast_concat_getLast _).symm⟩
    rw [digB_snoc] at hd; simp at hd hl
    have h1 := ih a hl hd.1
    have h2 := (dgB_iff c).1 hd.2
    rw [dnum_snoc, Int.pow_succ]; unfold dv; omega
theorem dnum_12 (l : List UInt8) (hl : l.length ≤ 12) (hd : digB l = true) : 0 ≤ dnum l ∧ dnum l ≤ 999999999999 := by
  have h := dnum_bd l.length l rfl hd
  have hp : (10 : Nat) ^ l.length ≤ 10 ^ 12 := Nat.pow_le_pow_right (by omega) hl
  have : (10 : Int) ^ l.length ≤ 10 ^ 12 := by exact_mod_cast hp
  omega

theorem numberIn_any (s : ByteArray) (w : World) (hs : s.size ≤ 12) (hd : digB s.data.toList = true) :
    Calls Try.prog 68 #[.string s] w fun e w' => e = .returned (.int .i64 (dnum s.data.toList)) ∧ w = w' := by
  have HD := Lib.hid hd; clear hd
  go_enter Try.func68, Try.ntmps68
  go_wp2
  go_loop [3, 7] (fun t i => ∃ k : Nat, k ≤ s.size ∧ i = .int .i64 k ∧ t = .int .i64 (dnum (s.data.toList.take k))) (fun _ i => s.size - (intOf i).toNat)
  case atStart => exact ⟨0, Nat.zero_le _, rfl, rfl⟩
  case round =>
    obtain ⟨k, hk, rfl, rfl⟩ := hrel
    have hl : (s.data.toList.take k).length ≤ k := List.length_take_le _ _
    have hb := dnum_12 (s.data.toList.take k) (by omega) (digB_take _ _ HD.out)
    obtain ⟨hb1, hb2⟩ := hb
    by_cases hlt : k < s.size
    · have hc := digB_get s k hlt HD.out
      obtain ⟨hc1, hc2⟩ := hc
      go_wp2
      go_round
      case rel => exact ⟨k + 1, by omega, by go_num, val_int (by rw [take_snoc s k hlt, dnum_snoc, dv])⟩
      case measure => simp [intOf]; omega
    · go_wp2
      go_ret
      exact ⟨ret_int (by rw [show k = s.size by omega, take_all]), rfl⟩
theorem number_any (a b c d : Int) (s : ByteArray) (w : World) (hs : s.size ≤ 12) (hd : digB s.data.toList = true) :
    Calls Try.prog 48 #[.agg #[.int .i64 a, .int .i64 b, .int .i64 c, .int .i64 d, .string s]] w fun e w' => e = .returned (.int .i64 (dnum s.data.toList)) ∧ Below w.heap.size w w' := by
  have HN := Lib.hid (fun W => numberIn_any s W hs hd); clear hd
  go_enter Try.func48, Try.ntmps48
  go_wp2_with (go_at_call 68; (with_reducible refine (HN.out _).mono ?_); rintro e w1 ⟨rfl, rfl⟩)
  go_ret
  exact ⟨rfl, by go_grown⟩
theorem tkNumber_any (s : ByteArray) (w : World) (hs : s.size ≤ 12) (hd : digB s.data.toList = true) :
    Calls Try.prog 46 #[.string s] w fun e w' => e = .returned (.int .i64 (dnum s.data.toList)) ∧ w = w' := by
  have HD := Lib.hid hd; clear hd
  go_enter Try.func46, Try.ntmps46
  go_wp2
  go_loop [3, 4] (fun t i => ∃ k : Nat, k ≤ s.size ∧ i = .int .i64 k ∧ t = .int .i64 (dnum (s.data.toList.take k))) (fun _ i => s.size - (intOf i).toNat)
  case atStart => exact ⟨0, Nat.zero_le _, rfl, rfl⟩
  case round =>
    obtain ⟨k, hk, rfl, rfl⟩ := hrel
    have hl : (s.data.toList.take k).length ≤ k := List.length_take_le _ _
    have hb := dnum_12 (s.data.toList.take k) (by omega) (digB_take _ _ HD.out)
    obtain ⟨hb1, hb2⟩ := hb
    by_cases hlt : k < s.size
    · have hc := digB_get s k hlt HD.out
      obtain ⟨hc1, hc2⟩ := hc
      go_wp2
      go_round
      case rel => exact ⟨k + 1, by omega, by go_num, val_int (by rw [take_snoc s k hlt, dnum_snoc, dv])⟩
      case measure => simp [intOf]; omega
    · go_wp2
      go_ret
      exact ⟨ret_int (by rw [show k = s.size by omega, take_all]), rfl⟩

theorem ofI_no (s : ByteArray) (f : Value) (w : World) (hs : s.size ≤ maxLen) (hg : goodB s = false) :
    Calls Try.prog 47 #[.string s, f] w fun e w' => e = .returned (.tuple #[.int .i64 0, .bool false]) ∧ Below w.heap.size w w' := by
  go_enter Try.func47, Try.ntmps47
  go_wp2_with (first | (go_at_call 66; go_must ((with_reducible refine (isTicket_any _ _ hs).mono ?_); rintro e w' ⟨rfl, rfl⟩)))
  go_ret2
  exact ⟨rfl, by go_grown⟩
theorem ofI_number (s : ByteArray) (w : World) (hs : s.size ≤ maxLen) (hg : goodB s = true) :
    Calls Try.prog 47 #[.string s, .func (Fn.func 48) #[] #[]] w fun e w' => e = .returned (.tuple #[.int .i64 (dnum s.data.toList), .bool true]) ∧ Below w.heap.size w w' := by
  have HG := Lib.hid hg
  go_enter Try.func47, Try.ntmps47
  go_wp2_with (first | (go_at_call 66; go_must ((with_reducible refine (isTicket_any _ _ hs).mono ?_); rintro e w' ⟨rfl, rfl⟩)) | (go_at_call 67; go_must ((with_reducible refine (halvesOf_any _ _ (good_le' HG.out) (good_even' HG.out) (good_dig HG.out)).mono ?_); rintro e w1 ⟨rfl, hb⟩)) | (go_at_call 48; go_must ((with_reducible refine (number_any _ _ _ _ _ _ (good_12 HG.out) (good_dig HG.out)).mono ?_); rintro e w2 ⟨rfl, hb2⟩)))
  go_ret2
  exact ⟨rfl, chain hb hb2⟩
/-- What NumberOfTicket answers. -/
def tnum (s : ByteArray) : Int := if goodB s = true then dnum s.data.toList else 0
theorem tnum_yes {s : ByteArray} (h : goodB s = true) : tnum s = dnum s.data.toList := by rw [tnum, if_pos h]
theorem tnum_no {s : ByteArray} (h : goodB s = false) : tnum s = 0 := by rw [tnum, if_neg (by simp [h])]
theorem ret_ib {a b : Int} {p : Bool} (h : a = b) : Ending.returned (.tuple #[.int .i64 a, .bool p]) = .returned (.tuple #[.int .i64 b, .bool p]) := by rw [h]
theorem iNumber_any (s : ByteArray) (w : World) (hs : s.size ≤ maxLen) :
    Calls Try.prog 20 #[.string s] w fun e w' => e = .returned (.tuple #[.int .i64 (tnum s), .bool (goodB s)]) ∧ Below w.heap.size w w' := by
  cases hg : goodB s with
  | true =>
    have E := Lib.hid (tnum_yes hg)
    go_enter Try.func20, Try.ntmps20
    go_wp2_with (go_at_call 47; go_must ((with_reducible refine (ofI_number _ _ hs hg).mono ?_); rintro e w1 ⟨rfl, hb⟩))
    go_ret2
    exact ⟨ret_ib E.out.symm, by go_grown⟩
  | false =>
    have E := Lib.hid (tnum_no hg)
    go_enter Try.func20, Try.ntmps20
    go_wp2_with (go_at_call 47; go_must ((with_reducible refine (ofI_no _ _ _ hs hg).mono ?_); rintro e w1 ⟨rfl, hb⟩))
    go_ret2
    exact ⟨ret_ib E.out.symm, by go_grown⟩
theorem sNumber_any (s : ByteArray) (w : World) (hs : s.size ≤ maxLen) :
    Calls Try.prog 19 #[.string s] w fun e w' => e = .returned (.tuple #[.int .i64 (tnum s), .bool (goodB s)]) ∧ Below w.heap.size w w' := by
  cases hg : goodB s with
  | true =>
    have E := Lib.hid (tnum_yes hg)
    go_enter Try.func19, Try.ntmps19
    go_wp2_with (first | (go_at_call 45; go_must ((with_reducible refine (tkGood_any _ _ hs).mono ?_); rintro e w' ⟨rfl, rfl⟩)) | (go_at_call 46; go_must ((with_reducible refine (tkNumber_any _ _ (good_12 hg) (good_dig hg)).mono ?_); rintro e w1 ⟨rfl, rfl⟩)))
    go_ret2
    exact ⟨ret_ib E.out.symm, by go_grown⟩
  | false =>
    have E := Lib.hid (tnum_no hg)
    go_enter Try.func19, Try.ntmps19
    go_wp2_with (first | (go_at_call 45; go_must ((with_reducible refine (tkGood_any _ _ hs).mono ?_); rintro e w' ⟨rfl, rfl⟩)))
    go_ret2
    exact ⟨ret_ib E.out.symm, by go_grown⟩
theorem FnExactNumberOfTicket_law (s : ByteArray) (hs : s.size ≤ maxLen) (w : World) :
    Calls Try.prog 7 #[.string s] w fun e w' => e = .returned (.bool true) ∧ Below w.heap.size w w' := by
  have hm := hs
  unfold maxLen at hs
  by_cases hb : s.size ≤ 1048576
  all_goals
    go_enter Try.func7, Try.ntmps7
    go_wp2_with (first | (go_at_call 19; refine (sNumber_any _ _ hm).mono ?_; rintro e w1 ⟨rfl, hb1⟩; have H1 := chain (w := w) (by go_grown) hb1; clear hb1) | (go_at_call 20; refine (iNumber_any _ _ hm).mono ?_; rintro e w2 ⟨rfl, hb2⟩; have H2 := chain (w := w) (by go_grown) hb2; clear hb2))
    go_ret
    exact ⟨rfl, by go_grown⟩
end Go.Proofs.Ytlkeemnnncnibab

/-
  Readings: how the program counts those that begin so.
-/
import Derived.Test.YtlkeemnnncnibaaDoorMiLeaf
import Derived.Test.YtlkeemnnncnibaaDoorShelf
import Derived.Test.YtlkeemnnncnibaaDoorMiBld
import Derived.Lib.IndexLaws
namespace Go.Proofs.YtlkeemnnncnibaaDoor
open Go.RowKit

theorem ix_here (l : List UInt8) (k : Nat) (h : k < l.length) : (Lib.indexByte l l[k] = (k : Int)) ↔ (l.take k).contains l[k] = false := by
  constructor
  · intro he
    have := (Lib.indexByte_some he).2
    cases hc : (l.take k).contains l[k] with
    | false => rfl
    | true =>
      rw [List.contains_iff_mem] at hc
      obtain ⟨j, hj, hjk⟩ := List.getElem_of_mem hc
      have hj' : j < k := by rw [List.length_take] at hj; omega
      rw [List.getElem_take] at hjk
      exact absurd (by rw [List.getElem?_eq_getElem (by omega), hjk]) (this j hj')
  · intro hc
    have hge := Lib.indexByte_ge l l[k]
    rcases Int.lt_or_le (Lib.indexByte l l[k]) 0 with h1 | h1
    · have : Lib.indexByte l l[k] = -1 := by omega
      exact absurd (List.getElem?_eq_getElem h) (Lib.indexByte_none this k)
    · obtain ⟨o, ho⟩ : ∃ o : Nat, Lib.indexByte l l[k] = (o : Int) := ⟨(Lib.indexByte l l[k]).toNat, by omega⟩
      obtain ⟨h2, h3⟩ := Lib.indexByte_some ho
      rcases Nat.lt_trichotomy o k with h4 | h4 | h4
      · exfalso
        have : (l.take k).contains l[k] = true := by
          rw [List.contains_iff_mem]
          obtain ⟨h5, h6⟩ := List.getElem?_eq_some_iff.1 h2
          rw [← h6]
          exact List.mem_take_iff_getElem.2 ⟨o, by omega, rfl⟩
        rw [hc] at this; cases this
      · rw [ho, h4]
      · exact absurd (List.getElem?_eq_getElem h) (h3 k h4)
theorem df_le (l : List UInt8) : df l ≤ l.length := by
  unfold df
  rw [← List.length_reverse]
  generalize l.reverse = r
  induction r with
  | nil => exact Nat.le_refl _
  | cons c r ih => simp only [dfr, List.length_cons]; split <;> omega
theorem differentDigits_any (s : ByteArray) (w : World) (hs : s.size ≤ maxLen) :
    Calls Tryd.prog 42 #[.string s] w fun e w' => e = .returned (.int .i64 ((df s.data.toList : Nat) : Int)) ∧ w = w' := by
  unfold maxLen at hs
  go_enter Tryd.func42, Tryd.ntmps42
  go_wp2
  go_loop [3, 7] (fun t i => ∃ (k S : Nat), k ≤ s.size ∧ i = .int .i64 k ∧ t = .int .i64 S ∧ S ≤ k ∧ Hid (S = df (s.data.toList.take k))) (fun _ i => s.size - (intOf i).toNat)
  case atStart => exact ⟨0, 0, Nat.zero_le _, rfl, rfl, Nat.le_refl _, rfl⟩
  case round =>
    obtain ⟨k, S, hk, rfl, rfl, hSk, HS⟩ := hrel
    by_cases hlt : k < s.size
    · have hix := ix_here s.data.toList k (by simpa using hlt)
      have hx : s.data.toList[k]'(by simpa using hlt) = s[k] := rfl
      rw [hx] at hix
      have hq : ∀ W, Calls Tryd.prog 57 #[.string s, .int .u8 (s[k].toNat : Int)] W fun e w' => e = .returned (.int .i64 (Lib.indexByte s.data.toList s[k])) ∧ W = w' := by
        intro W
        refine (Tryd.strings_IndexByte s _ W).mono ?_
        rintro e w' ⟨h1, h2⟩
        refine ⟨?_, h2.symm⟩
        rw [h1]; congr 3
        simp
      obtain ⟨z, hz⟩ : ∃ z, z = Lib.indexByte s.data.toList s[k] := ⟨_, rfl⟩
      rw [← hz] at hq hix
      have HQ := Lib.hid hq
      cases hc : (s.data.toList.take k).contains s[k] with
      | false =>
        have hzk : (z == (k : Int)) = true := by rw [beq_iff_eq]; exact hix.2 hc
        have HN : Hid (S + 1 = df (s.data.toList.take (k + 1))) := by show _ = _; rw [take_snoc s k hlt, df_snoc, hc, ← HS.out]; rfl
        have hzk' : z = (k : Int) := hix.2 hc
        clear hz hq hix hc hx hzk
        subst hzk'
        go_wp2_with (go_at_call 57; refine (HQ.out _).mono ?_; rintro e w1 ⟨rfl, rfl⟩)
        go_round
        case rel => exact ⟨k + 1, S + 1, by omega, by go_num, by go_num, by omega, HN⟩
        case measure => simp [intOf]; omega
      | true =>
        have hzk : (z == (k : Int)) = false := by
          rw [beq_eq_false_iff_ne]; intro h; rw [hix.1 h] at hc; cases hc
        have HN : Hid (S = df (s.data.toList.take (k + 1))) := by show _ = _; rw [take_snoc s k hlt, df_snoc, hc, ← HS.out]; rfl
        clear hz hq hix hc hx
        go_wp2_with (go_at_call 57; refine (HQ.out _).mono ?_; rintro e w1 ⟨rfl, rfl⟩)
        go_round
        case rel => exact ⟨k + 1, S, by omega, by go_num, rfl, by omega, HN⟩
        case measure => simp [intOf]; omega
    · have HR : Hid ((S : Int) = ((df s.data.toList : Nat) : Int)) := by show _ = _; rw [HS.out, show k = s.size by omega, take_all]
      go_wp2
      go_ret
      exact ⟨ret_int HR.out, rfl⟩
theorem wd_bd (l : Nat) : ∀ di m, m ≤ 10 → wd l di m ≤ 10 ^ l := by
  induction l with
  | zero => intro di m _; rw [wd]; split <;> simp
  | succ l ih =>
    intro di m hm
    rcases Nat.lt_or_ge m di with h | h
    · rw [wd_no _ _ _ (.inl h)]; exact Nat.zero_le _
    · rw [wd, Nat.pow_succ]
      have h1 := Nat.mul_le_mul_left di (ih di m hm)
      have h2 := Nat.mul_le_mul_left (10 - di) (ih (di + 1) m hm)
      have h3 : di * 10 ^ l + (10 - di) * 10 ^ l = 10 ^ l * 10 := by rw [← Nat.add_mul, show di + (10 - di) = 10 by omega, Nat.mul_comm]
      omega
theorem pow_le9 (l : Nat) (h : l ≤ 9) : (10 : Nat) ^ l ≤ 1000000000 := Nat.le_trans (Nat.pow_le_pow_right (by omega) h) (by decide)
set_option maxHeartbeats 1000000 in
theorem waysToDiffer_any (l : Nat) : ∀ (di m : Nat) (x y : Int) (w : World), l ≤ 9 → di ≤ 100 → m ≤ 10 → x = (l : Int) → y = (di : Int) →
    Calls Tryd.prog 41 #[.int .i64 x, .int .i64 y, .int .i64 m] w fun e w' => e = .returned (.int .i64 ((wd l di m : Nat) : Int)) ∧ w = w' := by
  induction l with
  | zero =>
    intro di m x y w _ hdi hm hx hy
    subst hx
    subst hy
    by_cases h1 : m < di
    · have HR : Hid ((wd 0 di m : Nat) = 0) := wd_no _ _ _ (.inl h1)
      go_enter Tryd.func41, Tryd.ntmps41
      go_wp2
      go_ret
      exact ⟨ret_int (by rw [HR.out]; rfl), rfl⟩
    · by_cases h2 : di < m
      · have HR : Hid ((wd 0 di m : Nat) = 0) := wd_no _ _ _ (.inr (by omega))
        go_enter Tryd.func41, Tryd.ntmps41
        go_wp2
        go_ret
        exact ⟨ret_int (by rw [HR.out]; rfl), rfl⟩
      · have HR : Hid ((wd 0 di m : Nat) = 1) := by show _ = _; rw [wd, if_pos (by omega)]
        go_enter Tryd.func41, Tryd.ntmps41
        go_wp2
        go_ret
        exact ⟨ret_int (by rw [HR.out]; rfl), rfl⟩
  | succ l ih =>
    intro di m x y w hl hdi hm hx hy
    by_cases h1 : m < di
    · have HR : Hid ((wd (l + 1) di m : Nat) = 0) := wd_no _ _ _ (.inl h1)
      go_enter Tryd.func41, Tryd.ntmps41
      go_wp2
      go_ret
      exact ⟨ret_int (by rw [HR.out]; rfl), rfl⟩
    · by_cases h2 : di + (l + 1) < m
      · have HR : Hid ((wd (l + 1) di m : Nat) = 0) := wd_no _ _ _ (.inr h2)
        go_enter Tryd.func41, Tryd.ntmps41
        go_wp2
        go_ret
        exact ⟨ret_int (by rw [HR.out]; rfl), rfl⟩
      · have hX := wd_bd l di m hm
        have hY := wd_bd l (di + 1) m hm
        have hp := pow_le9 l (by omega)
        have hA := fun W => ih di m (x - 1) y W (by omega) hdi hm (by omega) hy
        have hB := fun W => ih (di + 1) m (x - 1) (y + 1) W (by omega) (by omega) hm (by omega) (by omega)
        have hR : wd (l + 1) di m = di * wd l di m + (10 - di) * wd l (di + 1) m := rfl
        obtain ⟨X, hXX⟩ : ∃ X, X = wd l di m := ⟨_, rfl⟩
        obtain ⟨Y, hYY⟩ : ∃ Y, Y = wd l (di + 1) m := ⟨_, rfl⟩
        rw [← hXX] at hX hA hR
        rw [← hYY] at hY hB hR
        have HA := Lib.hid hA
        have HB := Lib.hid hB
        have hXb : X ≤ 1000000000 := by omega
        have hYb : Y ≤ 1000000000 := by omega
        have q1 : 0 ≤ y * (X : Int) := Int.mul_nonneg (by omega) (by omega)
        have q2 : y * (X : Int) ≤ 10 * 1000000000 := Int.mul_le_mul (by omega) (by omega) (by omega) (by omega)
        have q3 : 0 ≤ (10 - y) * (Y : Int) := Int.mul_nonneg (by omega) (by omega)
        have q4 : (10 - y) * (Y : Int) ≤ 10 * 1000000000 := Int.mul_le_mul (by omega) (by omega) (by omega) (by omega)
        have HR : Hid (y * (X : Int) + (10 - y) * (Y : Int) = ((wd (l + 1) di m : Nat) : Int)) := by
          show _ = _
          rw [hR, hy]
          push_cast
          rw [Int.ofNat_sub (by omega)]; rfl
        obtain ⟨Z, hZ⟩ : ∃ Z, Z = wd (l + 1) di m := ⟨_, rfl⟩
        rw [← hZ] at HR ⊢
        have hx1 : 1 ≤ x := by omega
        have hx2 : x ≤ 9 := by omega
        have hy1 : 0 ≤ y := by omega
        have hy2 : y ≤ (m : Int) := by omega
        have hy3 : (m : Int) ≤ y + x := by omega
        clear hZ hXX hYY hR hA hB ih hX hY hp hx hy h1 h2 hdi
        go_enter Tryd.func41, Tryd.ntmps41
        go_wp2_with (go_at_call 41; (first | (with_reducible refine (HA.out _).mono ?_) | (with_reducible refine (HB.out _).mono ?_)); rintro e w1 ⟨rfl, rfl⟩)
        go_ret
        exact ⟨ret_int HR.out, rfl⟩
theorem chooseFrom_any (t m : Nat) (w : World) (ht : t ≤ 10) (hm : m ≤ 9) :
    Calls Tryd.prog 44 #[.int .i64 t, .int .i64 m] w fun e w' => e = .returned (.int .i64 ((ch t m : Nat) : Int)) ∧ w = w' := by
  go_enter Tryd.func44, Tryd.ntmps44
  go_wp2
  go_loop [5, 8] (fun s i => ∃ (k S : Nat), k ≤ m ∧ i = .int .i64 k ∧ s = .int .i64 S ∧ Hid (S = ch t k)) (fun _ i => m - (intOf i).toNat)
  case atStart => exact ⟨0, 1, Nat.zero_le _, rfl, rfl, by show _ = _; rw [ch.eq_def]⟩
  case round =>
    obtain ⟨k, S, hk, rfl, rfl, HS⟩ := hrel
    by_cases hlt : k < m
    · have hb : S ≤ 252 := by rw [HS.out]; exact ch_bd t k ht (by omega)
      have hst := ch_step t k ht (by omega)
      rw [← HS.out] at hst
      have hnn : 0 ≤ (S : Int) * ((t : Int) - (k : Int)) := by
        rcases Nat.lt_or_ge t k with h | h
        · have : S = 0 := by rw [HS.out]; exact ch_up t k h
          subst this; simp
        · exact Int.mul_nonneg (by omega) (by omega)
      have hup : (S : Int) * ((t : Int) - (k : Int)) ≤ 252 * 10 := by
        rcases Nat.lt_or_ge t k with h | h
        · have : S = 0 := by rw [HS.out]; exact ch_up t k h
          subst this; simp
        · exact Int.mul_le_mul (by omega) (by omega) (by omega) (by omega)
      have hb2 := ch_bd t (k + 1) ht (by omega)
      have HN : Hid (((S : Int) * ((t : Int) - (k : Int))) / ((k : Int) + 1) = ((ch t (k + 1) : Nat) : Int)) := hst
      have hd0 : 0 ≤ ((S : Int) * ((t : Int) - (k : Int))) / ((k : Int) + 1) := by rw [HN.out]; omega
      have hd1 : ((S : Int) * ((t : Int) - (k : Int))) / ((k : Int) + 1) ≤ 252 := by rw [HN.out]; omega
      clear hst hb2
      go_wp2
      go_round
      case rel => exact ⟨k + 1, ch t (k + 1), by omega, by go_num, val_int HN.out, rfl⟩
      case measure => simp [intOf]; omega
    · have HR : Hid ((S : Int) = ((ch t m : Nat) : Int)) := by show _ = _; rw [HS.out, show k = m by omega]
      go_wp2
      go_ret
      exact ⟨ret_int HR.out, rfl⟩
end Go.Proofs.YtlkeemnnncnibaaDoor

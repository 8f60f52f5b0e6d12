/-
  Least numbers: the model's least and greatest number of k digits with a sum; the program's text of the least one.
-/
import Derived.Test.YtghjpanabphbpaaDoorLeLeaf
import Derived.Test.YtghjpanabphbpaaDoorLeFv
import Derived.Test.YtghjpanabphbpaaDoorLeWp
import Derived.Test.YtghjpanabphbpaaDoorShelf
namespace Go.Proofs.YtghjpanabphbpaaDoor
open Go.RowKit

theorem pow12 {k : Nat} (h : k ≤ 12) : 10 ^ k ≤ 1000000000000 := by
  have : 10 ^ k ≤ 10 ^ 12 := Nat.pow_le_pow_right (by omega) h
  omega
theorem below_pow {N x j k : Nat} (hk : k ≤ 12) (h : N * 10 ^ j + x < 10 ^ k) : N ≤ 1000000000000 := by
  have h1 := pow12 hk
  have h2 : N * 1 ≤ N * 10 ^ j := Nat.mul_le_mul_left _ (pow_p j)
  omega
theorem fv_go {K S N j : Nat} (h : N * 10 ^ (j + 1) + fv S (j + 1) = fv S K) : (N * 10 + ld S j) * 10 ^ j + fv S j = fv S K := by
  rw [← h, fv, Nat.pow_succ, Nat.add_mul, Nat.mul_assoc, Nat.mul_comm 10]; omega
theorem gv_go {K G N s j : Nat} (h : N * 10 ^ (j + 1) + gv s (j + 1) = gv G K) : (N * 10 + min s 9) * 10 ^ j + gv (s - min s 9) j = gv G K := by
  rw [← h, gv, Nat.pow_succ, Nat.add_mul, Nat.mul_assoc, Nat.mul_comm 10]; omega
set_option maxHeartbeats 400000 in
theorem fillL_any (K S : Nat) (w : World) (hK : K ≤ 12) (hS : S ≤ 9 * K) :
    Calls Tryd.prog 37 #[.int .i64 K, .int .i64 S, .bool false] w fun e w' => e = .returned (.int .i64 (fv S K : Nat)) ∧ w = w' := by
  have hlt := fv_lt S K
  go_enter Tryd.func37, Tryd.ntmps37
  go_wp2
  go_loop [1, 7, 8] (fun sm nv kv => ∃ (j N : Nat) (k σ : Int), j ≤ K ∧ k = (j : Int) - 1 ∧ σ = ((min S (9 * j) : Nat) : Int) ∧ sm = .int .i64 σ ∧ nv = .int .i64 N ∧ kv = .int .i64 k ∧ Hid (N * 10 ^ j + fv S j = fv S K)) (fun _ _ kv => (intOf kv + 1).toNat)
  case atStart => exact ⟨K, 0, _, _, Nat.le_refl _, rfl, rfl, val_int (by omega), rfl, rfl, by show _ = _; omega⟩
  case round =>
    obtain ⟨j, N, k, σ, hj, hk, hσ, rfl, rfl, rfl, HN⟩ := hrel
    have hN := below_pow hK (by rw [HN.out]; exact hlt)
    by_cases hj0 : j = 0
    · subst hj0
      have hk1 : k = -1 := by omega
      subst hk1
      clear hk hσ
      have HE : Hid ((N : Int) = (fv S K : Nat)) := by show _ = _; have := HN.out; simp [fv] at this; omega
      go_wp2
      go_ret
      exact ⟨ret_int HE.out, rfl⟩
    · obtain ⟨i, rfl⟩ : ∃ i, j = i + 1 := ⟨j - 1, by omega⟩
      have HN' := Lib.hid (fv_go HN.out)
      have hN' := below_pow hK (by rw [HN'.out]; exact hlt)
      have hd9 := ld_le S i
      have hki : k = (i : Int) := by omega
      have HX : Hid (max 0 (σ - 9 * k) = (ld S i : Int)) := by show _ = _; rw [hσ, hki]; unfold ld; omega
      have HS : Hid (σ - (ld S i : Int) = ((min S (9 * i) : Nat) : Int)) := by show _ = _; rw [hσ]; unfold ld; omega
      have HK := Lib.hid hki
      have hs0 : 0 ≤ σ := by omega
      have hs1 : σ ≤ 108 := by omega
      have hk0 : 0 ≤ k := by omega
      have hk5 : k ≤ 11 := by omega
      obtain ⟨d, hd⟩ : ∃ d, ld S i = d := ⟨_, rfl⟩
      rw [hd] at HX HS HN' hd9 hN'
      clear hσ hk hki hd hlt
      go_wp2_with (go_at_call 42; (with_reducible refine (mostI_any _ _ _).mono ?_); rintro e w1 ⟨rfl, rfl⟩; rw [HX.out])
      go_round
      case rel => exact ⟨i, N * 10 + d, _, _, by omega, by have := HK.out; omega, rfl, val_int HS.out, val_int (by omega), rfl, HN'⟩
      case measure => simp [intOf]; omega
set_option maxHeartbeats 400000 in
theorem fillG_any (K G : Nat) (w : World) (hK : K ≤ 12) (hS : G ≤ 9 * K) :
    Calls Tryd.prog 37 #[.int .i64 K, .int .i64 G, .bool true] w fun e w' => e = .returned (.int .i64 (gv G K : Nat)) ∧ w = w' := by
  have hlt := gv_lt K G
  go_enter Tryd.func37, Tryd.ntmps37
  go_wp2
  go_loop [1, 7, 8] (fun sm nv kv => ∃ (j N s : Nat) (k : Int), j ≤ K ∧ k = (j : Int) - 1 ∧ s ≤ 9 * j ∧ sm = .int .i64 s ∧ nv = .int .i64 N ∧ kv = .int .i64 k ∧ Hid (N * 10 ^ j + gv s j = gv G K)) (fun _ _ kv => (intOf kv + 1).toNat)
  case atStart => exact ⟨K, 0, G, _, Nat.le_refl _, rfl, hS, rfl, rfl, rfl, by show _ = _; omega⟩
  case round =>
    obtain ⟨j, N, s, k, hj, hk, hs, rfl, rfl, rfl, HN⟩ := hrel
    have hN := below_pow hK (by rw [HN.out]; exact hlt)
    by_cases hj0 : j = 0
    · subst hj0
      have hk1 : k = -1 := by omega
      subst hk1
      clear hk
      have HE : Hid ((N : Int) = (gv G K : Nat)) := by show _ = _; have := HN.out; simp [gv] at this; omega
      go_wp2
      go_ret
      exact ⟨ret_int HE.out, rfl⟩
    · obtain ⟨i, rfl⟩ : ∃ i, j = i + 1 := ⟨j - 1, by omega⟩
      have HN' := Lib.hid (gv_go HN.out)
      have hN' := below_pow hK (by rw [HN'.out]; exact hlt)
      have hki : k = (i : Int) := by omega
      have HK := Lib.hid hki
      have HX : Hid (min 9 (s : Int) = ((min s 9 : Nat) : Int)) := by show _ = _; omega
      have hs1 : s ≤ 108 := by omega
      have hk0 : 0 ≤ k := by omega
      have hk5 : k ≤ 11 := by omega
      obtain ⟨d, hd⟩ : ∃ d, min s 9 = d := ⟨_, rfl⟩
      have hd9 : d ≤ 9 := by omega
      have hds : d ≤ s := by omega
      have hsi : s - d ≤ 9 * i := by omega
      rw [hd] at HX HN' hN'
      clear hk hki hd hlt hs
      go_wp2_with (first | (go_at_call 42; (with_reducible refine (mostI_any _ _ _).mono ?_); rintro e w1 ⟨rfl, rfl⟩) | (go_at_call 64; (with_reducible refine (leastI_any _ _ _).mono ?_); rintro e w1 ⟨rfl, rfl⟩; rw [HX.out]))
      go_round
      case rel => exact ⟨i, N * 10 + d, s - d, _, by omega, by have := HK.out; omega, hsi, val_int (by omega), val_int (by omega), rfl, HN'⟩
      case measure => simp [intOf]; omega
/-- The text of the least one. -/
def lh (S : Nat) : Nat → List UInt8
  | 0 => []
  | n + 1 => dc (ld S n) :: lh S n
theorem lh_len (S n : Nat) : (lh S n).length = n := by
  induction n with
  | zero => rfl
  | succ n ih => simp [lh, ih]
theorem itoa_d (u : Nat) (x : Int) (w : World) (h9 : u ≤ 9) (hx : x = (u : Int)) :
    Calls Tryd.prog 54 #[.int .i64 x] w fun e w' => e = .returned (.string ⟨[dc u].toArray⟩) ∧ w = w' := by
  subst hx
  refine (Tryd.strconv_Itoa_small u (by omega) w).mono ?_
  rintro e w' ⟨rfl, rfl⟩
  exact ⟨by rw [dec_small (by omega)], rfl⟩
set_option maxHeartbeats 400000 in
theorem half_any (S h : Nat) (hS : S ≤ 108) (hh : h ≤ 12) (w : World) :
    Calls Tryd.prog 40 #[.int .i64 h, .int .i64 S] w fun e w' => e = .returned (.string ⟨(lh S h).toArray⟩) ∧ Below w.heap.size w w' := by
  go_enter Tryd.func40, Tryd.ntmps40
  go_wp2
  go_loopw [1, 5, 8] (fun sm t i wr => ∃ (n : Nat) (σ : Int), n ≤ h ∧ σ = ((S - 9 * n : Nat) : Int) ∧ sm = .int .i64 σ ∧ i = .int .i64 n ∧ t = .string ⟨(lh S n).toArray⟩ ∧ Below w.heap.size w wr) (fun _ _ i _ => h - (intOf i).toNat)
  case atStart => exact ⟨0, _, Nat.zero_le _, rfl, val_int (by omega), rfl, rfl, Below.refl _ _⟩
  case round =>
    obtain ⟨n, σ, hn, hσ, rfl, rfl, rfl, hbl⟩ := hrel
    have hl := lh_len S n
    by_cases hlt : n < h
    · have hs0 : 0 ≤ σ := by omega
      have hs5 : σ ≤ 108 := by omega
      have hd9 := ld_le S n
      have HS := Lib.hid (show σ - (ld S n : Int) = ((S - 9 * (n + 1) : Nat) : Int) by rw [hσ]; unfold ld; omega)
      have HM := Lib.hid (show (ld S n : Int) = min σ 9 by rw [hσ]; unfold ld; omega)
      clear hσ
      go_wp2_with (go_at_call 54; go_must ((with_reducible refine (itoa_d (ld S n) _ _ hd9 HM.out.symm).mono ?_); rintro e w2 ⟨rfl, rfl⟩))
      go_roundw
      case rel => exact ⟨n + 1, _, by omega, rfl, val_int (by have h1 := HS.out; have h2 := HM.out; omega), by go_num, by rw [str_two]; rfl, hbl⟩
      case measure => simp [intOf]; omega
    · have he : n = h := by omega
      subst he
      go_wp2
      go_ret
      exact ⟨rfl, hbl⟩
end Go.Proofs.YtghjpanabphbpaaDoor

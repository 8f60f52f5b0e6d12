/-
  The first sound number: two places are always enough (plain facts).
-/
import Derived.Test.YtleifibbdjplbaaDoorSlZs
namespace Go.Proofs.YtleifibbdjplbaaDoor

/-- The number n below 100 as a text of L places. -/
def nT (L n : Nat) : List UInt8 := putD (putD (zer L) (L - 2) (n / 10)) (L - 1) (n % 10)
theorem nT_len (L n : Nat) (h : 2 ≤ L) : (nT L n).length = L := by
  have h0 : (zer L).length = L := by simp [zer]
  have h1 : (putD (zer L) (L - 2) (n / 10)).length = L := by rw [putD_len _ _ _ (by omega), h0]
  unfold nT
  rw [putD_len _ _ _ (by omega), h1]
theorem nT_dig (L n : Nat) (h : n < 100) : digB (nT L n) = true := putD_dig _ _ _ (by omega) (putD_dig _ _ _ (by omega) (zer_dig _))
theorem nT_sum (xs : List Int) (n : Nat) (h : 2 ≤ xs.length) (hn : n < 100) : wsk xs (nT xs.length n) xs.length = xs.getD (xs.length - 2) 0 * ((n / 10 : Nat) : Int) + xs.getD (xs.length - 1) 0 * ((n % 10 : Nat) : Int) := by
  have h0 : (zer xs.length).length = xs.length := by simp [zer]
  have h1 : (putD (zer xs.length) (xs.length - 2) (n / 10)).length = xs.length := by rw [putD_len _ _ _ (by omega), h0]
  unfold nT
  rw [wsk_putD _ _ _ _ _ (by omega) (by omega), wsk_putD _ _ _ _ _ (by omega) (by omega), zer_wsk, if_pos (by omega), if_pos (by omega), zer_dgt, dgt_putD _ _ _ _ (by omega) (by omega), if_neg (by omega), zer_dgt, Int.sub_zero, Int.sub_zero, Int.zero_add]
def exB : Bool := (List.range 12).all fun m => decide (m < 2) || (List.range m).all fun a => (List.range m).all fun b => (List.range 100).any fun n => decide (1 ≤ n) && decide ((a * (n / 10) + b * (n % 10)) % m = 0)
theorem exB_yes : exB = true := by kernel_rfl
theorem ex_two (m a b : Nat) (h2 : 2 ≤ m) (h11 : m ≤ 11) (ha : a < m) (hb : b < m) : ∃ n, 1 ≤ n ∧ n < 100 ∧ (a * (n / 10) + b * (n % 10)) % m = 0 := by
  have h := exB_yes
  unfold exB at h
  rw [List.all_eq_true] at h
  have h1 := h m (List.mem_range.2 (by omega))
  rw [Bool.or_eq_true, decide_eq_true_eq] at h1
  rcases h1 with h1 | h1
  · omega
  · rw [List.all_eq_true] at h1
    have h3 := h1 a (List.mem_range.2 ha)
    rw [List.all_eq_true] at h3
    have h4 := h3 b (List.mem_range.2 hb)
    rw [List.any_eq_true] at h4
    obtain ⟨n, hn, h5⟩ := h4
    rw [Bool.and_eq_true, decide_eq_true_eq, decide_eq_true_eq] at h5
    exact ⟨n, h5.1, List.mem_range.1 hn, h5.2⟩
/-- A sound number below 100 that isn't 0. -/
theorem ex_sound (xs : List Int) (m : Int) (h2 : 2 ≤ xs.length) (ho : CkOk xs m) : ∃ n : Nat, 1 ≤ n ∧ n < 100 ∧ sndB xs m (nT xs.length n) = true := by
  have ha := ho.x (xs.length - 2) (by omega)
  have hb := ho.x (xs.length - 1) (by omega)
  obtain ⟨M, rfl⟩ : ∃ M : Nat, m = M := ⟨m.toNat, by have := ho.m2; omega⟩
  obtain ⟨a, hA⟩ : ∃ a : Nat, xs.getD (xs.length - 2) 0 = a := ⟨(xs.getD (xs.length - 2) 0).toNat, by omega⟩
  obtain ⟨b, hB⟩ : ∃ b : Nat, xs.getD (xs.length - 1) 0 = b := ⟨(xs.getD (xs.length - 1) 0).toNat, by omega⟩
  obtain ⟨n, h1, h100, hn⟩ := ex_two M a b (by have := ho.m2; omega) (by have := ho.m11; omega) (by omega) (by omega)
  refine ⟨n, h1, h100, ?_⟩
  have hs := nT_sum xs n h2 h100
  rw [hA, hB] at hs
  unfold sndB wsum
  rw [hs]
  have : ((a : Int) * ((n / 10 : Nat) : Int) + (b : Int) * ((n % 10 : Nat) : Int)) % (M : Int) = 0 := by exact_mod_cast hn
  simpa using this
/-- The first one. -/
theorem first_least (P : Nat → Prop) [DecidablePred P] {n : Nat} (h1 : 1 ≤ n) (hn : P n) : ∃ k, 1 ≤ k ∧ k ≤ n ∧ P k ∧ ∀ j, 1 ≤ j → j < k → ¬ P j := by
  induction n using Nat.strongRecOn with
  | _ n ih =>
    by_cases h : ∃ j, 1 ≤ j ∧ j < n ∧ P j
    · obtain ⟨j, hj1, hjn, hj⟩ := h
      obtain ⟨k, hk1, hkj, hk, hl⟩ := ih j hjn hj1 hj
      exact ⟨k, hk1, by omega, hk, hl⟩
    · exact ⟨n, h1, Nat.le_refl _, hn, fun j hj hjn hp => h ⟨j, hj, hjn, hp⟩⟩
end Go.Proofs.YtleifibbdjplbaaDoor

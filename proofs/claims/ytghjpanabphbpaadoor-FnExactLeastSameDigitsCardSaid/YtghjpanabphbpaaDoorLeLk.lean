/-
  Least numbers: the least order of digits in which no zero stands in front.
-/
import Derived.Test.YtghjpanabphbpaaDoorLeGs
namespace Go.Proofs.YtghjpanabphbpaaDoor

/-- The place of the first one that is no zero, or the last place. -/
structure KIs (r : Nat → Int) (m k : Nat) : Prop where
  lt : k < m
  zero : ∀ j, j < k → r j = 0
  stop : k + 1 = m ∨ r k ≠ 0
theorem KIs.uniq {r q : Nat → Int} {m k l : Nat} (h : ∀ j, j < m → r j = q j) (u : KIs r m k) (v : KIs q m l) : k = l := by
  rcases Nat.lt_trichotomy k l with e | e | e
  · have h1 := v.zero k e
    rw [← h k u.lt] at h1
    have := v.lt
    rcases u.stop with c | c
    · omega
    · exact (c h1).elim
  · exact e
  · have h1 := u.zero l e
    rw [h l v.lt] at h1
    have := u.lt
    rcases v.stop with c | c
    · omega
    · exact (c h1).elim
theorem cw_zeros {r : Nat → Int} (hb : ∀ j, 0 ≤ r j) (m : Nat) : Srt r 0 m → ∃ z : Nat, z ≤ m ∧ cw r m 0 = z ∧ (∀ j, j < z → r j = 0) ∧ ∀ j, z ≤ j → j < m → r j ≠ 0 := by
  induction m with
  | zero => intro _; exact ⟨0, Nat.le_refl _, rfl, fun j hj => by omega, fun j _ hj => by omega⟩
  | succ m ih =>
    intro hs
    obtain ⟨z, h1, h2, h3, h4⟩ := ih (fun j a b => hs j a (by omega))
    by_cases e : r m = 0
    · have hz : z = m := by
        by_cases c : z = m
        · exact c
        · have a := h4 z (Nat.le_refl _) (by omega)
          have b := hs.last (m - z) z (by omega)
          have d := hb z
          omega
      subst hz
      refine ⟨z + 1, Nat.le_refl _, by rw [cw, h2, if_pos e]; push_cast; rfl, fun j hj => ?_, fun j a b => by omega⟩
      by_cases c : j = z
      · subst c; exact e
      · exact h3 j (by omega)
    · refine ⟨z, by omega, by rw [cw, h2, if_neg e]; omega, h3, fun j a b => ?_⟩
      by_cases c : j = m
      · subst c; exact e
      · exact h4 j a (by omega)
theorem byL_count {r : Nat → Int} (hb : ∀ j, 0 ≤ r j ∧ r j ≤ 9) (m : Nat) : ((byL m (fun j => 48 + r j)).count 48 : Int) = cw r m 0 := by
  induction m with
  | zero => rfl
  | succ m ih =>
    have := hb m
    rw [byL_snoc, List.count_append, cw, ← ih]
    by_cases e : r m = 0
    · rw [if_pos e, e]; rfl
    · rw [if_neg e]
      have hne : UInt8.ofNat (48 + r m).toNat ≠ 48 := fun h => by
        have h2 := congrArg UInt8.toNat h
        simp at h2; omega
      have e0 : List.count 48 [UInt8.ofNat (48 + r m).toNat] = 0 := by
        rw [List.count_eq_zero]; intro h; exact hne (List.mem_singleton.1 h).symm
      rw [e0]; simp
theorem byL_least {r : Nat → Int} {m k : Nat} (h : KIs r m k) :
    (((byL m (fun j => 48 + r j)).take (k + 1)).drop k ++ (byL m (fun j => 48 + r j)).take k) ++ (byL m (fun j => 48 + r j)).drop (k + 1) = byL m (fun j => 48 + xch r 0 k j) := by
  have hk := h.lt
  have hl := byL_len m (fun j => 48 + r j)
  apply List.ext_getElem
  · simp [byL]; omega
  · intro i h1 h2
    rw [byL_len] at h2
    have hg : ∀ (g : Nat → Int) (j : Nat) (hj : j < (byL m g).length), (byL m g)[j] = UInt8.ofNat (g j).toNat := fun g j hj => by simp [byL]
    rw [hg]
    by_cases c0 : i = 0
    · subst c0
      rw [List.getElem_append_left (by simp [byL]; omega), List.getElem_append_left (by simp [byL]; omega), List.getElem_drop, List.getElem_take, hg]
      unfold xch; simp
    · by_cases c1 : i ≤ k
      · rw [List.getElem_append_left (by simp [byL]; omega), List.getElem_append_right (by simp [byL]; omega), List.getElem_take, hg]
        have e : (List.drop k (List.take (k + 1) (byL m fun j => 48 + r j))).length = 1 := by simp [byL]; omega
        have z1 := h.zero (i - 1) (by omega)
        have e2 : xch r 0 k i = 0 := by
          unfold xch
          rw [if_neg c0]
          split
          · exact h.zero 0 (by omega)
          · exact h.zero i (by omega)
        simp only [e, z1, e2]
      · rw [List.getElem_append_right (by simp [byL]; omega), List.getElem_drop, hg]
        have e2 : xch r 0 k i = r i := by unfold xch; rw [if_neg c0, if_neg (by omega)]
        have e3 : k + 1 + (i - (List.drop k (List.take (k + 1) (byL m fun j => 48 + r j)) ++ List.take k (byL m fun j => 48 + r j)).length) = i := by simp [byL]; omega
        rw [e2]
        simp only [e3]
end Go.Proofs.YtghjpanabphbpaaDoor

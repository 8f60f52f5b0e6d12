/-
  Least numbers: the next and the last number with the same sum, by ranks and by digits. Nothing of the program.
-/
import Derived.Test.YtghjpanabphbpabDoorLeFv
namespace Go.Proofs.YtghjpanabphbpabDoor

/-- The next one with the digit sum of n, if there is one; the last one before it. -/
def NextSum (n : Nat) (h : Int) (ok : Bool) : Prop :=
  (ok = true ∧ ∃ k : Nat, h = (k : Int) ∧ n < k ∧ k ≤ 1000000000000 ∧ ds k = ds n ∧ ∀ x, n < x → x < k → ds x ≠ ds n) ∨ (ok = false ∧ h = 0 ∧ ∀ x, n < x → x ≤ 1000000000000 → ds x ≠ ds n)
def LastSum (n : Nat) (h : Int) (ok : Bool) : Prop :=
  (ok = true ∧ ∃ k : Nat, h = (k : Int) ∧ k < n ∧ ds k = ds n ∧ ∀ x, k < x → x < n → ds x ≠ ds n) ∨ (ok = false ∧ h = 0 ∧ ∀ x, x < n → ds x ≠ ds n)
theorem NextSum.uniq {n : Nat} {h g : Int} {a b : Bool} (u : NextSum n h a) (v : NextSum n g b) : h = g ∧ a = b := by
  rcases u with ⟨rfl, k, rfl, u1, u2, u3, u4⟩ | ⟨rfl, rfl, u1⟩ <;> rcases v with ⟨rfl, l, rfl, v1, v2, v3, v4⟩ | ⟨rfl, rfl, v1⟩
  · refine ⟨?_, rfl⟩
    rcases Nat.lt_trichotomy k l with e | e | e
    · exact absurd u3 (v4 k u1 e)
    · rw [e]
    · exact absurd v3 (u4 l v1 e)
  · exact absurd u3 (v1 k u1 u2)
  · exact absurd v3 (u1 l v1 v2)
  · exact ⟨rfl, rfl⟩
theorem LastSum.uniq {n : Nat} {h g : Int} {a b : Bool} (u : LastSum n h a) (v : LastSum n g b) : h = g ∧ a = b := by
  rcases u with ⟨rfl, k, rfl, u1, u3, u4⟩ | ⟨rfl, rfl, u1⟩ <;> rcases v with ⟨rfl, l, rfl, v1, v3, v4⟩ | ⟨rfl, rfl, v1⟩
  · refine ⟨?_, rfl⟩
    rcases Nat.lt_trichotomy k l with e | e | e
    · exact absurd v3 (u4 l e v1)
    · rw [e]
    · exact absurd u3 (v4 k e u1)
  · exact absurd u3 (v1 k u1)
  · exact absurd v3 (u1 l v1)
  · exact ⟨rfl, rfl⟩
theorem ds_0 : ds 0 = 0 := dsk_0 13
theorem dsk_pos (k : Nat) : ∀ n, 0 < n → n < 10 ^ k → 0 < dsk k n := by
  induction k with
  | zero => intro n h1 h2; simp at h2; omega
  | succ k ih =>
    intro n h1 h2
    rw [dsk]
    have hp := pow_p k
    have h3 := Nat.div_add_mod n (10 ^ k)
    by_cases h : n / 10 ^ k = 0
    · rw [h] at h3
      have := ih (n % 10 ^ k) (by omega) (Nat.mod_lt _ hp)
      omega
    · exact Nat.lt_of_lt_of_le (Nat.pos_of_ne_zero h) (Nat.le_add_right _ _)
theorem ds_pos {n : Nat} (h : 0 < n) (h2 : n ≤ 1000000000000) : 0 < ds n := dsk_pos 13 n h (by omega)
theorem uc_own {n : Nat} (h : 0 < n) (h2 : n ≤ 1000000000000) : uc (ds n : Int) ((n - 1 : Nat) : Int) = uc (ds n : Int) n - 1 := by
  have := uc_step (n := n - 1) (ds n : Int) (by omega)
  rw [show n - 1 + 1 = n by omega, if_pos rfl, show ((n - 1 : Nat) : Int) + 1 = (n : Int) by omega] at this
  omega
theorem uc_nn (s : Int) {n : Nat} (h2 : n ≤ 1000000000000) : 0 ≤ uc s n := by
  have := uc_mono (s := s) (a := 0) (b := (n : Int)) (by omega) (by omega)
  rw [uc_zero] at this; exact this
/-- The program's search, forward. -/
theorem next_of {n : Nat} (hn : n ≤ 1000000000000) {h : Int} {ok : Bool} {p : Int → Bool} (hp : ∀ x, p x = decide (uc (ds n : Int) n < uc (ds n : Int) x)) (u : LeastIs p 1 1000000000000 h ok) : NextSum n h ok := by
  rcases u with ⟨rfl, u1, u2, u3, u4⟩ | ⟨rfl, rfl, u1⟩
  · obtain ⟨k, rfl⟩ : ∃ k : Nat, h = (k : Int) := ⟨h.toNat, by omega⟩
    rw [hp, decide_eq_true_iff] at u3
    have hnk : n < k := by
      rcases Nat.lt_or_ge n k with e | e
      · exact e
      · have := uc_mono (s := (ds n : Int)) (a := (k : Int)) (b := (n : Int)) (by omega) (by omega); omega
    have hbet : ∀ x, n < x → x < k → ds x ≠ ds n := fun x h1 h2 h3 => by
      have h4 := u4 (x : Int) (by omega) (by omega)
      rw [hp, decide_eq_false_iff_not] at h4
      exact h4 ((uc_more (a := n) (b := x) (ds n : Int) (by omega) (by omega)).2 ⟨x, h1, Nat.le_refl _, by omega⟩)
    obtain ⟨x, h1, h2, h3⟩ := (uc_more (a := n) (b := k) (ds n : Int) (by omega) (by omega)).1 u3
    have hx : x = k := by
      rcases Nat.lt_or_ge x k with e | e
      · exact absurd (by omega) (hbet x h1 e)
      · omega
    subst hx
    exact .inl ⟨rfl, x, rfl, hnk, by omega, by omega, hbet⟩
  · refine .inr ⟨rfl, rfl, fun x h1 h2 h3 => ?_⟩
    have h4 := u1 (x : Int) (by omega) (by omega)
    rw [hp, decide_eq_false_iff_not] at h4
    exact h4 ((uc_more (a := n) (b := x) (ds n : Int) (by omega) (by omega)).2 ⟨x, h1, Nat.le_refl _, by omega⟩)
/-- .. and backward. -/
theorem last_no {n : Nat} (hn : n ≤ 1000000000000) (h : uc (ds n : Int) n - 1 - 1 < 0) : LastSum n 0 false := by
  refine .inr ⟨rfl, rfl, fun x h1 h2 => ?_⟩
  rcases Nat.eq_zero_or_pos x with e | e
  · subst e
    rw [ds_0] at h2
    have := ds_pos h1 hn
    omega
  · have h3 := uc_own (n := n) (by omega) hn
    have h4 := (uc_more (a := 0) (b := n - 1) (ds n : Int) (by omega) (by omega)).2 ⟨x, e, by omega, by omega⟩
    rw [show ((0 : Nat) : Int) = 0 from rfl, uc_zero] at h4
    omega
theorem last_of {n : Nat} (hn : n ≤ 1000000000000) (h0 : 0 ≤ uc (ds n : Int) n - 1 - 1) {h : Int} {ok : Bool} {p : Int → Bool} (hp : ∀ x, p x = decide (uc (ds n : Int) n - 1 - 1 < uc (ds n : Int) x)) (u : LeastIs p 1 1000000000000 h ok) : LastSum n h ok := by
  have hn0 : 0 < n := by
    rcases Nat.eq_zero_or_pos n with e | e
    · subst e; rw [show ((0 : Nat) : Int) = 0 from rfl, uc_zero] at h0; omega
    · exact e
  have h1 := uc_own hn0 hn
  have hn1 : 1 ≤ n - 1 := by
    rcases Nat.eq_zero_or_pos (n - 1) with e | e
    · rw [e, show ((0 : Nat) : Int) = 0 from rfl, uc_zero] at h1; omega
    · exact e
  rcases u with ⟨rfl, u1, u2, u3, u4⟩ | ⟨rfl, rfl, u1⟩
  · obtain ⟨k, rfl⟩ : ∃ k : Nat, h = (k : Int) := ⟨h.toNat, by omega⟩
    rw [hp, decide_eq_true_iff] at u3
    have hk : k ≤ n - 1 := by
      rcases Nat.lt_or_ge (n - 1) k with e | e
      · have := u4 ((n - 1 : Nat) : Int) (by omega) (by omega)
        rw [hp, decide_eq_false_iff_not] at this
        omega
      · exact e
    have hm : uc (ds n : Int) ((k - 1 : Nat) : Int) < uc (ds n : Int) (k : Int) := by
      rcases Nat.eq_zero_or_pos (k - 1) with e | e
      · rw [e, show ((0 : Nat) : Int) = 0 from rfl, uc_zero]; omega
      · have := u4 ((k - 1 : Nat) : Int) (by omega) (by omega)
        rw [hp, decide_eq_false_iff_not] at this
        omega
    obtain ⟨x, a1, a2, a3⟩ := (uc_more (a := k - 1) (b := k) (ds n : Int) (by omega) (by omega)).1 hm
    have hx : x = k := by omega
    subst hx
    have hmono := uc_mono (s := (ds n : Int)) (a := (x : Int)) (b := ((n - 1 : Nat) : Int)) (by omega) (by omega)
    refine .inl ⟨rfl, x, rfl, by omega, by omega, fun y b1 b2 b3 => ?_⟩
    have := (uc_more (a := x) (b := n - 1) (ds n : Int) hk (by omega)).2 ⟨y, b1, by omega, by omega⟩
    omega
  · have := u1 ((n - 1 : Nat) : Int) (by omega) (by omega)
    rw [hp, decide_eq_false_iff_not] at this
    omega
/-- The model's answers. -/
theorem model_next {n p : Nat} (hp : p < 13) (hn : n ≤ 1000000000000) (hM : Mx n p) (h9 : n / 10 ^ p % 10 < 9) (hr : 0 < dsk p (n % 10 ^ p)) :
    ((n / 10 ^ p + 1) * 10 ^ p + fv (dsk p (n % 10 ^ p) - 1) p ≤ 1000000000000 → NextSum n (((n / 10 ^ p + 1) * 10 ^ p + fv (dsk p (n % 10 ^ p) - 1) p : Nat) : Int) true) ∧
    (1000000000000 < (n / 10 ^ p + 1) * 10 ^ p + fv (dsk p (n % 10 ^ p) - 1) p → NextSum n 0 false) := by
  obtain ⟨h1, h2, h3, h4⟩ := near_next hp (by omega) hM h9 hr
  exact ⟨fun h => .inl ⟨rfl, _, rfl, h1, h, h3, h4⟩, fun h => .inr ⟨rfl, rfl, fun x a b => h4 x a (by omega)⟩⟩
theorem model_next_no {n : Nat} (hn : n ≤ 1000000000000) (hM : Mx n 13) : NextSum n 0 false :=
  .inr ⟨rfl, rfl, fun x a b => none_next (by omega) hM x a (by omega)⟩
theorem model_last {n p : Nat} (hp : p < 13) (hn : n ≤ 1000000000000) (hM : Mn n p) (h0 : 0 < n / 10 ^ p % 10) (hr : dsk p (n % 10 ^ p) < 9 * p) :
    LastSum n (((n / 10 ^ p - 1) * 10 ^ p + gv (dsk p (n % 10 ^ p) + 1) p : Nat) : Int) true := by
  obtain ⟨h1, h3, h4⟩ := near_last hp (by omega) hM h0 hr
  exact .inl ⟨rfl, _, rfl, h1, h3, fun x a b => h4 x b a⟩
theorem model_last_no {n : Nat} (hn : n ≤ 1000000000000) (hM : Mn n 13) : LastSum n 0 false :=
  .inr ⟨rfl, rfl, fun x a => none_last (by omega) hM x a⟩
end Go.Proofs.YtghjpanabphbpabDoor

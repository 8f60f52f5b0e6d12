/-
  Least numbers: rows in order. Nothing of the program.
-/
import Derived.Test.YtghjpanabphbpaaDoorLeNo
namespace Go.Proofs.YtghjpanabphbpaaDoor

/-- How often c stands among the first n. -/
def cw (f : Nat → Int) : Nat → Int → Int
  | 0, _ => 0
  | n + 1, c => cw f n c + if f n = c then 1 else 0
theorem cw_same {f g : Nat → Int} {n : Nat} (h : ∀ j, j < n → f j = g j) (c : Int) : cw f n c = cw g n c := by
  induction n with
  | zero => rfl
  | succ n ih => rw [cw, cw, ih (fun j hj => h j (by omega)), h n (by omega)]
theorem cw_put {f : Nat → Int} {n i : Nat} (h : i < n) (x c : Int) : cw (fun j => if j = i then x else f j) n c = cw f n c - (if f i = c then 1 else 0) + (if x = c then 1 else 0) := by
  induction n with
  | zero => omega
  | succ n ih =>
    rw [cw, cw]
    by_cases e : i = n
    · subst e
      rw [cw_same (g := f) (fun j hj => if_neg (by omega)), if_pos rfl]; omega
    · rw [ih (by omega), if_neg (show ¬ n = i by omega)]; omega
theorem cw_xch {f : Nat → Int} {n k o : Nat} (hk : k < n) (ho : o < n) (hne : k ≠ o) (c : Int) : cw (xch f k o) n c = cw f n c := by
  have e : xch f k o = fun j => if j = k then f o else (fun i => if i = o then f k else f i) j := rfl
  rw [e, cw_put hk, cw_put ho]
  show _ - (if (if k = o then f k else f k) = c then 1 else 0) + _ = _
  rw [if_neg hne]; omega
theorem cw_nn (f : Nat → Int) (n : Nat) (c : Int) : 0 ≤ cw f n c := by
  induction n with
  | zero => exact Int.le_refl _
  | succ n ih => rw [cw]; split <;> omega
theorem cw_pos {f : Nat → Int} {n j : Nat} (h : j < n) : 1 ≤ cw f n (f j) := by
  induction n with
  | zero => omega
  | succ n ih =>
    rw [cw]
    have := cw_nn f n (f j)
    by_cases e : j = n
    · subst e; rw [if_pos rfl]; omega
    · have := ih (by omega); split <;> omega
theorem cw_zero {f : Nat → Int} {n : Nat} {c : Int} (h : ∀ j, j < n → f j ≠ c) : cw f n c = 0 := by
  induction n with
  | zero => rfl
  | succ n ih => rw [cw, ih (fun j hj => h j (by omega)), if_neg (h n (by omega))]; rfl
/-- From a to b they never fall. -/
def Srt (f : Nat → Int) (a b : Nat) : Prop := ∀ j, a ≤ j → j + 1 < b → f j ≤ f (j + 1)
theorem Srt.last {f : Nat → Int} {n : Nat} (h : Srt f 0 (n + 1)) : ∀ d j, j + d = n → f j ≤ f n := by
  intro d
  induction d with
  | zero => intro j hj; have : j = n := by omega
            subst this; exact Int.le_refl _
  | succ d ih => intro j hj; exact Int.le_trans (h j (by omega) (by omega)) (ih (j + 1) (by omega))
theorem Srt.uniq {f g : Nat → Int} {n : Nat} : Srt f 0 n → Srt g 0 n → (∀ c, cw f n c = cw g n c) → ∀ j, j < n → f j = g j := by
  induction n with
  | zero => intro _ _ _ j hj; omega
  | succ n ih =>
    intro hf hg hc j hj
    have hn : f n = g n := by
      rcases Int.lt_trichotomy (f n) (g n) with h | h | h
      · have h1 := cw_pos (f := g) (show n < n + 1 by omega)
        rw [← hc, cw_zero (fun j hj => by have := hf.last (n - j) j (by omega); omega)] at h1
        omega
      · exact h
      · have h1 := cw_pos (f := f) (show n < n + 1 by omega)
        rw [hc, cw_zero (fun j hj => by have := hg.last (n - j) j (by omega); omega)] at h1
        omega
    by_cases e : j = n
    · subst e; exact hn
    · refine ih (fun k h1 h2 => hf k h1 (by omega)) (fun k h1 h2 => hg k h1 (by omega)) (fun c => ?_) j (by omega)
      have := hc c
      rw [cw, cw, hn] at this; omega
/-- Of those from a to i all stand in order but the one at j, which may be too far up. -/
structure Ins (f : Nat → Int) (a i j : Nat) : Prop where
  le : a ≤ j
  hi : j ≤ i
  ok : ∀ k, a ≤ k → k < i → k + 1 ≠ j → f k ≤ f (k + 1)
  ov : a < j → j < i → f (j - 1) ≤ f (j + 1)
theorem Ins.start {f : Nat → Int} {a i : Nat} (h : Srt f a i) (ha : a ≤ i) : Ins f a i i := ⟨ha, Nat.le_refl _, fun k h1 h2 h3 => h k h1 (by omega), fun _ h => by omega⟩
theorem Ins.step {f : Nat → Int} {a i j : Nat} (h : Ins f a i (j + 1)) (ha : a < j + 1) (hlt : f (j + 1) < f j) : Ins (xch f (j + 1) j) a i j := by
  have hi := h.hi
  have x1 : xch f (j + 1) j (j + 1) = f j := by unfold xch; rw [if_pos rfl]
  have x2 : xch f (j + 1) j j = f (j + 1) := by unfold xch; rw [if_neg (by omega), if_pos rfl]
  have x3 : ∀ k, k ≠ j → k ≠ j + 1 → xch f (j + 1) j k = f k := fun k h1 h2 => by unfold xch; rw [if_neg h2, if_neg h1]
  refine ⟨by omega, by omega, fun k h1 h2 h3 => ?_, fun h1 h2 => ?_⟩
  · by_cases e1 : k = j
    · subst e1; rw [x1, x2]; omega
    · by_cases e2 : k = j + 1
      · subst e2; rw [x1, x3 _ (by omega) (by omega)]
        have := h.ov (by omega) (by omega)
        rwa [Nat.add_sub_cancel] at this
      · rw [x3 _ e1 e2, x3 _ (by omega) (by omega)]
        exact h.ok k h1 h2 (by omega)
  · obtain ⟨p, rfl⟩ : ∃ p, j = p + 1 := ⟨j - 1, by omega⟩
    rw [Nat.add_sub_cancel, x3 p (by omega) (by omega), x1]
    exact h.ok p (by omega) (by omega) (by omega)
theorem Ins.done {f : Nat → Int} {a i j : Nat} (h : Ins f a i j) (hd : j = a ∨ f (j - 1) ≤ f j) : Srt f a (i + 1) := fun k h1 h2 => by
  by_cases e : k + 1 = j
  · rcases hd with hd | hd
    · omega
    · rw [← e, Nat.add_sub_cancel] at hd; exact hd
  · exact h.ok k h1 (by omega) e
end Go.Proofs.YtghjpanabphbpaaDoor

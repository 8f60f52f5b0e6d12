/-
  Least numbers: digits gathered in order. Nothing of the program.
-/
import Derived.Test.YtghjpanabphbpaaDoorLeSo
namespace Go.Proofs.YtghjpanabphbpaaDoor

def gx (xs : List Int) (j : Nat) : Int := xs.getD j 0
theorem gx_lt {xs : List Int} {y : Int} {j : Nat} (h : j < xs.length) : gx (xs ++ [y]) j = gx xs j := by
  unfold gx; rw [List.getD_eq_getElem?_getD, List.getD_eq_getElem?_getD, List.getElem?_append_left h]
theorem gx_eq {xs : List Int} {y : Int} : gx (xs ++ [y]) xs.length = y := by
  unfold gx; rw [List.getD_eq_getElem?_getD, List.getElem?_append_right (Nat.le_refl _), Nat.sub_self]; rfl
/-- How many of the first n are less than d. -/
def cl (f : Nat → Int) : Nat → Int → Int
  | 0, _ => 0
  | n + 1, d => cl f n d + if f n < d then 1 else 0
theorem cl_up (f : Nat → Int) (n : Nat) (d : Int) : cl f n (d + 1) = cl f n d + cw f n d := by
  induction n with
  | zero => rfl
  | succ n ih =>
    rw [cl, cl, cw, ih]
    by_cases h : f n = d
    · rw [if_pos h, if_pos (by omega), if_neg (by omega)]; omega
    · rw [if_neg h]
      by_cases h2 : f n < d
      · rw [if_pos h2, if_pos (by omega)]; omega
      · rw [if_neg h2, if_neg (by omega)]; omega
theorem cl_0 {f : Nat → Int} (h : ∀ j, 0 ≤ f j) (n : Nat) : cl f n 0 = 0 := by
  induction n with
  | zero => rfl
  | succ n ih => have := h n; rw [cl, ih, if_neg (by omega)]; rfl
theorem cl_10 {f : Nat → Int} (h : ∀ j, f j ≤ 9) (n : Nat) : cl f n 10 = n := by
  induction n with
  | zero => rfl
  | succ n ih => have := h n; rw [cl, ih, if_pos (by omega)]; push_cast; rfl
structure SoL (f : Nat → Int) (m : Nat) (xs : List Int) (d k : Nat) : Prop where
  len : (xs.length : Int) = cl f m d + cw f k d
  cnt : ∀ c : Int, cw (gx xs) xs.length c = if c < d then cw f m c else if c = d then cw f k d else 0
  top : ∀ j, j < xs.length → gx xs j ≤ d
  srt : Srt (gx xs) 0 xs.length
theorem SoL.start {f : Nat → Int} (h : ∀ j, 0 ≤ f j) (m : Nat) : SoL f m [] 0 0 := by
  refine ⟨by rw [show ((0 : Nat) : Int) = 0 from rfl, cl_0 h]; rfl, fun c => ?_, fun j hj => by simp at hj, fun j h1 h2 => by simp at h2⟩
  show (0 : Int) = _
  split
  · rw [cw_zero (fun j _ => by have := h j; omega)]
  · split <;> rfl
theorem SoL.hit {f : Nat → Int} {m : Nat} {xs : List Int} {d k : Nat} (h : SoL f m xs d k) (e : f k = d) : SoL f m (xs ++ [(d : Int)]) d (k + 1) := by
  have hl : (xs ++ [(d : Int)]).length = xs.length + 1 := by simp
  refine ⟨by rw [hl, cw, if_pos e]; have := h.len; push_cast; omega, fun c => ?_, fun j hj => ?_, fun j h1 h2 => ?_⟩
  · rw [hl, cw, gx_eq, cw_same (g := gx xs) (fun j hj => gx_lt hj), h.cnt, cw, if_pos e]
    by_cases h1 : c < d
    · rw [if_pos h1, if_pos h1, if_neg (by omega)]; omega
    · rw [if_neg h1, if_neg h1]
      by_cases h2 : c = d
      · rw [if_pos h2, if_pos h2, if_pos h2.symm]
      · rw [if_neg h2, if_neg h2, if_neg (by omega)]; rfl
  · rw [hl] at hj
    by_cases e2 : j = xs.length
    · subst e2; rw [gx_eq]; exact Int.le_refl _
    · rw [gx_lt (by omega)]; exact h.top j (by omega)
  · rw [hl] at h2
    by_cases e2 : j + 1 = xs.length
    · rw [e2, gx_eq, gx_lt (by omega)]; exact h.top j (by omega)
    · rw [gx_lt (by omega), gx_lt (by omega)]; exact h.srt j h1 (by omega)
theorem SoL.miss {f : Nat → Int} {m : Nat} {xs : List Int} {d k : Nat} (h : SoL f m xs d k) (e : f k ≠ d) : SoL f m xs d (k + 1) :=
  ⟨by rw [cw, if_neg e]; have := h.len; omega, fun c => by rw [h.cnt, cw, if_neg e, Int.add_zero], h.top, h.srt⟩
theorem SoL.next {f : Nat → Int} {m : Nat} {xs : List Int} {d : Nat} (h : SoL f m xs d m) : SoL f m xs (d + 1) 0 := by
  refine ⟨by have h1 := h.len; have h2 := cl_up f m d; push_cast; rw [h2]; show _ = _ + 0; omega, fun c => ?_, fun j hj => by have := h.top j hj; push_cast; omega, h.srt⟩
  rw [h.cnt]
  by_cases h1 : c < d
  · rw [if_pos h1, if_pos (by push_cast; omega)]
  · rw [if_neg h1]
    by_cases h2 : c = d
    · rw [if_pos h2, if_pos (by push_cast; omega), h2]
    · rw [if_neg h2, if_neg (by push_cast; omega)]
      split <;> rfl
theorem SoL.fin {f : Nat → Int} {m : Nat} {xs : List Int} (hb : ∀ j, 0 ≤ f j ∧ f j ≤ 9) (h : SoL f m xs 10 0) : xs.length = m ∧ Srt (gx xs) 0 m ∧ ∀ c, cw (gx xs) m c = cw f m c := by
  have hl : xs.length = m := by
    have h1 := h.len
    rw [show ((10 : Nat) : Int) = 10 from rfl, cl_10 (fun j => (hb j).2)] at h1
    have h2 : cw f 0 10 = 0 := rfl
    omega
  refine ⟨hl, by rw [← hl]; exact h.srt, fun c => ?_⟩
  have h1 := h.cnt c
  rw [hl] at h1
  rw [h1]
  split
  · rfl
  · rw [cw_zero (f := f) (n := m) (fun j _ => by have := hb j; omega)]
    split <;> rfl
end Go.Proofs.YtghjpanabphbpaaDoor

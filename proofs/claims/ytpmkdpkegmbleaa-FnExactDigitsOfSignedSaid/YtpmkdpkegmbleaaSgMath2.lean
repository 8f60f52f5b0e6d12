/-
  Plain facts on the digits of signed digits; nothing of the program.
-/
import Derived.Test.YtpmkdpkegmbleaaSgMath
namespace Go.Proofs.Ytpmkdpkegmbleaa

/-- Each sign stands behind something that is none; whether one that is none was the last. -/
def pStep (s : Option Bool) (c : UInt8) : Option Bool :=
  match s with
  | none => none
  | some b => if sgB c then (if b then some false else none) else some true
def pSt (l : List UInt8) : Option Bool := l.foldl pStep (some false)
theorem pSt_snoc (l : List UInt8) (c : UInt8) : pSt (l ++ [c]) = pStep (pSt l) c := by simp [pSt, List.foldl_append]
theorem pSt_none_append (a b : List UInt8) (h : pSt a = none) : pSt (a ++ b) = none := by
  unfold pSt at *
  rw [List.foldl_append, h]
  induction b with
  | nil => rfl
  | cons c b ih => exact ih
/-- Signs and digits alone. -/
def sdB (l : List UInt8) : Bool := l.all (fun c => sgB c || dgB c)
theorem sdB_snoc (l : List UInt8) (c : UInt8) : sdB (l ++ [c]) = (sdB l && (sgB c || dgB c)) := by simp [sdB]
theorem snoc_ind {P : List UInt8 → Prop} (h0 : P []) (h1 : ∀ l c, P l → P (l ++ [c])) (l : List UInt8) : P l := by
  have : ∀ r : List UInt8, P r.reverse := by
    intro r
    induction r with
    | nil => exact h0
    | cons c r ih => rw [List.reverse_cons]; exact h1 _ _ ih
  have := this l.reverse
  rwa [List.reverse_reverse] at this
theorem okSt_eq (l : List UInt8) : okSt l = if sdB l then pSt l else none := by
  induction l using snoc_ind with
  | h0 => rfl
  | h1 l c ih =>
    rw [okSt_snoc, pSt_snoc, sdB_snoc, ih]
    cases h1 : sdB l with
    | false => simp [okStep]
    | true =>
      cases h2 : pSt l with
      | none => simp [okStep, pStep]
      | some b =>
        cases hs : sgB c with
        | true => cases b <;> simp [okStep, pStep, hs, sg_not_dg hs]
        | false => cases hd : dgB c <;> simp [okStep, pStep, hs, hd]
/-- What is no sign. -/
def nos (l : List UInt8) : List UInt8 := l.filter (fun c => !sgB c)
theorem nos_snoc (l : List UInt8) (c : UInt8) : nos (l ++ [c]) = if sgB c then nos l else nos l ++ [c] := by
  cases h : sgB c <;> simp [nos, h]
theorem digB_nos (l : List UInt8) : digB (nos l) = sdB l := by
  induction l using snoc_ind with
  | h0 => rfl
  | h1 l c ih =>
    rw [nos_snoc, sdB_snoc]
    cases h : sgB c with
    | true => simp [ih]
    | false => simp [digB_snoc, ih]
theorem nos_len (l : List UInt8) (h : sdB l = true) : (nos l).length = nDig l := by
  induction l using snoc_ind with
  | h0 => rfl
  | h1 l c ih =>
    rw [sdB_snoc] at h
    simp only [Bool.and_eq_true] at h
    rw [nos_snoc, nDig_snoc]
    cases hs : sgB c with
    | true => simp [sg_not_dg hs, ih h.1]
    | false =>
      have : dgB c = true := by have := h.2; rw [hs] at this; simpa using this
      simp [this, ih h.1]
/-- Some digits to sign. -/
def dgsB (l : List UInt8) : Bool := decide (1 ≤ (l.length : Int) ∧ (l.length : Int) ≤ 7) && digB l
theorem pSt_true_pos (l : List UInt8) (h : pSt l = some true) : 1 ≤ (nos l).length := by
  revert h
  induction l using snoc_ind with
  | h0 => intro h; simp [pSt] at h
  | h1 l c ih =>
    intro h
    rw [pSt_snoc] at h
    rw [nos_snoc]
    cases h2 : pSt l with
    | none => rw [h2] at h; simp [pStep] at h
    | some b =>
      rw [h2] at h
      cases hs : sgB c with
      | true => cases b <;> simp [pStep, hs] at h
      | false => simp
theorem sigB_of_pSt (l : List UInt8) (h : pSt l = some true) : dgsB (nos l) = sigB l := by
  unfold dgsB sigB
  rw [digB_nos, okSt_eq, h]
  have := pSt_true_pos l h
  cases e : sdB l with
  | false => simp
  | true =>
    rw [nos_len l e] at this ⊢
    have e1 : decide (1 ≤ (nDig l : Int) ∧ (nDig l : Int) ≤ 7) = decide (nDig l ≤ 7) := by
      rw [decide_eq_decide]; omega
    rw [e1]; simp
theorem sigB_no_pSt (l : List UInt8) (h : pSt l ≠ some true) : sigB l = false := by
  unfold sigB
  rw [okSt_eq]
  cases sdB l with
  | false => simp
  | true => simp; intro h'; exact absurd h' h
theorem pSt_last (l : List UInt8) (c : UInt8) (b : Bool) (h : pSt (l ++ [c]) = some b) : b = !sgB c := by
  rw [pSt_snoc] at h
  cases h2 : pSt l with
  | none => rw [h2] at h; simp [pStep] at h
  | some q =>
    rw [h2] at h
    cases hs : sgB c <;> cases q <;> simp [pStep, hs] at h <;> simp [h]
theorem okSt_len (l : List UInt8) (b : Bool) (h : okSt l = some b) : l.length + (if b then 1 else 0) ≤ 2 * nDig l := by
  revert b
  induction l using snoc_ind with
  | h0 => intro b h; have : b = false := by simpa [okSt] using h.symm
          subst this; simp [nDig]
  | h1 l c ih =>
    intro b h
    rw [okSt_snoc] at h
    rw [nDig_snoc]
    cases h2 : okSt l with
    | none => rw [h2] at h; simp [okStep] at h
    | some q =>
      rw [h2] at h
      have := ih q h2
      cases hd : dgB c with
      | true => simp [okStep, hd] at h; subst h; simp; omega
      | false =>
        cases hs : sgB c <;> cases q <;> simp [okStep, hd, hs] at h
        subst h; simp at *; omega
theorem sigB_long (l : List UInt8) (h : 14 < l.length) : sigB l = false := by
  unfold sigB
  cases e : okSt l with
  | none => simp
  | some b =>
    have := okSt_len l b e
    cases b with
    | false => simp
    | true => simp at this ⊢; omega
theorem sigB_okSt {l : List UInt8} (h : sigB l = true) : okSt l = some true ∧ nDig l ≤ 7 := by
  unfold sigB at h
  simpa using h
theorem sigB_len {l : List UInt8} (h : sigB l = true) : l.length ≤ 13 ∧ 1 ≤ l.length := by
  obtain ⟨h1, h2⟩ := sigB_okSt h
  have := okSt_len l true h1
  simp at this
  refine ⟨by omega, ?_⟩
  cases l with
  | nil => simp [okSt] at h1
  | cons c l => simp
theorem okSt_none_sig (a b : List UInt8) (h : okSt a = none) : sigB (a ++ b) = false := by
  unfold sigB; rw [okSt_none_append a b h]; rfl
theorem okSt_take (l : List UInt8) (k : Nat) (h : sigB l = true) : ∃ b, okSt (l.take k) = some b := by
  cases e : okSt (l.take k) with
  | some b => exact ⟨b, rfl⟩
  | none =>
    have := okSt_none_sig (l.take k) (l.drop k) e
    rw [List.take_append_drop, h] at this; cases this
theorem nDig_take (l : List UInt8) (k : Nat) : nDig (l.take k) ≤ nDig l := by
  have := nDig_append (l.take k) (l.drop k)
  rw [List.take_append_drop] at this; omega
theorem nSg_le (l : List UInt8) : nSg l ≤ l.length := by
  induction l with
  | nil => simp [nSg]
  | cons c l ih => simp only [nSg, List.length_cons]; split <;> omega
theorem nDig_le (l : List UInt8) : nDig l ≤ l.length := by
  induction l with
  | nil => simp [nDig]
  | cons c l ih => simp only [nDig, List.length_cons]; split <;> omega
end Go.Proofs.Ytpmkdpkegmbleaa

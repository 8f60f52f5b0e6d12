/-
  Plain facts on plates: counts by what is kept, for whatever test that is right on texts without a word; ranks; nothing of the program.
-/
import Derived.Test.YtaomcimmhlpflaaDoorPlDm
namespace Go.Proofs.YtaomcimmhlpflaaDoor

/-- In how many ways it goes on from what is kept; q: the test of a text that goes on by a sign. -/
def Gq (Ws : List (List UInt8)) (q : List UInt8 → Bool) : List (List UInt8) → List UInt8 → Nat
  | [], _ => 1
  | r :: rs, t => (r.map fun c => if q (t ++ [c]) = true then Gq Ws q rs (stt Ws (t ++ [c])) else 0).sum
/-- The test is right where no word stands yet. -/
def Right (Ws : List (List UInt8)) (q : List UInt8 → Bool) : Prop := ∀ t c, Free Ws t → (q (t ++ [c]) = true ↔ Free Ws (t ++ [c]))
theorem Gq_cnt {Ws : List (List UInt8)} {q : List UInt8 → Bool} (hq : Right Ws q) (rs : List (List UInt8)) : ∀ t, Free Ws t → Gq Ws q rs t = cnt Ws rs t := by
  induction rs with
  | nil => intro t hf; simp [Gq, cnt, hf]
  | cons r rs ih =>
    intro t hf
    rw [cnt_step hf]
    show (r.map _).sum = _
    congr 1
    apply List.map_congr_left
    intro c _
    unfold one
    by_cases h : Free Ws (t ++ [c])
    · rw [if_pos ((hq t c hf).2 h), if_pos h, ih _ (stt_free h)]
    · rw [if_neg (fun h' => h ((hq t c hf).1 h')), if_neg h]
theorem Gq_le (Ws : List (List UInt8)) (q : List UInt8 → Bool) (rs : List (List UInt8)) : ∀ t, (∀ r ∈ rs, r.length ≤ 26) → Gq Ws q rs t ≤ 26 ^ rs.length := by
  induction rs with
  | nil => intro t _; simp [Gq]
  | cons r rs ih =>
    intro t h
    have h1 := sum_le_mul r (fun c => if q (t ++ [c]) = true then Gq Ws q rs (stt Ws (t ++ [c])) else 0) (26 ^ rs.length) (fun c _ => by
      split
      · exact ih _ (fun r hr => h r (by simp [hr]))
      · exact Nat.zero_le _)
    have h2 := h r (by simp)
    have h3 := Nat.mul_le_mul_right (26 ^ rs.length) h2
    rw [List.length_cons, Nat.pow_succ, Nat.mul_comm]
    show (r.map _).sum ≤ _
    omega
/-- The model's test: no word stands in the text. -/
def qFree (Ws : List (List UInt8)) (t : List UInt8) : Bool := decide (Free Ws t)
theorem right_free (Ws : List (List UInt8)) : Right Ws (qFree Ws) := fun _ _ _ => by unfold qFree; rw [decide_eq_true_eq]
/-- The program's test: no word ends the text. -/
def qSuf (Ws : List (List UInt8)) (t : List UInt8) : Bool := !(Ws.any (fun w => w.isSuffixOf t))
theorem right_suf (Ws : List (List UInt8)) : Right Ws (qSuf Ws) := fun t c hf => by
  unfold qSuf
  rw [← free_suffix hf, decide_eq_true_eq]
theorem qSuf_no {Ws : List (List UInt8)} {t w : List UInt8} (hw : w ∈ Ws) (h : w <:+ t) : qSuf Ws t = false := by
  unfold qSuf
  rw [Bool.not_eq_false', List.any_eq_true]
  exact ⟨w, hw, List.isSuffixOf_iff_suffix.2 h⟩
theorem qSuf_yes {Ws : List (List UInt8)} {t : List UInt8} (h : ∀ w ∈ Ws, ¬ w <:+ t) : qSuf Ws t = true := by
  unfold qSuf
  rw [Bool.not_eq_true', List.any_eq_false]
  intro w hw
  rw [List.isSuffixOf_iff_suffix]
  exact h w hw
/-- How many texts come before one, among those that go on so; and the text of a rank: for two lists of words that spoil the same. -/
theorem rkD_words {Ws Vs : List (List UInt8)} (h : SameFree Ws Vs) (rs : List (List UInt8)) (t r : List UInt8) (b : UInt8) : rkD Ws rs t r b = rkD Vs rs t r b := by
  unfold rkD
  congr 1
  apply List.map_congr_left
  intro c _
  exact cnt_words h rs _
theorem rkU_words {Ws Vs : List (List UInt8)} (h : SameFree Ws Vs) (rs : List (List UInt8)) : ∀ t u, rkU Ws rs t u = rkU Vs rs t u := by
  induction rs with
  | nil => intro t u; cases u <;> rfl
  | cons r rs ih =>
    intro t u
    cases u with
    | nil => rfl
    | cons b u => simp only [rkU]; rw [rkD_words h, ih]
theorem rkd_words {Ws Vs : List (List UInt8)} (h : SameFree Ws Vs) (rs : List (List UInt8)) : ∀ t k, rkd Ws rs t k = rkd Vs rs t k := by
  induction rs with
  | nil => intro t k; rfl
  | cons r rs ih =>
    intro t k
    simp only [rkd]
    have e : (fun c => cnt Ws rs (t ++ [c])) = fun c => cnt Vs rs (t ++ [c]) := by funext c; exact cnt_words h rs _
    rw [e]
    cases pick (fun c => cnt Vs rs (t ++ [c])) r k with
    | none => rfl
    | some p => exact ih _ _
/-- Signs that count nothing may be left out of a choice. -/
theorem pick_filter (f : UInt8 → Nat) (p : UInt8 → Bool) (r : List UInt8) : ∀ k, (∀ c ∈ r, p c = false → f c = 0) → pick f r k = pick f (r.filter p) k := by
  induction r with
  | nil => intro k _; rfl
  | cons c r ih =>
    intro k h
    rw [List.filter_cons]
    by_cases hc : p c = true
    · rw [if_pos hc]
      simp only [pick]
      split
      · rfl
      · exact ih _ (fun d hd => h d (by simp [hd]))
    · rw [if_neg hc]
      have h0 := h c (by simp) (by simpa using hc)
      simp only [pick, h0, Nat.not_lt_zero, if_false, Nat.sub_zero]
      exact ih _ (fun d hd => h d (by simp [hd]))
theorem rkd_len {Ws : List (List UInt8)} (rs : List (List UInt8)) : ∀ t k, k < cnt Ws rs t → (rkd Ws rs t k).length = t.length + rs.length := by
  induction rs with
  | nil => intro t k _; simp [rkd]
  | cons r rs ih =>
    intro t k h
    have hf : Free Ws t := by
      by_cases hf : Free Ws t
      · exact hf
      · rw [cnt_no hf] at h; omega
    rw [cnt_cons hf] at h
    obtain ⟨c, k', h1, h2, h3⟩ := pick_some (fun c => cnt Ws rs (t ++ [c])) r k h
    simp only [rkd, h1]
    rw [ih _ _ h3]
    simp; omega
end Go.Proofs.YtaomcimmhlpflaaDoor

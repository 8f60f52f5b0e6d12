/-
  Plain facts on plates: words in texts, tails, and how many texts go on without a word; nothing of the program.
-/
import Derived.WalkKit
namespace Go.Proofs.YtaomcimmhlpflaaDoor

/-- No word stands in a text. -/
def Free (Ws : List (List UInt8)) (t : List UInt8) : Prop := ∀ w ∈ Ws, ¬ w <:+: t
instance (Ws : List (List UInt8)) (t : List UInt8) : Decidable (Free Ws t) := by unfold Free; infer_instance
theorem Free.infix {Ws : List (List UInt8)} {t u : List UInt8} (h : Free Ws t) (k : u <:+: t) : Free Ws u := fun w hw hi => h w hw (hi.trans k)
theorem free_snoc {Ws : List (List UInt8)} {t : List UInt8} (h : Free Ws t) (c : UInt8) : Free Ws (t ++ [c]) ↔ ∀ w ∈ Ws, ¬ w <:+ t ++ [c] := by
  constructor
  · intro k w hw hs; exact k w hw hs.isInfix
  · intro k w hw hi
    rcases List.infix_concat_iff.1 hi with h1 | h1
    · exact k w hw h1
    · exact h w hw h1
/-- Both go on in the same ways. -/
def Eqv (Ws : List (List UInt8)) (t u : List UInt8) : Prop := ∀ x, Free Ws (t ++ x) ↔ Free Ws (u ++ x)
theorem Eqv.refl (Ws : List (List UInt8)) (t : List UInt8) : Eqv Ws t t := fun _ => Iff.rfl
theorem Eqv.symm {Ws : List (List UInt8)} {t u : List UInt8} (h : Eqv Ws t u) : Eqv Ws u t := fun x => (h x).symm
theorem Eqv.trans {Ws : List (List UInt8)} {t u v : List UInt8} (h : Eqv Ws t u) (k : Eqv Ws u v) : Eqv Ws t v := fun x => (h x).trans (k x)
theorem Eqv.snoc {Ws : List (List UInt8)} {t u : List UInt8} (h : Eqv Ws t u) (c : UInt8) : Eqv Ws (t ++ [c]) (u ++ [c]) := by
  intro x
  have := h ([c] ++ x)
  rwa [← List.append_assoc, ← List.append_assoc] at this
theorem Eqv.free {Ws : List (List UInt8)} {t u : List UInt8} (h : Eqv Ws t u) : Free Ws t ↔ Free Ws u := by
  have := h []
  rwa [List.append_nil, List.append_nil] at this
/-- What is kept of a text: an end of it that bears all beginnings of words with which it ends. -/
def Tail (Ws : List (List UInt8)) (t u : List UInt8) : Prop := u <:+ t ∧ ∀ w ∈ Ws, ∀ p, p <+: w → p ≠ w → p <:+ t → p <:+ u
theorem tail_eqv {Ws : List (List UInt8)} {t u : List UInt8} (hf : Free Ws t) (h : Tail Ws t u) : Eqv Ws t u := by
  obtain ⟨⟨a0, ha0⟩, h2⟩ := h
  intro x
  constructor
  · intro k w hw hi
    refine k w hw (hi.trans ⟨a0, [], ?_⟩)
    rw [← ha0]; simp
  · intro k w hw hi
    obtain ⟨a, b, hab⟩ := hi
    rw [List.append_assoc] at hab
    rcases List.append_eq_append_iff.1 hab with ⟨p, hp1, hp2⟩ | ⟨q, hq1, hq2⟩
    · -- t = a ++ p, w ++ b = p ++ x
      rcases List.append_eq_append_iff.1 hp2 with ⟨r, hr1, hr2⟩ | ⟨r, hr1, hr2⟩
      · -- p = w ++ r
        exact hf w hw ⟨a, r, by rw [hp1, hr1, List.append_assoc]⟩
      · -- w = p ++ r, x = r ++ b
        by_cases hr : r = []
        · subst hr
          rw [List.append_nil] at hr1
          exact hf w hw ⟨a, [], by rw [hp1, hr1]; simp⟩
        · have hpw : p ≠ w := by
            intro e
            apply hr
            have := congrArg List.length hr1
            rw [e, List.length_append] at this
            exact List.eq_nil_of_length_eq_zero (by omega)
          obtain ⟨c, hc⟩ := h2 w hw p ⟨r, hr1.symm⟩ hpw ⟨a, hp1.symm⟩
          refine k w hw ⟨c, b, ?_⟩
          rw [← hc, hr1, hr2]; simp
    · -- a = t ++ q, x = q ++ (w ++ b)
      refine k w hw ⟨u ++ q, b, ?_⟩
      rw [hq2]; simp
/-- How many texts begin with one, go on by rows of signs, and have no word. -/
def cnt (Ws : List (List UInt8)) : List (List UInt8) → List UInt8 → Nat
  | [], t => if Free Ws t then 1 else 0
  | r :: rs, t => if Free Ws t then (r.map fun c => cnt Ws rs (t ++ [c])).sum else 0
theorem cnt_no {Ws : List (List UInt8)} {rs : List (List UInt8)} {t : List UInt8} (h : ¬ Free Ws t) : cnt Ws rs t = 0 := by
  cases rs <;> simp [cnt, h]
theorem cnt_cons {Ws : List (List UInt8)} {r : List UInt8} {rs : List (List UInt8)} {t : List UInt8} (h : Free Ws t) : cnt Ws (r :: rs) t = (r.map fun c => cnt Ws rs (t ++ [c])).sum := by simp [cnt, h]
theorem cnt_eqv {Ws : List (List UInt8)} (rs : List (List UInt8)) : ∀ {t u : List UInt8}, Eqv Ws t u → cnt Ws rs t = cnt Ws rs u := by
  induction rs with
  | nil =>
    intro t u h
    have := h.free
    simp [cnt, this]
  | cons r rs ih =>
    intro t u h
    have := h.free
    by_cases hf : Free Ws u
    · rw [cnt_cons hf, cnt_cons (this.2 hf)]
      congr 1
      apply List.map_congr_left
      intro c _
      exact ih (h.snoc c)
    · rw [cnt_no hf, cnt_no (fun h' => hf (this.1 h'))]
theorem cnt_words {Ws Vs : List (List UInt8)} (h : ∀ t, Free Ws t ↔ Free Vs t) (rs : List (List UInt8)) : ∀ t, cnt Ws rs t = cnt Vs rs t := by
  induction rs with
  | nil => intro t; simp [cnt, h t]
  | cons r rs ih => intro t; simp [cnt, h t, ih]
theorem sum_le_mul (l : List UInt8) (f : UInt8 → Nat) (m : Nat) (h : ∀ c ∈ l, f c ≤ m) : (l.map f).sum ≤ l.length * m := by
  induction l with
  | nil => simp
  | cons c l ih =>
    have h1 := h c (by simp)
    have h2 := ih (fun d hd => h d (by simp [hd]))
    simp only [List.map_cons, List.sum_cons, List.length_cons, Nat.add_mul, Nat.one_mul]
    omega
theorem cnt_le (Ws : List (List UInt8)) (rs : List (List UInt8)) : ∀ t, (∀ r ∈ rs, r.length ≤ 26) → cnt Ws rs t ≤ 26 ^ rs.length := by
  induction rs with
  | nil => intro t _; simp only [cnt]; split <;> simp
  | cons r rs ih =>
    intro t h
    by_cases hf : Free Ws t
    · rw [cnt_cons hf]
      have h1 := sum_le_mul r (fun c => cnt Ws rs (t ++ [c])) (26 ^ rs.length) (fun c _ => ih _ (fun r hr => h r (by simp [hr])))
      have h2 := h r (by simp)
      have h3 := Nat.mul_le_mul_right (26 ^ rs.length) h2
      rw [List.length_cons, Nat.pow_succ, Nat.mul_comm]
      omega
    · rw [cnt_no hf]; exact Nat.zero_le _
theorem pow26 {n : Nat} (h : n ≤ 8) : 26 ^ n ≤ 208827064576 := by
  have : 26 ^ n ≤ 26 ^ 8 := Nat.pow_le_pow_right (by omega) h
  omega
/-- How many signs of a row are less than one. -/
def rkD (Ws : List (List UInt8)) (rs : List (List UInt8)) (t : List UInt8) (r : List UInt8) (b : UInt8) : Nat := ((r.filter fun c => decide (c < b)).map fun c => cnt Ws rs (t ++ [c])).sum
/-- How many texts, that go on so, come before one. -/
def rkU (Ws : List (List UInt8)) : List (List UInt8) → List UInt8 → List UInt8 → Nat
  | r :: rs, t, b :: u => rkD Ws rs t r b + rkU Ws rs (t ++ [b]) u
  | _, _, _ => 0
/-- The text before which so many others come. -/
def pick (f : UInt8 → Nat) : List UInt8 → Nat → Option (UInt8 × Nat)
  | [], _ => none
  | c :: r, k => if k < f c then some (c, k) else pick f r (k - f c)
def rkd (Ws : List (List UInt8)) : List (List UInt8) → List UInt8 → Nat → List UInt8
  | [], t, _ => t
  | r :: rs, t, k => match pick (fun c => cnt Ws rs (t ++ [c])) r k with
    | none => t
    | some (c, k') => rkd Ws rs (t ++ [c]) k'
theorem pick_some (f : UInt8 → Nat) (r : List UInt8) : ∀ k, k < (r.map f).sum → ∃ c k', pick f r k = some (c, k') ∧ c ∈ r ∧ k' < f c := by
  induction r with
  | nil => intro k h; simp at h
  | cons c r ih =>
    intro k h
    simp only [List.map_cons, List.sum_cons] at h
    by_cases hc : k < f c
    · exact ⟨c, k, by simp [pick, hc], by simp, hc⟩
    · obtain ⟨d, k', h1, h2, h3⟩ := ih (k - f c) (by omega)
      exact ⟨d, k', by simp [pick, hc, h1], by simp [h2], h3⟩
theorem sum_filter_le (r : List UInt8) (f : UInt8 → Nat) (p : UInt8 → Bool) (b : UInt8) (hb : b ∈ r) (hp : p b = false) : ((r.filter p).map f).sum + f b ≤ (r.map f).sum := by
  induction r with
  | nil => simp at hb
  | cons c r ih =>
    have hall : ((r.filter p).map f).sum ≤ (r.map f).sum := by
      clear ih hb
      induction r with
      | nil => simp
      | cons d r ih2 =>
        simp only [List.filter_cons]
        split <;> simp only [List.map_cons, List.sum_cons] <;> omega
    rcases List.mem_cons.1 hb with rfl | hb
    · simp only [List.filter_cons, hp, Bool.false_eq_true, if_false, List.map_cons, List.sum_cons]
      omega
    · have := ih hb
      simp only [List.filter_cons]
      split <;> simp only [List.map_cons, List.sum_cons] <;> omega
/-- A text that fits rows. -/
def Fits : List (List UInt8) → List UInt8 → Prop
  | [], u => u = []
  | r :: rs, u => match u with
    | [] => False
    | b :: u => b ∈ r ∧ Fits rs u
theorem rkU_lt {Ws : List (List UInt8)} (rs : List (List UInt8)) : ∀ t u, Fits rs u → Free Ws (t ++ u) → rkU Ws rs t u < cnt Ws rs t := by
  induction rs with
  | nil =>
    intro t u h1 h2
    simp only [Fits] at h1; subst h1
    rw [List.append_nil] at h2
    simp [rkU, cnt, h2]
  | cons r rs ih =>
    intro t u h1 h2
    cases u with
    | nil => exact h1.elim
    | cons b u =>
      obtain ⟨hb, hu⟩ := h1
      have hft : Free Ws t := h2.infix ⟨[], b :: u, by simp⟩
      have h3 := ih (t ++ [b]) u hu (by simpa using h2)
      rw [cnt_cons hft]
      simp only [rkU]
      have := sum_filter_le r (fun c => cnt Ws rs (t ++ [c])) (fun c => decide (c < b)) b hb (by simp)
      unfold rkD
      omega
end Go.Proofs.YtaomcimmhlpflaaDoor

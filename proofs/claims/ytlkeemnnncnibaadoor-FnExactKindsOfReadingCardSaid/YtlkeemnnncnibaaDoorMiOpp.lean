/-
  Plain facts on readings whose digits tell what is opposite to them. Nothing of the program.
-/
import Derived.Test.YtlkeemnnncnibaaDoorMiKind
namespace Go.Proofs.YtlkeemnnncnibaaDoor

/-- A table of opposites: for each digit the one across from it, or 10 for none. -/
def mir (i : Nat) : Nat := i
def ups (i : Nat) : Nat := if i = 0 ∨ i = 1 ∨ i = 8 then i else if i = 6 then 9 else if i = 9 then 6 else 10
/-- A digit may stand at a place. -/
def ms (b : List UInt8) (p d : Nat) : Bool := decide (b.length ≤ p) || b[p]? == some (dc d)
/-- The digits that may stand at a place, with what is opposite. -/
def pa (o : Nat → Nat) (b : List UInt8) (p q : Nat) : Nat := sm (fun i => if decide (o i ≤ 9) && (decide (p ≠ q) || decide (o i = i)) && ms b p i && ms b q (o i) then 1 else 0) 10
/-- The product of the first ones. -/
def pr (f : Nat → Nat) : Nat → Nat
  | 0 => 1
  | k + 1 => pr f k * f k
/-- How many begin so. -/
def co (o : Nat → Nat) (n : Nat) (b : List UInt8) : Nat := pr (fun p => pa o b p (n - 1 - p)) ((n + 1) / 2)
/-- Readings of such a kind. -/
def Io (o : Nat → Nat) (t : List UInt8) : Bool := decide (co o t.length t = 1)

theorem sm_add (f g : Nat → Nat) (n : Nat) : sm (fun d => f d + g d) n = sm f n + sm g n := by
  induction n with
  | zero => rfl
  | succ n ih => simp only [sm]; rw [ih]; omega
theorem sm_swap (g : Nat → Nat → Nat) (m n : Nat) : sm (fun d => sm (fun i => g d i) m) n = sm (fun i => sm (fun d => g d i) n) m := by
  induction n with
  | zero =>
    show 0 = _
    induction m with
    | zero => rfl
    | succ m ih => simp only [sm] at ih ⊢; omega
  | succ n ih =>
    simp only [sm]
    rw [ih, ← sm_add]
theorem sm_mul (f : Nat → Nat) (x n : Nat) : sm (fun d => f d * x) n = sm f n * x := by
  induction n with
  | zero => simp [sm]
  | succ n ih => simp only [sm]; rw [ih, Nat.add_mul]
theorem sm_mulL (f : Nat → Nat) (x n : Nat) : sm (fun d => x * f d) n = x * sm f n := by
  induction n with
  | zero => simp [sm]
  | succ n ih => simp only [sm]; rw [ih, Nat.mul_add]
theorem sm_pick (A : Bool) (x : Nat) (hx : x < 10) : sm (fun d => if A && decide (d = x) then 1 else 0) 10 = if A then 1 else 0 := by
  have h : ∀ A : Bool, ∀ x : Fin 10, sm (fun d => if A && decide (d = x.val) then 1 else 0) 10 = if A then 1 else 0 := by decide +kernel
  exact h A ⟨x, hx⟩
theorem pr_congr (f g : Nat → Nat) (n : Nat) (h : ∀ d, d < n → f d = g d) : pr f n = pr g n := by
  induction n with
  | zero => rfl
  | succ n ih => simp only [pr]; rw [ih (fun d hd => h d (by omega)), h n (by omega)]
theorem pr_sum (f : Nat → Nat) (g : Nat → Nat → Nat) (j h : Nat) (hj : j < h) (h1 : ∀ d p, d < 10 → p < h → p ≠ j → g d p = f p) (h2 : sm (fun d => g d j) 10 = f j) : sm (fun d => pr (g d) h) 10 = pr f h := by
  induction h with
  | zero => omega
  | succ h ih =>
    by_cases hjh : j = h
    · subst hjh
      have e : ∀ d, d < 10 → pr (g d) (j + 1) = pr f j * g d j := by
        intro d hd
        simp only [pr]
        rw [pr_congr (g d) f j (fun p hp => h1 d p hd (by omega) (by omega))]
      rw [sm_congr _ _ 10 e, sm_mulL, h2]; rfl
    · have e : ∀ d, d < 10 → pr (g d) (h + 1) = pr (g d) h * f h := by
        intro d hd
        simp only [pr]
        rw [h1 d h hd (by omega) (by omega)]
      rw [sm_congr _ _ 10 e, sm_mul, ih (by omega) (fun d p hd hp => h1 d p hd (by omega))]; rfl
theorem ms_far (b : List UInt8) (p d : Nat) (h : b.length ≤ p) : ms b p d = true := by simp [ms, h]
theorem ms_new (b : List UInt8) (d e : Nat) (hd : d ≤ 9) (he : e ≤ 9) : ms (b ++ [dc d]) b.length e = decide (d = e) := by
  unfold ms
  have := dc_inj hd he
  by_cases h : d = e
  · subst h; simp
  · have h2 : ¬ dc d = dc e := fun h' => h (this.1 h')
    simp [h, h2]
theorem ms_old (b : List UInt8) (c : UInt8) (p e : Nat) (h : p ≠ b.length) : ms (b ++ [c]) p e = ms b p e := by
  unfold ms
  rcases Nat.lt_or_ge p b.length with h1 | h1
  · rw [List.getElem?_append_left h1]
    simp [show ¬ b.length ≤ p by omega, show ¬ b.length + 1 ≤ p by omega]
  · simp [h1, show b.length + 1 ≤ p by omega]
theorem pa_old (o : Nat → Nat) (b : List UInt8) (c : UInt8) (p q : Nat) (hp : p ≠ b.length) (hq : q ≠ b.length) : pa o (b ++ [c]) p q = pa o b p q := by
  unfold pa
  refine sm_congr _ _ 10 (fun i _ => ?_)
  rw [ms_old b c p i hp, ms_old b c q (o i) hq]
theorem pa_sum (o : Nat → Nat) (b : List UInt8) (p q : Nat) (hpq : p ≤ q) (h : p = b.length ∨ q = b.length) : sm (fun d => pa o (b ++ [dc d]) p q) 10 = pa o b p q := by
  unfold pa
  rw [sm_swap]
  refine sm_congr _ _ 10 (fun i hi => ?_)
  by_cases ho : o i ≤ 9
  · by_cases hp : p = b.length
    · by_cases hq : q = b.length
      · subst hp
        subst hq
        by_cases hoi : o i = i
        · have e : ∀ d, d < 10 → (if decide (o i ≤ 9) && (decide (b.length ≠ b.length) || decide (o i = i)) && ms (b ++ [dc d]) b.length i && ms (b ++ [dc d]) b.length (o i) then 1 else 0 : Nat) = if true && decide (d = i) then 1 else 0 := by
            intro d hd
            rw [hoi, ms_new b d i (by omega) (by omega)]
            simp [show i ≤ 9 by omega]
          rw [sm_congr _ _ 10 e, sm_pick true i hi, ms_far b _ _ (Nat.le_refl _), ms_far b _ _ (Nat.le_refl _)]
          simp [hoi, show i ≤ 9 by omega]
        · have e : ∀ d, d < 10 → (if decide (o i ≤ 9) && (decide (b.length ≠ b.length) || decide (o i = i)) && ms (b ++ [dc d]) b.length i && ms (b ++ [dc d]) b.length (o i) then 1 else 0 : Nat) = if false && decide (d = i) then 1 else 0 := by
            intro d hd
            simp [hoi]
          rw [sm_congr _ _ 10 e, sm_pick false i hi]
          simp [hoi]
      · subst hp
        have e : ∀ d, d < 10 → (if decide (o i ≤ 9) && (decide (b.length ≠ q) || decide (o i = i)) && ms (b ++ [dc d]) b.length i && ms (b ++ [dc d]) q (o i) then 1 else 0 : Nat) = if true && decide (d = i) then 1 else 0 := by
          intro d hd
          rw [ms_new b d i (by omega) (by omega), ms_old b _ q _ hq, ms_far b q _ hpq]
          simp [ho, show b.length ≠ q from fun h => hq h.symm]
        rw [sm_congr _ _ 10 e, sm_pick true i hi, ms_far b _ _ (Nat.le_refl _), ms_far b q _ hpq]
        simp [ho, show b.length ≠ q from fun h => hq h.symm]
    · have hq : q = b.length := by omega
      subst hq
      have e : ∀ d, d < 10 → (if decide (o i ≤ 9) && (decide (p ≠ b.length) || decide (o i = i)) && ms (b ++ [dc d]) p i && ms (b ++ [dc d]) b.length (o i) then 1 else 0 : Nat) = if ms b p i && decide (d = o i) then 1 else 0 := by
        intro d hd
        rw [ms_new b d (o i) (by omega) ho, ms_old b _ p _ hp]
        simp [ho, hp]
      rw [sm_congr _ _ 10 e, sm_pick _ (o i) (by omega), ms_far b b.length _ (Nat.le_refl _)]
      simp [ho, hp]
  · have e : ∀ d, d < 10 → (if decide (o i ≤ 9) && (decide (p ≠ q) || decide (o i = i)) && ms (b ++ [dc d]) p i && ms (b ++ [dc d]) q (o i) then 1 else 0 : Nat) = if false && decide (d = i) then 1 else 0 := by
      intro d hd
      simp [ho]
    rw [sm_congr _ _ 10 e, sm_pick false i hi]
    simp [ho]
theorem co_sum (o : Nat → Nat) (n : Nat) (b : List UInt8) (hb : b.length < n) : sm (fun d => co o n (b ++ [dc d])) 10 = co o n b := by
  unfold co
  rcases Nat.lt_or_ge b.length ((n + 1) / 2) with h | h
  · refine pr_sum _ (fun d p => pa o (b ++ [dc d]) p (n - 1 - p)) b.length _ h (fun d p _ hp hpj => pa_old o b _ p _ hpj (by omega)) (pa_sum o b _ _ (by omega) (.inl rfl))
  · refine pr_sum _ (fun d p => pa o (b ++ [dc d]) p (n - 1 - p)) (n - 1 - b.length) _ (by omega) (fun d p _ hp hpj => pa_old o b _ p _ (by omega) (by omega)) (pa_sum o b _ _ (by omega) (.inr (by omega)))
/-- At a whole reading there is one, or none. -/
theorem ms_full (b : List UInt8) (p u d : Nat) (hu : u ≤ 9) (hd : d ≤ 9) (h : b[p]? = some (dc u)) : ms b p d = decide (d = u) := by
  have hl : p < b.length := (List.getElem?_eq_some_iff.1 h).1
  unfold ms
  rw [h]
  have := dc_inj hu hd
  by_cases hx : d = u
  · subst hx; simp
  · have h2 : ¬ dc u = dc d := fun h' => hx (this.1 h').symm
    simp [hx, h2, show ¬ b.length ≤ p by omega]
theorem pa_full (o : Nat → Nat) (b : List UInt8) (p q u v : Nat) (hu : u ≤ 9) (hv : v ≤ 9) (h1 : b[p]? = some (dc u)) (h2 : b[q]? = some (dc v)) : pa o b p q = if o u = v then 1 else 0 := by
  unfold pa
  have e : ∀ i, i < 10 → (if decide (o i ≤ 9) && (decide (p ≠ q) || decide (o i = i)) && ms b p i && ms b q (o i) then 1 else 0 : Nat) = if decide (o u = v) && decide (i = u) then 1 else 0 := by
    intro i hi
    rw [ms_full b p u i hu (by omega) h1]
    by_cases hiu : i = u
    · subst hiu
      by_cases ho : o i ≤ 9
      · rw [ms_full b q v (o i) hv ho h2]
        by_cases hpq : p = q
        · subst hpq
          have : i = v := by
            rw [h1] at h2
            exact (dc_inj hu hv).1 (by simpa using h2)
          subst this
          by_cases hoi : o i = i <;> simp [hoi, hu]
        · simp [ho, hpq]
      · have : ¬ o i = v := by omega
        simp [ho, this]
    · simp [hiu]
  rw [sm_congr _ _ 10 e, sm_pick _ u (by omega)]
  simp
theorem pr_01 (f : Nat → Nat) (n : Nat) (h : ∀ p, p < n → f p ≤ 1) : pr f n ≤ 1 ∧ (pr f n = 1 ↔ ∀ p, p < n → f p = 1) := by
  induction n with
  | zero => exact ⟨Nat.le_refl _, ⟨fun _ p hp => by omega, fun _ => rfl⟩⟩
  | succ n ih =>
    obtain ⟨h1, h2⟩ := ih (fun p hp => h p (by omega))
    have h3 := h n (by omega)
    simp only [pr]
    have hx : pr f n = 0 ∨ pr f n = 1 := by omega
    have hy : f n = 0 ∨ f n = 1 := by omega
    refine ⟨by rcases hx with hx | hx <;> rcases hy with hy | hy <;> rw [hx, hy] <;> decide, ?_⟩
    constructor
    · intro he
      have hx1 : pr f n = 1 := by
        rcases hx with hx | hx
        · rw [hx] at he; simp at he
        · exact hx
      have hy1 : f n = 1 := by rw [hx1] at he; simpa using he
      intro p hp
      by_cases hpn : p = n
      · rw [hpn]; exact hy1
      · exact (h2.1 hx1) p (by omega)
    · intro ha
      rw [h2.2 (fun p hp => ha p (by omega)), ha n (by omega)]
theorem dig_at (b : List UInt8) (hd : digB b = true) (p : Nat) (hp : p < b.length) : ∃ u, u ≤ 9 ∧ b[p]? = some (dc u) := by
  have : dgB b[p] = true := by
    unfold digB at hd
    exact List.all_eq_true.1 hd _ (List.getElem_mem hp)
  obtain ⟨u, hu, he⟩ := dc_of this
  exact ⟨u, hu, by rw [List.getElem?_eq_getElem hp, he]⟩
theorem co_01 (o : Nat → Nat) (b : List UInt8) (hd : digB b = true) : co o b.length b ≤ 1 := by
  unfold co
  refine (pr_01 _ _ (fun p hp => ?_)).1
  obtain ⟨u, hu, h1⟩ := dig_at b hd p (by omega)
  obtain ⟨v, hv, h2⟩ := dig_at b hd (b.length - 1 - p) (by omega)
  rw [pa_full o b p _ u v hu hv h1 h2]; split <;> omega
theorem Io_iff (o : Nat → Nat) (b : List UInt8) (hd : digB b = true) : Io o b = true ↔ ∀ p u v, p < (b.length + 1) / 2 → u ≤ 9 → v ≤ 9 → b[p]? = some (dc u) → b[b.length - 1 - p]? = some (dc v) → o u = v := by
  unfold Io co
  rw [decide_eq_true_iff, (pr_01 _ _ (fun p hp => by
    obtain ⟨u, hu, h1⟩ := dig_at b hd p (by omega)
    obtain ⟨v, hv, h2⟩ := dig_at b hd (b.length - 1 - p) (by omega)
    rw [pa_full o b p _ u v hu hv h1 h2]; split <;> omega)).2]
  constructor
  · intro h p u v hp hu hv h1 h2
    have := h p hp
    rw [pa_full o b p _ u v hu hv h1 h2] at this
    split at this
    · assumption
    · omega
  · intro h p hp
    obtain ⟨u, hu, h1⟩ := dig_at b hd p (by omega)
    obtain ⟨v, hv, h2⟩ := dig_at b hd (b.length - 1 - p) (by omega)
    rw [pa_full o b p _ u v hu hv h1 h2, if_pos (h p u v hp hu hv h1 h2)]
theorem cK_opp (o : Nat → Nat) (l : Nat) : ∀ b, digB b = true → cK (Io o) l b = co o (b.length + l) b := by
  induction l with
  | zero =>
    intro b hd
    have h1 := co_01 o b hd
    unfold cK
    rw [LK, Nat.add_zero]
    unfold Io
    by_cases h : co o b.length b = 1
    · simp [h]
    · simp [h]; omega
  | succ l ih =>
    intro b hb
    rw [cK_succ, ← co_sum o (b.length + (l + 1)) b (by omega)]
    refine sm_congr _ _ 10 (fun d hd => ?_)
    rw [ih _ (digB_dc hb hd), List.length_append, List.length_singleton, show b.length + 1 + l = b.length + (l + 1) by omega]
end Go.Proofs.YtlkeemnnncnibaaDoor

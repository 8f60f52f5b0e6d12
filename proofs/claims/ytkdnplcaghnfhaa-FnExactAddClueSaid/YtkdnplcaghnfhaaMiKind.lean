/-
  Plain facts on the kinds of readings: how many begin with some digits. Nothing of the program.
-/
import Derived.Test.YtkdnplcaghnfhaaMiMath
namespace Go.Proofs.Ytkdnplcaghnfhaa

theorem digB_cons (c : UInt8) (l : List UInt8) : digB (c :: l) = (dgB c && digB l) := by simp [digB]
theorem digB_dc {b : List UInt8} (h : digB b = true) {d : Nat} (hd : d < 10) : digB (b ++ [dc d]) = true := by rw [digB_snoc, h, dg_dc (by omega)]; rfl
/-- How many different signs, from the end. -/
def dfr : List UInt8 → Nat
  | [] => 0
  | c :: l => dfr l + if l.contains c then 0 else 1
/-- How many different signs. -/
def df (l : List UInt8) : Nat := dfr l.reverse
theorem df_snoc (l : List UInt8) (c : UInt8) : df (l ++ [c]) = df l + if l.contains c then 0 else 1 := by
  unfold df
  rw [List.reverse_append]
  simp [dfr]
theorem df_nil : df [] = 0 := rfl
/-- All ten digits that stand in a text. -/
theorem ten_in (l : List UInt8) (h : digB l = true) : sm (fun d => if l.contains (dc d) then 1 else 0) 10 = df l := by
  obtain ⟨r, rfl⟩ : ∃ r : List UInt8, l = r.reverse := ⟨l.reverse, by simp⟩
  unfold df
  rw [List.reverse_reverse]
  induction r with
  | nil => decide
  | cons c r ih =>
    have h' : digB r.reverse = true ∧ dgB c = true := by simpa [digB] using h
    obtain ⟨u, hu, rfl⟩ := dc_of h'.2
    have h3 := ih h'.1
    rw [dfr, ← h3]
    have e : ∀ d, d < 10 → (if ((dc u) :: r).reverse.contains (dc d) then 1 else 0 : Nat) = (if r.reverse.contains (dc d) then 1 else 0) + (if d = u ∧ ¬ r.contains (dc u) then 1 else 0) := by
      intro d hd
      have e1 : ((dc u) :: r).reverse.contains (dc d) = (decide (d = u) || r.contains (dc d)) := by
        have hi := dc_inj (show d ≤ 9 by omega) hu
        by_cases hdu : d = u
        · subst hdu; simp
        · have : ¬ dc d = dc u := fun h => hdu (hi.1 h)
          simp [hdu, this]
      have e2 : r.reverse.contains (dc d) = r.contains (dc d) := by simp
      rw [e1, e2]
      by_cases hdu : d = u
      · subst hdu
        cases r.contains (dc d) <;> simp
      · cases r.contains (dc d) <;> simp [hdu]
    rw [sm_congr _ _ 10 e]
    have hs : ∀ (f g : Nat → Nat) n, sm (fun d => f d + g d) n = sm f n + sm g n := by
      intro f g n
      induction n with
      | zero => rfl
      | succ n ih => simp only [sm]; rw [ih]; omega
    rw [hs]
    congr 1
    have : u = 0 ∨ u = 1 ∨ u = 2 ∨ u = 3 ∨ u = 4 ∨ u = 5 ∨ u = 6 ∨ u = 7 ∨ u = 8 ∨ u = 9 := by omega
    cases r.contains (dc u) <;> rcases this with h | h | h | h | h | h | h | h | h | h <;> subst h <;> decide
/-- How many texts make so many different ones. -/
def wd : Nat → Nat → Nat → Nat
  | 0, di, m => if di = m then 1 else 0
  | l + 1, di, m => di * wd l di m + (10 - di) * wd l (di + 1) m
theorem wd_no (l : Nat) : ∀ di m, (m < di ∨ di + l < m) → wd l di m = 0 := by
  induction l with
  | zero => intro di m h; rw [wd, if_neg (by omega)]
  | succ l ih => intro di m h; rw [wd, ih di m (by omega), ih (di + 1) m (by omega)]; simp
/-- Texts with so many different signs. -/
def Id (m : Nat) (t : List UInt8) : Bool := decide (df t = m)
theorem sm_two (p : Nat → Bool) (x y n : Nat) : sm (fun d => if p d then x else y) n = sm (fun d => if p d then 1 else 0) n * x + (n - sm (fun d => if p d then 1 else 0) n) * y ∧ sm (fun d => if p d then 1 else 0) n ≤ n := by
  induction n with
  | zero => simp [sm]
  | succ n ih =>
    obtain ⟨h1, h2⟩ := ih
    simp only [sm]
    rw [h1]
    generalize sm (fun d => if p d = true then 1 else 0) n = z at h2 ⊢
    cases p n with
    | true => simp only [if_true]; rw [show n + 1 - (z + 1) = n - z by omega, Nat.add_mul]; omega
    | false =>
      simp only [Bool.false_eq_true, if_false]
      rw [show n + 1 - (z + 0) = n - z + 1 by omega, Nat.add_mul (n - z)]; simp; omega
theorem cK_dif (m l : Nat) : ∀ b, digB b = true → cK (Id m) l b = wd l (df b) m := by
  induction l with
  | zero => intro b _; unfold cK; rw [LK, wd]; unfold Id; by_cases h : df b = m <;> simp [h]
  | succ l ih =>
    intro b hb
    rw [cK_succ, wd]
    have e : ∀ d, d < 10 → cK (Id m) l (b ++ [dc d]) = if b.contains (dc d) then wd l (df b) m else wd l (df b + 1) m := by
      intro d hd
      rw [ih _ (digB_dc hb hd), df_snoc]
      cases b.contains (dc d) <;> rfl
    rw [sm_congr _ _ 10 e, (sm_two (fun d => b.contains (dc d)) _ _ 10).1, ten_in b hb]

/-- The texts that go up. -/
def risr : List UInt8 → Bool
  | [] => true
  | c :: l => risr l && (match l with | [] => true | d :: _ => decide (d < c))
def ris (l : List UInt8) : Bool := risr l.reverse
/-- What is greater than the last digit. -/
def gr (l : List UInt8) : Nat := match l.reverse with | [] => 10 | c :: _ => 57 - c.toNat
theorem gr_snoc (l : List UInt8) (c : UInt8) : gr (l ++ [c]) = 57 - c.toNat := by simp [gr]
theorem gr_nil : gr [] = 10 := rfl
theorem ris_nil : ris [] = true := rfl
theorem ris_one (c : UInt8) : ris [c] = true := rfl
theorem ris_snoc (l : List UInt8) (c d : UInt8) : ris (l ++ [c] ++ [d]) = (ris (l ++ [c]) && decide (c < d)) := by simp [ris, risr]
theorem ris_dc (l : List UInt8) (u : Nat) (hu : u ≤ 9) (hd : digB l = true) : ris (l ++ [dc u]) = (ris l && decide (10 - gr l ≤ u)) := by
  rcases List.eq_nil_or_concat l with h | ⟨l', c, h⟩
  · subst h; rw [ris_nil, gr_nil]; simp [ris_one]
  · rw [List.concat_eq_append] at h
    subst h
    rw [digB_snoc] at hd; simp at hd
    obtain ⟨v, hv, rfl⟩ := dc_of hd.2
    rw [ris_snoc, gr_snoc, dc_nat hv]
    congr 1
    rw [decide_eq_decide]
    rw [UInt8.lt_iff_toNat_lt, dc_nat hv, dc_nat hu]; omega
theorem gr_le (l : List UInt8) (hd : digB l = true) : gr l ≤ 10 := by
  rcases List.eq_nil_or_concat l with h | ⟨l', c, h⟩
  · subst h; decide
  · rw [List.concat_eq_append] at h
    subst h
    rw [digB_snoc] at hd; simp at hd
    obtain ⟨v, hv, rfl⟩ := dc_of hd.2
    rw [gr_snoc, dc_nat hv]; omega
/-- The ways to take some. -/
def ch : Nat → Nat → Nat
  | _, 0 => 1
  | 0, _ + 1 => 0
  | n + 1, k + 1 => ch n k + ch n (k + 1)
theorem hockey (g l : Nat) (hg : g ≤ 10) (hl : l ≤ 8) : sm (fun d => if 10 - g ≤ d then ch (9 - d) l else 0) 10 = ch g (l + 1) := by
  have h1 : ∀ g : Fin 11, ∀ l : Fin 9, sm (fun d => if 10 - g.val ≤ d then ch (9 - d) l.val else 0) 10 = ch g.val (l.val + 1) := by decide +kernel
  exact h1 ⟨g, by omega⟩ ⟨l, by omega⟩
theorem ch_step (t i : Nat) (ht : t ≤ 10) (hi : i ≤ 9) : ((ch t i : Int) * ((t : Int) - (i : Int))) / ((i : Int) + 1) = (ch t (i + 1) : Int) := by
  have h1 : ∀ t : Fin 11, ∀ i : Fin 10, ((ch t.val i.val : Int) * ((t.val : Int) - (i.val : Int))) / ((i.val : Int) + 1) = (ch t.val (i.val + 1) : Int) := by decide +kernel
  exact h1 ⟨t, by omega⟩ ⟨i, by omega⟩
theorem ch_bd (t i : Nat) (ht : t ≤ 10) (hi : i ≤ 10) : ch t i ≤ 252 := by
  have h1 : ∀ t : Fin 11, ∀ i : Fin 11, ch t.val i.val ≤ 252 := by decide +kernel
  exact h1 ⟨t, by omega⟩ ⟨i, by omega⟩
theorem ch_up (t i : Nat) (ht : t < i) : ch t i = 0 := by
  induction t generalizing i with
  | zero => cases i with
    | zero => omega
    | succ i => rfl
  | succ t ih => cases i with
    | zero => omega
    | succ i => rw [ch, ih i (by omega), ih (i + 1) (by omega)]
/-- How many go up that begin so. -/
def cr (l : Nat) (b : List UInt8) : Nat := if ris b then ch (gr b) l else 0
theorem cr_succ (l : Nat) (b : List UInt8) (hl : l ≤ 8) (hb : digB b = true) : sm (fun d => cr l (b ++ [dc d])) 10 = cr (l + 1) b := by
  have e : ∀ d, d < 10 → cr l (b ++ [dc d]) = if ris b = true then (if 10 - gr b ≤ d then ch (9 - d) l else 0) else 0 := by
    intro d hd
    unfold cr
    rw [ris_dc b d (by omega) hb, gr_snoc, dc_nat (by omega), show 57 - (48 + d) = 9 - d by omega]
    cases ris b <;> simp
  rw [sm_congr _ _ 10 e]
  unfold cr
  cases ris b with
  | true => simp only [if_true]; exact hockey _ _ (gr_le b hb) hl
  | false => simp [sm]
theorem cK_ris (l : Nat) (hl : l ≤ 9) : ∀ b, digB b = true → cK ris l b = cr l b := by
  induction l with
  | zero => intro b _; unfold cK cr; rw [LK, ch.eq_def]; cases ris b <;> simp
  | succ l ih =>
    intro b hb
    rw [cK_succ, ← cr_succ l b (by omega) hb]
    exact sm_congr _ _ 10 (fun d hd => ih (by omega) _ (digB_dc hb hd))
/-- What makes 9 with a digit. -/
def nn (c : UInt8) : UInt8 := UInt8.ofNat (105 - c.toNat)
theorem nn_nat (c : UInt8) (h : (c.toNat : Int) ≤ 57) : ((nn c).toNat : Int) = 105 - (c.toNat : Int) := by unfold nn; rw [UInt8.toNat_ofNat']; omega
theorem nn_dc {u : Nat} (h : u ≤ 9) : nn (dc u) = dc (9 - u) := by
  apply UInt8.toNat_inj.1
  have := nn_nat (dc u) (by rw [dc_nat h]; omega)
  rw [dc_nat h] at this
  rw [dc_nat (by omega)]; omega
theorem digB_nn {l : List UInt8} (h : digB l = true) : digB (l.map nn) = true := by
  induction l with
  | nil => rfl
  | cons c l ih =>
    rw [digB_cons] at h; simp at h
    obtain ⟨u, hu, rfl⟩ := dc_of h.1
    rw [List.map_cons, digB_cons, ih h.2, nn_dc hu, dg_dc (by omega)]; rfl
/-- The texts that go down. -/
def fal (l : List UInt8) : Bool := ris (l.map nn)
theorem sm_rev (f : Nat → Nat) : sm (fun d => f (9 - d)) 10 = sm f 10 := by
  simp only [sm]; simp only [Nat.sub_zero, Nat.zero_add]; simp only [Nat.reduceSub]; omega
theorem cK_fal (l : Nat) (hl : l ≤ 9) : ∀ b, digB b = true → cK fal l b = cr l (b.map nn) := by
  induction l with
  | zero => intro b _; unfold cK cr; rw [LK, ch.eq_def]; unfold fal; cases ris (b.map nn) <;> simp
  | succ l ih =>
    intro b hb
    rw [cK_succ, ← cr_succ l _ (by omega) (digB_nn hb), ← sm_rev]
    refine sm_congr _ _ 10 (fun d hd => ?_)
    rw [ih (by omega) _ (digB_dc hb (show 9 - d < 10 by omega)), List.map_append, List.map_singleton, nn_dc (by omega), show 9 - (9 - d) = d by omega]
end Go.Proofs.Ytkdnplcaghnfhaa

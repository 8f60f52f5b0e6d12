/-
  Plain facts on rows from 1 on with a balanced house, one house a step or two; and on runs with a sum; nothing of the program.
-/
import Derived.Test.YtjjegpoimnkknaaHoMath
namespace Go.Proofs.Ytjjegpoimnkknaa

/-- House and last house of a street from 1 on with a balanced house. -/
def Sol1 (h l : Int) : Prop := 2 * (h * h) = l * l + l
/-- The same of the odd numbers from 1 on. -/
def Sol2 (h l : Int) : Prop := 2 * (h * h) + 2 = l * l + 2 * l + 1
theorem fin1 (h l : Int) (h1 : 1 ≤ h) (l2 : 2 ≤ l) (hs : Sol1 h l) : 8 ≤ l := by
  unfold Sol1 at hs
  by_cases hl : 8 ≤ l
  · exact hl
  · have h5 : h ≤ 5 := by
      by_cases k : h ≤ 5
      · exact k
      · have a := sq_le (show (0 : Int) ≤ 6 by omega) (show 6 ≤ h by omega)
        have b := sq_le (show 0 ≤ l by omega) (show l ≤ 7 by omega)
        omega
    exfalso
    rcases (by omega : h = 1 ∨ h = 2 ∨ h = 3 ∨ h = 4 ∨ h = 5) with rfl | rfl | rfl | rfl | rfl <;>
    rcases (by omega : l = 2 ∨ l = 3 ∨ l = 4 ∨ l = 5 ∨ l = 6 ∨ l = 7) with rfl | rfl | rfl | rfl | rfl | rfl <;> omega
theorem fin2 (h l : Int) (h1 : 1 ≤ h) (l2 : 2 ≤ l) (hs : Sol2 h l) : 9 ≤ l := by
  unfold Sol2 at hs
  by_cases hl : 9 ≤ l
  · exact hl
  · have h5 : h ≤ 6 := by
      by_cases k : h ≤ 6
      · exact k
      · have a := sq_le (show (0 : Int) ≤ 7 by omega) (show 7 ≤ h by omega)
        have b := sq_le (show 0 ≤ l by omega) (show l ≤ 8 by omega)
        omega
    exfalso
    rcases (by omega : h = 1 ∨ h = 2 ∨ h = 3 ∨ h = 4 ∨ h = 5 ∨ h = 6) with rfl | rfl | rfl | rfl | rfl | rfl <;>
    rcases (by omega : l = 2 ∨ l = 3 ∨ l = 4 ∨ l = 5 ∨ l = 6 ∨ l = 7 ∨ l = 8) with rfl | rfl | rfl | rfl | rfl | rfl | rfl <;> omega
theorem next1 {h l : Int} (hs : Sol1 h l) : Sol1 (3 * h + 2 * l + 1) (4 * h + 3 * l + 1) := by unfold Sol1 at *; grind
theorem next2 {h l : Int} (hs : Sol2 h l) : Sol2 (3 * h + 2 * l + 2) (4 * h + 3 * l + 2) := by unfold Sol2 at *; grind
theorem pred1 {h l : Int} (h1 : 1 ≤ h) (l2 : 2 ≤ l) (hs : Sol1 h l) : ∃ a b, 1 ≤ a ∧ 1 ≤ b ∧ Sol1 a b ∧ h = 3 * a + 2 * b + 1 ∧ l = 4 * a + 3 * b + 1 := by
  have l8 := fin1 h l h1 l2 hs
  refine ⟨3 * h - 2 * l - 1, 3 * l - 4 * h + 1, ?_, ?_, ?_, by omega, by omega⟩
  · by_cases k : 1 ≤ 3 * h - 2 * l - 1
    · exact k
    · have a := sq_le (show 0 ≤ 3 * h by omega) (show 3 * h ≤ 2 * l + 1 by omega)
      have b := sq_le (show (0 : Int) ≤ 8 by omega) l8
      have e1 : 3 * h * (3 * h) = 9 * (h * h) := by grind
      have e2 : (2 * l + 1) * (2 * l + 1) = 4 * (l * l) + 4 * l + 1 := by grind
      unfold Sol1 at hs; omega
  · by_cases k : 1 ≤ 3 * l - 4 * h + 1
    · exact k
    · have a := sq_lt (show 0 ≤ 3 * l by omega) (show 3 * l < 4 * h by omega)
      have b : 8 * l ≤ l * l := Int.mul_le_mul_of_nonneg_right l8 (by omega)
      have e1 : 3 * l * (3 * l) = 9 * (l * l) := by grind
      have e2 : 4 * h * (4 * h) = 16 * (h * h) := by grind
      unfold Sol1 at hs; omega
  · unfold Sol1 at *; grind
theorem pred2 {h l : Int} (h1 : 1 ≤ h) (l2 : 2 ≤ l) (hs : Sol2 h l) : ∃ a b, 1 ≤ a ∧ 1 ≤ b ∧ Sol2 a b ∧ h = 3 * a + 2 * b + 2 ∧ l = 4 * a + 3 * b + 2 := by
  have l9 := fin2 h l h1 l2 hs
  refine ⟨3 * h - 2 * l - 2, 3 * l - 4 * h + 2, ?_, ?_, ?_, by omega, by omega⟩
  · by_cases k : 1 ≤ 3 * h - 2 * l - 2
    · exact k
    · have a := sq_le (show 0 ≤ 3 * h by omega) (show 3 * h ≤ 2 * (l + 1) by omega)
      have b := sq_le (show (0 : Int) ≤ 10 by omega) (show 10 ≤ l + 1 by omega)
      have e1 : 3 * h * (3 * h) = 9 * (h * h) := by grind
      have e2 : 2 * (l + 1) * (2 * (l + 1)) = 4 * ((l + 1) * (l + 1)) := by grind
      have e3 : (l + 1) * (l + 1) = l * l + 2 * l + 1 := by grind
      unfold Sol2 at hs; omega
  · by_cases k : 1 ≤ 3 * l - 4 * h + 2
    · exact k
    · have a := sq_le (show 0 ≤ 3 * l + 2 by omega) (show 3 * l + 2 ≤ 4 * h by omega)
      have b : 9 * l ≤ l * l := Int.mul_le_mul_of_nonneg_right l9 (by omega)
      have e1 : (3 * l + 2) * (3 * l + 2) = 9 * (l * l) + 12 * l + 4 := by grind
      have e2 : 4 * h * (4 * h) = 16 * (h * h) := by grind
      unfold Sol2 at hs; omega
  · unfold Sol2 at *; grind
theorem le_of_sq {a b : Int} (h0 : 0 ≤ b) (h : a * a ≤ b * b) : a ≤ b := by
  by_cases k : a ≤ b
  · exact k
  · have := sq_lt h0 (show b < a by omega); omega
theorem sol1_mono {h l a b : Int} (h0 : 0 ≤ h) (l0 : 0 ≤ b) (hs : Sol1 h l) (ha : Sol1 a b) (k : b ≤ l) : a ≤ h := by
  have e := sq_le l0 k
  unfold Sol1 at *
  exact le_of_sq h0 (by omega)
theorem sol2_mono {h l a b : Int} (h0 : 0 ≤ h) (l0 : 0 ≤ b) (hs : Sol2 h l) (ha : Sol2 a b) (k : b ≤ l) : a ≤ h := by
  have e := sq_le l0 k
  unfold Sol2 at *
  exact le_of_sq h0 (by omega)
theorem gap1 (n : Nat) : ∀ h l a b : Int, l ≤ n → 1 ≤ a → 1 ≤ b → 1 ≤ h → Sol1 h l → Sol1 a b → b < l → 4 * a + 3 * b + 1 ≤ l := by
  induction n with
  | zero => intro h l a b h1 h2 h3; omega
  | succ n ih =>
    intro h l a b hn ha hb hh hs hab hbl
    obtain ⟨x, y, hx, hy, hxy, e1, e2⟩ := pred1 hh (by omega) hs
    by_cases k : b ≤ y
    · have := sol1_mono (by omega) (by omega) hxy hab k
      omega
    · have := ih a b x y (by omega) hx hy ha hab hxy (by omega)
      omega
theorem gap2 (n : Nat) : ∀ h l a b : Int, l ≤ n → 1 ≤ a → 1 ≤ b → 1 ≤ h → Sol2 h l → Sol2 a b → b < l → 4 * a + 3 * b + 2 ≤ l := by
  induction n with
  | zero => intro h l a b h1 h2 h3; omega
  | succ n ih =>
    intro h l a b hn ha hb hh hs hab hbl
    obtain ⟨x, y, hx, hy, hxy, e1, e2⟩ := pred2 hh (by omega) hs
    by_cases k : b ≤ y
    · have := sol2_mono (by omega) (by omega) hxy hab k
      omega
    · have := ih a b x y (by omega) hx hy ha hab hxy (by omega)
      omega
theorem sol2_odd {h l : Int} (hs : Sol2 h l) : l % 2 = 1 ∧ h % 2 = 1 := by
  unfold Sol2 at hs
  obtain ⟨x, hx⟩ : ∃ x, x = l / 2 := ⟨_, rfl⟩
  obtain ⟨y, hy⟩ : ∃ y, y = h / 2 := ⟨_, rfl⟩
  rcases (by omega : l = 2 * x ∨ l = 2 * x + 1) with hl | hl
  · exfalso
    clear hx; subst hl
    have : 2 * x * (2 * x) = 4 * (x * x) := by grind
    omega
  · rcases (by omega : h = 2 * y ∨ h = 2 * y + 1) with hh | hh
    · exfalso
      clear hx hy; subst hl; subst hh
      have e1 : (2 * x + 1) * (2 * x + 1) = 4 * (x * x) + 4 * x + 1 := by grind
      have e2 : 2 * y * (2 * y) = 4 * (y * y) := by grind
      omega
    · omega
/-- A list of all solutions with a last house less than n, by the last house. -/
structure UpTo (Sol : Int → Int → Prop) (xs : List (Int × Int)) (n : Int) : Prop where
  all : ∀ p, p ∈ xs → 1 ≤ p.1 ∧ 1 ≤ p.2 ∧ p.2 < n ∧ Sol p.1 p.2
  has : ∀ h l : Int, 1 ≤ h → 1 ≤ l → l < n → Sol h l → (h, l) ∈ xs
  ord : xs.Pairwise (fun p q => p.2 < q.2)
theorem srt_uniq : ∀ (xs ys : List (Int × Int)), xs.Pairwise (fun p q => p.2 < q.2) → ys.Pairwise (fun p q => p.2 < q.2) → (∀ p, p ∈ xs ↔ p ∈ ys) → xs = ys
  | [], [], _, _, _ => rfl
  | [], y :: ys, _, _, h => absurd ((h y).2 (by simp)) (by simp)
  | x :: xs, [], _, _, h => absurd ((h x).1 (by simp)) (by simp)
  | x :: xs, y :: ys, hx, hy, h => by
    rw [List.pairwise_cons] at hx hy
    have hxy : x = y := by
      have h1 := (h x).1 (by simp)
      have h2 := (h y).2 (by simp)
      rw [List.mem_cons] at h1 h2
      rcases h1 with h1 | h1
      · exact h1
      · rcases h2 with h2 | h2
        · exact h2.symm
        · have a := hx.1 y h2
          have b := hy.1 x h1
          omega
    subst hxy
    have e : xs = ys := srt_uniq xs ys hx.2 hy.2 (fun p => by
      have h1 := h p
      rw [List.mem_cons, List.mem_cons] at h1
      constructor
      · intro hp
        rcases h1.1 (.inr hp) with h2 | h2
        · have := hx.1 p hp; rw [h2] at this; omega
        · exact h2
      · intro hp
        rcases h1.2 (.inr hp) with h2 | h2
        · have := hy.1 p hp; rw [h2] at this; omega
        · exact h2)
    rw [e]
theorem UpTo.uniq {Sol : Int → Int → Prop} {xs ys : List (Int × Int)} {n : Int} (a : UpTo Sol xs n) (b : UpTo Sol ys n) : xs = ys :=
  srt_uniq xs ys a.ord b.ord (fun p => by
    constructor
    · intro hp
      obtain ⟨h1, h2, h3, h4⟩ := a.all p hp
      exact b.has p.1 p.2 h1 h2 h3 h4
    · intro hp
      obtain ⟨h1, h2, h3, h4⟩ := b.all p hp
      exact a.has p.1 p.2 h1 h2 h3 h4)
theorem UpTo.nil (Sol : Int → Int → Prop) : UpTo Sol [] 1 := ⟨fun p hp => by simp at hp, fun h l _ h1 h2 _ => by omega, List.Pairwise.nil⟩
/-- The last house h, l is the only one up to m. -/
theorem UpTo.push {Sol : Int → Int → Prop} {xs : List (Int × Int)} {h l m : Int} (a : UpTo Sol xs l) (h1 : 1 ≤ h) (h2 : 1 ≤ l) (hs : Sol h l) (hlm : l < m)
    (ho : ∀ x y : Int, 1 ≤ x → l ≤ y → y < m → Sol x y → x = h ∧ y = l) : UpTo Sol (xs ++ [(h, l)]) m := by
  refine ⟨fun p hp => ?_, fun x y hx hy hm hxy => ?_, ?_⟩
  · rw [List.mem_append, List.mem_singleton] at hp
    rcases hp with hp | rfl
    · obtain ⟨b1, b2, b3, b4⟩ := a.all p hp
      exact ⟨b1, b2, by omega, b4⟩
    · exact ⟨h1, h2, hlm, hs⟩
  · rw [List.mem_append, List.mem_singleton]
    by_cases k : y < l
    · exact .inl (a.has x y hx hy k hxy)
    · obtain ⟨e1, e2⟩ := ho x y hx (by omega) hm hxy
      rw [e1, e2]; exact .inr rfl
  · rw [List.pairwise_append]
    refine ⟨a.ord, by simp, fun p hp q hq => ?_⟩
    rw [List.mem_singleton] at hq
    subst hq
    exact (a.all p hp).2.2.1
theorem UpTo.skip {Sol : Int → Int → Prop} {xs : List (Int × Int)} {l m : Int} (a : UpTo Sol xs l) (hlm : l ≤ m)
    (ho : ∀ x y : Int, 1 ≤ x → l ≤ y → y < m → ¬ Sol x y) : UpTo Sol xs m :=
  ⟨fun p hp => by obtain ⟨b1, b2, b3, b4⟩ := a.all p hp; exact ⟨b1, b2, by omega, b4⟩, fun x y hx hy hm hxy => by
    by_cases k : y < l
    · exact a.has x y hx hy k hxy
    · exact absurd hxy (ho x y hx (by omega) hm), a.ord⟩
theorem UpTo.cut {Sol : Int → Int → Prop} {xs : List (Int × Int)} {l m : Int} (a : UpTo Sol xs l) (hlm : m ≤ l) (hl : ∀ p, p ∈ xs → p.2 < m) : UpTo Sol xs m :=
  ⟨fun p hp => by obtain ⟨b1, b2, b3, b4⟩ := a.all p hp; exact ⟨b1, b2, hl p hp, b4⟩, fun x y hx hy hm hxy => a.has x y hx hy (by omega) hxy, a.ord⟩
theorem first1 : Sol1 1 1 := by unfold Sol1; decide
theorem first2 : Sol2 1 1 := by unfold Sol2; decide
/-- The model goes from one to the next. -/
theorem up1_next {xs : List (Int × Int)} {h l : Int} (a : UpTo Sol1 xs l) (h1 : 1 ≤ h) (h2 : 1 ≤ l) (hs : Sol1 h l) : UpTo Sol1 (xs ++ [(h, l)]) (4 * h + 3 * l + 1) := by
  refine a.push h1 h2 hs (by omega) (fun x y hx hy hm hxy => ?_)
  by_cases k : y = l
  · subst k
    have := sol1_mono (by omega) (by omega) hs hxy (Int.le_refl y)
    have := sol1_mono (by omega) (by omega) hxy hs (Int.le_refl y)
    omega
  · have := gap1 y.toNat x y h l (by omega) h1 h2 hx hxy hs (by omega)
    omega
theorem up2_next {xs : List (Int × Int)} {h l : Int} (a : UpTo Sol2 xs l) (h1 : 1 ≤ h) (h2 : 1 ≤ l) (hs : Sol2 h l) : UpTo Sol2 (xs ++ [(h, l)]) (4 * h + 3 * l + 2) := by
  refine a.push h1 h2 hs (by omega) (fun x y hx hy hm hxy => ?_)
  by_cases k : y = l
  · subst k
    have := sol2_mono (by omega) (by omega) hs hxy (Int.le_refl y)
    have := sol2_mono (by omega) (by omega) hxy hs (Int.le_refl y)
    omega
  · have := gap2 y.toNat x y h l (by omega) h1 h2 hx hxy hs (by omega)
    omega
/-- What the program keeps at steps of s: twice s of what is left of the house and right of it. -/
def LeftIs (s h L : Int) : Prop := 2 * s * L = (h - 1) * (h + 1 - s)
def RightIs (s h l L R : Int) : Prop := 2 * s * (L + h + R) = (l + s - 1) * (l + 1)
theorem left1 {h L : Int} : LeftIs 1 h L ↔ 2 * L = h * h - h := by unfold LeftIs; constructor <;> intro k <;> grind
theorem right1 {h l L R : Int} : RightIs 1 h l L R ↔ 2 * (L + h + R) = l * l + l := by unfold RightIs; constructor <;> intro k <;> grind
theorem left2 {h L : Int} : LeftIs 2 h L ↔ 4 * L = h * h - 2 * h + 1 := by unfold LeftIs; constructor <;> intro k <;> grind
theorem right2 {h l L R : Int} : RightIs 2 h l L R ↔ 4 * (L + h + R) = l * l + 2 * l + 1 := by unfold RightIs; constructor <;> intro k <;> grind

/-- What is left for the first house, as often as there are houses. -/
def rst (s t m : Int) : Int := s - t * m * (m - 1) / 2
theorem rst_two (s t m : Int) : 2 * rst s t m = 2 * s - t * (m * m - m) := by
  obtain ⟨k, hk⟩ := even_mul (m - 1)
  have e : t * m * (m - 1) = 2 * (t * k) := by
    have : t * m * (m - 1) = t * ((m - 1) * (m - 1 + 1)) := by grind
    rw [this, hk]; grind
  have e2 : t * (m * m - m) = 2 * (t * k) := by
    have : t * (m * m - m) = t * ((m - 1) * (m - 1 + 1)) := by grind
    rw [this, hk]; grind
  unfold rst
  omega
/-- There is a run of so many houses. -/
def runB (s t : Int) (m : Nat) : Bool := decide ((m : Int) ≤ rst s t m) && decide (rst s t m % (m : Int) = 0)
/-- First and last house of a run of so many houses. -/
def runP (s t : Int) (m : Nat) : Int × Int := (rst s t m / (m : Int), rst s t m / (m : Int) + t * ((m : Int) - 1))
/-- The runs of at most so many houses, the longest first. -/
def runs (s t : Int) : Nat → List (Int × Int)
  | 0 => []
  | m + 1 => if m = 0 then [] else if runB s t (m + 1) = true then runP s t (m + 1) :: runs s t m else runs s t m
theorem runs_one (s t : Int) : runs s t 1 = [] := by simp [runs]
theorem runs_yes (s t : Int) (m : Nat) (h : 1 ≤ m) (hb : runB s t (m + 1) = true) : runs s t (m + 1) = runP s t (m + 1) :: runs s t m := by
  rw [runs, if_neg (by omega), if_pos hb]
theorem runs_no (s t : Int) (m : Nat) (h : 1 ≤ m) (hb : runB s t (m + 1) = false) : runs s t (m + 1) = runs s t m := by
  rw [runs, if_neg (by omega), if_neg (by rw [hb]; simp)]
theorem runs_len (s t : Int) (m : Nat) : (runs s t m).length ≤ m := by
  induction m with
  | zero => simp [runs]
  | succ m ih =>
    rw [runs]
    split
    · simp
    · split
      · simp; omega
      · omega
theorem runs_same (s t : Int) (m : Nat) (h : 1 ≤ m) : ∀ d : Nat, (∀ k : Nat, m < k → k ≤ m + d → runB s t k = false) → runs s t (m + d) = runs s t m := by
  intro d
  induction d with
  | zero => intro _; rfl
  | succ d ih =>
    intro hk
    rw [show m + (d + 1) = m + d + 1 by omega, runs_no s t (m + d) (by omega) (hk _ (by omega) (by omega))]
    exact ih (fun k h1 h2 => hk k h1 (by omega))
/-- What is left gets less. -/
theorem rst_mono1 (s : Int) (m k : Nat) (hmk : m ≤ k) (h : (k : Int) ≤ rst s 1 k) : (m : Int) ≤ rst s 1 m := by
  have h1 := rst_two s 1 m
  have h2 := rst_two s 1 k
  have h3 := sq_le (show (0 : Int) ≤ m by omega) (show (m : Int) ≤ k by omega)
  omega
theorem rst_mono2 (s : Int) (m k : Nat) (hmk : m ≤ k) (h : (k : Int) ≤ rst s 2 k) : (m : Int) ≤ rst s 2 m := by
  have h1 := rst_two s 2 m
  have h2 := rst_two s 2 k
  have h3 := sq_le (show (0 : Int) ≤ m by omega) (show (m : Int) ≤ k by omega)
  omega
end Go.Proofs.Ytjjegpoimnkknaa

/-
  What the program keeps while it looks for rows with a balanced house; nothing of the program.
-/
import Derived.Test.YtjjegpoimnkknaaHoMath2
namespace Go.Proofs.Ytjjegpoimnkknaa

def Kq (s h : Int) : Int := if s = 1 then 2 * (h * h) else 2 * (h * h) + 2
def Lq (s l : Int) : Int := if s = 1 then l * l + l else l * l + 2 * l + 1
/-- House and last one of a row with a balanced house, at steps of s. -/
def SolS (s : Int) (h l : Int) : Prop := Kq s h = Lq s l
theorem solS1 (h l : Int) : SolS 1 h l ↔ Sol1 h l := by unfold SolS Kq Lq Sol1; simp
theorem solS2 (h l : Int) : SolS 2 h l ↔ Sol2 h l := by unfold SolS Kq Lq Sol2; simp
structure BfSt (s h l L R : Int) (xs : List (Int × Int)) : Prop where
  hs : s = 1 ∨ s = 2
  h1 : 1 ≤ h
  hl : h ≤ l
  odd : s = 2 → h % 2 = 1 ∧ l % 2 = 1
  left : LeftIs s h L
  right : RightIs s h l L R
  low : h = 1 ∨ Kq s (h - s) < Lq s l
  up : UpTo (SolS s) xs l
theorem BfSt.start (s : Int) (hs : s = 1 ∨ s = 2) : BfSt s 1 1 0 0 [] := by
  refine ⟨hs, by omega, by omega, by intro _; decide, ?_, ?_, .inl rfl, UpTo.nil _⟩
  · unfold LeftIs; rcases hs with rfl | rfl <;> decide
  · unfold RightIs; rcases hs with rfl | rfl <;> decide
theorem BfSt.cmp {s h l L R : Int} {xs : List (Int × Int)} (k : BfSt s h l L R xs) : (L < R ↔ Kq s h < Lq s l) ∧ (L = R ↔ Kq s h = Lq s l) := by
  obtain ⟨hs, h1, hl, ho, hL, hR, _, _⟩ := k
  rcases hs with rfl | rfl
  · have a := left1.1 hL
    have b := right1.1 hR
    unfold Kq Lq
    simp only [if_true]
    constructor <;> constructor <;> intro _ <;> omega
  · have a := left2.1 hL
    have b := right2.1 hR
    unfold Kq Lq
    simp only [show ¬ ((2 : Int) = 1) by decide, if_false]
    constructor <;> constructor <;> intro _ <;> omega
theorem BfSt.bds {s h l L R : Int} {xs : List (Int × Int)} (k : BfSt s h l L R xs) (hm : l ≤ 1000000) : 0 ≤ L ∧ L ≤ 2000000000000 ∧ -2000000000000 ≤ R ∧ R ≤ 2000000000000 := by
  obtain ⟨hs, h1, hl, ho, hL, hR, _, _⟩ := k
  have e1 := sq_le (show (0 : Int) ≤ h by omega) hl
  have e2 := sq_le (show (0 : Int) ≤ l by omega) hm
  have e3 : h * 1 ≤ h * h := Int.mul_le_mul_of_nonneg_left h1 (by omega)
  have e4 := sq_nn (h - 1)
  have e5 : (h - 1) * (h - 1) = h * h - 2 * h + 1 := by grind
  rcases hs with rfl | rfl
  · have a := left1.1 hL
    have b := right1.1 hR
    omega
  · have a := left2.1 hL
    have b := right2.1 hR
    omega
theorem sqq (h s : Int) : (h + s) * (h + s) = h * h + 2 * (h * s) + s * s := by grind
/-- The next house. -/
theorem BfSt.next {s h l L R : Int} {xs : List (Int × Int)} (k : BfSt s h l L R xs) (hlt : L < R) : BfSt s (h + s) l (L + h) (R - (h + s)) xs := by
  have hc := k.cmp.1.1 hlt
  obtain ⟨hs, h1, hl, ho, hL, hR, hlow, hup⟩ := k
  have hlow' : h + s = 1 ∨ Kq s (h + s - s) < Lq s l := by rw [show h + s - s = h by omega]; exact .inr hc
  rcases hs with rfl | rfl
  · have hlt2 : h < l := by
      unfold Kq Lq at hc
      simp only [if_true] at hc
      by_cases hk : h < l
      · exact hk
      · have e := sq_le (show 0 ≤ l by omega) (show l ≤ h by omega)
        have e2 : l * 1 ≤ l * l := Int.mul_le_mul_of_nonneg_left (by omega) (by omega)
        omega
    refine ⟨.inl rfl, by omega, by omega, by intro h; omega, ?_, ?_, hlow', hup⟩
    · have a := left1.1 hL
      refine left1.2 ?_
      have := sqq h 1
      omega
    · have b := right1.1 hR
      refine right1.2 ?_
      omega
  · obtain ⟨o1, o2⟩ := ho rfl
    have hlt2 : h < l := by
      unfold Kq Lq at hc
      simp only [show ¬ ((2 : Int) = 1) by decide, if_false] at hc
      by_cases hk : h < l
      · exact hk
      · have e := sq_le (show 0 ≤ l by omega) (show l ≤ h by omega)
        have e2 := sq_nn (l - 1)
        have e3 : (l - 1) * (l - 1) = l * l - 2 * l + 1 := by grind
        omega
    refine ⟨.inr rfl, by omega, by omega, by intro _; omega, ?_, ?_, hlow', hup⟩
    · have a := left2.1 hL
      refine left2.2 ?_
      have := sqq h 2
      omega
    · have b := right2.1 hR
      refine right2.2 ?_
      omega
theorem Lq_mono {s l m : Int} (h0 : 0 ≤ l) (h : l ≤ m) : Lq s l ≤ Lq s m := by
  have := sq_le h0 h
  unfold Lq; split <;> omega
theorem Kq_mono {s h g : Int} (h0 : 0 ≤ h) (k : h ≤ g) : Kq s h ≤ Kq s g := by
  have := sq_le h0 k
  unfold Kq; split <;> omega
theorem Kq_lt {s h g : Int} (h0 : 0 ≤ h) (k : h < g) : Kq s h < Kq s g := by
  have := sq_lt h0 k
  unfold Kq; split <;> omega
/-- The next last house, whatever was found. -/
theorem BfSt.more {s h l L R : Int} {xs ys : List (Int × Int)} (k : BfSt s h l L R xs) (hu : UpTo (SolS s) ys (l + s)) : BfSt s h (l + s) L (R + (l + s)) ys := by
  obtain ⟨hs, h1, hl, ho, hL, hR, hlow, hup⟩ := k
  have hp : 0 < s := by rcases hs with rfl | rfl <;> omega
  have hlow' : h = 1 ∨ Kq s (h - s) < Lq s (l + s) := by
    rcases hlow with h | h
    · exact .inl h
    · exact .inr (by have := Lq_mono (s := s) (show 0 ≤ l by omega) (show l ≤ l + s by omega); omega)
  refine ⟨hs, h1, by omega, ?_, hL, ?_, hlow', hu⟩
  · intro e; subst e; have := ho rfl; omega
  · rcases hs with rfl | rfl
    · have b := right1.1 hR
      refine right1.2 ?_
      have := sqq l 1
      omega
    · have b := right2.1 hR
      refine right2.2 ?_
      have := sqq l 2
      omega
theorem BfSt.only {s h l L R : Int} {xs : List (Int × Int)} (k : BfSt s h l L R xs) {x y : Int} (hy : l ≤ y) (hyl : y < l + s) (hxy : SolS s x y) : y = l := by
  rcases k.hs with e | e
  · subst e; omega
  · subst e
    have := sol2_odd ((solS2 x y).1 hxy)
    have := k.odd rfl
    omega
/-- A balanced house: one more. -/
theorem BfSt.found {s h l L R : Int} {xs : List (Int × Int)} (k : BfSt s h l L R xs) (heq : L = R) : UpTo (SolS s) (xs ++ [(h, l)]) (l + s) := by
  have hc := k.cmp.2.1 heq
  have hp : 0 < s := by rcases k.hs with e | e <;> omega
  have h1 := k.h1
  have hl := k.hl
  refine k.up.push h1 (by omega) hc (by omega) (fun x y hx hy hm hxy => ?_)
  have e := k.only hy hm hxy
  subst e
  refine ⟨?_, rfl⟩
  unfold SolS at hxy
  rcases Int.lt_trichotomy x h with h' | h' | h'
  · have := Kq_lt (s := s) (by omega) h'; omega
  · exact h'
  · have := Kq_lt (s := s) (by omega) h'; omega
/-- No balanced house. -/
theorem BfSt.none {s h l L R : Int} {xs : List (Int × Int)} (k : BfSt s h l L R xs) (hgt : R < L) : UpTo (SolS s) xs (l + s) := by
  have hp : 0 < s := by rcases k.hs with e | e <;> omega
  have hc : Lq s l < Kq s h := by
    have a := k.cmp
    rcases Int.lt_trichotomy (Kq s h) (Lq s l) with h' | h' | h'
    · have := a.1.2 h'; omega
    · have := a.2.2 h'; omega
    · exact h'
  have h1 := k.h1
  have hl := k.hl
  refine k.up.skip (by omega) (fun x y hx hy hm hxy => ?_)
  have e := k.only hy hm hxy
  subst e
  unfold SolS at hxy
  have hxh : x < h := by
    by_cases h' : x < h
    · exact h'
    · have := Kq_mono (s := s) (show 0 ≤ h by omega) (show h ≤ x by omega); omega
  rcases k.low with e | e
  · omega
  · have hxs : x ≤ h - s := by
      rcases k.hs with e2 | e2
      · omega
      · subst e2
        have o1 := sol2_odd ((solS2 x y).1 hxy)
        have o2 := k.odd rfl
        omega
    have := Kq_mono (s := s) (show 0 ≤ x by omega) hxs
    omega
theorem upTo_end {s l m : Int} {ys : List (Int × Int)} (hu : UpTo (SolS s) ys (l + s)) (hm1 : l ≤ m) (hm2 : m < l + s) (hy : ∀ p, p ∈ ys → p.2 ≤ l) : UpTo (SolS s) ys (m + 1) :=
  hu.cut (by omega) (fun p hp => by have := hy p hp; omega)
theorem BfSt.found_le {s h l L R : Int} {xs : List (Int × Int)} (k : BfSt s h l L R xs) : ∀ p, p ∈ xs ++ [(h, l)] → p.2 ≤ l := by
  intro p hp
  rw [List.mem_append, List.mem_singleton] at hp
  rcases hp with hp | rfl
  · have := (k.up.all p hp).2.2.1; omega
  · exact Int.le_refl _
theorem BfSt.none_le {s h l L R : Int} {xs : List (Int × Int)} (k : BfSt s h l L R xs) : ∀ p, p ∈ xs → p.2 ≤ l := by
  intro p hp
  have := (k.up.all p hp).2.2.1; omega
/-- There are no more of them than last houses. -/
theorem upTo_len {Sol : Int → Int → Prop} {xs : List (Int × Int)} {n : Int} (h : UpTo Sol xs n) (h1 : 1 ≤ n) : (xs.length : Int) ≤ n - 1 := by
  have key : ∀ (ys : List (Int × Int)) (a : Int), (∀ p, p ∈ ys → a ≤ p.2 ∧ p.2 < n) → ys.Pairwise (fun p q => p.2 < q.2) → a ≤ n → (ys.length : Int) ≤ n - a := by
    intro ys
    induction ys with
    | nil => intro a _ _ h; simp; omega
    | cons p ys ih =>
      intro a ha hp han
      rw [List.pairwise_cons] at hp
      have hpa := ha p (by simp)
      have := ih (p.2 + 1) (fun q hq => ⟨by have := hp.1 q hq; omega, (ha q (by simp [hq])).2⟩) hp.2 (by omega)
      simp only [List.length_cons]
      omega
  exact key xs 1 (fun p hp => ⟨(h.all p hp).2.1, (h.all p hp).2.2.1⟩) h.ord h1
/-- The rows of pairs. -/
def prR (xs : List (Int × Int)) : List (List Int) := xs.map (fun p => [p.1, p.2])
theorem prR_len (xs : List (Int × Int)) : (prR xs).length = xs.length := by simp [prR]
theorem prR_snoc (xs : List (Int × Int)) (h l : Int) : prR (xs ++ [(h, l)]) = prR xs ++ [[h, l]] := by simp [prR]
theorem prR_wide (xs : List (Int × Int)) : ∀ y, y ∈ prR xs → y.length = 2 := by
  intro y hy
  unfold prR at hy
  rw [List.mem_map] at hy
  obtain ⟨p, _, rfl⟩ := hy
  rfl
end Go.Proofs.Ytjjegpoimnkknaa

/-
  Plain facts on puzzles: clues, hidden tickets, what is told of one, all that fit. Nothing of the program.
-/
import Derived.Test.YtkdnplcaghnfhaaMiKind
namespace Go.Proofs.Ytkdnplcaghnfhaa

/-- A clue's three numbers. -/
structure Cl where
  k : Int
  a : Int
  b : Int
def c0 : Cl := ⟨0, 0, 0⟩
/-- What a clue must be. -/
def clP (c : Cl) : Prop := (0 ≤ c.b ∧ c.b ≤ 20) ∧ ((c.k = 0 ∧ 0 ≤ c.a ∧ c.a ≤ 1) ∨ (c.k = 1 ∧ 0 ≤ c.a ∧ c.a ≤ 3) ∨ (c.k = 2 ∧ c.a = 0 ∧ c.b < 2) ∨ (c.k = 3 ∧ 0 ≤ c.a ∧ c.a ≤ 2 ∧ c.b < 2) ∨ (c.k = 4 ∧ c.a = 0) ∨ (c.k = 5 ∧ c.a = 0 ∧ 2 ≤ c.b ∧ c.b ≤ 9))
instance (c : Cl) : Decidable (clP c) := by unfold clP; exact inferInstance
def clB (c : Cl) : Bool := decide (clP c)
theorem clB_iff (c : Cl) : clB c = true ↔ clP c := by simp [clB]
/-- A digit of a hidden ticket. -/
def hdB (c : UInt8) : Bool := decide (48 ≤ (c.toNat : Int) ∧ (c.toNat : Int) ≤ 53)
/-- A hidden ticket. -/
def hidB (l : List UInt8) : Bool := decide (l.length = 4) && l.all hdB
theorem hid_len {l : List UInt8} (h : hidB l = true) : l.length = 4 := by simp [hidB] at h; exact h.1
theorem hid_all {l : List UInt8} (h : hidB l = true) : l.all hdB = true := by simp [hidB] at h; simp; exact h.2
theorem all_dig {l : List UInt8} (h : l.all hdB = true) : digB l = true := by
  unfold digB; rw [List.all_eq_true] at h ⊢
  intro x hx
  have := h x hx
  simp [hdB] at this
  rw [dgB_iff]; omega
theorem hid_dig {l : List UInt8} (h : hidB l = true) : digB l = true := all_dig (hid_all h)
theorem hid_form {l : List UInt8} (h : hidB l = true) : ∃ x y z u : UInt8, l = [x, y, z, u] ∧ hdB x = true ∧ hdB y = true ∧ hdB z = true ∧ hdB u = true := by
  have h1 := hid_len h
  match l, h1 with
  | [x, y, z, u], _ =>
    have h2 := hid_all h
    simp at h2
    exact ⟨x, y, z, u, rfl, h2.1, h2.2.1, h2.2.2.1, h2.2.2.2⟩
theorem hdB_iff (c : UInt8) : hdB c = true ↔ 48 ≤ (c.toNat : Int) ∧ (c.toNat : Int) ≤ 53 := by simp [hdB]
theorem hdB_dc {d : Nat} (h : d < 6) : hdB (dc d) = true := by rw [hdB_iff, dc_nat (by omega)]; omega
/-- The digit at a place. -/
def dat (l : List UInt8) (i : Int) : Int := dv (l.getD i.toNat 48)
/-- What a clue of a kind tells of a ticket. -/
def tv (k a : Int) (l : List UInt8) : Int :=
  if k = 0 then dat l (2 * a) + dat l (2 * a + 1)
  else if k = 1 then dat l a
  else if k = 2 then (if dat l 0 + dat l 1 = dat l 2 + dat l 3 then 1 else 0)
  else if k = 3 then (if dat l a < dat l (a + 1) then 1 else 0)
  else ((df l : Nat) : Int)
/-- The number that digits tell. -/
def dnm (l : List UInt8) : Int := l.foldl (fun n c => n * 10 + dv c) 0
/-- A ticket fits a clue. -/
def fitB (c : Cl) (l : List UInt8) : Bool := if c.k = 5 then decide (dnm l % c.b = 0) else decide (tv c.k c.a l = c.b)
def fitA (cs : List Cl) (l : List UInt8) : Bool := cs.all (fun c => fitB c l)
/-- All texts of so many hidden digits, in order. -/
def hT : Nat → List (List UInt8)
  | 0 => [[]]
  | n + 1 => (hT n).flatMap (fun b => (List.range 6).map (fun d => b ++ [dc d]))
/-- All that go on from a begin. -/
def hE : Nat → List UInt8 → List (List UInt8)
  | 0, b => [b]
  | n + 1, b => (List.range 6).flatMap (fun d => hE n (b ++ [dc d]))
theorem hT_hE (n m : Nat) : (hT m).flatMap (hE n) = hT (m + n) := by
  induction n generalizing m with
  | zero =>
    have : hE 0 = fun b => [b] := by funext b; rfl
    rw [this]; simp
  | succ n ih =>
    rw [show m + (n + 1) = (m + 1) + n by omega, ← ih (m + 1)]
    simp only [hT, List.flatMap_assoc, List.flatMap_map]
    rfl
theorem hE_all (n : Nat) : hE n [] = hT n := by
  have := hT_hE n 0
  simpa [hT] using this
theorem hT_len (n : Nat) : (hT n).length = 6 ^ n := by
  induction n with
  | zero => rfl
  | succ n ih =>
    simp only [hT, List.length_flatMap, List.length_map, List.length_range]
    rw [List.map_const', List.sum_replicate_nat, ih, Nat.pow_succ]
theorem hT_mem (n : Nat) : ∀ l ∈ hT n, l.length = n ∧ l.all hdB = true := by
  induction n with
  | zero => intro l hl; simp [hT] at hl; subst hl; exact ⟨rfl, rfl⟩
  | succ n ih =>
    intro l hl
    simp only [hT, List.mem_flatMap, List.mem_map, List.mem_range] at hl
    obtain ⟨b, hb, d, hd, rfl⟩ := hl
    obtain ⟨h1, h2⟩ := ih b hb
    refine ⟨by simp [h1], ?_⟩
    rw [List.all_append, h2]
    simp [hdB_dc hd]
theorem hT_hid : ∀ l ∈ hT 4, hidB l = true := by
  intro l hl
  obtain ⟨h1, h2⟩ := hT_mem 4 l hl
  unfold hidB; rw [h1, h2]; rfl
/-- All solutions. -/
def sol (cs : List Cl) : List (List UInt8) := (hT 4).filter (fitA cs)
theorem sol_len (cs : List Cl) : (sol cs).length ≤ 1296 := by
  have := List.length_filter_le (fitA cs) (hT 4)
  rw [hT_len] at this
  exact this
theorem sol_hid (cs : List Cl) : ∀ l ∈ sol cs, hidB l = true := by
  intro l hl
  exact hT_hid l (List.mem_filter.1 hl).1
/-- Those that fit and go on from a begin. -/
def hS (cs : List Cl) (n : Nat) (b : List UInt8) : List (List UInt8) := (hE n b).filter (fitA cs)
theorem hS_zero (cs : List Cl) (b : List UInt8) : hS cs 0 b = if fitA cs b then [b] else [] := by
  simp only [hS, hE, List.filter_cons, List.filter_nil]
theorem hS_succ (cs : List Cl) (n : Nat) (b : List UInt8) : hS cs (n + 1) b = (List.range 6).flatMap (fun d => hS cs n (b ++ [dc d])) := by
  simp only [hS, hE, List.filter_flatMap]
theorem hS_sol (cs : List Cl) : hS cs 4 [] = sol cs := by unfold hS sol; rw [hE_all]
/-- There is a puzzle. -/
def pzB (cs : List Cl) : Bool := decide (cs.length ≤ 6) && cs.all clB
theorem pz_len {cs : List Cl} (h : pzB cs = true) : cs.length ≤ 6 := by simp [pzB] at h; exact h.1
theorem pz_all {cs : List Cl} (h : pzB cs = true) : ∀ c ∈ cs, clB c = true := by simp [pzB] at h; exact h.2
def wo (cs : List Cl) (k : Nat) : List Cl := cs.take k ++ cs.drop (k + 1)
theorem wo_len (cs : List Cl) (k : Nat) (h : k < cs.length) : (wo cs k).length = cs.length - 1 := by simp [wo]; omega
theorem wo_mem (cs : List Cl) (k : Nat) : ∀ c ∈ wo cs k, c ∈ cs := by
  intro c hc
  simp only [wo, List.mem_append] at hc
  rcases hc with h | h
  · exact List.mem_of_mem_take h
  · exact List.mem_of_mem_drop h
end Go.Proofs.Ytkdnplcaghnfhaa

/-
  Plain facts on puzzles: sure digits, needless clues, the best one, harder puzzles, made ones. Nothing of the program.
-/
import Derived.Test.YtkdnplcaghnfhaaPzMath
namespace Go.Proofs.Ytkdnplcaghnfhaa

theorem mem_getD {α : Type} (l : List α) (i : Nat) (z : α) (h : i < l.length) : l.getD i z ∈ l := by
  rw [List.getD_eq_getElem?_getD, List.getElem?_eq_getElem h]; exact List.getElem_mem h
theorem take_getD {α : Type} (l : List α) (i : Nat) (z : α) (h : i < l.length) : l.take (i + 1) = l.take i ++ [l.getD i z] := by
  rw [List.take_succ_eq_append_getElem h, List.getD_eq_getElem?_getD, List.getElem?_eq_getElem h]; rfl
theorem pz_take {cs : List Cl} (h : pzB cs = true) (k : Nat) : pzB (cs.take k) = true := by
  simp only [pzB, Bool.and_eq_true, decide_eq_true_eq, List.all_eq_true] at h ⊢
  exact ⟨by rw [List.length_take]; omega, fun c hc => h.2 c (List.mem_of_mem_take hc)⟩
theorem pz_wo {cs : List Cl} (h : pzB cs = true) (k : Nat) : pzB (wo cs k) = true := by
  simp only [pzB, Bool.and_eq_true, decide_eq_true_eq, List.all_eq_true] at h ⊢
  refine ⟨?_, fun c hc => h.2 c (wo_mem cs k c hc)⟩
  simp only [wo, List.length_append, List.length_take, List.length_drop]; omega
/-- The digit at a place that all have, or a question mark. -/
def sureAt (S : List (List UInt8)) (f : List UInt8) (i : Nat) : UInt8 := if S.all (fun t => decide (t.getD i 48 = f.getD i 48)) then f.getD i 48 else 63
def sureL (S : List (List UInt8)) (f : List UInt8) : List UInt8 := (List.range 4).map (sureAt S f)
theorem sureL_len (S : List (List UInt8)) (f : List UInt8) : (sureL S f).length = 4 := by simp [sureL]
theorem sureAt_nil (f : List UInt8) (i : Nat) : sureAt [] f i = f.getD i 48 := by simp [sureAt]
theorem sureAt_same {S : List (List UInt8)} {f t : List UInt8} {i : Nat} (h : t.getD i 48 = f.getD i 48) : sureAt (S ++ [t]) f i = sureAt S f i := by
  have e : decide (t.getD i 48 = f.getD i 48) = true := by simpa using h
  unfold sureAt
  rw [List.all_append]
  simp only [List.all_cons, List.all_nil, e, Bool.and_true]
theorem sureAt_diff {S : List (List UInt8)} {f t : List UInt8} {i : Nat} (h : ¬ t.getD i 48 = f.getD i 48) : sureAt (S ++ [t]) f i = 63 := by
  have e : decide (t.getD i 48 = f.getD i 48) = false := by simpa using h
  unfold sureAt
  rw [List.all_append]
  simp only [List.all_cons, List.all_nil, e, Bool.and_true, Bool.and_false, Bool.false_eq_true, if_false]
theorem sureAt_no {S : List (List UInt8)} {f t : List UInt8} {i : Nat} (ht : t ∈ S) (h : ¬ t.getD i 48 = f.getD i 48) : sureAt S f i = 63 := by
  unfold sureAt
  rw [if_neg]
  rw [List.all_eq_true]
  intro hh
  exact h (of_decide_eq_true (hh t ht))
/-- The needless ones of the first so many. -/
def ndl (cs : List Cl) (n : Nat) : List Int := ((List.range n).filter (fun k => decide ((sol (wo cs k)).length = (sol cs).length))).map (fun (k : Nat) => (k : Int))
theorem ndl_yes {cs : List Cl} {n : Nat} (h : (sol (wo cs n)).length = (sol cs).length) : ndl cs (n + 1) = ndl cs n ++ [(n : Int)] := by simp [ndl, List.range_succ, h]
theorem ndl_no {cs : List Cl} {n : Nat} (h : ¬ (sol (wo cs n)).length = (sol cs).length) : ndl cs (n + 1) = ndl cs n := by simp [ndl, List.range_succ, h]
theorem ndl_len (cs : List Cl) (n : Nat) : (ndl cs n).length ≤ n := by
  simp only [ndl, List.length_map]
  have := List.length_filter_le (fun k => decide ((sol (wo cs k)).length = (sol cs).length)) (List.range n)
  rw [List.length_range] at this; exact this
/-- How many fit the first clues. -/
def lft (cs : List Cl) (n : Nat) : List Int := (List.range n).map (fun (k : Nat) => ((sol (cs.take k)).length : Int))
theorem lft_succ (cs : List Cl) (n : Nat) : lft cs (n + 1) = lft cs n ++ [((sol (cs.take n)).length : Int)] := by simp [lft, List.range_succ]
theorem lft_len (cs : List Cl) (n : Nat) : (lft cs n).length = n := by simp [lft]
/-- How many one clue leaves. -/
def one1 (cs : List Cl) (k : Nat) : Nat := (sol [cs.getD k c0]).length
/-- The best one of the first so many, and what it leaves. -/
def bst (cs : List Cl) : Nat → Nat × Nat
  | 0 => (0, one1 cs 0)
  | k + 1 => if one1 cs (k + 1) < (bst cs k).2 then (k + 1, one1 cs (k + 1)) else bst cs k
theorem bst_le (cs : List Cl) (k : Nat) : (bst cs k).2 ≤ 1296 ∧ (bst cs k).1 ≤ k := by
  induction k with
  | zero => exact ⟨sol_len _, Nat.le_refl _⟩
  | succ k ih =>
    rw [bst]
    split
    · exact ⟨sol_len _, Nat.le_refl _⟩
    · exact ⟨ih.1, by omega⟩
/-- One clue is looked at. -/
def hst (x : List Cl × Nat) : List Cl × Nat := if (sol (wo x.1 x.2)).length = 1 then (wo x.1 x.2, x.2) else (x.1, x.2 + 1)
def hit (cs : List Cl) : Nat → List Cl × Nat
  | 0 => (cs, 0)
  | j + 1 => hst (hit cs j)
theorem hit_inv (cs : List Cl) (hp : pzB cs = true) (j : Nat) (h : j ≤ cs.length) : (hit cs j).2 ≤ (hit cs j).1.length ∧ (hit cs j).1.length = (hit cs j).2 + (cs.length - j) ∧ pzB (hit cs j).1 = true := by
  induction j with
  | zero => exact ⟨Nat.zero_le _, by simp [hit], hp⟩
  | succ j ih =>
    obtain ⟨h1, h2, h3⟩ := ih (by omega)
    have hw := wo_len (hit cs j).1 (hit cs j).2 (by omega)
    rw [hit, hst]
    split
    · exact ⟨by show _ ≤ (wo _ _).length; omega, by show (wo _ _).length = _ + _; omega, pz_wo h3 _⟩
    · exact ⟨by show (hit cs j).2 + 1 ≤ (hit cs j).1.length; omega, by show (hit cs j).1.length = (hit cs j).2 + 1 + _; omega, h3⟩
def hard (cs : List Cl) : List Cl := (hit cs cs.length).1
/-- Numbers that follow. -/
def nxz (z : Int) : Int := (z * 303 + 709) % 10007
theorem nxz_bd (z : Int) : 0 ≤ nxz z ∧ nxz z ≤ 10006 := by unfold nxz; omega
def mkA (k y : Int) : Int := if k = 0 then y % 2 else if k = 1 then y % 4 else if k = 3 then y % 3 else 0
def mkC (t : List UInt8) (z : Int) : Cl := ⟨nxz z % 5, mkA (nxz z % 5) (nxz (nxz z)), tv (nxz z % 5) (mkA (nxz z % 5) (nxz (nxz z))) t⟩
def mkJ (t : List UInt8) (z : Int) : Nat → List Cl × Int
  | 0 => ([], z)
  | j + 1 => ((mkJ t z j).1 ++ [mkC t (mkJ t z j).2], nxz (nxz (mkJ t z j).2))
theorem mkJ_len (t : List UInt8) (z : Int) (j : Nat) : (mkJ t z j).1.length = j := by
  induction j with
  | zero => rfl
  | succ j ih => rw [mkJ]; simp [ih]
theorem mkJ_bd (t : List UInt8) (z : Int) (h : 0 ≤ z ∧ z ≤ 10006) (j : Nat) : 0 ≤ (mkJ t z j).2 ∧ (mkJ t z j).2 ≤ 10006 := by
  cases j with
  | zero => exact h
  | succ j => rw [mkJ]; exact nxz_bd _
end Go.Proofs.Ytkdnplcaghnfhaa

/-
  Plain facts on schemes, signs and what Go's library says of texts; nothing of the program.
-/
import Derived.Test.YtaomcimmhlpflaaDoorPlMath
import Derived.Test.YtaomcimmhlpflaaDoorMath
import Derived.Lib.SlTrimSet
import Derived.Lib.IndexMore
import Derived.Lib.Bytealg
import Derived.Lib.Strings
namespace Go.Proofs.YtaomcimmhlpflaaDoor

/-- A letter. -/
def ltB (c : UInt8) : Bool := decide (65 ≤ (c.toNat : Int) ∧ (c.toNat : Int) ≤ 90)
/-- A sign of a plate. -/
def psB (c : UInt8) : Bool := ltB c || dgB c
def pssB (l : List UInt8) : Bool := l.all psB
/-- So many signs, and nothing else. -/
def szsB (l : List UInt8) (a b : Int) : Bool := decide (a ≤ (l.length : Int) ∧ (l.length : Int) ≤ b) && pssB l
def patC (c : UInt8) : Bool := c == 76 || c == 68
def patB (l : List UInt8) : Bool := decide (1 ≤ (l.length : Int) ∧ (l.length : Int) ≤ 8) && l.all patC
/-- Each byte is greater than the one before. -/
def incB (l : List UInt8) : Bool := decide (∀ j, j < l.length → 1 ≤ j → ¬ l.getD j 0 ≤ l.getD (j - 1) 0)
def wordB (l : List UInt8) : Bool := szsB l 1 4
/-- There is a scheme. -/
def schB (P B : List UInt8) (Ws : List (List UInt8)) : Bool := patB P && (incB B && szsB B 0 36) && (decide (Ws.length ≤ 3) && Ws.all wordB)
theorem psB_iff (c : UInt8) : psB c = true ↔ (65 ≤ (c.toNat : Int) ∧ (c.toNat : Int) ≤ 90) ∨ (48 ≤ (c.toNat : Int) ∧ (c.toNat : Int) ≤ 57) := by simp [psB, ltB, dgB]
theorem psB_no (c : UInt8) : psB c = false ↔ ¬ (65 ≤ (c.toNat : Int) ∧ (c.toNat : Int) ≤ 90) ∧ ¬ (48 ≤ (c.toNat : Int) ∧ (c.toNat : Int) ≤ 57) := by
  rw [← Bool.not_eq_true, psB_iff, not_or]
theorem c_eq (c k : UInt8) (n : Nat) (hk : k.toNat = n) : c = k ↔ (c.toNat : Int) = n := by
  rw [← UInt8.toNat_inj, hk]; omega
theorem patC_iff (c : UInt8) : patC c = true ↔ (c.toNat : Int) = 76 ∨ (c.toNat : Int) = 68 := by
  simp only [patC, Bool.or_eq_true, beq_iff_eq, c_eq c 76 76 rfl, c_eq c 68 68 rfl]; rfl
/-- All signs, digits first. -/
def allS : List UInt8 := [48, 49, 50, 51, 52, 53, 54, 55, 56, 57, 65, 66, 67, 68, 69, 70, 71, 72, 73, 74, 75, 76, 77, 78, 79, 80, 81, 82, 83, 84, 85, 86, 87, 88, 89, 90]
def dgS : List UInt8 := [48, 49, 50, 51, 52, 53, 54, 55, 56, 57]
def ltS : List UInt8 := [65, 66, 67, 68, 69, 70, 71, 72, 73, 74, 75, 76, 77, 78, 79, 80, 81, 82, 83, 84, 85, 86, 87, 88, 89, 90]
theorem u8_all {p : UInt8 → Bool} (h : (List.range 256).all (fun n => p (UInt8.ofNat n)) = true) (c : UInt8) : p c = true := by
  have := List.all_eq_true.1 h c.toNat (by rw [List.mem_range]; exact c.toNat_lt)
  simpa using this
theorem allS_iff (c : UInt8) : allS.contains c = psB c := by
  have := u8_all (p := fun c => allS.contains c == psB c) (by decide +kernel) c
  simpa using this
theorem dgS_iff (c : UInt8) : dgS.contains c = dgB c := by
  have := u8_all (p := fun c => dgS.contains c == dgB c) (by decide +kernel) c
  simpa using this
theorem ltS_iff (c : UInt8) : ltS.contains c = ltB c := by
  have := u8_all (p := fun c => ltS.contains c == ltB c) (by decide +kernel) c
  simpa using this
theorem LD_iff (c : UInt8) : ([76, 68] : List UInt8).contains c = patC c := by
  have := u8_all (p := fun c => ([76, 68] : List UInt8).contains c == patC c) (by decide +kernel) c
  simpa using this
theorem dropWhile_nil (l : List UInt8) (p : UInt8 → Bool) : l.dropWhile p = [] ↔ l.all p = true := by
  induction l with
  | nil => simp
  | cons c l ih => simp only [List.dropWhile_cons, List.all_cons, Bool.and_eq_true]; split <;> simp_all
theorem trimS_nil (l cs : List UInt8) : Lib.trimS l cs = [] ↔ l.all (cs.contains ·) = true := by
  unfold Lib.trimS Lib.trimLeftS
  rw [dropWhile_nil]
  unfold Lib.trimRightS
  constructor
  · intro h
    rw [List.all_eq_true] at h
    have h2 : (l.reverse.dropWhile (cs.contains ·)).all (cs.contains ·) = true := by
      rw [List.all_eq_true]
      intro x hx
      exact h x (by rw [List.mem_reverse]; exact hx)
    have h3 : l.reverse.dropWhile (cs.contains ·) = [] := by
      cases e : l.reverse.dropWhile (cs.contains ·) with
      | nil => rfl
      | cons x t =>
        exfalso
        have h4 : cs.contains x = false := by
          have := List.head?_dropWhile_not (cs.contains ·) l.reverse
          rw [e] at this
          simpa using this
        rw [e] at h2
        simp only [List.all_cons, Bool.and_eq_true] at h2
        rw [h4] at h2
        exact absurd h2.1 (by decide)
    rw [dropWhile_nil] at h3
    simpa using h3
  · intro h
    have h3 : l.reverse.dropWhile (cs.contains ·) = [] := by rw [dropWhile_nil]; simpa using h
    rw [h3]; rfl
theorem all_congr (l : List UInt8) (p q : UInt8 → Bool) (h : ∀ c, p c = q c) : l.all p = l.all q := by
  congr 1; funext c; exact h c
theorem trim_pss (l : List UInt8) : decide (Lib.trimS l allS = []) = pssB l := by
  rw [Bool.eq_iff_iff, decide_eq_true_iff, trimS_nil]
  unfold pssB
  rw [all_congr l _ _ allS_iff]
theorem trim_LD (l : List UInt8) : decide (Lib.trimS l [76, 68] = []) = l.all patC := by
  rw [Bool.eq_iff_iff, decide_eq_true_iff, trimS_nil, all_congr l _ _ LD_iff]
theorem occ_infix (t w : List UInt8) (i : Nat) : Lib.occAt t w i = true → w <:+: t := by
  intro h
  unfold Lib.occAt at h
  rw [List.isPrefixOf_iff_prefix] at h
  exact h.isInfix.trans (List.drop_suffix i t).isInfix
theorem infix_occ (t w : List UInt8) (h : w <:+: t) : ∃ i, i ≤ t.length ∧ Lib.occAt t w i = true := by
  obtain ⟨a, b, rfl⟩ := h
  refine ⟨a.length, by simp, ?_⟩
  unfold Lib.occAt
  rw [List.isPrefixOf_iff_prefix, List.append_assoc, List.drop_left]
  exact List.prefix_append w b
theorem contains_iff (t w : List UInt8) : Lib.contains t w = decide (w <:+: t) := by
  rw [Bool.eq_iff_iff, decide_eq_true_iff]
  unfold Lib.contains
  rw [decide_eq_true_iff]
  rcases Lib.index_spec t w with ⟨h1, h2⟩ | ⟨i, h1, h2, h3, _⟩
  · rw [h1]
    refine ⟨fun h => absurd h (by decide), fun h => ?_⟩
    obtain ⟨j, hj, hj2⟩ := infix_occ t w h
    rw [h2 j hj] at hj2; cases hj2
  · rw [h1]
    exact ⟨fun _ => occ_infix t w i h3, fun _ => Int.natCast_nonneg i⟩
theorem hasSuffix_iff (t w : List UInt8) : Lib.hasSuffix t w = decide (w <:+ t) := by
  rw [Bool.eq_iff_iff, decide_eq_true_iff]
  unfold Lib.hasSuffix
  exact List.isSuffixOf_iff_suffix
theorem indexByte_neg (l : List UInt8) (c : UInt8) : decide (Lib.indexByte l c < 0) = !l.contains c := by
  induction l with
  | nil => rfl
  | cons b l ih =>
    have hg := Lib.indexByte_ge l c
    unfold Lib.indexByte
    by_cases h : b = c
    · subst h; simp
    · have h1 : (b == c) = false := by simpa using h
      rw [h1]
      have h3 : (b :: l).contains c = l.contains c := by
        simp only [List.contains_cons]
        rw [show (c == b) = false by simpa using fun e => h e.symm]; rfl
      rw [h3, ← ih]
      simp only [Bool.false_eq_true, if_false]
      by_cases h2 : Lib.indexByte l c = -1
      · simp [h2]
      · have h4 : (Lib.indexByte l c == -1) = false := by simpa using h2
        rw [h4]
        simp only [Bool.false_eq_true, if_false, decide_eq_decide]
        omega
theorem pss_snoc (l : List UInt8) (c : UInt8) : pssB (l ++ [c]) = (pssB l && psB c) := by simp [pssB]
theorem pss_take (s : ByteArray) (k : Nat) (hk : k < s.size) (h : pssB (s.data.toList.take k) = true) (hc : psB s[k] = true) : pssB (s.data.toList.take (k + 1)) = true := by
  rw [take_snoc s k hk, pss_snoc, h, hc]; rfl
theorem all_no (l : List UInt8) (p : UInt8 → Bool) (k : Nat) (hk : k < l.length) (h : p l[k] = false) : l.all p = false := by
  rw [List.all_eq_false]
  exact ⟨l[k], List.getElem_mem hk, by rw [h]; simp⟩
theorem pss_no (s : ByteArray) (k : Nat) (hk : k < s.size) (h : psB s[k] = false) : pssB s.data.toList = false := by
  exact all_no _ _ k (by simpa using hk) h
theorem inc_no (s : ByteArray) (k : Nat) (hk : k < s.size) (h1 : 1 ≤ k) (h : s[k] ≤ s[k - 1]'(by omega)) : incB s.data.toList = false := by
  unfold incB
  rw [decide_eq_false_iff_not]
  intro h2
  have := h2 k (by simpa using hk) h1
  apply this
  have e1 : s.data.toList.getD k 0 = s[k] := by rw [List.getD_eq_getElem?_getD, List.getElem?_eq_getElem (by simpa using hk)]; rfl
  have e2 : s.data.toList.getD (k - 1) 0 = s[k - 1]'(by omega) := by rw [List.getD_eq_getElem?_getD, List.getElem?_eq_getElem (show k - 1 < s.data.toList.length by simp; omega)]; rfl
  rw [e1, e2]; exact h
theorem getD_at (s : ByteArray) (k : Nat) (hk : k < s.size) : s.data.toList.getD k 0 = s[k] := by rw [List.getD_eq_getElem?_getD, List.getElem?_eq_getElem (by simpa using hk)]; rfl
end Go.Proofs.YtaomcimmhlpflaaDoor

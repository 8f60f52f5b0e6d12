/-
  Plain facts on the model's counts of plates that begin with a text; nothing of the program.
-/
import Derived.Test.YtaomcimmhlpflaaDoorPlDm2
import Derived.Test.YtaomcimmhlpflaaDoorPlFit
namespace Go.Proofs.YtaomcimmhlpflaaDoor

/-- All signs of a place, barred ones with them. -/
def fS (p : UInt8) : List UInt8 := if p = 68 then dgS else ltS
theorem row_fS (p : UInt8) (B : List UInt8) : sgRow p B = (fS p).filter (fun c => !B.contains c) := rfl
theorem fS_len (p : UInt8) : (fS p).length ≤ 26 := by unfold fS; split <;> decide
/-- The rows of signs behind the first k places. -/
def rowsF (P B : List UInt8) (k : Nat) : List (List UInt8) := (P.drop k).map (fun p => sgRow p B)
theorem rowsF_end (P B : List UInt8) : rowsF P B P.length = [] := by simp [rowsF]
theorem rowsF_at (P B : List UInt8) {k : Nat} (h : k < P.length) : rowsF P B k = sgRow (P.getD k 0) B :: rowsF P B (k + 1) := by
  unfold rowsF
  rw [List.drop_eq_getElem_cons h, List.map_cons, List.getD_eq_getElem?_getD, List.getElem?_eq_getElem h]; rfl
theorem rowsF_len (P B : List UInt8) (k : Nat) : (rowsF P B k).length = P.length - k := by simp [rowsF]
theorem sgRow_len (p : UInt8) (B : List UInt8) : (sgRow p B).length ≤ 26 := by rw [row_fS]; exact Nat.le_trans (List.length_filter_le _ _) (fS_len p)
/-- In how many ways a text goes on from place k. -/
def gF (P B : List UInt8) (ts : List (List UInt8)) (k : Nat) (u : List UInt8) : Nat := Gq ts (qFree ts) (rowsF P B k) u
theorem gF_end (P B : List UInt8) (ts : List (List UInt8)) (u : List UInt8) : gF P B ts P.length u = 1 := by unfold gF; rw [rowsF_end]; rfl
/-- What one sign adds. -/
def gC (P B : List UInt8) (ts : List (List UInt8)) (k : Nat) (u : List UInt8) (c : UInt8) : Nat := if (!B.contains c) = true then (if qFree ts (u ++ [c]) = true then gF P B ts (k + 1) (stt ts (u ++ [c])) else 0) else 0
theorem gF_at (P B : List UInt8) (ts : List (List UInt8)) {k : Nat} (h : k < P.length) (u : List UInt8) : gF P B ts k u = ((fS (P.getD k 0)).map (gC P B ts k u)).sum := by
  unfold gF
  rw [rowsF_at P B h]
  show ((sgRow (P.getD k 0) B).map _).sum = _
  rw [row_fS, sum_filter]
  rfl
theorem gF_bd (P B : List UInt8) (ts : List (List UInt8)) (hP : P.length ≤ 8) (k : Nat) (u : List UInt8) : gF P B ts k u ≤ 208827064576 := by
  have h := Gq_le ts (qFree ts) (rowsF P B k) u (fun r hr => by
    obtain ⟨p, _, rfl⟩ := List.mem_map.1 hr
    exact sgRow_len p B)
  have h2 : 26 ^ (rowsF P B k).length ≤ 26 ^ 8 := Nat.pow_le_pow_right (by omega) (by rw [rowsF_len]; omega)
  have e : 26 ^ 8 = 208827064576 := by decide +kernel
  unfold gF
  omega
theorem gC_bd (P B : List UInt8) (ts : List (List UInt8)) (hP : P.length ≤ 8) (k : Nat) (u : List UInt8) (c : UInt8) : gC P B ts k u c ≤ 208827064576 := by
  unfold gC
  split
  · split
    · exact gF_bd P B ts hP _ _
    · omega
  · omega
/-- The first m signs. -/
def gS (P B : List UInt8) (ts : List (List UInt8)) (k : Nat) (u : List UInt8) (m : Nat) : Nat := (((fS (P.getD k 0)).take m).map (gC P B ts k u)).sum
theorem gS_zero (P B : List UInt8) (ts : List (List UInt8)) (k : Nat) (u : List UInt8) : gS P B ts k u 0 = 0 := by simp [gS]
theorem gS_succ (P B : List UInt8) (ts : List (List UInt8)) (k : Nat) (u : List UInt8) {m : Nat} (h : m < (fS (P.getD k 0)).length) : gS P B ts k u (m + 1) = gS P B ts k u m + gC P B ts k u (fS (P.getD k 0))[m] := sum_take_succ _ _ m h
theorem gS_all (P B : List UInt8) (ts : List (List UInt8)) {k : Nat} (h : k < P.length) (u : List UInt8) : gS P B ts k u (fS (P.getD k 0)).length = gF P B ts k u := by
  rw [gF_at P B ts h]; unfold gS; rw [List.take_length]
theorem gS_bd (P B : List UInt8) (ts : List (List UInt8)) (hP : P.length ≤ 8) (k : Nat) (u : List UInt8) (m : Nat) : gS P B ts k u m ≤ 26 * 208827064576 :=
  sum_bd (fS (P.getD k 0)) (gC P B ts k u) m 208827064576 26 (fS_len _) (fun c _ => gC_bd P B ts hP k u c)
end Go.Proofs.YtaomcimmhlpflaaDoor

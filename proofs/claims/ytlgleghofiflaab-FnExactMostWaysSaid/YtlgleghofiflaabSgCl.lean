/-
  The first signed digits that make a number.
-/
import Derived.Test.YtlgleghofiflaabSgIdx
namespace Go.Proofs.Ytlgleghofiflaab
open Go.RowKit

/-- What comes out: the text, and whether there is one. -/
def oT (o : Option (List UInt8)) : ByteArray := match o with | some t => ⟨t.toArray⟩ | none => ⟨#[]⟩
def oB (o : Option (List UInt8)) : Bool := o.isSome
theorem find_fst (p : Sr → Bool) (ts : List (List UInt8)) : (fstI p (ts.map sr) < 0 ∧ ts.find? (fun t => p (sr t)) = none) ∨ ∃ k, k < ts.length ∧ fstI p (ts.map sr) = (k : Int) ∧ ts.find? (fun t => p (sr t)) = some (ts.getD k []) := by
  induction ts with
  | nil => exact .inl ⟨by simp [fstI], rfl⟩
  | cons t ts ih =>
    cases hp : p (sr t) with
    | true => exact .inr ⟨0, by simp, by simp [fstI, hp], by simp [hp]⟩
    | false =>
      rcases ih with ⟨h1, h2⟩ | ⟨k, hk, h1, h2⟩
      · exact .inl ⟨by simp [fstI, hp, h1], by simp [hp, h2]⟩
      · exact .inr ⟨k + 1, by simpa using hk, by simp only [List.map_cons, fstI, hp, h1]; simp; omega, by simp [hp, h2]⟩
theorem digs_any (s : ByteArray) (w : World) (hs : s.size ≤ maxLen) :
    Calls Try.prog 26 #[.string s] w fun e w' => e = .returned (.bool (dgsB s.data.toList)) ∧ w = w' := by
  have hm := hs
  unfold maxLen at hs
  have hl : s.data.toList.length = s.size := by simp
  by_cases h1 : 1 ≤ (s.size : Int)
  · by_cases h7 : (s.size : Int) ≤ 7
    · have hgd : dgsB s.data.toList = digB s.data.toList := by unfold dgsB; rw [hl, decide_eq_true ⟨h1, h7⟩]; rfl
      have HG := Lib.hid hgd
      clear hgd hl
      go_enter Try.func26, Try.ntmps26
      go_wp2_with (go_at_call 43; go_must ((with_reducible refine (isDigits_any _ _ hm).mono ?_); rintro e w' ⟨rfl, rfl⟩))
      go_ret
      exact ⟨ret_bool HG.out.symm, rfl⟩
    · have hgd : dgsB s.data.toList = false := by unfold dgsB; rw [hl, decide_eq_false (fun h => h7 h.2)]; rfl
      have HG := Lib.hid hgd
      clear hgd hl
      go_enter Try.func26, Try.ntmps26
      go_wp2_with fail
      go_ret
      exact ⟨ret_bool HG.out.symm, rfl⟩
  · have hgd : dgsB s.data.toList = false := by unfold dgsB; rw [hl, decide_eq_false (fun h => h1 h.1)]; rfl
    have HG := Lib.hid hgd
    clear hgd hl
    go_enter Try.func26, Try.ntmps26
    go_wp2_with fail
    go_ret
    exact ⟨ret_bool HG.out.symm, rfl⟩
def numB (x : Int) : Bool := decide (-100000000 ≤ x ∧ x ≤ 100000000)
theorem num_any (x : Int) (w : World) :
    Calls Try.prog 32 #[.int .i64 x] w fun e w' => e = .returned (.bool (numB x)) ∧ w = w' := by
  by_cases h1 : -100000000 ≤ x <;> by_cases h2 : x ≤ 100000000
  all_goals
    go_enter Try.func32, Try.ntmps32
    go_wp2
    go_ret
    exact ⟨by simp [numB, h1, h2], rfl⟩
theorem digs_b (s : ByteArray) (b : Bool) (w : World) (hs : s.size ≤ maxLen) (h : dgsB s.data.toList = b) :
    Calls Try.prog 26 #[.string s] w fun e w' => e = .returned (.bool b) ∧ w = w' := by subst h; exact digs_any s w hs
theorem num_b (x : Int) (b : Bool) (w : World) (h : numB x = b) :
    Calls Try.prog 32 #[.int .i64 x] w fun e w' => e = .returned (.bool b) ∧ w = w' := by subst h; exact num_any x w
theorem asked_any (s : ByteArray) (x : Int) (w : World) (hs : s.size ≤ maxLen) :
    Calls Try.prog 30 #[.string s, .int .i64 x] w fun e w' => e = .returned (.bool (dgsB s.data.toList && numB x)) ∧ w = w' := by
  cases hd : dgsB s.data.toList with
  | true =>
    have HD := Lib.hid hd
    clear hd
    go_enter Try.func30, Try.ntmps30
    go_wp2_with (first | (go_at_call 24; go_must ((with_reducible refine (sgDigits_b _ true _ hs HD.out).mono ?_); rintro e w' ⟨rfl, rfl⟩)) | (go_at_call 39; go_must ((with_reducible refine (in_any _ _ _ _).mono ?_); rintro e w' ⟨rfl, rfl⟩)))
    go_ret
    exact ⟨by simp [numB], rfl⟩
  | false =>
    have HD := Lib.hid hd
    clear hd
    go_enter Try.func30, Try.ntmps30
    go_wp2_with (first | (go_at_call 24; go_must ((with_reducible refine (sgDigits_b _ false _ hs HD.out).mono ?_); rintro e w' ⟨rfl, rfl⟩)))
    go_ret
    exact ⟨by simp, rfl⟩
theorem asked_b (s : ByteArray) (x : Int) (b : Bool) (w : World) (hs : s.size ≤ maxLen) (h : (dgsB s.data.toList && numB x) = b) :
    Calls Try.prog 30 #[.string s, .int .i64 x] w fun e w' => e = .returned (.bool b) ∧ w = w' := by subst h; exact asked_any s x w hs
theorem cl_value (q : Sr) (t : List UInt8) (w : World) (hq : q = sr t) (hn : (rk t).Fine) :
    Calls Try.prog 45 #[.agg #[.int .i64 q.1.S, .int .i64 q.1.P, .int .i64 q.1.N, .int .i64 q.2]] w fun e w' => e = .returned (.int .i64 (sval t)) ∧ w' = w.alloc (.cells #[.int .i64 q.1.S, .int .i64 q.1.P, .int .i64 q.1.N, .int .i64 q.2] 56) := by
  subst hq
  have a3 := hn.s
  have a5 := hn.pn
  exact value_at (rk t).S (rk t).P (rk t).N (nSg t) ((rk t).P * (rk t).N) w rfl ⟨by omega, by omega⟩ ⟨by omega, by omega⟩
end Go.Proofs.Ytlgleghofiflaab

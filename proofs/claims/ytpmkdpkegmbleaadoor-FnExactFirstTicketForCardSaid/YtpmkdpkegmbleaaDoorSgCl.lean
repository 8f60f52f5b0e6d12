/-
  The first signed digits that make a number.
-/
import Derived.Test.YtpmkdpkegmbleaaDoorSgIdx
namespace Go.Proofs.YtpmkdpkegmbleaaDoor
open Go.RowKit

/-- What comes out: the text, and whether there is one. -/
def oT (o : Option (List UInt8)) : ByteArray := match o with | some t => ⟨t.toArray⟩ | none => ⟨#[]⟩
def oB (o : Option (List UInt8)) : Bool := o.isSome
theorem find_fst (p : Sr → Bool) (ts : List (List UInt8)) : (fstI p (ts.map sr) < 0 ∧ ts.find? (fun t => p (sr t)) = none) ∨ ∃ k, k < ts.length ∧ fstI p (ts.map sr) = (k : Int) ∧ ts.find? (fun t => p (sr t)) = some (ts.getD k []) := by
  induction ts with
  | nil => exact .inl ⟨by simp [fstI], rfl⟩
  | cons t ts ih =>
    cases hp : p (sr t) with
    | true => exact .inr ⟨0, by simp, by simp [fstI, hp], by simp [hp]⟩
    | false =>
      rcases ih with ⟨h1, h2⟩ | ⟨k, hk, h1, h2⟩
      · exact .inl ⟨by simp [fstI, hp, h1], by simp [hp, h2]⟩
      · exact .inr ⟨k + 1, by simpa using hk, by simp only [List.map_cons, fstI, hp, h1]; simp; omega, by simp [hp, h2]⟩
def numB (x : Int) : Bool := decide (-100000000 ≤ x ∧ x ≤ 100000000)
theorem num_any (x : Int) (w : World) :
    Calls Tryd.prog 10 #[.int .i64 x] w fun e w' => e = .returned (.bool (numB x)) ∧ w = w' := by
  by_cases h1 : -100000000 ≤ x <;> by_cases h2 : x ≤ 100000000
  all_goals
    go_enter Tryd.func10, Tryd.ntmps10
    go_wp2
    go_ret
    exact ⟨by simp [numB, h1, h2], rfl⟩
theorem num_b (x : Int) (b : Bool) (w : World) (h : numB x = b) :
    Calls Tryd.prog 10 #[.int .i64 x] w fun e w' => e = .returned (.bool b) ∧ w = w' := by subst h; exact num_any x w
theorem cl_value (q : Sr) (t : List UInt8) (w : World) (hq : q = sr t) (hn : (rk t).Fine) :
    Calls Tryd.prog 14 #[.agg #[.int .i64 q.1.S, .int .i64 q.1.P, .int .i64 q.1.N, .int .i64 q.2]] w fun e w' => e = .returned (.int .i64 (sval t)) ∧ w' = w.alloc (.cells #[.int .i64 q.1.S, .int .i64 q.1.P, .int .i64 q.1.N, .int .i64 q.2] 35) := by
  subst hq
  have a3 := hn.s
  have a5 := hn.pn
  exact value_at (rk t).S (rk t).P (rk t).N (nSg t) ((rk t).P * (rk t).N) w rfl ⟨by omega, by omega⟩ ⟨by omega, by omega⟩
end Go.Proofs.YtpmkdpkegmbleaaDoor

/-
  The laws of DigitsWritten, LastWritten and NumberAtPlace.
-/
import Derived.Test.YtghjpanabphbpaaDoorDiSrch
namespace Go.Proofs.YtghjpanabphbpaaDoor
open Go.RowKit

/-- What DigitsWritten answers. -/
def dwA (n : Int) : Int := if nuB n = true then wr n else 0
theorem ofW_no (n : Int) (f : Value) (w : World) (h : nuB n = false) :
    Calls Tryd.prog 82 #[.int .i64 n, f] w fun e w' => e = .returned (.tuple #[.int .i64 0, .bool false]) ∧ Below w.heap.size w w' := by
  go_enter Tryd.func82, Tryd.ntmps82
  go_wp2_with (go_at_call 68; refine (isWritable_any _ _).mono ?_; rintro e w' ⟨rfl, rfl⟩)
  go_ret2
  exact ⟨rfl, by go_grown⟩
theorem ofW_yes (n x : Int) (g : Nat) (cb : Array Value) (w : World) (h : nuB n = true) (eg : ∀ args w, (callFunc g args).run Tryd.prog w = .ok (.enter g args) w)
    (hf : Calls Tryd.prog g (#[.int .i64 n] ++ cb) w fun e w' => e = .returned (.int .i64 x) ∧ Below w.heap.size w w') :
    Calls Tryd.prog 82 #[.int .i64 n, .func (.func g) #[] cb] w fun e w' => e = .returned (.tuple #[.int .i64 x, .bool true]) ∧ Below w.heap.size w w' := by
  have HF := Lib.hid hf
  clear hf
  go_enter Tryd.func82, Tryd.ntmps82
  go_wp2_with (first | (go_at_call 68; refine (isWritable_any _ _).mono ?_; rintro e w' ⟨rfl, rfl⟩) | (go_at_fn g; refine HF.out.mono ?_; rintro e w1 ⟨rfl, b1⟩))
  go_ret2
  exact ⟨rfl, b1⟩
/-- The greatest one for which so many digits are written. -/
def LastW (k l : Int) : Prop := 0 ≤ l ∧ l < 1000000000000 ∧ wr l ≤ k ∧ k < wr (l + 1)
theorem LastW.uniq {k l m : Int} (u : LastW k l) (v : LastW k m) : l = m := by
  obtain ⟨u1, _, u3, u4⟩ := u
  obtain ⟨v1, _, v3, v4⟩ := v
  rcases Int.lt_trichotomy l m with h | h | h
  · have := wr_mono (a := l + 1) (b := m) (by omega) (by omega); omega
  · exact h
  · have := wr_mono (a := m + 1) (b := l) (by omega) (by omega); omega
theorem LastW.bd {k l : Int} (u : LastW k l) : 0 ≤ l ∧ l ≤ 1000000000000 ∧ l + 1 ≤ 1000000000000 := by
  obtain ⟨u1, u2, _⟩ := u
  omega
def tooB (k n : Int) : Bool := decide (k < wr n)
end Go.Proofs.YtghjpanabphbpaaDoor

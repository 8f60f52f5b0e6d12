/-
  The laws of DigitsWritten, LastWritten and NumberAtPlace.
-/
import Derived.Test.YtghjpanabphbpabDoorDiSrch
namespace Go.Proofs.YtghjpanabphbpabDoor
open Go.RowKit

/-- What DigitsWritten answers. -/
def dwA (n : Int) : Int := if nuB n = true then wr n else 0
/-- The greatest one for which so many digits are written. -/
def LastW (k l : Int) : Prop := 0 ≤ l ∧ l < 1000000000000 ∧ wr l ≤ k ∧ k < wr (l + 1)
theorem LastW.uniq {k l m : Int} (u : LastW k l) (v : LastW k m) : l = m := by
  obtain ⟨u1, _, u3, u4⟩ := u
  obtain ⟨v1, _, v3, v4⟩ := v
  rcases Int.lt_trichotomy l m with h | h | h
  · have := wr_mono (a := l + 1) (b := m) (by omega) (by omega); omega
  · exact h
  · have := wr_mono (a := m + 1) (b := l) (by omega) (by omega); omega
theorem LastW.bd {k l : Int} (u : LastW k l) : 0 ≤ l ∧ l ≤ 1000000000000 ∧ l + 1 ≤ 1000000000000 := by
  obtain ⟨u1, u2, _⟩ := u
  omega
def tooB (k n : Int) : Bool := decide (k < wr n)
end Go.Proofs.YtghjpanabphbpabDoor

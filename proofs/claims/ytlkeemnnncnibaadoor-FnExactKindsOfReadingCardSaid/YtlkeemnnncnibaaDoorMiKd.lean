/-
  Readings: the letters of kinds.
-/
import Derived.Test.YtlkeemnnncnibaaDoorMiLeaf
namespace Go.Proofs.YtlkeemnnncnibaaDoor
open Go.RowKit

/-- What a letter tells. -/
def kB (s : ByteArray) : Bool := s.toList == [97] || s.toList == [109] || s.toList == [117] || s.toList == [114] || s.toList == [102] || s.toList == [100]
def KI (n : Nat) (s : ByteArray) : List UInt8 → Bool :=
  if s.toList = [97] then Id 1 else if s.toList = [109] then Io mir else if s.toList = [117] then Io ups else if s.toList = [114] then ris else if s.toList = [102] then fal else Id n
theorem of_toList {s : ByteArray} {l : List UInt8} (h : s.toList = l) : s = ⟨l.toArray⟩ := by
  rw [Go.ByteArray.toList_eq] at h
  subst h; exact (lst s).symm
end Go.Proofs.YtlkeemnnncnibaaDoor

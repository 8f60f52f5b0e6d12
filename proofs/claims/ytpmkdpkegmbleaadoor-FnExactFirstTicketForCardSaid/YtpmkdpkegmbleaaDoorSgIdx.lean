/-
  The first reckoning that fits.
-/
import Derived.Test.YtpmkdpkegmbleaaDoorSgAt
namespace Go.Proofs.YtpmkdpkegmbleaaDoor
open Go.RowKit

/-- The first place at which it holds. -/
def fstI (p : Sr → Bool) : List Sr → Int
  | [] => -1
  | q :: l => if p q then 0 else if fstI p l < 0 then -1 else fstI p l + 1
theorem fstI_hit (p : Sr → Bool) (rs : List Sr) (k : Nat) (hk : k < rs.length) (h : ∀ j (hj : j < k), p (rs[j]'(by omega)) = false) (hp : p rs[k] = true) : fstI p rs = k := by
  induction rs generalizing k with
  | nil => simp at hk
  | cons q l ih =>
    cases k with
    | zero => simp at hp; simp [fstI, hp]
    | succ k =>
      have h0 : p q = false := h 0 (by omega)
      have := ih k (by simpa using hk) (fun j hj => by have := h (j + 1) (by omega); simpa using this) (by simpa using hp)
      simp only [fstI, h0, this]
      simp; omega
theorem fstI_miss (p : Sr → Bool) (rs : List Sr) (h : ∀ j (hj : j < rs.length), p rs[j] = false) : fstI p rs = -1 := by
  induction rs with
  | nil => rfl
  | cons q l ih =>
    have h0 : p q = false := h 0 (by simp)
    have := ih (fun j hj => by have := h (j + 1) (by simpa using hj); simpa using this)
    simp [fstI, h0, this]
end Go.Proofs.YtpmkdpkegmbleaaDoor

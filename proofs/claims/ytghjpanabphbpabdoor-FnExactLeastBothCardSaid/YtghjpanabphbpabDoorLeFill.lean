/-
  Least numbers: the model's least and greatest number of k digits with a sum; the program's text of the least one.
-/
import Derived.Test.YtghjpanabphbpabDoorLeLeaf
import Derived.Test.YtghjpanabphbpabDoorLeFv
import Derived.Test.YtghjpanabphbpabDoorLeWp
import Derived.Test.YtghjpanabphbpabDoorShelf
namespace Go.Proofs.YtghjpanabphbpabDoor
open Go.RowKit

theorem pow12 {k : Nat} (h : k ≤ 12) : 10 ^ k ≤ 1000000000000 := by
  have : 10 ^ k ≤ 10 ^ 12 := Nat.pow_le_pow_right (by omega) h
  omega
theorem below_pow {N x j k : Nat} (hk : k ≤ 12) (h : N * 10 ^ j + x < 10 ^ k) : N ≤ 1000000000000 := by
  have h1 := pow12 hk
  have h2 : N * 1 ≤ N * 10 ^ j := Nat.mul_le_mul_left _ (pow_p j)
  omega
end Go.Proofs.YtghjpanabphbpabDoor

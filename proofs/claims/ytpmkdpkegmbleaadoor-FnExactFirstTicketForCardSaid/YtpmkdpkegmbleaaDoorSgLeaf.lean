/-
  Contracts of the leaf functions of chapter 2: signs, digits, numbers.
-/
import Derived.Test.YtpmkdpkegmbleaaDoorRows
import Derived.Test.YtpmkdpkegmbleaaDoorSgMath3
import Derived.WalkKit
import Derived.ProofKit
import Derived.Handy
import Derived.Lib.Hide
import Derived.WalkSmall
import Derived.Deep.QuietTactic
import Derived.BigQuiet
import Derived.Deep.RegionWith
import Derived.Deep.DrawnRows
import Derived.Outline
import Derived.WalkSpells
namespace Go.Proofs.YtpmkdpkegmbleaaDoor
open Go.RowKit

theorem ret_int {k : IntKind} {a b : Int} (h : a = b) : Ending.returned (.int k a) = .returned (.int k b) := by rw [h]
theorem ret_bool {a b : Bool} (h : a = b) : Ending.returned (.bool a) = .returned (.bool b) := by rw [h]
theorem ret_ib {k : IntKind} {a b : Int} {p q : Bool} (h : a = b) (h2 : p = q) : Ending.returned (.tuple #[.int k a, .bool p]) = .returned (.tuple #[.int k b, .bool q]) := by rw [h, h2]
theorem ret_sb2 {a b : ByteArray} {p q : Bool} (h : a = b) (h2 : p = q) : Ending.returned (.tuple #[.string a, .bool p]) = .returned (.tuple #[.string b, .bool q]) := by rw [h, h2]
theorem val_int {k : IntKind} {a b : Int} (h : a = b) : Value.int k a = .int k b := by rw [h]
theorem val_bool {a b : Bool} (h : a = b) : Value.bool a = .bool b := by rw [h]
theorem val_str {l m : List UInt8} (h : l = m) : Value.string ⟨l.toArray⟩ = .string ⟨m.toArray⟩ := by rw [h]
theorem chain {w a b : World} (h : Below w.heap.size w a) (k : Below a.heap.size a b) : Below w.heap.size w b := h.trans (k.mono h.size)

theorem in_any (n lo hi : Int) (w : World) :
    Calls Tryd.prog 6 #[.int .i64 n, .int .i64 lo, .int .i64 hi] w fun e w' => e = .returned (.bool (decide (lo ≤ n ∧ n ≤ hi))) ∧ w = w' := by
  by_cases h1 : lo ≤ n <;> by_cases h2 : n ≤ hi
  all_goals
    go_enter Tryd.func6, Tryd.ntmps6
    go_wp2
    go_ret
    exact ⟨by simp [h1, h2], rfl⟩
theorem sgB_no {c : UInt8} (h1 : ¬ (c.toNat : Int) = 42) (h2 : ¬ (c.toNat : Int) = 43) (h3 : ¬ (c.toNat : Int) = 45) : sgB c = false := by
  cases e : sgB c with
  | false => rfl
  | true => rcases (sgB_iff c).1 e with h | h | h <;> contradiction
theorem isSign_any (c : UInt8) (w : World) :
    Calls Tryd.prog 26 #[.int .u8 (c.toNat : Int)] w fun e w' => e = .returned (.bool (sgB c)) ∧ w = w' := by
  by_cases h1 : (c.toNat : Int) = 42
  · have H := Lib.hid ((sgB_iff c).2 (.inl h1))
    go_enter Tryd.func26, Tryd.ntmps26
    go_wp2
    go_ret
    exact ⟨ret_bool H.out.symm, rfl⟩
  · by_cases h2 : (c.toNat : Int) = 43
    · have H := Lib.hid ((sgB_iff c).2 (.inr (.inl h2)))
      go_enter Tryd.func26, Tryd.ntmps26
      go_wp2
      go_ret
      exact ⟨ret_bool H.out.symm, rfl⟩
    · by_cases h3 : (c.toNat : Int) = 45
      · have H := Lib.hid ((sgB_iff c).2 (.inr (.inr h3)))
        go_enter Tryd.func26, Tryd.ntmps26
        go_wp2
        go_ret
        exact ⟨ret_bool H.out.symm, rfl⟩
      · have H := Lib.hid (sgB_no h1 h2 h3)
        go_enter Tryd.func26, Tryd.ntmps26
        go_wp2
        go_ret
        exact ⟨ret_bool (by rw [H.out]; simp [h1, h2, h3]), rfl⟩
end Go.Proofs.YtpmkdpkegmbleaaDoor

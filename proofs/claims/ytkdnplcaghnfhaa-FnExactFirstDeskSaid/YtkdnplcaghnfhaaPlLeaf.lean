/-
  Contracts of the model's leaves of chapter 3, and of the law's helpers over schemes.
-/
import Derived.Test.YtkdnplcaghnfhaaPlSl
namespace Go.Proofs.Ytkdnplcaghnfhaa
open Go.RowKit

theorem in_any (n lo hi : Int) (w : World) :
    Calls Try.prog 34 #[.int .i64 n, .int .i64 lo, .int .i64 hi] w fun e w' => e = .returned (.bool (decide (lo ≤ n ∧ n ≤ hi))) ∧ w = w' := by
  by_cases h1 : lo ≤ n <;> by_cases h2 : n ≤ hi
  all_goals
    go_enter Try.func34, Try.ntmps34
    go_wp2
    go_ret
    exact ⟨by simp [h1, h2], rfl⟩
end Go.Proofs.Ytkdnplcaghnfhaa

/-
  The laws of RankOfLucky and CountLucky.
-/
import Derived.Test.YtlkeemnnncnibabUpTo
import Derived.Test.YtlkeemnnncnibabTkRank
import Derived.Test.YtlkeemnnncnibabTick
import Derived.WalkSmall
namespace Go.Proofs.Ytlkeemnnncnibab
open Go.RowKit
set_option maxRecDepth 100000

theorem good_half {s : ByteArray} (h : goodB s = true) : ∃ z : Nat, s.size = 2 * z ∧ 1 ≤ z ∧ z ≤ 6 := by
  have := good_sz h
  exact ⟨s.size / 2, by omega, by omega, by omega⟩
theorem comp_nil (z : Nat) : comp z [] = cmp z 0 0 := by
  unfold comp bal; simp [dsum]
theorem iCount_yes (z : Nat) (w : World) (hz : szB (2 * (z : Int)) = true) (h6 : z ≤ 6) :
    Calls Try.prog 92 #[.int .i64 (2 * (z : Int))] w fun e w' => e = .returned (.tuple #[.int .i64 (cmp z 0 0), .bool true]) ∧ Below w.heap.size w w' := by
  go_enter Try.func92, Try.ntmps92
  go_wp2_with (first | (go_at_call 83; go_must ((with_reducible refine (isSize_any _ _).mono ?_); rintro e w' ⟨rfl, rfl⟩)) | (go_at_call 89; go_must ((with_reducible refine (newWalk_any z h6 _).mono ?_); rintro e w1 ⟨v, rfl, hcn, hb⟩; obtain ⟨g, cap, rfl⟩ := hcn.form)) | (go_at_call 91; go_must ((with_reducible refine (completions_at z 0 _ _ 0 0 _ rfl h6 (by omega) (by omega) hcn).mono ?_); rintro e w2 ⟨rfl, hb2⟩)))
  go_ret2
  exact ⟨rfl, chain' hb hb2⟩
theorem iCount_no (d : Int) (w : World) (hz : szB d = false) :
    Calls Try.prog 92 #[.int .i64 d] w fun e w' => e = .returned (.tuple #[.int .i64 0, .bool false]) ∧ Below w.heap.size w w' := by
  go_enter Try.func92, Try.ntmps92
  go_wp2_with (first | (go_at_call 83; go_must ((with_reducible refine (isSize_any _ _).mono ?_); rintro e w' ⟨rfl, rfl⟩)))
  go_ret2
  exact ⟨rfl, by go_grown⟩
end Go.Proofs.Ytlkeemnnncnibab

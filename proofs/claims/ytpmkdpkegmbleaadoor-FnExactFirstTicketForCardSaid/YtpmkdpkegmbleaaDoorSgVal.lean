/-
  Where the value of signed digits stands: contracts of the reckoning's own functions.
-/
import Derived.Test.YtpmkdpkegmbleaaDoorSgIs
namespace Go.Proofs.YtpmkdpkegmbleaaDoor
open Go.RowKit

theorem value_at (S P N C M : Int) (w : World) (hM : P * N = M) (hMb : -100000000 ≤ M ∧ M ≤ 100000000) (hS : -100000000 ≤ S ∧ S ≤ 100000000) :
    Calls Tryd.prog 14 #[.agg #[.int .i64 S, .int .i64 P, .int .i64 N, .int .i64 C]] w fun e w' => e = .returned (.int .i64 (S + M)) ∧ w' = w.alloc (.cells #[.int .i64 S, .int .i64 P, .int .i64 N, .int .i64 C] 35) := by
  obtain ⟨hS1, hS2⟩ := hS
  obtain ⟨hM1, hM2⟩ := hMb
  go_enter Tryd.func14, Tryd.ntmps14
  go_wp2
  go_ret
  exact ⟨rfl, rfl⟩
set_option maxHeartbeats 1000000 in
theorem beh_none (S P N C M x : Int) (w : World) (_hM : P * N = M) (hMb : -100000000 ≤ M ∧ M ≤ 100000000) (hS : -100000000 ≤ S ∧ S ≤ 100000000) (hP : -100000000 ≤ P ∧ P ≤ 100000000) (hN : -100000000 ≤ N ∧ N ≤ 100000000) (hC : 0 ≤ C ∧ C ≤ 1000) (hx : 48 ≤ x ∧ x ≤ 57) :
    Calls Tryd.prog 18 #[.agg #[.int .i64 S, .int .i64 P, .int .i64 N, .int .i64 C], .int .u8 32, .int .u8 x] w fun e w' => e = .returned (.agg #[.int .i64 S, .int .i64 P, .int .i64 (10 * N + (x - 48)), .int .i64 C]) ∧ Below w.heap.size w w' := by
  obtain ⟨hS1, hS2⟩ := hS
  obtain ⟨hP1, hP2⟩ := hP
  obtain ⟨hN1, hN2⟩ := hN
  obtain ⟨hC1, hC2⟩ := hC
  obtain ⟨hx1, hx2⟩ := hx
  obtain ⟨hM1, hM2⟩ := hMb
  go_enter Tryd.func18, Tryd.ntmps18
  go_wp2_with (go_at_call 14; go_must ((with_reducible refine (value_at _ _ _ _ M _ hM (by omega) (by omega)).mono ?_); rintro e w1 ⟨rfl, rfl⟩))
  refine bodyPost_ret (v := .agg #[.int .i64 S, .int .i64 P, .int .i64 (10 * N + (x - 48)), .int .i64 C]) (by simp [results, Tryd.results18, go_sem]) rfl ⟨rfl, by go_grown⟩
set_option maxHeartbeats 1000000 in
theorem beh_times (S P N C M x : Int) (w : World) (hM : P * N = M) (hMb : -100000000 ≤ M ∧ M ≤ 100000000) (hS : -100000000 ≤ S ∧ S ≤ 100000000) (hP : -100000000 ≤ P ∧ P ≤ 100000000) (hN : -100000000 ≤ N ∧ N ≤ 100000000) (hC : 0 ≤ C ∧ C ≤ 1000) (hx : 48 ≤ x ∧ x ≤ 57) :
    Calls Tryd.prog 18 #[.agg #[.int .i64 S, .int .i64 P, .int .i64 N, .int .i64 C], .int .u8 42, .int .u8 x] w fun e w' => e = .returned (.agg #[.int .i64 S, .int .i64 M, .int .i64 (x - 48), .int .i64 (C + 1)]) ∧ Below w.heap.size w w' := by
  obtain ⟨hS1, hS2⟩ := hS
  obtain ⟨hP1, hP2⟩ := hP
  obtain ⟨hN1, hN2⟩ := hN
  obtain ⟨hC1, hC2⟩ := hC
  obtain ⟨hx1, hx2⟩ := hx
  obtain ⟨hM1, hM2⟩ := hMb
  go_enter Tryd.func18, Tryd.ntmps18
  go_wp2_with (go_at_call 14; go_must ((with_reducible refine (value_at _ _ _ _ M _ hM (by omega) (by omega)).mono ?_); rintro e w1 ⟨rfl, rfl⟩))
  refine bodyPost_ret (v := .agg #[.int .i64 S, .int .i64 M, .int .i64 (x - 48), .int .i64 (C + 1)]) (by simp [results, Tryd.results18, go_sem]) rfl ⟨rfl, by go_grown⟩
set_option maxHeartbeats 1000000 in
theorem beh_plus (S P N C M x : Int) (w : World) (hM : P * N = M) (hMb : -100000000 ≤ M ∧ M ≤ 100000000) (hS : -100000000 ≤ S ∧ S ≤ 100000000) (hP : -100000000 ≤ P ∧ P ≤ 100000000) (hN : -100000000 ≤ N ∧ N ≤ 100000000) (hC : 0 ≤ C ∧ C ≤ 1000) (hx : 48 ≤ x ∧ x ≤ 57) :
    Calls Tryd.prog 18 #[.agg #[.int .i64 S, .int .i64 P, .int .i64 N, .int .i64 C], .int .u8 43, .int .u8 x] w fun e w' => e = .returned (.agg #[.int .i64 (S + M), .int .i64 1, .int .i64 (x - 48), .int .i64 (C + 1)]) ∧ Below w.heap.size w w' := by
  obtain ⟨hS1, hS2⟩ := hS
  obtain ⟨hP1, hP2⟩ := hP
  obtain ⟨hN1, hN2⟩ := hN
  obtain ⟨hC1, hC2⟩ := hC
  obtain ⟨hx1, hx2⟩ := hx
  obtain ⟨hM1, hM2⟩ := hMb
  go_enter Tryd.func18, Tryd.ntmps18
  go_wp2_with (go_at_call 14; go_must ((with_reducible refine (value_at _ _ _ _ M _ hM (by omega) (by omega)).mono ?_); rintro e w1 ⟨rfl, rfl⟩))
  refine bodyPost_ret (v := .agg #[.int .i64 (S + M), .int .i64 1, .int .i64 (x - 48), .int .i64 (C + 1)]) (by simp [results, Tryd.results18, go_sem]) rfl ⟨rfl, by go_grown⟩
set_option maxHeartbeats 1000000 in
theorem beh_minus (S P N C M x : Int) (w : World) (hM : P * N = M) (hMb : -100000000 ≤ M ∧ M ≤ 100000000) (hS : -100000000 ≤ S ∧ S ≤ 100000000) (hP : -100000000 ≤ P ∧ P ≤ 100000000) (hN : -100000000 ≤ N ∧ N ≤ 100000000) (hC : 0 ≤ C ∧ C ≤ 1000) (hx : 48 ≤ x ∧ x ≤ 57) :
    Calls Tryd.prog 18 #[.agg #[.int .i64 S, .int .i64 P, .int .i64 N, .int .i64 C], .int .u8 45, .int .u8 x] w fun e w' => e = .returned (.agg #[.int .i64 (S + M), .int .i64 (-1), .int .i64 (x - 48), .int .i64 (C + 1)]) ∧ Below w.heap.size w w' := by
  obtain ⟨hS1, hS2⟩ := hS
  obtain ⟨hP1, hP2⟩ := hP
  obtain ⟨hN1, hN2⟩ := hN
  obtain ⟨hC1, hC2⟩ := hC
  obtain ⟨hx1, hx2⟩ := hx
  obtain ⟨hM1, hM2⟩ := hMb
  go_enter Tryd.func18, Tryd.ntmps18
  go_wp2_with (go_at_call 14; go_must ((with_reducible refine (value_at _ _ _ _ M _ hM (by omega) (by omega)).mono ?_); rintro e w1 ⟨rfl, rfl⟩))
  refine bodyPost_ret (v := .agg #[.int .i64 (S + M), .int .i64 (-1), .int .i64 (x - 48), .int .i64 (C + 1)]) (by simp [results, Tryd.results18, go_sem]) rfl ⟨rfl, by go_grown⟩
end Go.Proofs.YtpmkdpkegmbleaaDoor

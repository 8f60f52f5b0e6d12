/-
  Made puzzles: the numbers and one clue.
-/
import Derived.Test.YtakckgbkfnogbabDoorPzDrop
import Derived.Test.YtakckgbkfnogbabDoorPzFit
namespace Go.Proofs.YtakckgbkfnogbabDoor
open Go.RowKit Go.Deep
set_option maxRecDepth 100000

theorem mkA_mod (k y : Int) : mkA k y = y % (mA k + 1) := by
  unfold mkA mA
  by_cases h0 : k = 0
  · simp [h0]
  · by_cases h1 : k = 1
    · simp [h1]
    · by_cases h3 : k = 3
      · simp [h3]
      · simp only [h0, h1, h3, if_false]; omega
theorem mkA_bd (k y : Int) (_hy : 0 ≤ y) : 0 ≤ mkA k y ∧ (k = 0 → mkA k y ≤ 1) ∧ (k = 1 → mkA k y ≤ 3) ∧ (k = 3 → mkA k y ≤ 2) ∧ mkA k y ≤ 3 := by
  unfold mkA; split
  · omega
  · split
    · omega
    · split
      · omega
      · omega
theorem RdC.one (w : World) (c : Cl) (T : TypeId) : RdC [c] (.slice (some ⟨w.heap.size, 0, none⟩) 1 1) (w.alloc (.cells #[.int .i64 c.k, .int .i64 c.a, .int .i64 c.b] T)) := by
  have hb := Blk.new w #[.int .i64 c.k, .int .i64 c.a, .int .i64 c.b] T
  refine ⟨some ⟨w.heap.size, 0, none⟩, 1, rfl, Nat.le_refl _, fun i hi => ?_⟩
  obtain rfl : i = 0 := by simp at hi; omega
  exact ⟨w.heap.size, 0, rfl, hb.lt, by rw [hb.cell]; rfl, by rw [hb.cell]; rfl, by rw [hb.cell]; rfl⟩
theorem heap_set3 {w : World} {b : Nat} {x y z : Value} {T : TypeId} (h : w.heap[b]? = some (.cells #[x, y, z] T)) (x' y' z' : Value) :
    (((w.setCell ⟨b, 0, none⟩ x').setCell ⟨b, 1, none⟩ y').setCell ⟨b, 2, none⟩ z').heap[b]? = some (.cells #[x', y', z'] T) := by
  have h1 := heap_setCell_same w b 0 _ _ x' h
  have h2 := heap_setCell_same _ b 1 _ _ y' h1
  have h3 := heap_setCell_same _ b 2 _ _ z' h2
  simpa using h3
theorem below_set3 {B b : Nat} {a w : World} (h : Below B a w) (hb : B ≤ b) (x y z : Value) : Below B a (((w.setCell ⟨b, 0, none⟩ x).setCell ⟨b, 1, none⟩ y).setCell ⟨b, 2, none⟩ z) :=
  ((h.setCell hb _).setCell hb _).setCell hb _
theorem RdC.one' {g : Nat} (w : World) (c : Cl) (T : TypeId) (hg : g = w.heap.size) : RdC [c] (.slice (some ⟨g, 0, none⟩) 1 1) (w.alloc (.cells #[.int .i64 c.k, .int .i64 c.a, .int .i64 c.b] T)) := by subst hg; exact RdC.one w c T
theorem mixed_any (z : Int) (w : World) (h : 0 ≤ z ∧ z ≤ 10006) :
    Calls Tryd.prog 44 #[.int .i64 z] w fun e w' => e = .returned (.int .i64 (nxz z)) ∧ w = w' := by
  have h1 : IntKind.i64.wrap (z * 303) = z * 303 := IntWalk.i64_in _ (by omega)
  have h2 : IntKind.i64.wrap (z * 303 + 709) = z * 303 + 709 := IntWalk.i64_in _ (by omega)
  have HN : Hid ((z * 303 + 709) % 10007 = nxz z) := by show _ = _; rfl
  have h3 : (z * 303 + 709).tmod 10007 = (z * 303 + 709) % 10007 := Int.tmod_eq_emod_of_nonneg (by omega)
  go_enter Tryd.func44, Tryd.ntmps44
  go_wp2
  go_ret
  exact ⟨ret_int HN.out, rfl⟩
theorem pzNext_any (z : Int) (w : World) (h : 0 ≤ z ∧ z ≤ 10006) :
    Calls Tryd.prog 41 #[.int .i64 z] w fun e w' => e = .returned (.int .i64 (nxz z)) ∧ w = w' := by
  have h1 : IntKind.i64.wrap (303 * z) = z * 303 := by rw [Int.mul_comm]; exact IntWalk.i64_in _ (by omega)
  have h2 : IntKind.i64.wrap (z * 303 + 709) = z * 303 + 709 := IntWalk.i64_in _ (by omega)
  have HN : Hid ((z * 303 + 709) % 10007 = nxz z) := by show _ = _; rfl
  have h3 : (z * 303 + 709).tmod 10007 = (z * 303 + 709) % 10007 := Int.tmod_eq_emod_of_nonneg (by omega)
  go_enter Tryd.func41, Tryd.ntmps41
  go_wp2
  go_ret
  exact ⟨ret_int HN.out, rfl⟩
set_option maxHeartbeats 2000000 in
theorem pzOf_any (k y : Int) (s : ByteArray) (w : World) (hh : hidB s.data.toList = true) (hk : 0 ≤ k ∧ k ≤ 4) (hy : 0 ≤ y ∧ y ≤ 10006) :
    Calls Tryd.prog 42 #[.int .i64 k, .int .i64 y, .string s] w fun e w' => e = .returned (.agg #[.int .i64 k, .int .i64 (mkA k y), .int .i64 (tv k (mkA k y) s.data.toList)]) ∧ Below w.heap.size w w' := by
  obtain ⟨m0, m1, m2, m3, _⟩ := mkA_bd k y hy.1
  have HV := Lib.hid (fun W => pzValue_any k (mkA k y) s W hh hk m0 m1 m2 m3)
  have hm2 : y.tmod 2 = y % 2 := Int.tmod_eq_emod_of_nonneg hy.1
  have hm4 : y.tmod 4 = y % 4 := Int.tmod_eq_emod_of_nonneg hy.1
  have hm3 : y.tmod 3 = y % 3 := Int.tmod_eq_emod_of_nonneg hy.1
  obtain ⟨t, ht⟩ : ∃ t, tv k (mkA k y) s.data.toList = t := ⟨_, rfl⟩
  rw [ht] at HV ⊢
  have HA : Hid (mkA k y = mkA k y) := rfl
  clear ht hh
  rcases (show k = 0 ∨ k = 1 ∨ k = 2 ∨ k = 3 ∨ k = 4 by omega) with rfl | rfl | rfl | rfl | rfl
  all_goals
    simp only [mkA, reduceIte, Int.reduceEq] at HV ⊢
    clear m0 m1 m2 m3 hk
    go_enter Tryd.func42, Tryd.ntmps42
    go_wp2_with (go_at_call 62; (with_reducible refine (HV.out _).mono ?_); rintro e w1 ⟨rfl, q, rfl⟩)
    refine bodyPost_ret (results_cell_row rfl _ _ w.heap.size 58 _ (0, 0) _ rfl ?_ Tryd.underlying58 rfl (by kernel_rfl)) rfl ⟨rfl, ?_⟩
    · exact heap_set3 (w := (w.alloc _).drewN q) (heap_alloc_new _ _) _ _ _
    · exact below_set3 (below_drewN ((Below.refl _ _).alloc (Nat.le_refl _) _) q) (Nat.le_refl _) _ _ _
end Go.Proofs.YtakckgbkfnogbabDoor

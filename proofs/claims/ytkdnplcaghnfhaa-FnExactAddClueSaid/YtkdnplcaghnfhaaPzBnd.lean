/-
  What clues of a kind may tell; what is no clue is thrown.
-/
import Derived.Test.YtkdnplcaghnfhaaPzRow
import Derived.WalkLawsBesides
namespace Go.Proofs.Ytkdnplcaghnfhaa
open Go.RowKit
set_option maxRecDepth 100000

def mA (k : Int) : Int := if k = 0 then 1 else if k = 1 then 3 else if k = 3 then 2 else 0
def lB (k : Int) : Int := if k = 5 then 2 else 0
def mB (k : Int) : Int := if k = 0 then 20 else if k = 1 then 20 else if k = 4 then 20 else if k = 5 then 9 else 1
/-- A clue as a value. -/
def clV (c : Cl) : Value := .agg #[.int .i64 c.k, .int .i64 c.a, .int .i64 c.b]
theorem clP_bnd (c : Cl) : clP c ↔ (0 ≤ c.k ∧ c.k ≤ 5) ∧ 0 ≤ c.a ∧ c.a ≤ mA c.k ∧ lB c.k ≤ c.b ∧ c.b ≤ mB c.k := by
  unfold clP mA lB mB
  constructor
  · rintro ⟨⟨h1, h2⟩, h | h | h | h | h | h⟩ <;> (refine ⟨by omega, by omega, ?_, ?_, ?_⟩ <;> (repeat' split) <;> omega)
  · rintro ⟨⟨h1, h2⟩, h3, h4, h5, h6⟩
    rcases (show c.k = 0 ∨ c.k = 1 ∨ c.k = 2 ∨ c.k = 3 ∨ c.k = 4 ∨ c.k = 5 by omega) with h | h | h | h | h | h <;> (rw [h] at h4 h5 h6; simp at h4 h5 h6; omega)
theorem heap2 (w : World) (o1 o2 : Obj) : ((w.alloc o1).alloc o2).heap[w.heap.size + 1]? = some o2 := by
  have := heap_alloc_new (w.alloc o1) o2
  rwa [World.size_alloc] at this
theorem below2 (w : World) (o1 o2 : Obj) : Below w.heap.size w ((w.alloc o1).alloc o2) := ((Below.refl _ _).alloc (Nat.le_refl _) _).alloc (by rw [World.size_alloc]; omega) _
set_option maxHeartbeats 1000000 in
theorem boundsOf_yes (k a b : Int) (w : World) (h : 0 ≤ k ∧ k ≤ 5) :
    Calls Try.prog 40 #[.agg #[.int .i64 k, .int .i64 a, .int .i64 b]] w fun e w' => e = .returned (.agg #[.int .i64 (mA k), .int .i64 (lB k), .int .i64 (mB k)]) ∧ Below w.heap.size w w' := by
  rcases (show k = 0 ∨ k = 1 ∨ k = 2 ∨ k = 3 ∨ k = 4 ∨ k = 5 by omega) with rfl | rfl | rfl | rfl | rfl | rfl
  all_goals
    clear h
    go_enter Try.func40, Try.ntmps40
    go_wp2
    refine bodyPost_ret (results_cell_row rfl _ _ (w.heap.size + 1) 67 _ (0, 0) _ rfl ?_ Try.underlying67 rfl (by kernel_rfl)) rfl ⟨rfl, ?_⟩
    · exact heap2 _ _ _
    · exact below2 _ _ _
theorem boundsOf_no (k a b : Int) (w : World) (h : ¬ (0 ≤ k ∧ k ≤ 5)) :
    Calls Try.prog 40 #[.agg #[.int .i64 k, .int .i64 a, .int .i64 b]] w fun e w' => e = .panicked [{ v := .iface 43 (.agg #[.int .i64 k, .int .i64 a, .int .i64 b]), recovered := false }] ∧ Below w.heap.size w w' := by
  have h0 : ¬ k = 0 := by omega
  have h1 : ¬ k = 1 := by omega
  have h2 : ¬ k = 2 := by omega
  have h3 : ¬ k = 3 := by omega
  have h4 : ¬ k = 4 := by omega
  have h5 : ¬ k = 5 := by omega
  clear h
  go_enter Try.func40, Try.ntmps40
  go_wp2
  exact ⟨rfl, rfl, ((Below.refl _ _).alloc (Nat.le_refl _) _).alloc (by rw [World.size_alloc]; omega) _⟩
theorem box_at (w : World) (o : Obj) {w1 : World} (b1 : Below (w.alloc o).heap.size (w.alloc o) w1) : w1.heap[w.heap.size]? = some o := by
  rw [b1.block _ (by rw [World.size_alloc]; omega)]
  exact heap_alloc_new _ _
theorem box_lt (w : World) (o : Obj) {w1 : World} (b1 : Below (w.alloc o).heap.size (w.alloc o) w1) : w.heap.size < w1.heap.size := by
  have := b1.size
  rw [World.size_alloc] at this; omega
theorem blk3 {w : World} {b : Nat} {x y z : Value} {T : TypeId} (h : w.heap[b]? = some (.cells #[x, y, z] T (0, 0))) : w.cell? ⟨b, 0, none⟩ = some x ∧ w.cell? ⟨b, 1, none⟩ = some y ∧ w.cell? ⟨b, 2, none⟩ = some z ∧ (∀ i, w.frozen? ⟨b, i, none⟩ = false) ∧ w.shape? b = some (T, 3) := by
  refine ⟨by rw [Lib.cell_of_heap h]; rfl, by rw [Lib.cell_of_heap h]; rfl, by rw [Lib.cell_of_heap h]; rfl, fun i => Lib.frozen_of_heap h i, ?_⟩
  unfold World.shape?; rw [h]; rfl
set_option maxHeartbeats 2000000 in
theorem checkClue_yes (c : Cl) (w : World) (h : clP c) :
    Calls Try.prog 39 #[.agg #[.int .i64 c.k, .int .i64 c.a, .int .i64 c.b]] w fun e w' => e = .returned (.tuple #[]) ∧ Below w.heap.size w w' := by
  obtain ⟨hk, ha, hma, hlb, hmb⟩ := (clP_bnd c).1 h
  obtain ⟨k, a, b⟩ := c
  simp only at *
  have HB := fun W => Lib.hid (boundsOf_yes k a b W hk)
  obtain ⟨x, hx⟩ : ∃ x, x = mA k := ⟨_, rfl⟩
  obtain ⟨y, hy⟩ : ∃ y, y = lB k := ⟨_, rfl⟩
  obtain ⟨z, hz⟩ : ∃ z, z = mB k := ⟨_, rfl⟩
  rw [← hx, ← hy, ← hz] at HB
  rw [← hx] at hma
  rw [← hy] at hlb
  rw [← hz] at hmb
  clear hx hy hz h hk
  go_enter Try.func39, Try.ntmps39
  go_wp2_with (go_at_call 40; (with_reducible refine (HB _).out.mono ?_); rintro e w1 ⟨rfl, b1⟩; obtain ⟨c0, c1, c2, f0, s0⟩ := blk3 (box_at w _ b1); have hz1 := box_lt w _ b1; have B1 := chain (w := w) (by go_grown) b1)
  go_end0
  exact ⟨rfl, B1.alloc B1.size _⟩
theorem checkClue_no (c : Cl) (w : World) (h : ¬ clP c) :
    Calls Try.prog 39 #[.agg #[.int .i64 c.k, .int .i64 c.a, .int .i64 c.b]] w fun e w' => e = .panicked [{ v := .iface 43 (.agg #[.int .i64 c.k, .int .i64 c.a, .int .i64 c.b]), recovered := false }] ∧ Below w.heap.size w w' := by
  have hn : ¬ ((0 ≤ c.k ∧ c.k ≤ 5) ∧ 0 ≤ c.a ∧ c.a ≤ mA c.k ∧ lB c.k ≤ c.b ∧ c.b ≤ mB c.k) := fun e => h ((clP_bnd c).2 e)
  obtain ⟨k, a, b⟩ := c
  simp only at *
  by_cases hk : 0 ≤ k ∧ k ≤ 5
  · have HB := fun W => Lib.hid (boundsOf_yes k a b W hk)
    obtain ⟨x, hx⟩ : ∃ x, x = mA k := ⟨_, rfl⟩
    obtain ⟨y, hy⟩ : ∃ y, y = lB k := ⟨_, rfl⟩
    obtain ⟨z, hz⟩ : ∃ z, z = mB k := ⟨_, rfl⟩
    rw [← hx, ← hy, ← hz] at HB
    rw [← hx, ← hy, ← hz] at hn
    clear hx hy hz h
    rcases (show a < 0 ∨ (0 ≤ a ∧ x < a) ∨ (0 ≤ a ∧ a ≤ x ∧ b < y) ∨ (0 ≤ a ∧ a ≤ x ∧ y ≤ b ∧ z < b) by omega) with h1 | ⟨h1, h2⟩ | ⟨h1, h2, h3⟩ | ⟨h1, h2, h3, h4⟩
    all_goals
      clear hk hn
      go_enter Try.func39, Try.ntmps39
      go_wp2_with (go_at_call 40; (with_reducible refine (HB _).out.mono ?_); rintro e w1 ⟨rfl, b1⟩; obtain ⟨c0, c1, c2, f0, s0⟩ := blk3 (box_at w _ b1); have hz1 := box_lt w _ b1; have B1 := chain (w := w) (by go_grown) b1)
      exact ⟨rfl, rfl, B1.alloc B1.size _⟩
  · have HB := fun W => Lib.hid (boundsOf_no k a b W hk)
    clear hk hn h
    go_enter Try.func39, Try.ntmps39
    go_wp2_with (go_at_call 40; (with_reducible refine (HB _).out.mono ?_); rintro e w1 ⟨rfl, b1⟩; have B1 := chain (w := w) (by go_grown) b1)
    exact ⟨rfl, rfl, B1⟩
end Go.Proofs.Ytkdnplcaghnfhaa

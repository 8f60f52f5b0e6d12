/-
  Contracts of the walk along a ticket.
-/
import Derived.Test.YtlkeemnnncnibabCntOf
import Derived.Test.YtlkeemnnncnibabComp
import Derived.WalkSpells
import Derived.WalkLawsBesides
namespace Go.Proofs.Ytlkeemnnncnibab
open Go.RowKit
set_option maxRecDepth 100000

theorem cOf_at (D B n : Nat) (v : Value) (x s : Int) (w : World) (hx : x = (n : Int)) (hn : n ≤ D) (h : Cnts w v D B) :
    Calls Try.prog 97 #[v, .int .i64 x, .int .i64 s] w fun e w' => e = .returned (.int .i64 (Wi n s)) ∧ w = w' := by
  subst hx; exact cOf_any D B n v s w hn h

theorem Cnts.form {w : World} {v : Value} {D B : Nat} (h : Cnts w v D B) : ∃ g cap, v = .slice (some ⟨g, 0, none⟩) (D + 1) cap := by
  obtain ⟨g, cap, hv, _⟩ := h; exact ⟨g, cap, hv⟩
theorem Cnts.set {w : World} {v : Value} {D B : Nat} (h : Cnts w v D B) {p : Addr} (hp : p.block < B) (u : Value) : Cnts (w.setCell p u) v D B := by
  obtain ⟨g, cap, hv, hg, hB, h⟩ := h
  refine ⟨g, cap, hv, by simpa [World.setCell] using hg, hB, fun i hi => ?_⟩
  obtain ⟨gi, h1, h2, h3⟩ := h i hi
  exact ⟨gi, by rw [World.cell?_of_block (w := w) (Below.heap_setCell w p u g (by omega))]; exact h1, h2.other (by omega) u, h3⟩
theorem Cnts.mono {w : World} {v : Value} {D B B' : Nat} (h : Cnts w v D B) (hB : B' ≤ B) : Cnts w v D B' := by
  obtain ⟨g, cap, hv, hg, hBB, h⟩ := h
  refine ⟨g, cap, hv, hg, by omega, fun i hi => ?_⟩
  obtain ⟨gi, h1, h2, h3⟩ := h i hi
  exact ⟨gi, h1, h2, by omega⟩
/-- A block of the call's own, known whole. -/
def Blk (w : World) (b : Nat) (cs : Array Value) (T : TypeId) : Prop := w.heap[b]? = some (.cells cs T (0, 0))
theorem Blk.new (w : World) (cs : Array Value) (T : TypeId) : Blk (w.alloc (.cells cs T)) w.heap.size cs T := by
  show (w.heap.push _)[w.heap.size]? = _
  simp
theorem Blk.lt {w : World} {b : Nat} {cs : Array Value} {T : TypeId} (h : Blk w b cs T) : b < w.heap.size := (Array.getElem?_eq_some_iff.1 h).1
theorem Blk.keep {a c : World} {b : Nat} {cs : Array Value} {T : TypeId} (h : Blk a b cs T) (k : Below a.heap.size a c) : Blk c b cs T := by
  unfold Blk; rw [k.block b h.lt]; exact h
theorem Blk.cell {w : World} {b : Nat} {cs : Array Value} {T : TypeId} (h : Blk w b cs T) (j : Nat) : w.cell? ⟨b, j, none⟩ = cs[j]? := Lib.cell_of_heap h j
theorem Blk.frozen {w : World} {b : Nat} {cs : Array Value} {T : TypeId} (h : Blk w b cs T) (j : Nat) : w.frozen? ⟨b, j, none⟩ = false := Lib.frozen_of_heap h j
theorem cnts_at (x : Int) (D : Nat) (hx : x = (D : Int)) (hD : D ≤ 12) (w : World) :
    Calls Try.prog 96 #[.int .i64 x] w fun e w' => ∃ v, e = .returned v ∧ Cnts w' v D w.heap.size ∧ Below w.heap.size w w' := by
  subst hx; exact cnts_any D hD w
theorem completions_any (z p B : Nat) (v : Value) (b : Int) (w : World) (hz : z ≤ 6) (hp : p ≤ 2 * z) (hb : -1000 ≤ b ∧ b ≤ 1000) (hC : Cnts w v (2 * z) B) :
    Calls Try.prog 91 #[.agg #[v, .int .i64 (2 * (z : Int)), .int .i64 p, .int .i64 b]] w fun e w' => e = .returned (.int .i64 (cmp z p b)) ∧ Below w.heap.size w w' := by
  obtain ⟨hb1, hb2⟩ := hb
  have hC' := hC
  obtain ⟨g, cap, rfl, hg, hB, _⟩ := hC
  have E : ∀ x : Int, x = 9 * ((min (2 * z - p) z : Nat) : Int) - b → Hid (Wi (2 * z - p) x = cmp z p b) := by
    intro x hx; show Wi _ _ = _; rw [Wi_V, hx]; rfl
  go_enter Try.func91, Try.ntmps91
  go_wp2_with (go_at_call 97; go_must ((with_reducible refine (cOf_at (2 * z) B (2 * z - p) _ _ _ _ (by omega) (by omega) (hC'.below ((Below.refl _ _).alloc (Nat.le_refl _) _))).mono ?_); rintro e w' ⟨rfl, rfl⟩))
  all_goals go_ret
  all_goals exact ⟨ret_int (E _ (by omega)).out, by go_grown⟩

theorem newWalk_any (z : Nat) (hz : z ≤ 6) (w : World) :
    Calls Try.prog 89 #[.int .i64 (2 * (z : Int))] w fun e w' => ∃ v, e = .returned (.agg #[v, .int .i64 (2 * (z : Int)), .int .i64 0, .int .i64 0]) ∧ Cnts w' v (2 * z) w.heap.size ∧ Below w.heap.size w w' := by
  go_enter Try.func89, Try.ntmps89
  go_wp2_with (go_at_call 96; go_must ((with_reducible refine (cnts_at _ (2 * z) (by omega) (by omega) _).mono ?_); rintro e w1 ⟨v, rfl, hcn, hb⟩; have H1 := chain' (w := w) (by go_grown) hb; have F := (Blk.new w _ _).keep hb; clear hb; obtain ⟨g, cap, rfl⟩ := hcn.form; have c0 := F.cell 0; have c1 := F.cell 1; have c2 := F.cell 2; have c3 := F.cell 3; have c4 := F.frozen; have c5 := F.lt; simp at c0 c1 c2 c3))
  refine bodyPost_ret (v := .agg #[.slice (some ⟨g, 0, none⟩) (2 * z + 1) cap, .int .i64 (2 * (z : Int)), .int .i64 0, .int .i64 0]) (by simp [results, Try.results89, go_sem, c0, c1, c2, c3]) rfl ⟨_, rfl, ?_, by go_grown⟩
  exact ((((hcn.set (by simp) _).set (by simp) _).set (by simp) _).set (by simp) _).mono (by simp)
theorem step_any (z p : Nat) (v : Value) (b d : Int) (w : World) (hz : z ≤ 6) (hp : p ≤ 2 * z) (hb : -1000 ≤ b ∧ b ≤ 1000) (hd : 0 ≤ d ∧ d ≤ 9) (hv : ∃ g n cap, v = .slice (some ⟨g, 0, none⟩) n cap) :
    Calls Try.prog 90 #[.agg #[v, .int .i64 (2 * (z : Int)), .int .i64 p, .int .i64 b], .int .i64 d] w fun e w' => e = .returned (.agg #[v, .int .i64 (2 * (z : Int)), .int .i64 ((p : Int) + 1), .int .i64 (stp z p b d)]) ∧ Below w.heap.size w w' := by
  obtain ⟨hb1, hb2⟩ := hb
  obtain ⟨hd1, hd2⟩ := hd
  obtain ⟨g, n, cap, rfl⟩ := hv
  by_cases hc : p < z
  · have E : Hid (stp z p b d = b + d) := by show _ = _; rw [stp, if_pos hc]
    go_enter Try.func90, Try.ntmps90
    go_wp2
    refine bodyPost_ret (v := .agg #[.slice (some ⟨g, 0, none⟩) n cap, .int .i64 (2 * (z : Int)), .int .i64 ((p : Int) + 1), .int .i64 (b + d)]) (by simp [results, Try.results90, go_sem]) rfl ⟨by rw [E.out], by go_grown⟩
  · have E : Hid (stp z p b d = b - d) := by show _ = _; rw [stp, if_neg hc]
    go_enter Try.func90, Try.ntmps90
    go_wp2
    refine bodyPost_ret (v := .agg #[.slice (some ⟨g, 0, none⟩) n cap, .int .i64 (2 * (z : Int)), .int .i64 ((p : Int) + 1), .int .i64 (b - d)]) (by simp [results, Try.results90, go_sem]) rfl ⟨by rw [E.out], by go_grown⟩
end Go.Proofs.Ytlkeemnnncnibab

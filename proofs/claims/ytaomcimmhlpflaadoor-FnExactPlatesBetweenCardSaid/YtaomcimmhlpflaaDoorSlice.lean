/-
  Contracts of the law's own helpers over slices of numbers: compared, marked, held.
-/
import Derived.Test.YtaomcimmhlpflaaDoorRows
import Derived.WalkKit
import Derived.ProofKit
import Derived.Handy
import Derived.Lib.Hide
import Derived.WalkSmall
import Derived.Deep.QuietTactic
import Derived.BigQuiet
import Derived.WalkSpells
namespace Go.Proofs.YtaomcimmhlpflaaDoor
open Go.RowKit

theorem ret_int'' {k : IntKind} {a b : Int} (h : a = b) : Ending.returned (.int k a) = .returned (.int k b) := by rw [h]
theorem val_int'' {k : IntKind} {a b : Int} (h : a = b) : Value.int k a = .int k b := by rw [h]
/-- A value is a slice of these numbers, in a row of the call's own from block B on. -/
def Ints (B : Nat) (xs : List Int) (v : Value) (w : World) : Prop := w.ownsRow B 3 1 v xs.length (xs.map (Value.int .i64))
theorem Ints.form {B : Nat} {xs : List Int} {v : Value} {w : World} (h : Ints B xs v w) :
    (∃ ao cap, v = .slice ao xs.length cap ∧ xs.length = 0) ∨ ∃ g cap, v = .slice (some ⟨g, 0, none⟩) xs.length cap ∧ B ≤ g ∧ g < w.heap.size ∧ (∀ i, i < xs.length → w.cell? ⟨g, i, none⟩ = some (.int .i64 (xs.getD i 0))) ∧ ∀ i, w.frozen? ⟨g, i, none⟩ = false := by
  have h' := h
  rcases h.2 with ⟨hv, hn⟩ | ⟨g, cap, cur, hv, hb, hg, _⟩
  · exact .inl ⟨none, 0, by rw [hv, hn], hn⟩
  · refine .inr ⟨g, cap, hv, hb, (Array.getElem?_eq_some_iff.1 hg).1, fun i hi => ?_, fun i => ?_⟩
    · unfold Ints at h'
      rw [hv] at h'
      rw [h'.cellAt i (by omega)]
      simp [List.getElem?_eq_getElem hi]
    · unfold Ints at h'
      rw [hv] at h'
      exact h'.frozenAt i
theorem Ints.below {B : Nat} {xs : List Int} {v : Value} {w w' : World} (h : Ints B xs v w) (k : Below w.heap.size w w') : Ints B xs v w' :=
  World.ownsRow.kept h (row := none) ⟨k.os, k.tape, k.output, k.size, fun i hi _ => k.block i hi⟩ (by cases v.ownBlock <;> simp)
theorem Ints.drewN {B : Nat} {xs : List Int} {v : Value} {w : World} (h : Ints B xs v w) (n : Nat) : Ints B xs v (w.drewN n) := h
theorem Ints.mono {B B' : Nat} {xs : List Int} {v : Value} {w : World} (h : Ints B xs v w) (hB : B' ≤ B) : Ints B' xs v w := by
  refine ⟨h.1, ?_⟩
  rcases h.2 with h0 | ⟨g, cap, cur, hv, hb, r⟩
  · exact .inl h0
  · exact .inr ⟨g, cap, cur, hv, by omega, r⟩
/-- What lies below the row's base is kept while the row is written. -/
theorem Ints.apart {B C : Nat} {xs : List Int} {v : Value} {w w' : World} (h : Ints B xs v w) (hC : w.heap.size ≤ C ∨ ∀ k, v.ownBlock = some k → k < C) (k : Below C w w') : Ints B xs v w' := by
  refine ⟨h.1, ?_⟩
  rcases h.2 with h0 | ⟨g, cap, cur, hv, hb, hg, r⟩
  · exact .inl h0
  · refine .inr ⟨g, cap, cur, hv, hb, ?_, r⟩
    have hlt : g < w.heap.size := (Array.getElem?_eq_some_iff.1 hg).1
    rw [k.block g ?_]
    · exact hg
    · rcases hC with h1 | h1
      · omega
      · exact h1 g (by rw [hv]; rfl)
theorem Ints.own_lt {B : Nat} {xs : List Int} {v : Value} {w : World} (h : Ints B xs v w) : ∀ k, v.ownBlock = some k → k < w.heap.size := fun k hk => (World.ownsRow.lt h k hk).2

/-- The marks that are laid: k, k + 1, .. -/
def marks (k : Int) (n : Nat) : List Int := (List.range n).map (fun (j : Nat) => k + (j : Int))
theorem marks_len (k : Int) (n : Nat) : (marks k n).length = n := by simp [marks]
theorem marks_get (k : Int) (n j : Nat) (h : j < n) : (marks k n).getD j 0 = k + j := by
  simp [marks, List.getD, h]
/-- After i marks. -/
def marked (k : Int) (xs : List Int) (i : Nat) : List Int := marks k i ++ xs.drop i
theorem marked_zero (k : Int) (xs : List Int) : marked k xs 0 = xs := by simp [marked, marks]
theorem marked_all (k : Int) (xs : List Int) : marked k xs xs.length = marks k xs.length := by simp [marked]
theorem marked_succ (k : Int) (xs : List Int) (i : Nat) (h : i < xs.length) : (marked k xs i).set i (k + (i : Int)) = marked k xs (i + 1) := by
  unfold marked
  rw [List.set_append_right _ _ (by rw [marks_len]; exact Nat.le_refl _), marks_len, Nat.sub_self]
  rw [show (xs.drop i).set 0 (k + (i : Int)) = (k + (i : Int)) :: xs.drop (i + 1) from by rw [List.drop_eq_getElem_cons h]; rfl]
  simp [marks, List.range_succ]
theorem marked_len (k : Int) (xs : List Int) (i : Nat) (h : i ≤ xs.length) : (marked k xs i).length = xs.length := by
  simp [marked, marks_len]; omega
theorem Ints.store {B : Nat} {xs : List Int} {g n cap : Nat} {w : World} (hn : xs.length = n) (h : Ints B xs (.slice (some ⟨g, 0, none⟩) n cap) w) (j : Nat) (x : Int) : Ints B (xs.set j x) (.slice (some ⟨g, 0, none⟩) n cap) (w.setCell ⟨g, j, none⟩ (.int .i64 x)) := by
  subst hn
  have := (World.ownsRow.stored h j (.int .i64 x)).1
  unfold Ints
  rw [List.length_set, List.map_set]; exact this

end Go.Proofs.YtaomcimmhlpflaaDoor

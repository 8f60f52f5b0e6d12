/-
  Slices of numbers in rows of the call's own.
-/
import Derived.Test.YtlgleghofiflaabSgLeaf
import Derived.Maps.AppendAt
namespace Go.Proofs.Ytlgleghofiflaab
open Go.RowKit

/-- A value is a slice of these numbers, in a row of the call's own from block B on. -/
def Ints (B : Nat) (xs : List Int) (v : Value) (w : World) : Prop := w.ownsRow B 3 1 v xs.length (xs.map (Value.int .i64))
theorem Ints.form {B : Nat} {xs : List Int} {v : Value} {w : World} (h : Ints B xs v w) :
    (∃ ao cap, v = .slice ao xs.length cap ∧ xs.length = 0) ∨ ∃ g cap, v = .slice (some ⟨g, 0, none⟩) xs.length cap ∧ B ≤ g ∧ g < w.heap.size ∧ (∀ i, i < xs.length → w.cell? ⟨g, i, none⟩ = some (.int .i64 (xs.getD i 0))) ∧ ∀ i, w.frozen? ⟨g, i, none⟩ = false := by
  have h' := h
  rcases h.2 with ⟨hv, hn⟩ | ⟨g, cap, cur, hv, hb, hg, _⟩
  · exact .inl ⟨none, 0, by rw [hv, hn], hn⟩
  · refine .inr ⟨g, cap, hv, hb, (Array.getElem?_eq_some_iff.1 hg).1, fun i hi => ?_, fun i => ?_⟩
    · unfold Ints at h'
      rw [hv] at h'
      rw [h'.cellAt i (by omega)]
      simp [List.getElem?_eq_getElem hi]
    · unfold Ints at h'
      rw [hv] at h'
      exact h'.frozenAt i
theorem Ints.below {B : Nat} {xs : List Int} {v : Value} {w w' : World} (h : Ints B xs v w) (k : Below w.heap.size w w') : Ints B xs v w' :=
  World.ownsRow.kept h (row := none) ⟨k.os, k.tape, k.output, k.size, fun i hi _ => k.block i hi⟩ (by cases v.ownBlock <;> simp)
theorem Ints.drewN {B : Nat} {xs : List Int} {v : Value} {w : World} (h : Ints B xs v w) (n : Nat) : Ints B xs v (w.drewN n) := h
theorem Ints.mono {B B' : Nat} {xs : List Int} {v : Value} {w : World} (h : Ints B xs v w) (hB : B' ≤ B) : Ints B' xs v w := by
  refine ⟨h.1, ?_⟩
  rcases h.2 with h0 | ⟨g, cap, cur, hv, hb, r⟩
  · exact .inl h0
  · exact .inr ⟨g, cap, cur, hv, by omega, r⟩
/-- What lies below the row's base is kept while the row is written. -/
theorem Ints.apart {B C : Nat} {xs : List Int} {v : Value} {w w' : World} (h : Ints B xs v w) (hC : w.heap.size ≤ C ∨ ∀ k, v.ownBlock = some k → k < C) (k : Below C w w') : Ints B xs v w' := by
  refine ⟨h.1, ?_⟩
  rcases h.2 with h0 | ⟨g, cap, cur, hv, hb, hg, r⟩
  · exact .inl h0
  · refine .inr ⟨g, cap, cur, hv, hb, ?_, r⟩
    have hlt : g < w.heap.size := (Array.getElem?_eq_some_iff.1 hg).1
    rw [k.block g ?_]
    · exact hg
    · rcases hC with h1 | h1
      · omega
      · exact h1 g (by rw [hv]; rfl)
theorem Ints.own_lt {B : Nat} {xs : List Int} {v : Value} {w : World} (h : Ints B xs v w) : ∀ k, v.ownBlock = some k → k < w.heap.size := fun k hk => (World.ownsRow.lt h k hk).2

theorem Ints.nil (B : Nat) (w : World) : Ints B [] (.slice none 0 0) w := World.ownsRow_nil _ _ _ _
theorem Ints.alloc {B : Nat} {xs : List Int} {v : Value} {w : World} (h : Ints B xs v w) (o : Obj) : Ints B xs v (w.alloc o) := h.below ((Below.refl _ _).alloc (Nat.le_refl _) o)
theorem wpList_append_int (w : World) {ops : Array Oper} {rest : List Oper} {o : Oper} {a : Act} {Q : Exit → Act → World → Prop} (hgd : o.guard = none) (s x : Operand)
    (ho : o.op = .call { callee := .builtin .append, args := #[s, x], argTypes := #[25, 25] })
    (B : Nat) (xs : List Int) (v : Value) (hs : a.eval s = v) (hown : Ints B xs v w) (k : Nat) (y : Int) (hx : a.eval x = .slice (some ⟨k, 0, none⟩) 1 1) (hc : w.cell? ⟨k, 0, none⟩ = some (.int .i64 y))
    (hlen : xs.length ≤ 1000000) (hB : B ≤ w.heap.size)
    (h : ∀ v' w', Ints B (xs ++ [y]) v' w' → Below B w w' → (v'.ownBlock = v.ownBlock ∨ v'.ownBlock = some w.heap.size) → wpList Try.prog ops Q rest (a.put o.dst v') w') :
    wpList Try.prog ops Q (o :: rest) a w := by
  obtain ⟨i0, hi, hz0, hz1, hz2⟩ := info_parts (show (Try.prog.info? 3).map (fun i => (i.zero, i.size, i.bytes)) = some (some (.int .i64 0), 1, 8) by kernel_rfl)
  refine wpList_append_own_at _ hgd s x 25 ho B 3 i0 (.int .i64 0) 1 8 Try.underlying25 hi hz0 hz1 hz2 rfl (by decide) v xs.length (xs.map (Value.int .i64)) hs hown ⟨k, 0, none⟩ 1 1 [.int .i64 y] hx rfl ?_ ?_ ?_ ?_ hB ?_
  · intro j u hj
    match j, hj with
    | 0, hj => simp at hj; subst hj; simpa [Addr.add] using hc
  · intro u hu; simp at hu; subst hu; rfl
  · unfold maxLen; omega
  · omega
  · intro v' w' h1 hg _ hat
    refine h v' w' ?_ ?_ hat
    · unfold Ints; simpa using h1
    · exact (Below.refl B w).grown hg hB (fun q hq => (World.ownsRow.lt hown q hq).1)
end Go.Proofs.Ytlgleghofiflaab

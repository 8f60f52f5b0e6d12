/-
  append of one number to a slice of the call's own.
-/
import Derived.Test.YtaomcimmhlpflaaDoorSlice
import Derived.Maps.AppendAt
namespace Go.Proofs.YtaomcimmhlpflaaDoor
open Go.RowKit

theorem Ints.alloc {B : Nat} {xs : List Int} {v : Value} {w : World} (h : Ints B xs v w) (o : Obj) : Ints B xs v (w.alloc o) := h.below ((Below.refl _ _).alloc (Nat.le_refl _) o)
theorem wpList_append_int (w : World) {ops : Array Oper} {rest : List Oper} {o : Oper} {a : Act} {Q : Exit → Act → World → Prop} (hgd : o.guard = none) (s x : Operand)
    (ho : o.op = .call { callee := .builtin .append, args := #[s, x], argTypes := #[81, 81] })
    (B : Nat) (xs : List Int) (v : Value) (hs : a.eval s = v) (hown : Ints B xs v w) (k : Nat) (y : Int) (hx : a.eval x = .slice (some ⟨k, 0, none⟩) 1 1) (hc : w.cell? ⟨k, 0, none⟩ = some (.int .i64 y))
    (hlen : xs.length ≤ 1000000) (hB : B ≤ w.heap.size)
    (h : ∀ v' w', Ints B (xs ++ [y]) v' w' → Below B w w' → (v'.ownBlock = v.ownBlock ∨ v'.ownBlock = some w.heap.size) → wpList Tryd.prog ops Q rest (a.put o.dst v') w') :
    wpList Tryd.prog ops Q (o :: rest) a w := by
  obtain ⟨i0, hi, hz0, hz1, hz2⟩ := info_parts (show (Tryd.prog.info? 3).map (fun i => (i.zero, i.size, i.bytes)) = some (some (.int .i64 0), 1, 8) by kernel_rfl)
  refine wpList_append_own_at _ hgd s x 81 ho B 3 i0 (.int .i64 0) 1 8 Tryd.underlying81 hi hz0 hz1 hz2 rfl (by decide) v xs.length (xs.map (Value.int .i64)) hs hown ⟨k, 0, none⟩ 1 1 [.int .i64 y] hx rfl ?_ ?_ ?_ ?_ hB ?_
  · intro j u hj
    match j, hj with
    | 0, hj => simp at hj; subst hj; simpa [Addr.add] using hc
  · intro u hu; simp at hu; subst hu; rfl
  · unfold maxLen; omega
  · omega
  · intro v' w' h1 hg _ hat
    refine h v' w' ?_ ?_ hat
    · unfold Ints; simpa using h1
    · exact (Below.refl B w).grown hg hB (fun q hq => (World.ownsRow.lt hown q hq).1)
end Go.Proofs.YtaomcimmhlpflaaDoor

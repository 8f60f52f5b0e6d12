/-
  Slices of texts in rows of the call's own.
-/
import Derived.Test.YtaomcimmhlpflaaDoorPlBase
import Derived.Maps.AppendAt
import Derived.Deep.AppendLies
import Derived.Deep.RegionLaw
namespace Go.Proofs.YtaomcimmhlpflaaDoor
open Go.RowKit

def strV (t : List UInt8) : Value := .string ⟨t.toArray⟩
/-- A value is a slice of these texts, in a row of the call's own from block B on. -/
def Strs (B : Nat) (ts : List (List UInt8)) (v : Value) (w : World) : Prop := w.ownsRow B 9 1 v ts.length (ts.map strV)
theorem Strs.form {B : Nat} {ts : List (List UInt8)} {v : Value} {w : World} (h : Strs B ts v w) :
    (v = .slice none 0 0 ∧ ts.length = 0) ∨ ∃ g cap, v = .slice (some ⟨g, 0, none⟩) ts.length cap ∧ B ≤ g ∧ g < w.heap.size ∧ (∀ i, i < ts.length → w.cell? ⟨g, i, none⟩ = some (strV (ts.getD i []))) ∧ ∀ i, w.frozen? ⟨g, i, none⟩ = false := by
  have h' := h
  rcases h.2 with ⟨hv, hn⟩ | ⟨g, cap, cur, hv, hb, hg, _⟩
  · exact .inl ⟨hv, hn⟩
  · refine .inr ⟨g, cap, hv, hb, (Array.getElem?_eq_some_iff.1 hg).1, fun i hi => ?_, fun i => ?_⟩
    · unfold Strs at h'
      rw [hv] at h'
      rw [h'.cellAt i (by omega)]
      simp [List.getElem?_eq_getElem hi]
    · unfold Strs at h'
      rw [hv] at h'
      exact h'.frozenAt i
theorem Strs.nil (B : Nat) (w : World) : Strs B [] (.slice none 0 0) w := World.ownsRow_nil _ _ _ _
theorem Strs.below {B : Nat} {ts : List (List UInt8)} {v : Value} {w w' : World} (h : Strs B ts v w) (k : Below w.heap.size w w') : Strs B ts v w' :=
  World.ownsRow.kept h (row := none) ⟨k.os, k.tape, k.output, k.size, fun i hi _ => k.block i hi⟩ (by cases v.ownBlock <;> simp)
theorem Strs.mono {B B' : Nat} {ts : List (List UInt8)} {v : Value} {w : World} (h : Strs B ts v w) (hB : B' ≤ B) : Strs B' ts v w := by
  refine ⟨h.1, ?_⟩
  rcases h.2 with h0 | ⟨g, cap, cur, hv, hb, r⟩
  · exact .inl h0
  · exact .inr ⟨g, cap, cur, hv, by omega, r⟩
theorem Strs.alloc {B : Nat} {ts : List (List UInt8)} {v : Value} {w : World} (h : Strs B ts v w) (o : Obj) : Strs B ts v (w.alloc o) := h.below ((Below.refl _ _).alloc (Nat.le_refl _) o)
theorem Strs.own_lt {B : Nat} {ts : List (List UInt8)} {v : Value} {w : World} (h : Strs B ts v w) : ∀ k, v.ownBlock = some k → k < w.heap.size := fun k hk => (World.ownsRow.lt h k hk).2
theorem Strs.apart {B C : Nat} {ts : List (List UInt8)} {v : Value} {w w' : World} (h : Strs B ts v w) (hC : w.heap.size ≤ C ∨ ∀ k, v.ownBlock = some k → k < C) (k : Below C w w') : Strs B ts v w' := by
  refine ⟨h.1, ?_⟩
  rcases h.2 with h0 | ⟨g, cap, cur, hv, hb, hg, r⟩
  · exact .inl h0
  · refine .inr ⟨g, cap, cur, hv, hb, ?_, r⟩
    have hlt : g < w.heap.size := (Array.getElem?_eq_some_iff.1 hg).1
    rw [k.block g ?_]
    · exact hg
    · rcases hC with h1 | h1
      · omega
      · exact h1 g (by rw [hv]; rfl)
theorem Strs.one (t : List UInt8) (w : World) : Strs w.heap.size [t] (.slice (some ⟨w.heap.size, 0, none⟩) 1 1) (w.alloc (.cells #[strV t] 9)) :=
  ⟨rfl, .inr ⟨w.heap.size, 1, #[strV t], rfl, Nat.le_refl _, (MapKept.heap_alloc w _).1, Nat.le_refl _, by unfold maxLen; omega, rfl, rfl⟩⟩
theorem news3 (w : World) (ty : TypeId) {t1 t2 t3 : List UInt8} {x y z : ByteArray} (hx : x = ⟨t1.toArray⟩) (hy : y = ⟨t2.toArray⟩) (hz : z = ⟨t3.toArray⟩) : ∀ (j : Nat) (u : List UInt8), [t1, t2, t3][j]? = some u → (w.alloc (.cells #[.string x, .string y, .string z] ty)).cell? ⟨w.heap.size, j, none⟩ = some (strV u) := by
  subst hx hy hz
  intro j u hj
  match j, hj with
  | 0, hj => simp at hj; subst hj; simp [strV]
  | 1, hj => simp at hj; subst hj; simp [strV]
  | 2, hj => simp at hj; subst hj; simp [strV]
theorem news1 (w : World) (ty : TypeId) {t1 : List UInt8} {x : ByteArray} (hx : x = ⟨t1.toArray⟩) : ∀ (j : Nat) (u : List UInt8), [t1][j]? = some u → (w.alloc (.cells #[.string x] ty)).cell? ⟨w.heap.size, j, none⟩ = some (strV u) := by
  subst hx
  intro j u hj
  match j, hj with
  | 0, hj => simp at hj; subst hj; simp [strV]
theorem append_strs (w : World) {ops : Array Oper} {rest : List Oper} {o : Oper} {a : Act} {Q : Exit → Act → World → Prop} (hgd : o.guard = none) (s x : Operand)
    (ho : o.op = .call { callee := .builtin .append, args := #[s, x], argTypes := #[22, 22] })
    (B : Nat) (ts : List (List UInt8)) (v : Value) (hs : a.eval s = v) (hown : Strs B ts v w) (k : Nat) (us : List (List UInt8)) (hx : a.eval x = .slice (some ⟨k, 0, none⟩) us.length us.length) (hc : ∀ j u, us[j]? = some u → w.cell? ⟨k, j, none⟩ = some (strV u))
    (hlen : ts.length + us.length ≤ 2000000) (hB : B ≤ w.heap.size)
    (h : ∀ v' w', Strs B (ts ++ us) v' w' → Below B w w' → wpList Tryd.prog ops Q rest (a.put o.dst v') w') :
    wpList Tryd.prog ops Q (o :: rest) a w := by
  obtain ⟨i0, hi, hz0, hz1, hz2⟩ := info_parts (show (Tryd.prog.info? 9).map (fun i => (i.zero, i.size, i.bytes)) = some (some (.string ⟨#[]⟩), 1, 16) by kernel_rfl)
  refine wpList_append_own_at _ hgd s x 22 ho B 9 i0 (.string ⟨#[]⟩) 1 16 Tryd.underlying22 hi hz0 hz1 hz2 rfl (by decide) v ts.length (ts.map strV) hs hown ⟨k, 0, none⟩ us.length us.length (us.map strV) hx (by simp) ?_ ?_ ?_ ?_ hB ?_
  · intro j u hj
    rw [List.getElem?_map] at hj
    cases e : us[j]? with
    | none => rw [e] at hj; cases hj
    | some z => rw [e] at hj; simp at hj; subst hj; have := hc j z e; cases j <;> simpa [Addr.add] using this
  · intro u hu; simp at hu; obtain ⟨z, _, rfl⟩ := hu; rfl
  · unfold maxLen; omega
  · omega
  · intro v' w' h1 hg _ _
    refine h v' w' ?_ ?_
    · unfold Strs; simpa using h1
    · exact (Below.refl B w).grown hg hB (fun q hq => (World.ownsRow.lt hown q hq).1)
theorem step_append_strs (w : World) {ops : Array Oper} {o : Oper} {a : Act} {K : Act → World → Prop} {Q : Exit → Act → World → Prop} {E : Prop} (hgd : o.guard = none) (s x : Operand)
    (ho : o.op = .call { callee := .builtin .append, args := #[s, x], argTypes := #[22, 22] })
    (B : Nat) (ts : List (List UInt8)) (v : Value) (hs : a.eval s = v) (hown : Strs B ts v w) (k : Nat) (us : List (List UInt8)) (hx : a.eval x = .slice (some ⟨k, 0, none⟩) us.length us.length) (hc : ∀ j u, us[j]? = some u → w.cell? ⟨k, j, none⟩ = some (strV u))
    (hpos : 0 < us.length) (hlen : ts.length + us.length ≤ 2000000) (hB : B ≤ w.heap.size)
    (h : ∀ v' w', Strs B (ts ++ us) v' w' → Below B w w' → K (a.put o.dst v') w') :
    if Region.wanted o (yielded ops a.tmps) = true then Oper.wp Tryd.prog o a w K Q else E := by
  obtain ⟨i0, hi, hz0, hz1, hz2⟩ := info_parts (show (Tryd.prog.info? 9).map (fun i => (i.zero, i.size, i.bytes)) = some (some (.string ⟨#[]⟩), 1, 16) by kernel_rfl)
  refine step_append_lies w hgd s x 22 ho B 9 i0 (.string ⟨#[]⟩) 1 16 Tryd.underlying22 hi hz0 hz1 hz2 rfl (by decide) v ts.length (ts.map strV) hs hown ⟨k, 0, none⟩ us.length us.length (us.map strV) hx (by simp) ?_ ?_ hpos ?_ ?_ hB _ rfl ?_
  · intro j u hj
    rw [List.getElem?_map] at hj
    cases e : us[j]? with
    | none => rw [e] at hj; cases hj
    | some z => rw [e] at hj; simp at hj; subst hj; have := hc j z e; cases j <;> simpa [Addr.add] using this
  · intro u hu; simp at hu; obtain ⟨z, _, rfl⟩ := hu; rfl
  · unfold maxLen; omega
  · omega
  · intro g cap w' h1 hg _ _
    refine h _ w' ?_ ?_
    · unfold Strs; simpa using h1
    · exact (Below.refl B w).grown hg hB (fun q hq => (World.ownsRow.lt hown q hq).1)
/-- A value reads as these texts. -/
def Rd (ts : List (List UInt8)) (v : Value) (w : World) : Prop :=
  ∃ a cap, v = .slice a ts.length cap ∧ ∀ i, i < ts.length → ∃ g o, a = some ⟨g, o, none⟩ ∧ g < w.heap.size ∧ w.cell? ⟨g, o + i, none⟩ = some (strV (ts.getD i []))
theorem Strs.rd {B : Nat} {ts : List (List UInt8)} {v : Value} {w : World} (h : Strs B ts v w) : Rd ts v w := by
  rcases h.form with ⟨rfl, h0⟩ | ⟨g, cap, rfl, _, hg, hc, _⟩
  · exact ⟨none, 0, by rw [h0], fun i hi => by omega⟩
  · exact ⟨_, cap, rfl, fun i hi => ⟨g, 0, rfl, hg, by rw [Nat.zero_add]; exact hc i hi⟩⟩
theorem Rd.below {ts : List (List UInt8)} {v : Value} {w w' : World} (h : Rd ts v w) (k : Below w.heap.size w w') : Rd ts v w' := by
  obtain ⟨a, cap, rfl, hc⟩ := h
  refine ⟨a, cap, rfl, fun i hi => ?_⟩
  obtain ⟨g, o, h1, h2, h3⟩ := hc i hi
  exact ⟨g, o, h1, by have := k.size; omega, (k.cell (p := ⟨g, o + i, none⟩) h2).trans h3⟩
theorem Rd.drewN {ts : List (List UInt8)} {v : Value} {w : World} (h : Rd ts v w) (n : Nat) : Rd ts v (w.drewN n) := h
/-- Texts of a bounded size. -/
structure Fit (P B : ByteArray) (ts : List (List UInt8)) : Prop where
  p : P.size ≤ 1048576
  b : B.size ≤ 1048576
  n : ts.length ≤ 1048576
  t : ∀ i, i < ts.length → (ts.getD i []).length ≤ 1048576
end Go.Proofs.YtaomcimmhlpflaaDoor

/-
  Slices of clues: read from wherever they lie, rows of the call's own.
-/
import Derived.Test.YtkdnplcaghnfhaaRows
import Derived.Test.YtkdnplcaghnfhaaPzMath
import Derived.Test.YtkdnplcaghnfhaaSlice
import Derived.WalkKit
import Derived.ProofKit
import Derived.Handy
import Derived.Lib.Hide
import Derived.IntWalk
import Derived.Deep.QuietTactic
import Derived.BigQuiet
import Derived.WalkSpells
import Derived.WalkSmall
import Derived.Outline
import Derived.Below
import Derived.Deep.RegionWith
import Derived.Deep.RegionHeld3
import Derived.Deep.DrawnRows
import Derived.Deep.LoopGhost
import Derived.Shelf.Abstract
import Derived.Deep.OwnRows
namespace Go.Proofs.Ytkdnplcaghnfhaa
open Go.RowKit
set_option maxRecDepth 100000

theorem ret_int {k : IntKind} {a b : Int} (h : a = b) : Ending.returned (.int k a) = .returned (.int k b) := by rw [h]
theorem ret_bool {a b : Bool} (h : a = b) : Ending.returned (.bool a) = .returned (.bool b) := by rw [h]
theorem ret_ib {a b : Int} {p q : Bool} (h : a = b) (g : p = q) : Ending.returned (.tuple #[.int .i64 a, .bool p]) = .returned (.tuple #[.int .i64 b, .bool q]) := by rw [h, g]
theorem ret_bb {a b p q : Bool} (h : a = b) (h2 : p = q) : Ending.returned (.tuple #[.bool a, .bool p]) = .returned (.tuple #[.bool b, .bool q]) := by rw [h, h2]
theorem ret_sb {a b : ByteArray} {p q : Bool} (h : a = b) (h2 : p = q) : Ending.returned (.tuple #[.string a, .bool p]) = .returned (.tuple #[.string b, .bool q]) := by rw [h, h2]
theorem val_int {k : IntKind} {a b : Int} (h : a = b) : Value.int k a = .int k b := by rw [h]
theorem chain {w a b : World} (h : Below w.heap.size w a) (k : Below a.heap.size a b) : Below w.heap.size w b := h.trans (k.mono h.size)
theorem below_drewN {B : Nat} {a w : World} (h : Below B a w) (n : Nat) : Below B a (w.drewN n) := ⟨h.os, h.tape, h.output, h.size, h.block⟩
theorem below_drw {B : Nat} {a w : World} (h : Below B a w) : Below B a w.drew := ⟨h.os, h.tape, h.output, h.size, h.block⟩
/-- The cells of a clue. -/
def clC (c : Cl) : List Value := [.int .i64 c.k, .int .i64 c.a, .int .i64 c.b]
def flc : List Cl → List Value
  | [] => []
  | c :: cs => .int .i64 c.k :: .int .i64 c.a :: .int .i64 c.b :: flc cs
theorem flc_len (cs : List Cl) : (flc cs).length = cs.length * 3 := by
  induction cs with
  | nil => rfl
  | cons c cs ih => simp only [flc, List.length_cons, ih]; omega
theorem flc_append (cs ds : List Cl) : flc (cs ++ ds) = flc cs ++ flc ds := by
  induction cs with
  | nil => rfl
  | cons c cs ih => simp only [flc, List.cons_append, ih]
theorem flc_0 (cs : List Cl) : ∀ i, i < cs.length → (flc cs)[i * 3]? = some (.int .i64 (cs.getD i c0).k) := by
  induction cs with
  | nil => intro i hi; simp at hi
  | cons c cs ih =>
    intro i hi
    cases i with
    | zero => rfl
    | succ i =>
      have := ih i (by simp at hi; omega)
      rw [show (i + 1) * 3 = i * 3 + 1 + 1 + 1 by omega]
      simp only [flc, List.getElem?_cons_succ, List.getD_cons_succ]
      exact this
theorem flc_1 (cs : List Cl) : ∀ i, i < cs.length → (flc cs)[i * 3 + 1]? = some (.int .i64 (cs.getD i c0).a) := by
  induction cs with
  | nil => intro i hi; simp at hi
  | cons c cs ih =>
    intro i hi
    cases i with
    | zero => rfl
    | succ i =>
      have := ih i (by simp at hi; omega)
      rw [show (i + 1) * 3 + 1 = (i * 3 + 1) + 1 + 1 + 1 by omega]
      simp only [flc, List.getElem?_cons_succ, List.getD_cons_succ]
      exact this
theorem flc_2 (cs : List Cl) : ∀ i, i < cs.length → (flc cs)[i * 3 + 2]? = some (.int .i64 (cs.getD i c0).b) := by
  induction cs with
  | nil => intro i hi; simp at hi
  | cons c cs ih =>
    intro i hi
    cases i with
    | zero => rfl
    | succ i =>
      have := ih i (by simp at hi; omega)
      rw [show (i + 1) * 3 + 2 = (i * 3 + 2) + 1 + 1 + 1 by omega]
      simp only [flc, List.getElem?_cons_succ, List.getD_cons_succ]
      exact this
theorem flc_int (cs : List Cl) : ∀ u ∈ flc cs, u.oneCell' = true := by
  induction cs with
  | nil => intro u hu; cases hu
  | cons c cs ih =>
    intro u hu
    simp only [flc, List.mem_cons] at hu
    rcases hu with rfl | rfl | rfl | h
    · rfl
    · rfl
    · rfl
    · exact ih u h
/-- A value reads as these clues. -/
def RdC (cs : List Cl) (v : Value) (w : World) : Prop :=
  ∃ a cap, v = .slice a cs.length cap ∧ cs.length ≤ cap ∧ ∀ i, i < cs.length → ∃ g o, a = some ⟨g, o, none⟩ ∧ g < w.heap.size ∧ w.cell? ⟨g, o + i * 3, none⟩ = some (.int .i64 (cs.getD i c0).k) ∧ w.cell? ⟨g, o + i * 3 + 1, none⟩ = some (.int .i64 (cs.getD i c0).a) ∧ w.cell? ⟨g, o + i * 3 + 2, none⟩ = some (.int .i64 (cs.getD i c0).b)
theorem RdC.below {cs : List Cl} {v : Value} {w w' : World} (h : RdC cs v w) (k : Below w.heap.size w w') : RdC cs v w' := by
  obtain ⟨a, cap, rfl, hcp, hc⟩ := h
  refine ⟨a, cap, rfl, hcp, fun i hi => ?_⟩
  obtain ⟨g, o, h1, h2, h3, h4, h5⟩ := hc i hi
  exact ⟨g, o, h1, by have := k.size; omega, (k.cell (p := ⟨g, o + i * 3, none⟩) h2).trans h3, (k.cell (p := ⟨g, o + i * 3 + 1, none⟩) h2).trans h4, (k.cell (p := ⟨g, o + i * 3 + 2, none⟩) h2).trans h5⟩
theorem RdC.drewN {cs : List Cl} {v : Value} {w : World} (h : RdC cs v w) (n : Nat) : RdC cs v (w.drewN n) := h
theorem RdC.drw {cs : List Cl} {v : Value} {w : World} (h : RdC cs v w) : RdC cs v w.drew := h
theorem RdC.alloc {cs : List Cl} {v : Value} {w : World} (h : RdC cs v w) (o : Obj) : RdC cs v (w.alloc o) := h.below ((Below.refl _ _).alloc (Nat.le_refl _) o)
/-- A value is a slice of these clues, in a row of the call's own from block B on. -/
def Clu (B : Nat) (cs : List Cl) (v : Value) (w : World) : Prop := w.ownsRow B 43 3 v cs.length (flc cs)
theorem Clu.form {B : Nat} {cs : List Cl} {v : Value} {w : World} (h : Clu B cs v w) :
    (v = .slice none 0 0 ∧ cs = []) ∨ ∃ g cap, v = .slice (some ⟨g, 0, none⟩) cs.length cap ∧ B ≤ g ∧ g < w.heap.size ∧ cs.length ≤ cap ∧ (∀ i, i < cs.length → w.cell? ⟨g, i * 3, none⟩ = some (.int .i64 (cs.getD i c0).k) ∧ w.cell? ⟨g, i * 3 + 1, none⟩ = some (.int .i64 (cs.getD i c0).a) ∧ w.cell? ⟨g, i * 3 + 2, none⟩ = some (.int .i64 (cs.getD i c0).b)) ∧ ∀ i, w.frozen? ⟨g, i, none⟩ = false := by
  have h' := h
  rcases h.2 with ⟨hv, hn⟩ | ⟨g, cap, cur, hv, hb, hg, hcp, _⟩
  · exact .inl ⟨hv, List.eq_nil_of_length_eq_zero hn⟩
  · unfold Clu at h'
    rw [hv] at h'
    refine .inr ⟨g, cap, hv, hb, (Array.getElem?_eq_some_iff.1 hg).1, hcp, fun i hi => ⟨?_, ?_, ?_⟩, fun i => ?_⟩
    · rw [h'.cellAt (i * 3) (by omega)]; exact flc_0 cs i hi
    · rw [h'.cellAt (i * 3 + 1) (by omega)]; exact flc_1 cs i hi
    · rw [h'.cellAt (i * 3 + 2) (by omega)]; exact flc_2 cs i hi
    · exact h'.frozenAt i
theorem Clu.rd {B : Nat} {cs : List Cl} {v : Value} {w : World} (h : Clu B cs v w) : RdC cs v w := by
  rcases h.form with ⟨rfl, rfl⟩ | ⟨g, cap, rfl, _, hg, hcp, hc, _⟩
  · exact ⟨none, 0, rfl, Nat.le_refl _, fun i hi => by simp at hi⟩
  · exact ⟨_, cap, rfl, hcp, fun i hi => ⟨g, 0, rfl, hg, by simp only [Nat.zero_add]; exact hc i hi⟩⟩
theorem Clu.below {B : Nat} {cs : List Cl} {v : Value} {w w' : World} (h : Clu B cs v w) (k : Below w.heap.size w w') : Clu B cs v w' :=
  World.ownsRow.kept h (row := none) ⟨k.os, k.tape, k.output, k.size, fun i hi _ => k.block i hi⟩ (by cases v.ownBlock <;> simp)
theorem Clu.drewN {B : Nat} {cs : List Cl} {v : Value} {w : World} (h : Clu B cs v w) (n : Nat) : Clu B cs v (w.drewN n) := h
theorem Clu.mono {B B' : Nat} {cs : List Cl} {v : Value} {w : World} (h : Clu B cs v w) (hB : B' ≤ B) : Clu B' cs v w := by
  refine ⟨h.1, ?_⟩
  rcases h.2 with h0 | ⟨g, cap, cur, hv, hb, r⟩
  · exact .inl h0
  · exact .inr ⟨g, cap, cur, hv, by omega, r⟩
theorem Clu.nil (B : Nat) (w : World) : Clu B [] (.slice none 0 0) w := World.ownsRow_nil _ _ _ _
theorem Clu.own_lt {B : Nat} {cs : List Cl} {v : Value} {w : World} (h : Clu B cs v w) : ∀ k, v.ownBlock = some k → B ≤ k ∧ k < w.heap.size := fun k hk => World.ownsRow.lt h k hk
theorem Clu.self {B g n cap : Nat} {cs : List Cl} {w : World} (h : Clu B cs (.slice (some ⟨g, 0, none⟩) n cap) w) : Clu g cs (.slice (some ⟨g, 0, none⟩) n cap) w := by
  refine ⟨h.1, ?_⟩
  rcases h.2 with h0 | ⟨g', cap', cur, hv, hb, r⟩
  · exact .inl h0
  · simp only [Value.slice.injEq, Option.some.injEq, Addr.mk.injEq] at hv
    obtain ⟨⟨rfl, _⟩, rfl, rfl⟩ := hv
    exact .inr ⟨g, cap, cur, rfl, Nat.le_refl _, r⟩
/-- The same block read at later worlds where only blocks from C on were written. -/
theorem Clu.apart {B C : Nat} {cs : List Cl} {v : Value} {w w' : World} (h : Clu B cs v w) (hC : w.heap.size ≤ C ∨ ∀ k, v.ownBlock = some k → k < C) (k : Below C w w') : Clu B cs v w' := by
  refine ⟨h.1, ?_⟩
  rcases h.2 with h0 | ⟨g, cap, cur, hv, hb, hg, r⟩
  · exact .inl h0
  · refine .inr ⟨g, cap, cur, hv, hb, ?_, r⟩
    have hlt : g < w.heap.size := (Array.getElem?_eq_some_iff.1 hg).1
    rw [k.block g ?_]
    · exact hg
    · rcases hC with h1 | h1
      · omega
      · exact h1 g (by rw [hv]; rfl)
/-- A block of the call's own, known whole. -/
def Blk (w : World) (b : Nat) (cs : Array Value) (T : TypeId) : Prop := w.heap[b]? = some (.cells cs T (0, 0))
theorem Blk.new (w : World) (cs : Array Value) (T : TypeId) : Blk (w.alloc (.cells cs T)) w.heap.size cs T := by
  show (w.heap.push _)[w.heap.size]? = _
  simp
theorem Blk.lt {w : World} {b : Nat} {cs : Array Value} {T : TypeId} (h : Blk w b cs T) : b < w.heap.size := (Array.getElem?_eq_some_iff.1 h).1
theorem Blk.keep {a c : World} {b : Nat} {cs : Array Value} {T : TypeId} (h : Blk a b cs T) (k : Below a.heap.size a c) : Blk c b cs T := by
  unfold Blk; rw [k.block b h.lt]; exact h
theorem Blk.keepB {a c : World} {b B : Nat} {cs : Array Value} {T : TypeId} (h : Blk a b cs T) (k : Below B a c) (hb : b < B) : Blk c b cs T := by
  unfold Blk; rw [k.block b hb]; exact h
theorem Blk.cell {w : World} {b : Nat} {cs : Array Value} {T : TypeId} (h : Blk w b cs T) (j : Nat) : w.cell? ⟨b, j, none⟩ = cs[j]? := Lib.cell_of_heap h j
theorem Blk.frozen {w : World} {b : Nat} {cs : Array Value} {T : TypeId} (h : Blk w b cs T) (j : Nat) : w.frozen? ⟨b, j, none⟩ = false := Lib.frozen_of_heap h j
theorem Blk.alloc {a : World} {b : Nat} {cs : Array Value} {T : TypeId} (h : Blk a b cs T) (o : Obj) : Blk (a.alloc o) b cs T := h.keep ((Below.refl _ _).alloc (Nat.le_refl _) o)
theorem Blk.drewN {a : World} {b : Nat} {cs : Array Value} {T : TypeId} (h : Blk a b cs T) (n : Nat) : Blk (a.drewN n) b cs T := h
theorem Blk.drw {a : World} {b : Nat} {cs : Array Value} {T : TypeId} (h : Blk a b cs T) : Blk a.drew b cs T := h
end Go.Proofs.Ytkdnplcaghnfhaa

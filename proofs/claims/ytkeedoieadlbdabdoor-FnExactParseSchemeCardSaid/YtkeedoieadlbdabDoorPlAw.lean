/-
  Schemes with one more word: both sides.
-/
import Derived.Test.YtkeedoieadlbdabDoorPlOwn
import Derived.Test.YtkeedoieadlbdabDoorPlWi
import Derived.Laws.ResultCell
import Derived.Deep.RegionHeld3
namespace Go.Proofs.YtkeedoieadlbdabDoor
open Go.RowKit

theorem results_row_tmp {P : Program} {fn : Func} {p u : Tmp} {ty : TypeId} (h : fn.results = #[.cell p ty, .tmp u]) (tmps : Array Value) (w : World) (g : Nat) (t : TypeId) (cs : Array Value) (fr : Nat × Nat) (d : TypeDesc)
    (hp : tmps.getD p undef = .pointer (some ⟨g, 0, none⟩)) (hg : w.heap[g]? = some (.cells cs t fr)) (hu : P.underlying ty = some d) (hd : (match d with | .struct _ | .array _ _ => true | _ => false) = true) (hi : (P.info? ty).map (·.size) = some cs.size) :
    (results fn tmps).run P w = .ok (.tuple #[.agg cs, tmps.getD u undef]) w := by
  rw [results_cell_tmp h, hp]
  simp [asAddr, Result.andThen, run_loadVar_row w g t ty cs fr d hg hu hd hi]
theorem heap_pair {w w1 : World} {o1 o2 : Obj} (b1 : Below ((w.alloc o1).alloc o2).heap.size ((w.alloc o1).alloc o2) w1) : w1.heap[w.heap.size]? = some o1 ∧ w1.heap[w.heap.size + 1]? = some o2 := by
  have z1 : (w.alloc o1).heap.size = w.heap.size + 1 := World.size_alloc _ _
  have z2 : ((w.alloc o1).alloc o2).heap.size = w.heap.size + 1 + 1 := by rw [World.size_alloc, z1]
  refine ⟨?_, ?_⟩
  · rw [b1.block _ (by omega), Lib.alloc_old _ _ _ (by omega)]
    exact (MapKept.heap_alloc _ _).1
  · rw [b1.block _ (by omega), ← z1]
    exact (MapKept.heap_alloc _ _).1
theorem Strs.len {B : Nat} {ts : List (List UInt8)} {v : Value} {w : World} (h : Strs B ts v w) : ∃ a cap, v = .slice a ts.length cap := by
  rcases h.2 with ⟨hv, hn⟩ | ⟨g, cap, cur, hv, _⟩
  · exact ⟨none, 0, by rw [hv, hn]⟩
  · exact ⟨_, cap, hv⟩
theorem Strs.setLow {B : Nat} {ts : List (List UInt8)} {v : Value} {w : World} (h : Strs B ts v w) {a : Addr} (ha : a.block < B) (x : Value) : Strs B ts v (w.setCell a x) := by
  refine ⟨h.1, ?_⟩
  rcases h.2 with h0 | ⟨g', cap', cur, hv, hb, hg, r⟩
  · exact .inl h0
  · refine .inr ⟨g', cap', cur, hv, hb, ?_, r⟩
    rw [Below.heap_setCell _ _ _ _ (by omega)]; exact hg
/-- Whether there is one more word, and the scheme. -/
def awB (P B : ByteArray) (ts : List (List UInt8)) (wd : ByteArray) : Bool := schB P.data.toList B.data.toList ts && (wordB wd.data.toList && !decide (ts.length = 3))
def awP (b : Bool) (P : ByteArray) : ByteArray := if b then P else ⟨#[]⟩
def awT (b : Bool) (ts : List (List UInt8)) : List (List UInt8) := if b then ts else []
theorem ret_sch {a : Option Addr} {n n' cap : Nat} {P P' B B' : ByteArray} {p q : Bool} (h1 : P = P') (h2 : B = B') (h3 : n = n') (h4 : p = q) : Ending.returned (.tuple #[.agg #[.string P, .string B, .slice a n cap], .bool p]) = .returned (.tuple #[.agg #[.string P', .string B', .slice a n' cap], .bool q]) := by rw [h1, h2, h3, h4]
theorem step_append_strsG (w : World) {ops : Array Oper} {o : Oper} {a : Act} {K : Act → World → Prop} {Q : Exit → Act → World → Prop} {E : Prop} (hgd : o.guard = none) (s x : Operand)
    (ho : o.op = .call { callee := .builtin .append, args := #[s, x], argTypes := #[22, 22] })
    (B : Nat) (ts : List (List UInt8)) (v : Value) (hs : a.eval s = v) (hown : Strs B ts v w) (k : Nat) (us : List (List UInt8)) (hx : a.eval x = .slice (some ⟨k, 0, none⟩) us.length us.length) (hc : ∀ j u, us[j]? = some u → w.cell? ⟨k, j, none⟩ = some (strV u))
    (hpos : 0 < us.length) (hlen : ts.length + us.length ≤ 2000000) (hB : B ≤ w.heap.size)
    (h : ∀ g cap w', Strs B (ts ++ us) (.slice (some ⟨g, 0, none⟩) (ts.length + us.length) cap) w' → Below B w w' → K (a.put o.dst (.slice (some ⟨g, 0, none⟩) (ts.length + us.length) cap)) w') :
    if Region.wanted o (yielded ops a.tmps) = true then Oper.wp Tryd.prog o a w K Q else E := by
  obtain ⟨i0, hi, hz0, hz1, hz2⟩ := info_parts (show (Tryd.prog.info? 9).map (fun i => (i.zero, i.size, i.bytes)) = some (some (.string ⟨#[]⟩), 1, 16) by kernel_rfl)
  refine step_append_lies w hgd s x 22 ho B 9 i0 (.string ⟨#[]⟩) 1 16 Tryd.underlying22 hi hz0 hz1 hz2 rfl (by decide) v ts.length (ts.map strV) hs hown ⟨k, 0, none⟩ us.length us.length (us.map strV) hx (by simp) ?_ ?_ hpos ?_ ?_ hB _ rfl ?_
  · intro j u hj
    rw [List.getElem?_map] at hj
    cases e : us[j]? with
    | none => rw [e] at hj; cases hj
    | some z => rw [e] at hj; simp at hj; subst hj; have := hc j z e; cases j <;> simpa [Addr.add] using this
  · intro u hu; simp at hu; obtain ⟨z, _, rfl⟩ := hu; rfl
  · unfold maxLen; omega
  · omega
  · intro g cap w' h1 hg _ _
    refine h g cap w' ?_ ?_
    · unfold Strs; simpa using h1
    · exact (Below.refl B w).grown hg hB (fun q hq => (World.ownsRow.lt hown q hq).1)
theorem below_low {w w2 : World} (h : Below w.heap.size w w2) (i : Nat) (x : Value) (n : Nat) (hn : w.heap.size ≤ n) : Below w.heap.size w (w2.setCell ⟨n, i, none⟩ x) := h.setCell hn x
theorem lies2 {W : World} {ts : List (List UInt8)} {ad : Addr} {b k c : Nat} {x : ByteArray} {t : List UInt8} (h0 : W.cell? ⟨b, 0, none⟩ = some (.slice (some ad) ts.length c)) (h1 : W.cell? ⟨b, 1, none⟩ = some (.slice (some ⟨k, 0, none⟩) 1 1)) (h2 : W.cell? ⟨k, 0, none⟩ = some (.string x)) (hb : b < W.heap.size) (hk : k < W.heap.size) (hx : x = ⟨t.toArray⟩) (hl : Lie ts ad W) : Lies [ts, [t]] b W := by
  subst hx
  refine ⟨hb, fun j hj => ?_⟩
  match j, hj with
  | 0, _ => exact ⟨ad, c, h0, hl⟩
  | 1, _ =>
    refine ⟨⟨k, 0, none⟩, 1, h1, hk, rfl, fun i u hu => ?_⟩
    match i, hu with
    | 0, hu =>
      simp at hu; subst hu
      exact h2
theorem newsB {W w3 : World} {n k : Nat} {x : ByteArray} {t : List UInt8} (b : Below n W w3) (h : W.cell? ⟨k, 0, none⟩ = some (.string x)) (hk : k < n) (hx : x = ⟨t.toArray⟩) : ∀ (j : Nat) (u : List UInt8), [t][j]? = some u → w3.cell? ⟨k, j, none⟩ = some (strV u) := by
  subst hx
  intro j u hj
  match j, hj with
  | 0, hj =>
    simp at hj; subst hj
    rw [b.cell (p := ⟨k, 0, none⟩) hk, h]; rfl
theorem newsC {w3 : World} {k : Nat} {o : Option Value} {x : ByteArray} {t : List UInt8} (h : w3.cell? ⟨k, 0, none⟩ = o) (h2 : o = some (.string x)) (hx : x = ⟨t.toArray⟩) : ∀ (j : Nat) (u : List UInt8), [t][j]? = some u → w3.cell? ⟨k, j, none⟩ = some (strV u) := by
  subst hx
  subst h2
  intro j u hj
  match j, hj with
  | 0, hj =>
    simp at hj; subst hj
    rw [h]; rfl
theorem ownKept {B : Nat} {ts : List (List UInt8)} {v : Value} {w w' : World} (h : Strs B ts v w) (k : Below w.heap.size w w') : Strs B ts v w' := h.below k
theorem lt_of_heap' {w : World} {b : Nat} {o : Obj} (h : w.heap[b]? = some o) : b < w.heap.size := (Array.getElem?_eq_some_iff.1 h).1
theorem isWord_b (s : ByteArray) (b : Bool) (w : World) (hs : s.size ≤ 1048576) (h : wordB s.data.toList = b) :
    Calls Tryd.prog 45 #[.string s] w fun e w' => e = .returned (.bool b) ∧ Below w.heap.size w w' := by subst h; exact isWord_any s w (by unfold maxLen; omega)
end Go.Proofs.YtkeedoieadlbdabDoor

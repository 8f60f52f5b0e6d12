/-
  A clue dropped, a clue added: both sides.
-/
import Derived.Test.YtkdnplcaghnfhaaPzWo
import Derived.Test.YtkdnplcaghnfhaaPzEq
namespace Go.Proofs.Ytkdnplcaghnfhaa
open Go.RowKit Go.Deep
set_option maxRecDepth 100000

theorem results_row_tmp {P : Program} {fn : Func} {p u : Tmp} {ty : TypeId} (h : fn.results = #[.cell p ty, .tmp u]) (tmps : Array Value) (w : World) (g : Nat) (t : TypeId) (cs : Array Value) (fr : Nat × Nat) (d : TypeDesc)
    (hp : tmps.getD p undef = .pointer (some ⟨g, 0, none⟩)) (hg : w.heap[g]? = some (.cells cs t fr)) (hu : P.underlying ty = some d) (hd : (match d with | .struct _ | .array _ _ => true | _ => false) = true) (hi : (P.info? ty).map (·.size) = some cs.size) :
    (results fn tmps).run P w = .ok (.tuple #[.agg cs, tmps.getD u undef]) w := by
  rw [results_cell_tmp h, hp]
  simp [asAddr, Result.andThen, run_loadVar_row w g t ty cs fr d hg hu hd hi]
theorem heap_pair {w w1 : World} {o1 o2 : Obj} (b1 : Below ((w.alloc o1).alloc o2).heap.size ((w.alloc o1).alloc o2) w1) : w1.heap[w.heap.size]? = some o1 ∧ w1.heap[w.heap.size + 1]? = some o2 := by
  have z1 : (w.alloc o1).heap.size = w.heap.size + 1 := World.size_alloc _ _
  have z2 : ((w.alloc o1).alloc o2).heap.size = w.heap.size + 1 + 1 := by rw [World.size_alloc, z1]
  refine ⟨?_, ?_⟩
  · rw [b1.block _ (by omega), Lib.alloc_old _ _ _ (by omega)]
    exact (MapKept.heap_alloc _ _).1
  · rw [b1.block _ (by omega), ← z1]
    exact (MapKept.heap_alloc _ _).1
theorem Clu.val {B : Nat} {cs : List Cl} {v : Value} {w : World} (h : Clu B cs v w) : ∃ a cap, v = .slice a cs.length cap := by
  rcases h.form with ⟨h1, h2⟩ | ⟨g, cap, hv, _⟩
  · exact ⟨none, 0, by rw [h1, h2]; rfl⟩
  · exact ⟨_, cap, hv⟩
theorem Clu.low {B : Nat} {cs : List Cl} {v : Value} {w : World} {b : Nat} (h : Clu B cs v w) (hb : b < B) (i : Nat) (x : Value) : Clu B cs v (w.setCell ⟨b, i, none⟩ x) := by
  refine World.ownsRow.kept h (row := some b) ⟨rfl, rfl, rfl, by simp [World.setCell], fun k _ hk => heap_setCell_other w ⟨b, i, none⟩ k x (fun e => hk (by simp [e]))⟩ ?_
  cases hv : v.ownBlock with
  | none => exact .inl rfl
  | some k => exact .inr (fun e => by have h1 := (h.own_lt k hv).1; simp only [Option.some.injEq] at e; omega)
def drB (cs : List Cl) (k : Int) : Bool := pzB cs && decide (0 ≤ k ∧ k < cs.length)
def drA (cs : List Cl) (k : Int) : List Cl := if drB cs k then wo cs k.toNat else []
theorem drA_no {cs : List Cl} {k : Int} (h : drB cs k = false) : drA cs k = [] := by unfold drA; rw [if_neg (by rw [h]; simp)]
theorem drA_yes {cs : List Cl} {k : Int} (h : drB cs k = true) : drA cs k = wo cs k.toNat := by unfold drA; rw [if_pos h]
end Go.Proofs.Ytkdnplcaghnfhaa

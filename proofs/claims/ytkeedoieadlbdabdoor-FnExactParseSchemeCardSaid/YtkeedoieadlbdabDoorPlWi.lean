/-
  Which words stand in a text: both sides.
-/
import Derived.Test.YtkeedoieadlbdabDoorPlHas
import Derived.Test.YtkeedoieadlbdabDoorPlIsS
import Derived.Test.YtkeedoieadlbdabDoorApp
namespace Go.Proofs.YtkeedoieadlbdabDoor
open Go.RowKit

/-- internal/bytealg.MaxLen holds some number. -/
def MaxIs (w : World) : Prop := ∃ m, w.cell? ⟨0, 0, none⟩ = some (.int .i64 m)
theorem cell_lt' {w : World} {a : Addr} {v : Value} (h : w.cell? a = some v) : a.block < w.heap.size := by
  cases e : w.heap[a.block]? with
  | none => unfold World.cell? at h; rw [e] at h; cases h
  | some o => exact (Array.getElem?_eq_some_iff.1 e).1
theorem MaxIs.below {w w' : World} (h : MaxIs w) (k : Below w.heap.size w w') : MaxIs w' := by
  obtain ⟨m, hm⟩ := h
  exact ⟨m, (k.cell (p := ⟨0, 0, none⟩) (cell_lt' hm)).trans hm⟩
/-- The places of the words that stand in a text. -/
def wix (ts : List (List UInt8)) (t : List UInt8) (k : Nat) : List Int := ((List.range k).filter (fun i => decide (ts.getD i [] <:+: t))).map Int.ofNat
theorem wix_yes (ts : List (List UInt8)) (t : List UInt8) (k : Nat) (h : ts.getD k [] <:+: t) : wix ts t (k + 1) = wix ts t k ++ [(k : Int)] := by
  unfold wix
  have e : [k].filter (fun i => decide (ts.getD i [] <:+: t)) = [k] := by rw [List.filter_cons, if_pos (decide_eq_true h)]; rfl
  rw [List.range_succ, List.filter_append, List.map_append, e]; rfl
theorem wix_no (ts : List (List UInt8)) (t : List UInt8) (k : Nat) (h : ¬ ts.getD k [] <:+: t) : wix ts t (k + 1) = wix ts t k := by
  unfold wix
  have e : [k].filter (fun i => decide (ts.getD i [] <:+: t)) = [] := by rw [List.filter_cons, if_neg (by rw [decide_eq_false h]; simp)]; rfl
  rw [List.range_succ, List.filter_append, List.map_append, e]; simp
theorem wix_len (ts : List (List UInt8)) (t : List UInt8) (k : Nat) : (wix ts t k).length ≤ k := by
  unfold wix
  rw [List.length_map]
  exact Nat.le_trans (List.length_filter_le _ _) (by simp)
def wiB (P B t : ByteArray) (ts : List (List UInt8)) : Bool := schB P.data.toList B.data.toList ts && szsB t.data.toList P.size P.size
def wiX (P B t : ByteArray) (ts : List (List UInt8)) : List Int := if wiB P B t ts then wix ts t.data.toList ts.length else []
theorem sch_three' {P B : List UInt8} {ts : List (List UInt8)} (h : schB P B ts = true) : ts.length ≤ 3 := by
  unfold schB at h; simp only [Bool.and_eq_true, decide_eq_true_eq] at h; exact h.2.1
theorem iGood_b (P B : ByteArray) (ts : List (List UInt8)) (v : Value) (b : Bool) (w : World) (hf : Fit P B ts) (h : Rd ts v w) (hb : schB P.data.toList B.data.toList ts = b) :
    Calls Tryd.prog 22 #[.agg #[.string P, .string B, v]] w fun e w' => e = .returned (.bool b) ∧ Below w.heap.size w w' := by subst hb; exact iIsScheme_any P B ts v w hf h
theorem sGood_b (P B : ByteArray) (ts : List (List UInt8)) (v : Value) (b : Bool) (w : World) (hf : Fit P B ts) (h : Rd ts v w) (hb : schB P.data.toList B.data.toList ts = b) :
    Calls Tryd.prog 18 #[.agg #[.string P, .string B, v]] w fun e w' => e = .returned (.bool b) ∧ Below w.heap.size w w' := by subst hb; exact plGood_any P B ts v w hf h
theorem ret_vb {u : Value} {p q : Bool} (h : p = q) : Ending.returned (.tuple #[u, .bool p]) = .returned (.tuple #[u, .bool q]) := by rw [h]
end Go.Proofs.YtkeedoieadlbdabDoor

/-
  The model: which signed digits make a number, and the first of them.
-/
import Derived.Test.YtpmkdpkegmbleaaDoorSgAll
namespace Go.Proofs.YtpmkdpkegmbleaaDoor
open Go.RowKit

/-- All that make a number, in order. -/
def madeL (plain : Bool) (ds : List UInt8) (x : Int) : List (List UInt8) := (allK plain ds (ds.length - 1)).filter (fun t => sval t == x)
/-- There are digits and a number. -/
def askB (s : ByteArray) (x : Int) : Bool := dgsB s.data.toList && decide (-100000000 ≤ x ∧ x ≤ 100000000)
theorem nice_sig {k : Nat} {t : List UInt8} (h : Nice k t) (hk : k ≤ 7) : sigB t = true := by
  unfold sigB; rw [h.1, h.2]; simp [hk]
theorem dgs_len {l : List UInt8} (h : dgsB l = true) : 1 ≤ l.length ∧ l.length ≤ 7 ∧ digB l = true := by
  unfold dgsB at h
  simp only [Bool.and_eq_true, decide_eq_true_eq] at h
  exact ⟨by omega, by omega, h.2⟩
theorem allK_sig {plain : Bool} {ds : List UInt8} (h : dgsB ds = true) : ∀ t ∈ allK plain ds (ds.length - 1), Nice ds.length t := by
  obtain ⟨h1, h2, h3⟩ := dgs_len h
  intro t ht
  have := allK_nice plain ds h3 (ds.length - 1) (by omega) t ht
  rwa [Nat.sub_add_cancel h1] at this
theorem sval_t (t : List UInt8) (w : World) (h : sigB t = true) :
    Calls Tryd.prog 9 #[.string ⟨t.toArray⟩] w fun e w' => e = .returned (.int .i64 (sval t)) ∧ w = w' := by
  have hl := sigB_len h
  have e1 : (⟨t.toArray⟩ : ByteArray).size = t.length := by show t.toArray.size = _; simp
  exact sval_any ⟨t.toArray⟩ w (by rw [e1]; unfold maxLen; omega) h
theorem filter_snoc {α : Type} (p : α → Bool) (ts : List α) (k : Nat) (h : k < ts.length) : (ts.take (k + 1)).filter p = (ts.take k).filter p ++ if p ts[k] then [ts[k]] else [] := by
  rw [List.take_succ_eq_append_getElem h, List.filter_append]
  congr 1
  cases e : p ts[k] <;> simp [e]
end Go.Proofs.YtpmkdpkegmbleaaDoor

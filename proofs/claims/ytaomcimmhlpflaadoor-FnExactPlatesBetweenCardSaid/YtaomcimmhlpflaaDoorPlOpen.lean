/-
  A scheme among the law's arguments, opened.
-/
import Derived.Test.YtaomcimmhlpflaaDoorPlStrs
import Derived.Deep.Strs
import Derived.OpenShut
namespace Go.Proofs.YtaomcimmhlpflaaDoor
open Go.RowKit Go.Deep

theorem cell_lt {w : World} {a : Addr} {v : Value} (h : w.cell? a = some v) : a.block < w.heap.size := by
  cases e : w.heap[a.block]? with
  | none => unfold World.cell? at h; rw [e] at h; cases h
  | some o => exact (Array.getElem?_eq_some_iff.1 e).1
set_option maxRecDepth 100000 in
theorem open_scheme {H : Type} {enc : TypeId × Value → H} {W : World} {base : Nat} {sp : Nat → Bool} {v : Value} {d : DataW H} {ps : List MemPlace} (hok : Value.okWide Tryd.prog W .any base 24 v) (hT : DataW.Trod enc Tryd.prog W 0 sp true 24 v d ps) :
    ∃ (P B : ByteArray) (ts : List (List UInt8)) (u : Value), v = .agg #[.string P, .string B, u] ∧ P.size ≤ maxLen ∧ B.size ≤ maxLen ∧ ts.length ≤ maxLen ∧ (∀ i, i < ts.length → (ts.getD i []).length ≤ maxLen) ∧ Rd ts u W := by
  obtain ⟨fuel, hv⟩ := hT
  obtain ⟨y0, y1, y2, m', hx', hl, u0, u1, u2⟩ := trod_struct3 Tryd.underlying24 hv
  rw [show Tryd.prog.cellsOf 24 = 3 by kernel_rfl] at hl
  obtain ⟨c0, c1, c2, hc⟩ : ∃ c0 c1 c2, v.cells.toList = [c0, c1, c2] := by
    match hcs : v.cells.toList, hl with
    | [a, b, c], _ => exact ⟨a, b, c, rfl⟩
  rw [hc] at u0 u1 u2
  simp only [show Tryd.prog.cellsOf 9 = 1 by kernel_rfl, show Tryd.prog.cellsOf 22 = 1 by kernel_rfl, List.drop, List.take] at u0 u1 u2
  obtain ⟨P, e0, _, hP⟩ := DataW.trod_string Tryd.underlying9 u0
  obtain ⟨B, e1, _, hB⟩ := DataW.trod_string Tryd.underlying9 u1
  simp only [List.cons.injEq, and_true] at e0 e1
  subst e0; subst e1
  have hrow : ∃ cs, v = .agg cs ∧ cs.size = Tryd.prog.cellsOf 24 ∧ Row.okWide Tryd.prog W .any base 24 cs := by
    unfold Value.okWide at hok
    rw [Tryd.underlying24] at hok
    exact hok
  obtain ⟨cs, rfl, _, tys, htys, _, hcell⟩ := hrow
  have hcs : cs = #[.string P, .string B, c2] := by
    apply Array.ext'
    simpa [Value.cells] using hc
  subst hcs
  obtain ⟨u, hu, hok2⟩ := hcell 2 c2 rfl
  have htt : Tryd.prog.cellTypes Tryd.prog.depth 24 = some [9, 9, 22] := by kernel_rfl
  rw [htt] at htys
  obtain rfl := Option.some.inj htys
  obtain rfl : u = 22 := by simpa using hu.symm
  rcases open_strs Tryd.underlying22 Tryd.underlying9 (by kernel_rfl) u2 with ⟨hcs, hx⟩ | ⟨a, len, cap, m, Sx, hcs, _, hl2, hm, hmm, hx, hcl⟩
  · simp only [List.cons.injEq, and_true] at hcs
    subst hcs
    exact ⟨P, B, [], _, rfl, hP, hB, by simp, fun i hi => by simp at hi, none, 0, rfl, fun i hi => by simp at hi⟩
  · simp only [List.cons.injEq, and_true] at hcs
    subst hcs
    have hsp : a.spot = none := by
      unfold Cell.okWide at hok2
      rw [Tryd.underlying22] at hok2
      simp only [Cell.ok, Tryd.underlying22] at hok2
      exact hok2.2.2.2.1
    obtain ⟨g, o, s⟩ := a
    simp only at hsp
    subst hsp
    have hlm : len ≤ m := by rw [hmm]; split <;> omega
    refine ⟨P, B, (List.range len).map (fun i => (Sx i).data.toList), _, rfl, hP, hB, by simp; omega, fun i hi => ?_, some ⟨g, o, none⟩, cap, by simp, fun i hi => ?_⟩
    · simp only [List.length_map, List.length_range] at hi
      have := (hcl i (by omega)).2
      simpa [List.getD, hi] using this
    · simp only [List.length_map, List.length_range] at hi
      have h1 := (hcl i (by omega)).1
      have e : (⟨g, o, none⟩ : Addr).add i = ⟨g, o + i, none⟩ := by unfold Addr.add; split <;> simp_all
      rw [e] at h1
      refine ⟨g, o, rfl, cell_lt h1, ?_⟩
      rw [h1]
      simp [strV, List.getD, hi]
end Go.Proofs.YtaomcimmhlpflaaDoor

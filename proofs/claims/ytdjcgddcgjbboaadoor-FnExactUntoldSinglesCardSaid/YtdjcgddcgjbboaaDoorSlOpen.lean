/-
  A check among the law's arguments, opened.
-/
import Derived.Test.YtdjcgddcgjbboaaDoorSlBase
import Derived.OpenShut
import Derived.Deep.Strs
namespace Go.Proofs.YtdjcgddcgjbboaaDoor
open Go.RowKit Go.Deep

theorem cell_lt {w : World} {a : Addr} {v : Value} (h : w.cell? a = some v) : a.block < w.heap.size := by
  cases e : w.heap[a.block]? with
  | none => unfold World.cell? at h; rw [e] at h; cases h
  | some o => exact (Array.getElem?_eq_some_iff.1 e).1
set_option maxRecDepth 100000 in
theorem open_check {H : Type} {enc : TypeId × Value → H} {W : World} {base : Nat} {sp : Nat → Bool} {v : Value} {d : DataW H} {ps : List MemPlace} (hok : Value.okWide Tryd.prog W .any base 24 v) (hT : DataW.Trod enc Tryd.prog W 0 sp true 24 v d ps) :
    ∃ (xs : List Int) (m : Int) (u : Value), v = .agg #[u, .int .i64 m] ∧ xs.length ≤ maxLen ∧ (Lit.int .i64 m).wf = true ∧ RdI xs u W := by
  obtain ⟨fuel, hv⟩ := hT
  obtain ⟨y0, y1, m', hx', hl, u0, u1⟩ := Go.ChangeShapes.trod_struct2 Tryd.underlying24 hv
  rw [show Tryd.prog.cellsOf 24 = 2 by kernel_rfl] at hl
  obtain ⟨c0, c1, hc⟩ : ∃ c0 c1, v.cells.toList = [c0, c1] := by
    match hcs : v.cells.toList, hl with
    | [a, b], _ => exact ⟨a, b, rfl⟩
  rw [hc] at u0 u1
  simp only [show Tryd.prog.cellsOf 3 = 1 by kernel_rfl, show Tryd.prog.cellsOf 22 = 1 by kernel_rfl, List.drop, List.take] at u0 u1
  obtain ⟨m, e1, _, hm⟩ := Go.DataW.trod_int Tryd.underlying3 u1
  simp only [List.cons.injEq, and_true] at e1
  subst e1
  have hrow : ∃ cs, v = .agg cs ∧ cs.size = Tryd.prog.cellsOf 24 ∧ Row.okWide Tryd.prog W .any base 24 cs := by
    unfold Value.okWide at hok
    rw [Tryd.underlying24] at hok
    exact hok
  obtain ⟨cs, rfl, _, tys, htys, _, hcell⟩ := hrow
  have hcs : cs = #[c0, .int .i64 m] := by
    apply Array.ext'
    simpa [Value.cells] using hc
  subst hcs
  obtain ⟨u, hu, hok2⟩ := hcell 0 c0 rfl
  have htt : Tryd.prog.cellTypes Tryd.prog.depth 24 = some [22, 3] := by kernel_rfl
  rw [htt] at htys
  obtain rfl := Option.some.inj htys
  obtain rfl : u = 22 := by simpa using hu.symm
  rcases Go.ChangeShapes.open_ints Tryd.underlying22 Tryd.underlying3 (by kernel_rfl) u0 with ⟨hcs, hx⟩ | ⟨a, len, cap, zs, hcs, _, hl2, hm2, hmm, hx, hcl, _⟩
  · simp only [List.cons.injEq, and_true] at hcs
    subst hcs
    exact ⟨[], m, _, rfl, by simp, hm, none, 0, rfl, fun i hi => by simp at hi⟩
  · simp only [List.cons.injEq, and_true] at hcs
    subst hcs
    have hsp : a.spot = none := by
      unfold Cell.okWide at hok2
      rw [Tryd.underlying22] at hok2
      simp only [Cell.ok, Tryd.underlying22] at hok2
      exact hok2.2.2.2.1
    obtain ⟨g, o, s⟩ := a
    simp only at hsp
    subst hsp
    have hlm : len ≤ zs.length := by rw [hmm]; split <;> omega
    have htl : (zs.take len).length = len := by simp; omega
    refine ⟨zs.take len, m, _, rfl, by rw [htl]; omega, hm, some ⟨g, o, none⟩, cap, by rw [htl], fun i hi => ?_⟩
    rw [htl] at hi
    have h1 := hcl i (by omega)
    have e : (⟨g, o, none⟩ : Addr).add i = ⟨g, o + i, none⟩ := by unfold Addr.add; split <;> simp_all
    rw [e] at h1
    refine ⟨g, o, rfl, cell_lt h1, ?_⟩
    rw [h1, List.getD_eq_getElem?_getD, List.getD_eq_getElem?_getD, List.getElem?_take, if_pos hi]
end Go.Proofs.YtdjcgddcgjbboaaDoor

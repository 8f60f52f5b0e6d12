/-
  A clue, a puzzle among the law's arguments, opened.
-/
import Derived.Test.YtkdnplcaghnfhaaPzRow
import Derived.OpenShut
import Derived.Deep.Strs
import Derived.Deep.Slices
import Derived.ChangeSame
namespace Go.Proofs.Ytkdnplcaghnfhaa
open Go.RowKit Go.Deep
set_option maxRecDepth 100000

theorem cell_lt {w : World} {a : Addr} {v : Value} (h : w.cell? a = some v) : a.block < w.heap.size := by
  cases e : w.heap[a.block]? with
  | none => unfold World.cell? at h; rw [e] at h; cases h
  | some o => exact (Array.getElem?_eq_some_iff.1 e).1
theorem trod_clue {H : Type} {enc : TypeId × Value → H} {W : World} {base : Nat} {sp : Nat → Bool} {held : Bool} {fuel : Nat} {cs : List Value} {x : DataW H × List MemPlace} (h : DataW.trod enc Try.prog W base sp held fuel 35 cs = some x) :
    ∃ c : Cl, cs = [.int .i64 c.k, .int .i64 c.a, .int .i64 c.b] := by
  obtain ⟨y0, y1, y2, m', hx', hl, u0, u1, u2⟩ := trod_struct3 Try.underlying35 h
  rw [show Try.prog.cellsOf 35 = 3 by kernel_rfl] at hl
  obtain ⟨c0, c1, c2, hc⟩ : ∃ c0 c1 c2, cs = [c0, c1, c2] := by
    match cs, hl with
    | [a, b, c], _ => exact ⟨a, b, c, rfl⟩
  rw [hc] at u0 u1 u2
  simp only [show Try.prog.cellsOf 3 = 1 by kernel_rfl, List.drop, List.take] at u0 u1 u2
  obtain ⟨m0, e0, _⟩ := Go.DataW.trod_int Try.underlying3 u0
  obtain ⟨m1, e1, _⟩ := Go.DataW.trod_int Try.underlying3 u1
  obtain ⟨m2, e2, _⟩ := Go.DataW.trod_int Try.underlying3 u2
  simp only [List.cons.injEq, and_true] at e0 e1 e2
  subst e0 e1 e2
  exact ⟨⟨m0, m1, m2⟩, hc⟩
theorem open_clue {H : Type} {enc : TypeId × Value → H} {W : World} {base : Nat} {sp : Nat → Bool} {v : Value} {d : DataW H} {ps : List MemPlace} (hok : Value.okWide Try.prog W .any base 35 v) (hT : DataW.Trod enc Try.prog W 0 sp true 35 v d ps) :
    ∃ c : Cl, v = .agg #[.int .i64 c.k, .int .i64 c.a, .int .i64 c.b] := by
  obtain ⟨fuel, hv⟩ := hT
  obtain ⟨c, hc⟩ := trod_clue hv
  have hrow : ∃ cs, v = .agg cs ∧ cs.size = Try.prog.cellsOf 35 ∧ Row.okWide Try.prog W .any base 35 cs := by
    unfold Value.okWide at hok
    rw [Try.underlying35] at hok
    exact hok
  obtain ⟨cs, rfl, _⟩ := hrow
  refine ⟨c, ?_⟩
  congr 1
  apply Array.ext'
  simpa [Value.cells] using hc
set_option maxRecDepth 100000 in
theorem open_puzzle {H : Type} {enc : TypeId × Value → H} {W : World} {base : Nat} {sp : Nat → Bool} {v : Value} {d : DataW H} {ps : List MemPlace} (hok : Value.okWide Try.prog W .any base 33 v) (hT : DataW.Trod enc Try.prog W 0 sp true 33 v d ps) :
    ∃ (cs : List Cl) (u : Value), v = .agg #[u] ∧ cs.length ≤ maxLen ∧ RdC cs u W := by
  obtain ⟨fuel, hv⟩ := hT
  obtain ⟨y0, m', hx', hl, u0⟩ := Go.ChangeShapes.trod_struct1 Try.underlying33 hv
  rw [show Try.prog.cellsOf 33 = 1 by kernel_rfl] at hl
  obtain ⟨e0, hc⟩ : ∃ e0, v.cells.toList = [e0] := by
    match hcs : v.cells.toList, hl with
    | [a], _ => exact ⟨a, rfl⟩
  rw [hc] at u0
  simp only [show Try.prog.cellsOf 31 = 1 by kernel_rfl, List.drop, List.take] at u0
  have hrow : ∃ cs, v = .agg cs ∧ cs.size = Try.prog.cellsOf 33 ∧ Row.okWide Try.prog W .any base 33 cs := by
    unfold Value.okWide at hok
    rw [Try.underlying33] at hok
    exact hok
  obtain ⟨cs, rfl, _, tys, htys, _, hcell⟩ := hrow
  have hcs : cs = #[e0] := by
    apply Array.ext'
    simpa [Value.cells] using hc
  subst hcs
  obtain ⟨u, hu, hok2⟩ := hcell 0 e0 rfl
  have htt : Try.prog.cellTypes Try.prog.depth 33 = some [31] := by kernel_rfl
  rw [htt] at htys
  obtain rfl := Option.some.inj htys
  obtain rfl : u = 31 := by simpa using hu.symm
  rcases open_slice Try.underlying31 u0 with ⟨hcs, hx⟩ | ⟨a, len, cap, m, n, D, Pl, hcs, _, hl2, hm2, hmm, hx, hcl⟩
  · simp only [List.cons.injEq, and_true] at hcs
    subst hcs
    exact ⟨[], _, rfl, by simp, none, 0, rfl, Nat.le_refl _, fun i hi => by simp at hi⟩
  · simp only [List.cons.injEq, and_true] at hcs
    subst hcs
    have hsp : a.spot = none := by
      unfold Cell.okWide at hok2
      rw [Try.underlying31] at hok2
      simp only [Cell.ok, Try.underlying31] at hok2
      exact hok2.2.2.2.1
    obtain ⟨g, o, s⟩ := a
    simp only at hsp
    subst hsp
    have hlm : len ≤ m := by rw [hmm]; split <;> omega
    rw [show Try.prog.cellsOf 35 = 3 by kernel_rfl] at hcl
    have each : ∀ i, i < len → ∃ c : Cl, g < W.heap.size ∧ W.cell? ⟨g, o + i * 3, none⟩ = some (.int .i64 c.k) ∧ W.cell? ⟨g, o + i * 3 + 1, none⟩ = some (.int .i64 c.a) ∧ W.cell? ⟨g, o + i * 3 + 2, none⟩ = some (.int .i64 c.b) := by
      intro i hi
      obtain ⟨cs', h1, h2⟩ := hcl i (by omega)
      obtain ⟨c, rfl⟩ := trod_clue h2
      obtain ⟨_, hlen, hcell⟩ := World.cells?_some h1
      have e : ∀ j, (⟨g, o, none⟩ : Addr).add j = ⟨g, o + j, none⟩ := fun j => by unfold Addr.add; split <;> simp_all
      have k0 := hcell 0 (by simp)
      have k1 := hcell 1 (by simp)
      have k2 := hcell 2 (by simp)
      simp only [e] at k0 k1 k2
      have e2 : ∀ i j, (⟨g, i, none⟩ : Addr).add j = ⟨g, i + j, none⟩ := fun i j => by unfold Addr.add; split <;> simp_all
      simp only [e2] at k0 k1 k2
      simp at k0 k1 k2
      exact ⟨c, cell_lt k0, k0, k1, k2⟩
    have inh : Inhabited Cl := ⟨c0⟩
    obtain ⟨F, hF⟩ := choose_lt (fun i hi => each i hi)
    refine ⟨(List.range len).map F, _, rfl, by simp; omega, some ⟨g, o, none⟩, cap, by simp, by simpa using hl2, fun i hi => ?_⟩
    simp at hi
    have hg : ((List.range len).map F).getD i c0 = F i := by simp [List.getD, hi]
    rw [hg]
    obtain ⟨h1, h2, h3, h4⟩ := hF i hi
    exact ⟨g, o, rfl, h1, h2, h3, h4⟩
end Go.Proofs.Ytkdnplcaghnfhaa

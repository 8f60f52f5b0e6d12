/-
  Clues cut, put together, without one.
-/
import Derived.Test.YtkdnplcaghnfhaaPzGood
import Derived.Maps.AppendAt
import Derived.Deep.RegionLaw
import Derived.Deep.RegionHeldLaw
import Derived.Deep.AppendLies
import Derived.Laws.AppendOwn
namespace Go.Proofs.Ytkdnplcaghnfhaa
open Go.RowKit Go.Deep
set_option maxRecDepth 100000

/-- The address behind a cut. -/
def adC (a : Addr) (l m : Nat) : Addr := if m = l then a else a.add (l * 3)
theorem RdC.cut {cs : List Cl} {ad : Addr} {n cap : Nat} {W : World} (h : RdC cs (.slice (some ad) n cap) W) (l hh m : Nat) (h1 : l ≤ hh) (h2 : hh ≤ cs.length) (h3 : hh ≤ m) : RdC ((cs.drop l).take (hh - l)) (.slice (some (adC ad l m)) (hh - l) (m - l)) W := by
  obtain ⟨a, cap', hv, hcp, hc⟩ := h
  simp only [Value.slice.injEq] at hv
  obtain ⟨rfl, rfl, rfl⟩ := hv
  have hlen : ((cs.drop l).take (hh - l)).length = hh - l := by simp; omega
  refine ⟨_, _, by rw [hlen], by rw [hlen]; omega, fun i hi => ?_⟩
  rw [hlen] at hi
  obtain ⟨g, o, ha, hg, d0, d1, d2⟩ := hc (l + i) (by omega)
  simp only [Option.some.injEq] at ha
  subst ha
  have hget : ((cs.drop l).take (hh - l)).getD i c0 = cs.getD (l + i) c0 := by
    simp only [List.getD_eq_getElem?_getD, List.getElem?_take, if_pos hi, List.getElem?_drop]
  rw [hget]
  refine ⟨g, o + l * 3, ?_, hg, ?_, ?_, ?_⟩
  · unfold adC; rw [if_neg (by omega)]; congr 1; unfold Addr.add; split <;> simp_all
  · rw [show o + l * 3 + i * 3 = o + (l + i) * 3 by omega]; exact d0
  · rw [show o + l * 3 + i * 3 + 1 = o + (l + i) * 3 + 1 by omega]; exact d1
  · rw [show o + l * 3 + i * 3 + 2 = o + (l + i) * 3 + 2 by omega]; exact d2
theorem RdC.len {cs : List Cl} {a : Option Addr} {n cap : Nat} {W : World} (h : RdC cs (.slice a n cap) W) : n = cs.length ∧ cs.length ≤ cap := by
  obtain ⟨a', cap', hv, hcp, hc⟩ := h
  simp only [Value.slice.injEq] at hv
  obtain ⟨rfl, rfl, rfl⟩ := hv
  exact ⟨rfl, hcp⟩
theorem cut3 (ad : Addr) (n cap l hh m : Nat) (h1 : l ≤ hh) (h2 : hh ≤ m) (h3 : m ≤ cap) (W : World) :
    (Instr.slice 37 (.slice (some ad) n cap) (some (.int .i64 (l : Int))) (some (.int .i64 (hh : Int))) (some (.int .i64 (m : Int)))).run Try.prog W = .ok (.slice (some (adC ad l m)) (hh - l) (m - l)) W := by
  rw [run_slice_lhm W 37 (some ad) n cap (by kernel_rfl) .i64 .i64 .i64 (l : Int) (hh : Int) (m : Int) (by omega) (by omega) (by omega) (by omega)]
  have hsz : (sizeOf (Try.prog.elem 37)).run Try.prog W = .ok 3 W := by kernel_rfl
  rw [hsz]
  unfold adC
  by_cases h : m = l
  · simp [Result.andThen, sliced, h]
  · simp [Result.andThen, sliced, h]
theorem cutH (ad : Addr) (n cap p : Nat) (h : p ≤ cap) (W : World) :
    (Instr.slice 37 (.slice (some ad) n cap) none (some (.int .i64 (p : Int))) none).run Try.prog W = .ok (.slice (some (adC ad 0 cap)) p cap) W := by
  rw [run_slice_h W 37 (some ad) n cap (by kernel_rfl) .i64 (p : Int) (by omega) (by omega)]
  have hsz : (sizeOf (Try.prog.elem 37)).run Try.prog W = .ok 3 W := by kernel_rfl
  rw [hsz]
  unfold adC
  by_cases h : cap = 0
  · simp [Result.andThen, sliced, h]
  · simp [Result.andThen, sliced, h]
theorem cutL (ad : Addr) (n cap l : Nat) (h : l ≤ n) (_hc : n ≤ cap) (W : World) :
    (Instr.slice 37 (.slice (some ad) n cap) (some (.int .i64 (l : Int))) none none).run Try.prog W = .ok (.slice (some (adC ad l cap)) (n - l) (cap - l)) W := by
  rw [run_slice_l W 37 (some ad) n cap (by kernel_rfl) .i64 (l : Int) (by omega) (by omega)]
  have hsz : (sizeOf (Try.prog.elem 37)).run Try.prog W = .ok 3 W := by kernel_rfl
  rw [hsz]
  unfold adC
  by_cases h : cap = l
  · simp [Result.andThen, sliced, h]
  · simp [Result.andThen, sliced, h]
theorem cut_any (ad : Addr) (n cap l hh : Nat) (x y : Int) (w : World) (hx : x = (l : Int)) (hy : y = (hh : Int)) (h1 : l ≤ hh) (h3 : hh ≤ cap) :
    Calls Try.prog 27 #[.slice (some ad) n cap, .int .i64 x, .int .i64 y] w fun e w' => e = .returned (.slice (some (adC ad l hh)) (hh - l) (hh - l)) ∧ w = w' := by
  have hc := fun W => cut3 ad n cap l hh hh h1 (Nat.le_refl _) h3 W
  rw [← hx, ← hy] at hc
  clear hx hy
  go_enter Try.func27, Try.ntmps27
  go_wp2
  go_ret
  exact ⟨rfl, rfl⟩
theorem lie_clue {us : List Cl} {ad : Addr} {n c : Nat} {w : World} (h : RdC us (.slice (some ad) n c) w) : ∀ j u, (flc us)[j]? = some u → w.cell? (ad.add j) = some u := by
  obtain ⟨a, cap', hv, hcp, hc⟩ := h
  simp only [Value.slice.injEq] at hv
  obtain ⟨rfl, rfl, rfl⟩ := hv
  intro j u hj
  have hjl : j < us.length * 3 := by rw [← flc_len]; exact (List.getElem?_eq_some_iff.1 hj).1
  obtain ⟨g, o, ha, hg, d0, d1, d2⟩ := hc (j / 3) (by omega)
  simp only [Option.some.injEq] at ha
  subst ha
  have e : (⟨g, o, none⟩ : Addr).add j = ⟨g, o + j, none⟩ := by unfold Addr.add; split <;> simp_all
  rw [e]
  rcases (show j = j / 3 * 3 ∨ j = j / 3 * 3 + 1 ∨ j = j / 3 * 3 + 2 by omega) with h | h | h
  · have := flc_0 us (j / 3) (by omega)
    rw [← h, hj] at this
    rw [this, show o + j = o + j / 3 * 3 by omega]; exact d0
  · have := flc_1 us (j / 3) (by omega)
    rw [← h, hj] at this
    rw [this, show o + j = o + j / 3 * 3 + 1 by omega]; exact d1
  · have := flc_2 us (j / 3) (by omega)
    rw [← h, hj] at this
    rw [this, show o + j = o + j / 3 * 3 + 2 by omega]; exact d2
theorem clue_info : ∃ i0, Try.prog.info? 43 = some i0 ∧ i0.zero = some (.agg #[.int .i64 0, .int .i64 0, .int .i64 0]) ∧ i0.size = 3 ∧ i0.bytes = 24 :=
  info_parts (show (Try.prog.info? 43).map (fun i => (i.zero, i.size, i.bytes)) = some (some (.agg #[.int .i64 0, .int .i64 0, .int .i64 0]), 3, 24) by kernel_rfl)
theorem append_clus (w : World) {ops : Array Oper} {rest : List Oper} {o : Oper} {a : Act} {Q : Exit → Act → World → Prop} (hgd : o.guard = none) (s x : Operand)
    (ho : o.op = .call { callee := .builtin .append, args := #[s, x], argTypes := #[37, 37] })
    (B : Nat) (ts : List Cl) (v : Value) (hs : a.eval s = v) (hown : Clu B ts v w) (ad : Addr) (m c : Nat) (us : List Cl) (hx : a.eval x = .slice (some ad) m c) (hr : RdC us (.slice (some ad) m c) w)
    (hlen : ts.length + us.length ≤ 2000000) (hB : B ≤ w.heap.size)
    (h : ∀ v' w', Clu B (ts ++ us) v' w' → Below B w w' → wpList Try.prog ops Q rest (a.put o.dst v') w') :
    wpList Try.prog ops Q (o :: rest) a w := by
  obtain ⟨i0, hi, hz0, hz1, hz2⟩ := clue_info
  have hm := hr.len.1
  refine wpList_append_own_at _ hgd s x 37 ho B 43 i0 _ 3 24 Try.underlying37 hi hz0 hz1 hz2 rfl (by decide) v ts.length (flc ts) hs hown ad m c (flc us) hx (by rw [flc_len, hm]) (lie_clue hr) (flc_int us) (by unfold maxLen; omega) (by omega) hB ?_
  intro v' w' h1 hg _ _
  refine h v' w' ?_ ?_
  · unfold Clu; rw [List.length_append, flc_append, ← hm]; exact h1
  · exact (Below.refl B w).grown hg hB (fun q hq => (World.ownsRow.lt hown q hq).1)
theorem step_append_clus {w : World} {ops : Array Oper} {o : Oper} {a : Act} {K : Act → World → Prop} {Q : Exit → Act → World → Prop} {E : Prop} (hgd : o.guard = none) (s x : Operand)
    (ho : o.op = .call { callee := .builtin .append, args := #[s, x], argTypes := #[37, 37] })
    (B : Nat) (ts : List Cl) (v : Value) (hs : a.eval s = v) (hown : Clu B ts v w) (ad : Addr) (m c : Nat) (us : List Cl) (hx : a.eval x = .slice (some ad) m c) (hr : RdC us (.slice (some ad) m c) w)
    (hlen : ts.length + us.length ≤ 2000000) (hB : B ≤ w.heap.size)
    (h : ∀ v' w', Clu B (ts ++ us) v' w' → Below B w w' → K (a.put o.dst v') w') :
    if Region.wanted o (yielded ops a.tmps) = true then Oper.wp Try.prog o a w K Q else E := by
  obtain ⟨i0, hi, hz0, hz1, hz2⟩ := clue_info
  have hm := hr.len.1
  have hw : Region.wanted o (yielded ops a.tmps) = true := by simp [Region.wanted, hgd]
  rw [if_pos hw]
  refine wp_append_own w s x 37 ho B 43 i0 _ 3 24 Try.underlying37 hi hz0 hz1 hz2 rfl (by decide) v ts.length (flc ts) hs hown ad m c (flc us) hx (by rw [flc_len, hm]) (lie_clue hr) (flc_int us) (by unfold maxLen; omega) (by omega) hB ?_
  intro v' w' h1 hg _
  refine h v' w' ?_ ?_
  · unfold Clu; rw [List.length_append, flc_append, ← hm]; exact h1
  · exact (Below.refl B w).grown hg hB (fun q hq => (World.ownsRow.lt hown q hq).1)
theorem Clu.empty (w : World) (T : TypeId) (hT : T = 43) : Clu w.heap.size [] (.slice (some ⟨w.heap.size, 0, none⟩) 0 0) (w.alloc (.cells #[] T)) := by
  subst hT
  exact ⟨rfl, .inr ⟨w.heap.size, 0, #[], rfl, Nat.le_refl _, (MapKept.heap_alloc w _).1, Nat.le_refl _, Nat.zero_le _, rfl, rfl⟩⟩
end Go.Proofs.Ytkdnplcaghnfhaa

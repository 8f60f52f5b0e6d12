/-
  Clues cut, put together, without one.
-/
import Derived.Test.YtakckgbkfnogbabDoorPzGood
import Derived.Test.YtakckgbkfnogbabDoorGrow
import Derived.Maps.AppendAt
import Derived.Deep.RegionLaw
import Derived.Deep.RegionHeldLaw
import Derived.Deep.AppendLies
import Derived.Laws.AppendOwn
namespace Go.Proofs.YtakckgbkfnogbabDoor
open Go.RowKit Go.Deep
set_option maxRecDepth 100000

/-- The address behind a cut. -/
def adC (a : Addr) (l m : Nat) : Addr := if m = l then a else a.add (l * 3)
theorem RdC.cut {cs : List Cl} {ad : Addr} {n cap : Nat} {W : World} (h : RdC cs (.slice (some ad) n cap) W) (l hh m : Nat) (h1 : l ≤ hh) (h2 : hh ≤ cs.length) (h3 : hh ≤ m) : RdC ((cs.drop l).take (hh - l)) (.slice (some (adC ad l m)) (hh - l) (m - l)) W := by
  obtain ⟨a, cap', hv, hcp, hc⟩ := h
  simp only [Value.slice.injEq] at hv
  obtain ⟨rfl, rfl, rfl⟩ := hv
  have hlen : ((cs.drop l).take (hh - l)).length = hh - l := by simp; omega
  refine ⟨_, _, by rw [hlen], by rw [hlen]; omega, fun i hi => ?_⟩
  rw [hlen] at hi
  obtain ⟨g, o, ha, hg, d0, d1, d2⟩ := hc (l + i) (by omega)
  simp only [Option.some.injEq] at ha
  subst ha
  have hget : ((cs.drop l).take (hh - l)).getD i c0 = cs.getD (l + i) c0 := by
    simp only [List.getD_eq_getElem?_getD, List.getElem?_take, if_pos hi, List.getElem?_drop]
  rw [hget]
  refine ⟨g, o + l * 3, ?_, hg, ?_, ?_, ?_⟩
  · unfold adC; rw [if_neg (by omega)]; congr 1; unfold Addr.add; split <;> simp_all
  · rw [show o + l * 3 + i * 3 = o + (l + i) * 3 by omega]; exact d0
  · rw [show o + l * 3 + i * 3 + 1 = o + (l + i) * 3 + 1 by omega]; exact d1
  · rw [show o + l * 3 + i * 3 + 2 = o + (l + i) * 3 + 2 by omega]; exact d2
theorem RdC.len {cs : List Cl} {a : Option Addr} {n cap : Nat} {W : World} (h : RdC cs (.slice a n cap) W) : n = cs.length ∧ cs.length ≤ cap := by
  obtain ⟨a', cap', hv, hcp, hc⟩ := h
  simp only [Value.slice.injEq] at hv
  obtain ⟨rfl, rfl, rfl⟩ := hv
  exact ⟨rfl, hcp⟩
theorem cut3 (ad : Addr) (n cap l hh m : Nat) (h1 : l ≤ hh) (h2 : hh ≤ m) (h3 : m ≤ cap) (W : World) :
    (Instr.slice 28 (.slice (some ad) n cap) (some (.int .i64 (l : Int))) (some (.int .i64 (hh : Int))) (some (.int .i64 (m : Int)))).run Tryd.prog W = .ok (.slice (some (adC ad l m)) (hh - l) (m - l)) W := by
  rw [run_slice_lhm W 28 (some ad) n cap (by kernel_rfl) .i64 .i64 .i64 (l : Int) (hh : Int) (m : Int) (by omega) (by omega) (by omega) (by omega)]
  have hsz : (sizeOf (Tryd.prog.elem 28)).run Tryd.prog W = .ok 3 W := by kernel_rfl
  rw [hsz]
  unfold adC
  by_cases h : m = l
  · simp [Result.andThen, sliced, h]
  · simp [Result.andThen, sliced, h]
theorem cutH (ad : Addr) (n cap p : Nat) (h : p ≤ cap) (W : World) :
    (Instr.slice 28 (.slice (some ad) n cap) none (some (.int .i64 (p : Int))) none).run Tryd.prog W = .ok (.slice (some (adC ad 0 cap)) p cap) W := by
  rw [run_slice_h W 28 (some ad) n cap (by kernel_rfl) .i64 (p : Int) (by omega) (by omega)]
  have hsz : (sizeOf (Tryd.prog.elem 28)).run Tryd.prog W = .ok 3 W := by kernel_rfl
  rw [hsz]
  unfold adC
  by_cases h : cap = 0
  · simp [Result.andThen, sliced, h]
  · simp [Result.andThen, sliced, h]
theorem cutL (ad : Addr) (n cap l : Nat) (h : l ≤ n) (_hc : n ≤ cap) (W : World) :
    (Instr.slice 28 (.slice (some ad) n cap) (some (.int .i64 (l : Int))) none none).run Tryd.prog W = .ok (.slice (some (adC ad l cap)) (n - l) (cap - l)) W := by
  rw [run_slice_l W 28 (some ad) n cap (by kernel_rfl) .i64 (l : Int) (by omega) (by omega)]
  have hsz : (sizeOf (Tryd.prog.elem 28)).run Tryd.prog W = .ok 3 W := by kernel_rfl
  rw [hsz]
  unfold adC
  by_cases h : cap = l
  · simp [Result.andThen, sliced, h]
  · simp [Result.andThen, sliced, h]
theorem cut_any (ad : Addr) (n cap l hh : Nat) (x y : Int) (w : World) (hx : x = (l : Int)) (hy : y = (hh : Int)) (h1 : l ≤ hh) (h3 : hh ≤ cap) :
    Calls Tryd.prog 30 #[.slice (some ad) n cap, .int .i64 x, .int .i64 y] w fun e w' => e = .returned (.slice (some (adC ad l hh)) (hh - l) (hh - l)) ∧ w = w' := by
  have hc := fun W => cut3 ad n cap l hh hh h1 (Nat.le_refl _) h3 W
  rw [← hx, ← hy] at hc
  clear hx hy
  go_enter Tryd.func30, Tryd.ntmps30
  go_wp2
  go_ret
  exact ⟨rfl, rfl⟩
theorem lie_clue {us : List Cl} {ad : Addr} {n c : Nat} {w : World} (h : RdC us (.slice (some ad) n c) w) : ∀ j u, (flc us)[j]? = some u → w.cell? (ad.add j) = some u := by
  obtain ⟨a, cap', hv, hcp, hc⟩ := h
  simp only [Value.slice.injEq] at hv
  obtain ⟨rfl, rfl, rfl⟩ := hv
  intro j u hj
  have hjl : j < us.length * 3 := by rw [← flc_len]; exact (List.getElem?_eq_some_iff.1 hj).1
  obtain ⟨g, o, ha, hg, d0, d1, d2⟩ := hc (j / 3) (by omega)
  simp only [Option.some.injEq] at ha
  subst ha
  have e : (⟨g, o, none⟩ : Addr).add j = ⟨g, o + j, none⟩ := by unfold Addr.add; split <;> simp_all
  rw [e]
  rcases (show j = j / 3 * 3 ∨ j = j / 3 * 3 + 1 ∨ j = j / 3 * 3 + 2 by omega) with h | h | h
  · have := flc_0 us (j / 3) (by omega)
    rw [← h, hj] at this
    rw [this, show o + j = o + j / 3 * 3 by omega]; exact d0
  · have := flc_1 us (j / 3) (by omega)
    rw [← h, hj] at this
    rw [this, show o + j = o + j / 3 * 3 + 1 by omega]; exact d1
  · have := flc_2 us (j / 3) (by omega)
    rw [← h, hj] at this
    rw [this, show o + j = o + j / 3 * 3 + 2 by omega]; exact d2
theorem clue_info : ∃ i0, Tryd.prog.info? 58 = some i0 ∧ i0.zero = some (.agg #[.int .i64 0, .int .i64 0, .int .i64 0]) ∧ i0.size = 3 ∧ i0.bytes = 24 :=
  info_parts (show (Tryd.prog.info? 58).map (fun i => (i.zero, i.size, i.bytes)) = some (some (.agg #[.int .i64 0, .int .i64 0, .int .i64 0]), 3, 24) by kernel_rfl)
theorem append_clus (w : World) {ops : Array Oper} {rest : List Oper} {o : Oper} {a : Act} {Q : Exit → Act → World → Prop} (hgd : o.guard = none) (s x : Operand)
    (ho : o.op = .call { callee := .builtin .append, args := #[s, x], argTypes := #[28, 28] })
    (B : Nat) (ts : List Cl) (v : Value) (hs : a.eval s = v) (hown : Clu B ts v w) (ad : Addr) (m c : Nat) (us : List Cl) (hx : a.eval x = .slice (some ad) m c) (hr : RdC us (.slice (some ad) m c) w)
    (hlen : ts.length + us.length ≤ 2000000) (hB : B ≤ w.heap.size)
    (h : ∀ v' w', Clu B (ts ++ us) v' w' → Below B w w' → wpList Tryd.prog ops Q rest (a.put o.dst v') w') :
    wpList Tryd.prog ops Q (o :: rest) a w := by
  obtain ⟨i0, hi, hz0, hz1, hz2⟩ := clue_info
  have hm := hr.len.1
  refine wpList_append_own_at _ hgd s x 28 ho B 58 i0 _ 3 24 Tryd.underlying28 hi hz0 hz1 hz2 rfl (by decide) v ts.length (flc ts) hs hown ad m c (flc us) hx (by rw [flc_len, hm]) (lie_clue hr) (flc_int us) (by unfold maxLen; omega) (by omega) hB ?_
  intro v' w' h1 hg _ _
  refine h v' w' ?_ ?_
  · unfold Clu; rw [List.length_append, flc_append, ← hm]; exact h1
  · exact (Below.refl B w).grown hg hB (fun q hq => (World.ownsRow.lt hown q hq).1)
theorem step_append_clus {w : World} {ops : Array Oper} {o : Oper} {a : Act} {K : Act → World → Prop} {Q : Exit → Act → World → Prop} {E : Prop} (hgd : o.guard = none) (s x : Operand)
    (ho : o.op = .call { callee := .builtin .append, args := #[s, x], argTypes := #[28, 28] })
    (B : Nat) (ts : List Cl) (v : Value) (hs : a.eval s = v) (hown : Clu B ts v w) (ad : Addr) (m c : Nat) (us : List Cl) (hx : a.eval x = .slice (some ad) m c) (hr : RdC us (.slice (some ad) m c) w)
    (hlen : ts.length + us.length ≤ 2000000) (hB : B ≤ w.heap.size)
    (h : ∀ v' w', Clu B (ts ++ us) v' w' → Below B w w' → K (a.put o.dst v') w') :
    if Region.wanted o (yielded ops a.tmps) = true then Oper.wp Tryd.prog o a w K Q else E := by
  obtain ⟨i0, hi, hz0, hz1, hz2⟩ := clue_info
  have hm := hr.len.1
  have hw : Region.wanted o (yielded ops a.tmps) = true := by simp [Region.wanted, hgd]
  rw [if_pos hw]
  refine wp_append_own w s x 28 ho B 58 i0 _ 3 24 Tryd.underlying28 hi hz0 hz1 hz2 rfl (by decide) v ts.length (flc ts) hs hown ad m c (flc us) hx (by rw [flc_len, hm]) (lie_clue hr) (flc_int us) (by unfold maxLen; omega) (by omega) hB ?_
  intro v' w' h1 hg _
  refine h v' w' ?_ ?_
  · unfold Clu; rw [List.length_append, flc_append, ← hm]; exact h1
  · exact (Below.refl B w).grown hg hB (fun q hq => (World.ownsRow.lt hown q hq).1)
theorem Clu.empty (w : World) (T : TypeId) (hT : T = 58) : Clu w.heap.size [] (.slice (some ⟨w.heap.size, 0, none⟩) 0 0) (w.alloc (.cells #[] T)) := by
  subst hT
  exact ⟨rfl, .inr ⟨w.heap.size, 0, #[], rfl, Nat.le_refl _, (MapKept.heap_alloc w _).1, Nat.le_refl _, Nat.zero_le _, rfl, rfl⟩⟩
theorem growC_any (n : Nat) (w : World) (hn : n ≤ 100000) :
    Calls Tryd.prog 83 #[.slice none 0 0, .int .i64 (n : Int)] w fun e w' => (∃ u, e = .returned u ∧ Clu w.heap.size [] u w') ∧ Below w.heap.size w w' := by
  by_cases h0 : n = 0
  · subst h0
    refine (Any8.slices_Grow_room Tryd.growS none 0 0 0 w (Nat.le_refl _) (by omega) (by omega) (by omega)).mono ?_
    rintro e w' ⟨rfl, rfl⟩
    exact ⟨⟨_, rfl, World.ownsRow_nil _ _ _ _⟩, Below.refl _ _⟩
  · obtain ⟨i0, hi, hz0, hz1, hz2⟩ := clue_info
    refine (Any8.slices_Grow_grow Tryd.growS i0 _ hi hz0 (by rw [hz1]; decide) none 0 0 n [] w (Nat.le_refl _) (by omega) (by rw [hz2]; omega) (by omega) (by simp) (fun _ => rfl) (fun a h => by cases h)).mono ?_
    rintro e w' ⟨rfl, rfl⟩
    have hG : n ≤ grownCap w (0 + n) 0 58 := by simpa using grownCap_ge w (0 + n) 0 58
    have hM : grownCap w (0 + n) 0 58 ≤ maxLen := grownCap_le_maxLen w (0 + n) 0 58 (by unfold maxLen; omega)
    refine ⟨⟨_, rfl, rfl, .inr ⟨w.heap.size, _, _, rfl, Nat.le_refl _, (MapKept.heap_alloc w.drew _).1, Nat.zero_le _, hM, ?_, by simp [flc]⟩⟩, ((Below.refl w.heap.size w).drew).alloc (Nat.le_refl _) _⟩
    have hcs : (Value.agg #[.int .i64 0, .int .i64 0, .int .i64 0]).cells.size = 3 := rfl
    have e25 : Tryd.growS_ren.t 25 = 58 := rfl
    rw [e25]
    simp only [Builtin.zeroCells]
    simp [hcs]
    rw [Nat.zero_add] at hG
    omega
/-- Slices of clues lie in a block, one behind the other. -/
def Lies (T : List (List Cl)) (b : Nat) (w : World) : Prop := b < w.heap.size ∧ ∀ j, j < T.length → ∃ ad m c, w.cell? ⟨b, j, none⟩ = some (.slice (some ad) m c) ∧ RdC (T.getD j []) (.slice (some ad) m c) w
theorem Lies.below {T : List (List Cl)} {b : Nat} {w w' : World} (h : Lies T b w) (k : Below w.heap.size w w') : Lies T b w' := by
  refine ⟨by have := k.size; have := h.1; omega, fun j hj => ?_⟩
  obtain ⟨ad, m, c, h1, h2⟩ := h.2 j hj
  exact ⟨ad, m, c, (k.cell (p := ⟨b, j, none⟩) h.1).trans h1, h2.below k⟩
def ctot (T : List (List Cl)) (k : Nat) : Nat := ((T.take k).map List.length).sum
theorem ctot_succ (T : List (List Cl)) (k : Nat) (h : k < T.length) : ctot T (k + 1) = ctot T k + (T.getD k []).length := by
  unfold ctot
  rw [List.take_succ_eq_append_getElem h, List.map_append, List.sum_append]
  simp [List.getD, List.getElem?_eq_getElem h]
theorem cflat_succ (T : List (List Cl)) (k : Nat) (h : k < T.length) : (T.take (k + 1)).flatten = (T.take k).flatten ++ T.getD k [] := by
  rw [List.take_succ_eq_append_getElem h, List.flatten_append]
  simp [List.getD, List.getElem?_eq_getElem h]
theorem cflat_len (T : List (List Cl)) (k : Nat) : ((T.take k).flatten).length = ctot T k := by
  unfold ctot; rw [List.length_flatten]
set_option maxHeartbeats 2000000 in
theorem concC_any (T : List (List Cl)) (b m c : Nat) (w : World) (hmT : m = T.length) (hm : m ≤ 2) (hT : ∀ j, j < T.length → (T.getD j []).length ≤ 1000) (h : Lies T b w) :
    Calls Tryd.prog 61 #[.slice (some ⟨b, 0, none⟩) m c] w fun e w' => (∃ u, e = .returned u ∧ Clu w.heap.size T.flatten u w') ∧ Below w.heap.size w w' := by
  have HL := Lib.hid h
  have HT := Lib.hid hT
  have HM := Lib.hid hmT
  clear h hT hmT
  go_enter Tryd.func61, Tryd.ntmps61
  go_wp2
  go_loop [3, 11] (fun s i => ∃ (k q : Nat), k ≤ m ∧ i = .int .i64 k ∧ s = .int .i64 q ∧ q ≤ k * 1000 ∧ Hid (q = ctot T k)) (fun _ i => m - (intOf i).toNat)
  case atStart => exact ⟨0, 0, Nat.zero_le _, rfl, rfl, Nat.zero_le _, by show _ = _; simp [ctot]⟩
  case round =>
    obtain ⟨k, q, hk, rfl, rfl, hq, HQ⟩ := hrel
    by_cases hlt : k < m
    · have hlt2 : k < T.length := by rw [← HM.out]; exact hlt
      obtain ⟨ad, n, cc, hcell, hrd⟩ := HL.out.2 k hlt2
      have hn := hrd.len.1
      have hn2 : n ≤ 1000 := by rw [hn]; exact HT.out k hlt2
      have HTS := Lib.hid (ctot_succ T k hlt2)
      have HNN := Lib.hid hn
      have hltI : (k : Int) < (m : Int) := by omega
      have hnn : ¬ ((q : Int) + (n : Int) < 0) := by omega
      clear hn hrd
      go_wp2
      go_round
      case rel => exact ⟨k + 1, q + n, by omega, by go_num, by go_num, by omega, by show _ = _; rw [HTS.out, ← HQ.out, ← HNN.out]⟩
      case measure => simp [intOf]; omega
    · have hltI : ¬ (k : Int) < (m : Int) := by omega
      go_wp2_with (go_at_call 83; (with_reducible refine (growC_any q _ (by omega)).mono ?_); rintro e w1 ⟨⟨u0, rfl, hu0⟩, b1⟩)
      clear HQ hltI hlt hq
      have HS0 : Hid (Clu w.heap.size (T.take 0).flatten u0 w1) := hu0
      go_loopw [6, 27] (fun s i wr => ∃ (k : Nat), k ≤ m ∧ i = .int .i64 k ∧ Hid (Clu w.heap.size (T.take k).flatten s wr) ∧ Below w.heap.size w wr) (fun _ i _ => m - (intOf i).toNat)
      case atStart => exact ⟨0, Nat.zero_le _, rfl, HS0, b1⟩
      case round =>
        obtain ⟨k, hk, rfl, HS, hb⟩ := hrel
        have hbs := hb.size
        by_cases hlt : k < m
        · have hlt2 : k < T.length := by rw [← HM.out]; exact hlt
          obtain ⟨ad, n, cc, hcell, hlie⟩ := (HL.out.below hb).2 k hlt2
          obtain ⟨us, hus⟩ : ∃ us, us = T.getD k [] := ⟨_, rfl⟩
          have hn2 : us.length ≤ 1000 := by rw [hus]; exact HT.out k hlt2
          have HTS := Lib.hid (cflat_succ T k hlt2)
          have HUS := Lib.hid hus
          rw [← hus] at hlie
          have HLIE := Lib.hid hlie
          have htl : ((T.take k).flatten).length ≤ 2000 := by
            rw [cflat_len]
            have : ∀ k, k ≤ 2 → k ≤ T.length → ctot T k ≤ k * 1000 := by
              intro k
              induction k with
              | zero => intro _ _; simp [ctot]
              | succ k ih =>
                intro h1 h2
                have h3 := ih (by omega) (by omega)
                have h4 := HT.out k (by omega)
                rw [ctot_succ T k (by omega)]; omega
            have := this k (by omega) (by omega)
            omega
          have hltI : (k : Int) < (m : Int) := by omega
          clear hus hlie
          go_wp2_with (at_builtin; refine append_clus _ rfl _ _ rfl w.heap.size _ _ rfl HS.out ad n cc us rfl HLIE.out (by omega) hbs ?_; intro v' w2 hv2 hb2)
          go_roundw
          case rel => exact ⟨k + 1, by omega, by go_num, by show Clu _ _ _ _; rw [HTS.out, ← HUS.out]; exact hv2, hb.trans hb2⟩
          case measure => simp [intOf]; omega
        · have hltI : ¬ (k : Int) < (m : Int) := by omega
          have HK : Hid ((T.take k).flatten = T.flatten) := by show _ = _; rw [show k = T.length by have := HM.out; omega, List.take_length]
          go_wp2
          go_ret
          exact ⟨⟨_, rfl, by rw [← HK.out]; exact HS.out⟩, hb⟩
end Go.Proofs.YtakckgbkfnogbabDoor

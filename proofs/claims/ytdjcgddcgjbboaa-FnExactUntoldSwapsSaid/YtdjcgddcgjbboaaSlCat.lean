/-
  Slices of numbers copied: slices.Concat, append of a slice.
-/
import Derived.Test.YtdjcgddcgjbboaaSlTo
import Derived.Test.YtdjcgddcgjbboaaGrow
import Derived.Maps.AppendAt
namespace Go.Proofs.Ytdjcgddcgjbboaa
open Go.RowKit

theorem append_intsA (w : World) {ops : Array Oper} {rest : List Oper} {o : Oper} {a : Act} {Q : Exit → Act → World → Prop} (hgd : o.guard = none) (s x : Operand)
    (ho : o.op = .call { callee := .builtin .append, args := #[s, x], argTypes := #[22, 22] })
    (B : Nat) (ts : List Int) (v : Value) (hs : a.eval s = v) (hown : Ints B ts v w) (ad : Addr) (c : Nat) (us : List Int) (hx : a.eval x = .slice (some ad) us.length c) (hc : ∀ j u, us[j]? = some u → w.cell? (ad.add j) = some (.int .i64 u))
    (hlen : ts.length + us.length ≤ 2000000) (hB : B ≤ w.heap.size)
    (h : ∀ v' w', Ints B (ts ++ us) v' w' → Below B w w' → wpList Try.prog ops Q rest (a.put o.dst v') w') :
    wpList Try.prog ops Q (o :: rest) a w := by
  obtain ⟨i0, hi, hz0, hz1, hz2⟩ := info_parts (show (Try.prog.info? 3).map (fun i => (i.zero, i.size, i.bytes)) = some (some (.int .i64 0), 1, 8) by kernel_rfl)
  refine wpList_append_own_at _ hgd s x 22 ho B 3 i0 (.int .i64 0) 1 8 Try.underlying22 hi hz0 hz1 hz2 rfl (by decide) v ts.length (ts.map (Value.int .i64)) hs hown ad us.length c (us.map (Value.int .i64)) hx (by simp) ?_ ?_ ?_ ?_ hB ?_
  · intro j u hj
    rw [List.getElem?_map] at hj
    cases e : us[j]? with
    | none => rw [e] at hj; cases hj
    | some z => rw [e] at hj; simp at hj; subst hj; exact hc j z e
  · intro u hu; simp at hu; obtain ⟨z, _, rfl⟩ := hu; rfl
  · unfold maxLen; omega
  · omega
  · intro v' w' h1 hg _ _
    refine h v' w' ?_ ?_
    · unfold Ints; simpa using h1
    · exact (Below.refl B w).grown hg hB (fun q hq => (World.ownsRow.lt hown q hq).1)
/-- Texts lie from an address on. -/
def Lie (ts : List Int) (ad : Addr) (w : World) : Prop := ad.block < w.heap.size ∧ ad.spot = none ∧ ∀ j u, ts[j]? = some u → w.cell? (ad.add j) = some (.int .i64 u)
theorem Lie.below {ts : List Int} {ad : Addr} {w w' : World} (h : Lie ts ad w) (k : Below w.heap.size w w') : Lie ts ad w' := by
  refine ⟨by have := k.size; have := h.1; omega, h.2.1, fun j u hj => ?_⟩
  have e : (ad.add j).block = ad.block := by unfold Addr.add; split <;> rfl
  rw [k.cell (p := ad.add j) (by rw [e]; exact h.1)]
  exact h.2.2 j u hj
theorem Ints.lie {B g n cap : Nat} {ts : List Int} {w : World} (h : Ints B ts (.slice (some ⟨g, 0, none⟩) n cap) w) : Lie ts ⟨g, 0, none⟩ w := by
  obtain ⟨a, cap', he, hc⟩ := h.rd
  have hg : g < w.heap.size := by
    rcases h.2 with ⟨h0, _⟩ | ⟨g', cap'', cur, hv, hb, hg, r⟩
    · cases h0
    · simp only [Value.slice.injEq, Option.some.injEq, Addr.mk.injEq] at hv
      obtain ⟨⟨rfl, _⟩, rfl, rfl⟩ := hv
      exact (Array.getElem?_eq_some_iff.1 hg).1
  refine ⟨hg, rfl, fun j u hj => ?_⟩
  have hjl : j < ts.length := (List.getElem?_eq_some_iff.1 hj).1
  obtain ⟨g', o, hgo, _, hcell⟩ := hc j hjl
  simp only [Value.slice.injEq] at he
  rw [hgo] at he
  obtain ⟨he, _⟩ := he
  simp only [Option.some.injEq, Addr.mk.injEq] at he
  obtain ⟨rfl, rfl, _⟩ := he
  rw [Nat.zero_add] at hcell
  have e : (⟨g, 0, none⟩ : Addr).add j = ⟨g, j, none⟩ := by unfold Addr.add; split <;> simp_all
  rw [e, hcell]
  rw [List.getD_eq_getElem?_getD, hj]; rfl
theorem Ints.empty (w : World) (T : TypeId) (hT : T = 3) : Ints w.heap.size [] (.slice (some ⟨w.heap.size, 0, none⟩) 0 0) (w.alloc (.cells #[] T)) := by
  subst hT
  exact ⟨rfl, .inr ⟨w.heap.size, 0, #[], rfl, Nat.le_refl _, (MapKept.heap_alloc w _).1, Nat.le_refl _, Nat.zero_le _, rfl, rfl⟩⟩
theorem growNil_any (n : Nat) (w : World) (hn : n ≤ 100000) :
    Calls Try.prog 35 #[.slice none 0 0, .int .i64 (n : Int)] w fun e w' => (∃ u, e = .returned u ∧ Ints w.heap.size [] u w') ∧ Below w.heap.size w w' := by
  by_cases h0 : n = 0
  · subst h0
    refine (Any8.slices_Grow_room Try.growS none 0 0 0 w (Nat.le_refl _) (by omega) (by omega) (by omega)).mono ?_
    rintro e w' ⟨rfl, rfl⟩
    exact ⟨⟨_, rfl, World.ownsRow_nil _ _ _ _⟩, Below.refl _ _⟩
  · obtain ⟨i0, hi, hz0, hz1, hz2⟩ := info_parts (show (Try.prog.info? 3).map (fun i => (i.zero, i.size, i.bytes)) = some (some (.int .i64 0), 1, 8) by kernel_rfl)
    refine (Any8.slices_Grow_grow Try.growS i0 (.int .i64 0) hi hz0 (by rw [hz1]; decide) none 0 0 n [] w (Nat.le_refl _) (by omega) (by rw [hz2]; omega) (by omega) (by simp) (fun _ => rfl) (fun a h => by cases h)).mono ?_
    rintro e w' ⟨rfl, rfl⟩
    have hG : n ≤ grownCap w (0 + n) 0 3 := by simpa using grownCap_ge w (0 + n) 0 3
    have hM : grownCap w (0 + n) 0 3 ≤ maxLen := grownCap_le_maxLen w (0 + n) 0 3 (by unfold maxLen; omega)
    refine ⟨⟨_, rfl, rfl, .inr ⟨w.heap.size, _, _, rfl, Nat.le_refl _, (MapKept.heap_alloc w.drew _).1, Nat.zero_le _, hM, ?_, by simp⟩⟩, ((Below.refl w.heap.size w).drew).alloc (Nat.le_refl _) _⟩
    have hcs : (Value.int .i64 0).cells.size = 1 := rfl
    have e25 : Try.growS_ren.t 25 = 3 := rfl
    rw [e25]
    simp only [Builtin.zeroCells]
    simp [hcs]
    rw [Nat.zero_add] at hG
    omega
/-- Slices of texts lie in a block, one behind the other. -/
def Lies (T : List (List Int)) (b : Nat) (w : World) : Prop := b < w.heap.size ∧ ∀ j, j < T.length → ∃ ad c, w.cell? ⟨b, j, none⟩ = some (.slice (some ad) (T.getD j []).length c) ∧ Lie (T.getD j []) ad w
theorem Lies.below {T : List (List Int)} {b : Nat} {w w' : World} (h : Lies T b w) (k : Below w.heap.size w w') : Lies T b w' := by
  refine ⟨by have := k.size; have := h.1; omega, fun j hj => ?_⟩
  obtain ⟨ad, c, h1, h2⟩ := h.2 j hj
  exact ⟨ad, c, (k.cell (p := ⟨b, j, none⟩) h.1).trans h1, h2.below k⟩
def ltot (T : List (List Int)) (k : Nat) : Nat := ((T.take k).map List.length).sum
theorem ltot_succ (T : List (List Int)) (k : Nat) (h : k < T.length) : ltot T (k + 1) = ltot T k + (T.getD k []).length := by
  unfold ltot
  rw [List.take_succ_eq_append_getElem h, List.map_append, List.sum_append]
  simp [List.getD, List.getElem?_eq_getElem h]
theorem flat_succ (T : List (List Int)) (k : Nat) (h : k < T.length) : (T.take (k + 1)).flatten = (T.take k).flatten ++ T.getD k [] := by
  rw [List.take_succ_eq_append_getElem h, List.flatten_append]
  simp [List.getD, List.getElem?_eq_getElem h]
theorem flat_len (T : List (List Int)) (k : Nat) : ((T.take k).flatten).length = ltot T k := by
  unfold ltot; rw [List.length_flatten]
set_option maxHeartbeats 2000000 in
theorem conc_any (T : List (List Int)) (b m c : Nat) (w : World) (hmT : m = T.length) (hm : m ≤ 2) (hT : ∀ j, j < T.length → (T.getD j []).length ≤ 1000) (h : Lies T b w) :
    Calls Try.prog 28 #[.slice (some ⟨b, 0, none⟩) m c] w fun e w' => (∃ u, e = .returned u ∧ Ints w.heap.size T.flatten u w') ∧ Below w.heap.size w w' := by
  have HL := Lib.hid h
  have HT := Lib.hid hT
  have HM := Lib.hid hmT
  clear h hT hmT
  go_enter Try.func28, Try.ntmps28
  go_wp2
  go_loop [3, 11] (fun s i => ∃ (k q : Nat), k ≤ m ∧ i = .int .i64 k ∧ s = .int .i64 q ∧ q ≤ k * 1000 ∧ Hid (q = ltot T k)) (fun _ i => m - (intOf i).toNat)
  case atStart => exact ⟨0, 0, Nat.zero_le _, rfl, rfl, Nat.zero_le _, by show _ = _; simp [ltot]⟩
  case round =>
    obtain ⟨k, q, hk, rfl, rfl, hq, HQ⟩ := hrel
    by_cases hlt : k < m
    · have hlt2 : k < T.length := by rw [← HM.out]; exact hlt
      obtain ⟨ad, cc, hcell, _⟩ := HL.out.2 k hlt2
      obtain ⟨n, hn⟩ : ∃ n, n = (T.getD k []).length := ⟨_, rfl⟩
      have hn2 : n ≤ 1000 := by rw [hn]; exact HT.out k hlt2
      have HTS := Lib.hid (ltot_succ T k hlt2)
      have HNN := Lib.hid hn
      rw [← hn] at hcell
      have hltI : (k : Int) < (m : Int) := by omega
      have hnn : ¬ ((q : Int) + (n : Int) < 0) := by omega
      clear hn
      go_wp2
      go_round
      case rel => exact ⟨k + 1, q + n, by omega, by go_num, by go_num, by omega, by show _ = _; rw [HTS.out, ← HQ.out, ← HNN.out]⟩
      case measure => simp [intOf]; omega
    · have hltI : ¬ (k : Int) < (m : Int) := by omega
      go_wp2_with (go_at_call 35; (with_reducible refine (growNil_any q _ (by omega)).mono ?_); rintro e w1 ⟨⟨u0, rfl, hu0⟩, b1⟩)
      clear HQ hltI hlt hq
      have HS0 : Hid (Ints w.heap.size (T.take 0).flatten u0 w1) := hu0
      go_loopw [6, 27] (fun s i wr => ∃ (k : Nat), k ≤ m ∧ i = .int .i64 k ∧ Hid (Ints w.heap.size (T.take k).flatten s wr) ∧ Below w.heap.size w wr) (fun _ i _ => m - (intOf i).toNat)
      case atStart => exact ⟨0, Nat.zero_le _, rfl, HS0, b1⟩
      case round =>
        obtain ⟨k, hk, rfl, HS, hb⟩ := hrel
        have hbs := hb.size
        by_cases hlt : k < m
        · have hlt2 : k < T.length := by rw [← HM.out]; exact hlt
          obtain ⟨ad, cc, hcell, hlie⟩ := (HL.out.below hb).2 k hlt2
          obtain ⟨us, hus⟩ : ∃ us, us = T.getD k [] := ⟨_, rfl⟩
          have hn2 : us.length ≤ 1000 := by rw [hus]; exact HT.out k hlt2
          have HTS := Lib.hid (flat_succ T k hlt2)
          have HUS := Lib.hid hus
          rw [← hus] at hcell hlie
          have HLIE := Lib.hid hlie
          have htl : ((T.take k).flatten).length ≤ 2000 := by
            rw [flat_len]
            have : ∀ k, k ≤ 2 → k ≤ T.length → ltot T k ≤ k * 1000 := by
              intro k
              induction k with
              | zero => intro _ _; simp [ltot]
              | succ k ih =>
                intro h1 h2
                have h3 := ih (by omega) (by omega)
                have h4 := HT.out k (by omega)
                rw [ltot_succ T k (by omega)]; omega
            have := this k (by omega) (by omega)
            omega
          have hltI : (k : Int) < (m : Int) := by omega
          clear hus hlie
          go_wp2_with (at_builtin; refine append_intsA _ rfl _ _ rfl w.heap.size _ _ rfl HS.out ad cc us rfl HLIE.out.2.2 (by omega) hbs ?_; intro v' w2 hv2 hb2)
          go_roundw
          case rel => exact ⟨k + 1, by omega, by go_num, by show Ints _ _ _ _; rw [HTS.out, ← HUS.out]; exact hv2, hb.trans hb2⟩
          case measure => simp [intOf]; omega
        · have hltI : ¬ (k : Int) < (m : Int) := by omega
          have HK : Hid ((T.take k).flatten = T.flatten) := by show _ = _; rw [show k = T.length by have := HM.out; omega, List.take_length]
          go_wp2
          go_ret
          exact ⟨⟨_, rfl, by rw [← HK.out]; exact HS.out⟩, hb⟩
end Go.Proofs.Ytdjcgddcgjbboaa

/-
  Slices of texts copied: the model's l1OwnS, slices.Concat.
-/
import Derived.Test.YtkeedoieadlbdabDoorPlTo
namespace Go.Proofs.YtkeedoieadlbdabDoor
open Go.RowKit

theorem append_strsA (w : World) {ops : Array Oper} {rest : List Oper} {o : Oper} {a : Act} {Q : Exit → Act → World → Prop} (hgd : o.guard = none) (s x : Operand)
    (ho : o.op = .call { callee := .builtin .append, args := #[s, x], argTypes := #[22, 22] })
    (B : Nat) (ts : List (List UInt8)) (v : Value) (hs : a.eval s = v) (hown : Strs B ts v w) (ad : Addr) (c : Nat) (us : List (List UInt8)) (hx : a.eval x = .slice (some ad) us.length c) (hc : ∀ j u, us[j]? = some u → w.cell? (ad.add j) = some (strV u))
    (hlen : ts.length + us.length ≤ 2000000) (hB : B ≤ w.heap.size)
    (h : ∀ v' w', Strs B (ts ++ us) v' w' → Below B w w' → wpList Tryd.prog ops Q rest (a.put o.dst v') w') :
    wpList Tryd.prog ops Q (o :: rest) a w := by
  obtain ⟨i0, hi, hz0, hz1, hz2⟩ := info_parts (show (Tryd.prog.info? 9).map (fun i => (i.zero, i.size, i.bytes)) = some (some (.string ⟨#[]⟩), 1, 16) by kernel_rfl)
  refine wpList_append_own_at _ hgd s x 22 ho B 9 i0 (.string ⟨#[]⟩) 1 16 Tryd.underlying22 hi hz0 hz1 hz2 rfl (by decide) v ts.length (ts.map strV) hs hown ad us.length c (us.map strV) hx (by simp) ?_ ?_ ?_ ?_ hB ?_
  · intro j u hj
    rw [List.getElem?_map] at hj
    cases e : us[j]? with
    | none => rw [e] at hj; cases hj
    | some z => rw [e] at hj; simp at hj; subst hj; exact hc j z e
  · intro u hu; simp at hu; obtain ⟨z, _, rfl⟩ := hu; rfl
  · unfold maxLen; omega
  · omega
  · intro v' w' h1 hg _ _
    refine h v' w' ?_ ?_
    · unfold Strs; simpa using h1
    · exact (Below.refl B w).grown hg hB (fun q hq => (World.ownsRow.lt hown q hq).1)
/-- Texts lie from an address on. -/
def Lie (ts : List (List UInt8)) (ad : Addr) (w : World) : Prop := ad.block < w.heap.size ∧ ad.spot = none ∧ ∀ j u, ts[j]? = some u → w.cell? (ad.add j) = some (strV u)
theorem Lie.below {ts : List (List UInt8)} {ad : Addr} {w w' : World} (h : Lie ts ad w) (k : Below w.heap.size w w') : Lie ts ad w' := by
  refine ⟨by have := k.size; have := h.1; omega, h.2.1, fun j u hj => ?_⟩
  have e : (ad.add j).block = ad.block := by unfold Addr.add; split <;> rfl
  rw [k.cell (p := ad.add j) (by rw [e]; exact h.1)]
  exact h.2.2 j u hj
theorem Strs.lie {B g n cap : Nat} {ts : List (List UInt8)} {w : World} (h : Strs B ts (.slice (some ⟨g, 0, none⟩) n cap) w) : Lie ts ⟨g, 0, none⟩ w := by
  obtain ⟨a, cap', he, hc⟩ := h.rd
  have hg : g < w.heap.size := by
    rcases h.2 with ⟨h0, _⟩ | ⟨g', cap'', cur, hv, hb, hg, r⟩
    · cases h0
    · simp only [Value.slice.injEq, Option.some.injEq, Addr.mk.injEq] at hv
      obtain ⟨⟨rfl, _⟩, rfl, rfl⟩ := hv
      exact (Array.getElem?_eq_some_iff.1 hg).1
  refine ⟨hg, rfl, fun j u hj => ?_⟩
  have hjl : j < ts.length := (List.getElem?_eq_some_iff.1 hj).1
  obtain ⟨g', o, hgo, _, hcell⟩ := hc j hjl
  simp only [Value.slice.injEq] at he
  rw [hgo] at he
  obtain ⟨he, _⟩ := he
  simp only [Option.some.injEq, Addr.mk.injEq] at he
  obtain ⟨rfl, rfl, _⟩ := he
  rw [Nat.zero_add] at hcell
  have e : (⟨g, 0, none⟩ : Addr).add j = ⟨g, j, none⟩ := by unfold Addr.add; split <;> simp_all
  rw [e, hcell]
  rw [List.getD_eq_getElem?_getD, hj]; rfl
theorem Strs.empty (w : World) (T : TypeId) (hT : T = 9) : Strs w.heap.size [] (.slice (some ⟨w.heap.size, 0, none⟩) 0 0) (w.alloc (.cells #[] T)) := by
  subst hT
  exact ⟨rfl, .inr ⟨w.heap.size, 0, #[], rfl, Nat.le_refl _, (MapKept.heap_alloc w _).1, Nat.le_refl _, Nat.zero_le _, rfl, rfl⟩⟩
theorem ownS_any (ts : List (List UInt8)) (ad : Addr) (c : Nat) (w : World) (hn : ts.length ≤ 1048576) (h : Lie ts ad w) :
    Calls Tryd.prog 17 #[.slice (some ad) ts.length c] w fun e w' => (∃ u, e = .returned u ∧ Strs w.heap.size ts u w') ∧ Below w.heap.size w w' := by
  have HL := Lib.hid h
  have hb : Below w.heap.size w (w.alloc (.cells #[] 9)) := (Below.refl _ _).alloc (Nat.le_refl _) _
  have HB := Lib.hid hb
  have HS := Lib.hid (Strs.empty w 9 rfl)
  obtain ⟨g, o, s⟩ := ad
  obtain rfl : s = none := h.2.1
  clear h hb
  go_enter Tryd.func17, Tryd.ntmps17
  go_wp2_with (at_builtin; refine append_strsA _ rfl _ _ rfl w.heap.size [] _ rfl HS.out ⟨g, o, none⟩ c ts rfl (HL.out.below HB.out).2.2 (by simpa using Nat.le_trans hn (by decide)) (by simp) ?_; intro v' w1 hv1 hb1)
  go_ret
  exact ⟨⟨_, rfl, by simpa using hv1⟩, HB.out.trans hb1⟩
/-- Slices of texts lie in a block, one behind the other. -/
def Lies (T : List (List (List UInt8))) (b : Nat) (w : World) : Prop := b < w.heap.size ∧ ∀ j, j < T.length → ∃ ad c, w.cell? ⟨b, j, none⟩ = some (.slice (some ad) (T.getD j []).length c) ∧ Lie (T.getD j []) ad w
theorem Lies.below {T : List (List (List UInt8))} {b : Nat} {w w' : World} (h : Lies T b w) (k : Below w.heap.size w w') : Lies T b w' := by
  refine ⟨by have := k.size; have := h.1; omega, fun j hj => ?_⟩
  obtain ⟨ad, c, h1, h2⟩ := h.2 j hj
  exact ⟨ad, c, (k.cell (p := ⟨b, j, none⟩) h.1).trans h1, h2.below k⟩
def tot (T : List (List (List UInt8))) (k : Nat) : Nat := ((T.take k).map List.length).sum
theorem tot_succ (T : List (List (List UInt8))) (k : Nat) (h : k < T.length) : tot T (k + 1) = tot T k + (T.getD k []).length := by
  unfold tot
  rw [List.take_succ_eq_append_getElem h, List.map_append, List.sum_append]
  simp [List.getD, List.getElem?_eq_getElem h]
theorem flat_succ (T : List (List (List UInt8))) (k : Nat) (h : k < T.length) : (T.take (k + 1)).flatten = (T.take k).flatten ++ T.getD k [] := by
  rw [List.take_succ_eq_append_getElem h, List.flatten_append]
  simp [List.getD, List.getElem?_eq_getElem h]
theorem flat_len (T : List (List (List UInt8))) (k : Nat) : ((T.take k).flatten).length = tot T k := by
  unfold tot; rw [List.length_flatten]
end Go.Proofs.YtkeedoieadlbdabDoor

/-
  Clues without one: model and program.
-/
import Derived.Test.YtakckgbkfnogbabDoorPzCut
namespace Go.Proofs.YtakckgbkfnogbabDoor
open Go.RowKit Go.Deep
set_option maxRecDepth 100000

theorem take_cut (cs : List Cl) (k : Nat) : (cs.drop 0).take (k - 0) = cs.take k := by simp
theorem drop_cut (cs : List Cl) (k : Nat) : (cs.drop k).take (cs.length - k) = cs.drop k := List.take_of_length_le (by simp)
theorem cut_to (ad A : Addr) (n cap l hh q : Nat) (x y : Int) (w : World) (hA : adC ad l hh = A) (hq : hh - l = q) (hx : x = (l : Int)) (hy : y = (hh : Int)) (h1 : l ≤ hh) (h3 : hh ≤ cap) :
    Calls Tryd.prog 30 #[.slice (some ad) n cap, .int .i64 x, .int .i64 y] w fun e w' => e = .returned (.slice (some A) q q) ∧ w = w' := by
  rw [← hA, ← hq]; exact cut_any ad n cap l hh x y w hx hy h1 h3
theorem lies_wo {cs : List Cl} {A1 A2 : Addr} {k q c1 c2 : Nat} {w : World} (h1 : RdC (cs.take k) (.slice (some A1) k c1) w) (h2 : RdC (cs.drop (k + 1)) (.slice (some A2) q c2) w) (T : TypeId) :
    Lies [cs.take k, cs.drop (k + 1)] w.heap.size (w.alloc (.cells #[.slice (some A1) k c1, .slice (some A2) q c2] T)) := by
  have hb := Blk.new w #[.slice (some A1) k c1, .slice (some A2) q c2] T
  refine ⟨hb.lt, fun j hj => ?_⟩
  match j, hj with
  | 0, _ => exact ⟨A1, k, c1, by rw [hb.cell]; rfl, h1.alloc _⟩
  | 1, _ => exact ⟨A2, q, c2, by rw [hb.cell]; rfl, h2.alloc _⟩
set_option maxHeartbeats 1000000 in
theorem without_any (cs : List Cl) (ad : Addr) (n cap k : Nat) (x : Int) (w : World) (hx : x = (k : Int)) (hk : k < cs.length) (hl : cs.length ≤ 1000) (h : RdC cs (.slice (some ad) n cap) w) :
    Calls Tryd.prog 36 #[.slice (some ad) n cap, .int .i64 x] w fun e w' => (∃ u, e = .returned u ∧ Clu w.heap.size (wo cs k) u w') ∧ Below w.heap.size w w' := by
  obtain ⟨hn, hcp⟩ := h.len
  have r1 := h.cut 0 k k (Nat.zero_le _) (by omega) (Nat.le_refl _)
  have r2 := h.cut (k + 1) n n (by omega) (by omega) (Nat.le_refl _)
  rw [take_cut] at r1
  rw [show (cs.drop (k + 1)).take (n - (k + 1)) = cs.drop (k + 1) by rw [hn]; exact drop_cut cs (k + 1)] at r2
  obtain ⟨A1, hA1⟩ : ∃ A1, adC ad 0 k = A1 := ⟨_, rfl⟩
  obtain ⟨A2, hA2⟩ : ∃ A2, adC ad (k + 1) n = A2 := ⟨_, rfl⟩
  obtain ⟨q, hq⟩ : ∃ q, n - (k + 1) = q := ⟨_, rfl⟩
  rw [hA1, Nat.sub_zero] at r1
  rw [hA2, hq] at r2
  have HL := Lib.hid (lies_wo r1 r2 28)
  have H1 := Lib.hid hA1
  have H2 := Lib.hid hA2
  have H3 := Lib.hid hq
  have HT : Hid (∀ j, j < [cs.take k, cs.drop (k + 1)].length → ([cs.take k, cs.drop (k + 1)].getD j []).length ≤ 1000) := by
    intro j hj
    match j, hj with
    | 0, _ => simp; omega
    | 1, _ => simp; omega
  have HF : Hid ([cs.take k, cs.drop (k + 1)].flatten = wo cs k) := by show _ = _; simp [wo]
  have hkn : k + 1 ≤ n := by omega
  have hnc : n ≤ cap := by omega
  have hxx : x + 1 = ((k + 1 : Nat) : Int) := by omega
  have HX := Lib.hid hx
  have hx0 : 0 ≤ x := by omega
  have hx1 : x ≤ 1000 := by omega
  have HXX := Lib.hid hxx
  clear h r1 r2 hA1 hA2 hq hn hcp hx hxx
  go_enter Tryd.func36, Tryd.ntmps36
  go_wp2_with (first
    | (go_at_call 30; (with_reducible refine (cut_to ad A1 n cap 0 k k 0 x _ H1.out (by omega) rfl HX.out (Nat.zero_le _) (by omega)).mono ?_); rintro e w1 ⟨rfl, rfl⟩)
    | (go_at_call 30; (with_reducible refine (cut_to ad A2 n cap (k + 1) n q (x + 1) n _ H2.out H3.out HXX.out rfl hkn hnc).mono ?_); rintro e w1 ⟨rfl, rfl⟩)
    | (go_at_call 61; (with_reducible refine (concC_any [cs.take k, cs.drop (k + 1)] w.heap.size 2 2 _ rfl (by omega) HT.out HL.out).mono ?_); rintro e w2 ⟨⟨u, rfl, hu⟩, b2⟩))
  go_ret
  refine ⟨⟨_, rfl, ?_⟩, chain (w := w) (by go_grown) b2⟩
  rw [← HF.out]
  exact hu.mono (by simp)
set_option maxHeartbeats 4000000 in
theorem pzWo_any (cs : List Cl) (ad : Addr) (n cap k : Nat) (x : Int) (w : World) (hx : x = (k : Int)) (hk : k < cs.length) (hl : cs.length ≤ 1000) (h : RdC cs (.slice (some ad) n cap) w) :
    Calls Tryd.prog 33 #[.slice (some ad) n cap, .int .i64 x] w fun e w' => (∃ u, e = .returned u ∧ Clu w.heap.size (wo cs k) u w') ∧ Below w.heap.size w w' := by
  obtain ⟨hn, hcp⟩ := h.len
  have r1 := h.cut 0 k cap (Nat.zero_le _) (by omega) (by omega)
  have r2 := h.cut (k + 1) n cap (by omega) (by omega) (by omega)
  rw [take_cut] at r1
  rw [show (cs.drop (k + 1)).take (n - (k + 1)) = cs.drop (k + 1) by rw [hn]; exact drop_cut cs (k + 1)] at r2
  have s1 := fun W => cutH ad n cap k (by omega) W
  have s2 := fun W => cutL ad n cap (k + 1) (by omega) (by omega) W
  rw [← hx] at s1
  rw [show (((k + 1 : Nat) : Int)) = x + 1 by omega] at s2
  obtain ⟨A1, hA1⟩ : ∃ A1, adC ad 0 cap = A1 := ⟨_, rfl⟩
  obtain ⟨A2, hA2⟩ : ∃ A2, adC ad (k + 1) cap = A2 := ⟨_, rfl⟩
  obtain ⟨q, hq⟩ : ∃ q, n - (k + 1) = q := ⟨_, rfl⟩
  obtain ⟨cq, hcq⟩ : ∃ cq, cap - (k + 1) = cq := ⟨_, rfl⟩
  rw [hA1] at s1
  rw [hA2, hq, hcq] at s2
  rw [hA1, Nat.sub_zero, Nat.sub_zero] at r1
  rw [hA2, hq, hcq] at r2
  have R1 := Lib.hid r1
  have R2 := Lib.hid r2
  have HF : Hid ([] ++ cs.take k ++ cs.drop (k + 1) = wo cs k) := by show _ = _; simp [wo]
  have HT : Hid ((cs.take k).length ≤ 1000 ∧ (cs.drop (k + 1)).length ≤ 1000) := by refine ⟨?_, ?_⟩ <;> simp <;> omega
  have HX : Hid (x = (k : Int)) := hx
  have hw1 : IntKind.i64.wrap (x + 1) = x + 1 := IntWalk.i64_in _ (by omega)
  have hE := fun (W : World) => Clu.empty W 58 rfl
  have HE := Lib.hid hE
  clear r1 r2 hA1 hA2 hq hcq hn hcp hx h hE
  go_enter Tryd.func33, Tryd.ntmps33
  go_wp2_with fail
  go_region_law (first
    | (refine step_append_clus (by rfl) _ _ (by rfl) w.heap.size [] _ (by rfl) (HE.out _) A1 k cap (cs.take k) (by rfl) (R1.out.below (by go_grown)) (by have := HT.out.1; simp; omega) (by go_grown) ?_; intro v1 w1 u1 b1)
    | (have hck := u1; clear hck; refine step_append_clus (by rfl) _ _ (by rfl) w.heap.size ([] ++ cs.take k) _ (by rfl) u1 A2 q cq (cs.drop (k + 1)) (by rfl) (R2.out.below ((below_drw (Below.refl w.heap.size w)).alloc (Nat.le_refl _) _ |>.trans b1)) (by have := HT.out.1; have := HT.out.2; simp at *; omega) (by have h9 := b1.size; first | omega | exact Nat.le_trans (Nat.le_succ _) (by simpa using h9)) ?_; intro v2 w2 u2 b2))
  all_goals go_wp2
  all_goals
    go_ret
    exact ⟨⟨_, rfl, by rw [← HF.out]; exact u2⟩, ((below_drw (Below.refl w.heap.size w)).alloc (Nat.le_refl _) _ |>.trans b1).trans b2⟩
end Go.Proofs.YtakckgbkfnogbabDoor

/-
  FirstDesk, both sides, and its law.
-/
import Derived.Test.YtkdnplcaghnfhaaPlEq
import Derived.Test.YtkdnplcaghnfhaaPlMark
import Derived.Laws.Rows
import Derived.Deep.WholeRow
namespace Go.Proofs.Ytkdnplcaghnfhaa
open Go.RowKit
set_option maxRecDepth 100000

def fdT : ByteArray := ⟨#[49, 50, 51, 51, 50, 49]⟩
def fdP : ByteArray := ⟨#[76, 76]⟩
def fdE : ByteArray := ⟨#[]⟩
def fdR : ByteArray := ⟨#[49, 53, 57, 53, 49]⟩
/-- The first desk, with a list of words. -/
def fdV (v : Value) : Value := .agg #[.string fdT, .string fdP, .string fdE, v, .int .i64 100, .string fdR]
theorem heapTwo {w wX : World} {o1 o2 : Obj} (k : Below ((w.alloc o1).alloc o2).heap.size ((w.alloc o1).alloc o2) wX) : wX.heap[w.heap.size]? = some o1 ∧ wX.heap[w.heap.size + 1]? = some o2 := by
  refine ⟨?_, ?_⟩
  · rw [k.block _ (by rw [World.size_alloc, World.size_alloc]; omega)]
    have h0 := heap_alloc_last w o1
    rw [Lib.alloc_old _ _ _ (Array.getElem?_eq_some_iff.1 h0).1]; exact h0
  · rw [k.block _ (by rw [World.size_alloc, World.size_alloc]; omega)]
    have := heap_alloc_last (w.alloc o1) o2
    rw [World.size_alloc] at this
    exact this
theorem lt_of_heap {w : World} {b : Nat} {o : Obj} (h : w.heap[b]? = some o) : b < w.heap.size := (Array.getElem?_eq_some_iff.1 h).1
theorem cell6 {w : World} {b : Nat} {T : TypeId} {c0 c1 c2 c3 c4 c5 : Value} (h : w.heap[b]? = some (.cells #[c0, c1, c2, c3, c4, c5] T)) :
    w.cell? ⟨b, 0, none⟩ = some c0 ∧ w.cell? ⟨b, 1, none⟩ = some c1 ∧ w.cell? ⟨b, 2, none⟩ = some c2 ∧ w.cell? ⟨b, 3, none⟩ = some c3 ∧ w.cell? ⟨b, 4, none⟩ = some c4 ∧ w.cell? ⟨b, 5, none⟩ = some c5 := by
  refine ⟨?_, ?_, ?_, ?_, ?_, ?_⟩ <;> (rw [Lib.cell_of_heap h]; rfl)
/-- Desks by value, with texts and a list of words. -/
def dkV (T P B : ByteArray) (v : Value) (n : Int) (R : ByteArray) : Value := .agg #[.string T, .string P, .string B, v, .int .i64 n, .string R]
theorem sFd_any (w : World) : Calls Try.prog 5 #[] w fun e w' => (∃ g, e = .returned (fdV (.slice (some ⟨g, 0, none⟩) 1 1)) ∧ Strs w.heap.size [[65, 66]] (.slice (some ⟨g, 0, none⟩) 1 1) w') ∧ Below w.heap.size w w' := by
  obtain ⟨X, hX⟩ : ∃ X : Array Value, X = #[.string fdT, .string fdP, .string fdE, .slice (some ⟨w.heap.size + 1, 0, none⟩) 1 1, .int .i64 100, .string fdR] := ⟨_, rfl⟩
  have H1 := Lib.hid (Strs.one [65, 66] (w.alloc (.cells X 26)))
  have H2 := Lib.hid (heapTwo (w := w) (o1 := .cells X 26) (o2 := .cells #[strV [65, 66]] 9) (Below.refl _ _)).1
  have H3 : Hid (Below w.heap.size w ((w.alloc (.cells X 26)).alloc (.cells #[strV [65, 66]] 9))) := ((Below.refl _ _).alloc (Nat.le_refl _) _).alloc (by rw [World.size_alloc]; omega) _
  rw [hX] at H1 H2 H3
  clear hX X
  go_enter Try.func5, Try.ntmps5
  go_wp2
  refine bodyPost_ret (results_cell_row rfl _ _ w.heap.size 26 _ (0, 0) _ rfl H2.out Try.underlying26 rfl (by kernel_rfl)) rfl ?_
  refine ⟨⟨w.heap.size + 1, rfl, ?_⟩, H3.out⟩
  have := H1.out
  rw [World.size_alloc] at this
  exact this.mono (by omega)
theorem iFd_any (w : World) : Calls Try.prog 6 #[] w fun e w' => (∃ g, e = .returned (fdV (.slice (some ⟨g, 0, none⟩) 1 1)) ∧ Strs w.heap.size [[65, 66]] (.slice (some ⟨g, 0, none⟩) 1 1) w') ∧ Below w.heap.size w w' := by
  obtain ⟨X, hX⟩ : ∃ X : Array Value, X = #[.string fdT, .string fdP, .string fdE, .slice (some ⟨w.heap.size + 1, 0, none⟩) 1 1, .int .i64 100, .string fdR] := ⟨_, rfl⟩
  have H1 := Lib.hid (Strs.one [65, 66] (w.alloc (.cells X 26)))
  have H2 := Lib.hid (heapTwo (w := w) (o1 := .cells X 26) (o2 := .cells #[strV [65, 66]] 9) (Below.refl _ _)).1
  have H3 : Hid (Below w.heap.size w ((w.alloc (.cells X 26)).alloc (.cells #[strV [65, 66]] 9))) := ((Below.refl _ _).alloc (Nat.le_refl _) _).alloc (by rw [World.size_alloc]; omega) _
  rw [hX] at H1 H2 H3
  clear hX X
  go_enter Try.func6, Try.ntmps6
  go_wp2
  refine bodyPost_ret (results_cell_row rfl _ _ w.heap.size 26 _ (0, 0) _ rfl H2.out Try.underlying26 rfl (by kernel_rfl)) rfl ?_
  refine ⟨⟨w.heap.size + 1, rfl, ?_⟩, H3.out⟩
  have := H1.out
  rw [World.size_alloc] at this
  exact this.mono (by omega)
theorem eqDesk_yes (T P B R : ByteArray) (n : Int) (E C : Nat) (ts : List (List UInt8)) (v u : Value) (w : World) (hn : ts.length ≤ 1048576) (h1 : Strs E ts v w) (h2 : Strs C ts u w) :
    Calls Try.prog 7 #[dkV T P B v n R, dkV T P B u n R] w fun e w' => e = .returned (.bool true) ∧ Below w.heap.size w w' := by
  have H1 := Lib.hid h1
  have H2 := Lib.hid h2
  clear h1 h2
  unfold dkV
  go_enter Try.func7, Try.ntmps7
  go_wp2_with (go_at_call 18; go_must ((with_reducible refine (eqScheme_yes P B E C ts _ _ _ hn (H1.out.below (by go_grown)) (H2.out.below (by go_grown))).mono ?_); rintro e w1 ⟨rfl, b1⟩; have hp := heapTwo b1; have k0 := Lib.cell_of_heap hp.1 4; have k1 := Lib.cell_of_heap hp.1 5; have k2 := Lib.cell_of_heap hp.2 4; have k3 := Lib.cell_of_heap hp.2 5; simp at k0 k1 k2 k3))
  go_ret
  exact ⟨rfl, chain (w := w) (by go_grown) b1⟩
theorem markDesk_any (T P B R : ByteArray) (z : Int) (g n cap : Nat) (ts : List (List UInt8)) (w : World) (hnn : n = ts.length) (hn : n ≤ 1048576) (h1 : Strs g ts (.slice (some ⟨g, 0, none⟩) n cap) w) :
    Calls Try.prog 8 #[dkV T P B (.slice (some ⟨g, 0, none⟩) n cap) z R, .int .i64 1] w fun e w' => e = .returned (.int .i64 (1 + (n : Int))) ∧ Strs g (smarks 1 n) (.slice (some ⟨g, 0, none⟩) n cap) w' ∧ But g w w' := by
  have H1 := Lib.hid h1
  have HN := Lib.hid hnn
  clear h1 hnn
  unfold dkV
  have hb : Below w.heap.size w (w.alloc (.cells #[.string T, .string P, .string B, .slice (some ⟨g, 0, none⟩) n cap, .int .i64 z, .string R] 26)) := (Below.refl _ _).alloc (Nat.le_refl _) _
  have hc := markScheme_any P B g n cap ts _ HN.out hn (H1.out.below hb)
  go_enter Try.func8, Try.ntmps8
  go_wp2_with (go_at_call 19; go_must ((with_reducible refine hc.mono ?_); rintro e w1 ⟨rfl, hs1, hb1⟩))
  go_ret
  exact ⟨rfl, hs1, (But.of hb).trans hb1⟩
theorem heldDesk_any (T P B R : ByteArray) (z : Int) (E g n cap : Nat) (w : World) (hn : n ≤ 1000) (h1 : Strs E (smarks 1 n) (.slice (some ⟨g, 0, none⟩) n cap) w) :
    Calls Try.prog 9 #[dkV T P B (.slice (some ⟨g, 0, none⟩) n cap) z R, .int .i64 1] w fun e w' => e = .returned (.int .i64 (1 + (n : Int))) ∧ Below w.heap.size w w' := by
  have H1 := Lib.hid h1
  clear h1
  unfold dkV
  have hb : Below w.heap.size w (w.alloc (.cells #[.string T, .string P, .string B, .slice (some ⟨g, 0, none⟩) n cap, .int .i64 z, .string R] 26)) := (Below.refl _ _).alloc (Nat.le_refl _) _
  have hc := heldScheme_any P B E g n cap _ hn (H1.out.below hb)
  have hng : ¬ (1 : Int) + (n : Int) < 0 := by omega
  go_enter Try.func9, Try.ntmps9
  go_wp2_with (go_at_call 20; go_must ((with_reducible refine hc.mono ?_); rintro e w1 ⟨rfl, hb1⟩))
  go_ret
  exact ⟨rfl, chain hb hb1⟩
theorem FnExactFirstDesk_law (w : World) : Calls Try.prog 3 #[] w fun e w' => e = .returned (.bool true) ∧ Below w.heap.size w w' := by
  go_enter Try.func3, Try.ntmps3
  go_wp2_with (first
    | (go_at_call 5; go_must ((with_reducible refine (sFd_any _).mono ?_); rintro e w1 ⟨⟨g1, rfl, s1⟩, b1⟩; unfold fdV))
    | (go_at_call 6; (have hck := b5; clear hck); (with_reducible refine (iFd_any _).mono ?_); rintro e w6 ⟨⟨g6, rfl, s6⟩, b6⟩; unfold fdV; have q1 := (b6.block _ (lt_of_heap p5)).trans p5; have q2 := (b6.block _ (lt_of_heap r5)).trans r5; obtain ⟨u0, u1, u2, u3, u4, u5⟩ := cell6 q1; obtain ⟨v0, v1, v2, v3, v4, v5⟩ := cell6 q2; have lt2 : w1.heap.size < w6.heap.size := lt_of_heap q1; have lt3 : w2.heap.size < w6.heap.size := lt_of_heap q2; have S1 := s1c.below b6; have S2 := s2c.below b6; have B6 := B5.trans (b6.mono B5.size))
    | (go_at_call 6; (with_reducible refine (iFd_any _).mono ?_); rintro e w2 ⟨⟨g2, rfl, s2⟩, b2⟩; unfold fdV; have p2 := (b2.block w1.heap.size (by rw [World.size_alloc]; omega)).trans (heap_alloc_last w1 _); obtain ⟨x0, x1, x2, x3, x4, x5⟩ := cell6 p2; have lt1 : w1.heap.size < w2.heap.size := lt_of_heap p2; have s1a := s1.below ((Below.refl _ _).alloc (Nat.le_refl _) _ |>.trans (b2.mono (by rw [World.size_alloc]; omega))); have hl2 := s2.baseLe; rw [World.size_alloc] at hl2; have hl1 := s1.baseLe; have B2 : Below w.heap.size w w2 := (b1.alloc b1.size _).trans (b2.mono (by rw [World.size_alloc]; have := b1.size; omega)))
    | (go_at_call 7; (have hck := B6; clear hck); (refine (eqDesk_yes fdT fdP fdE fdR 100 _ _ [[65, 66]] _ _ _ (by decide) (s6.alloc _) (S1.alloc _)).mono ?_); rintro e w7 ⟨rfl, b7⟩; have u1 := q2; have q7 := (b7.block _ (by rw [World.size_alloc]; have := lt_of_heap u1; omega)).trans ((Lib.alloc_old _ _ _ (lt_of_heap u1)).trans u1); obtain ⟨m0, m1, m2, m3, m4, m5⟩ := cell6 q7; have S7 := (S2.alloc _).below b7; have B7 : Below w.heap.size w w7 := (B6.alloc B6.size _).trans (b7.mono (by rw [World.size_alloc]; have := B6.size; omega)))
    | (go_at_call 7; (refine (eqDesk_yes fdT fdP fdE fdR 100 _ _ [[65, 66]] _ _ _ (by decide) (s2.alloc _) (s1a.alloc _)).mono ?_); rintro e w3 ⟨rfl, b3⟩; have r3 := (b3.block w2.heap.size (by rw [World.size_alloc]; omega)).trans (heap_alloc_last w2 _); have p3 := (b3.block _ (by rw [World.size_alloc]; have := lt_of_heap p2; omega)).trans ((Lib.alloc_old _ _ _ (lt_of_heap p2)).trans p2); obtain ⟨y0, y1, y2, y3, y4, y5⟩ := cell6 r3; obtain ⟨a0, a1, a2, a3, a4, a5⟩ := cell6 p3; have s2b := (s2.alloc _).below b3; have s1b := (s1a.alloc _).below b3; have B3 : Below w.heap.size w w3 := (B2.alloc B2.size _).trans (b3.mono (by rw [World.size_alloc]; have := B2.size; omega)))
    | (go_at_call 8; (refine (markDesk_any fdT fdP fdE fdR 100 g2 1 1 [[65, 66]] _ rfl (by decide) s2b.self).mono ?_); rintro e w4 ⟨rfl, s4, b4⟩; have p4 := (b4.block _ (lt_of_heap p3) (fun e => by cases e; omega)).trans p3; have r4 := (b4.block _ (lt_of_heap r3) (fun e => by cases e; omega)).trans r3; obtain ⟨z0, z1, z2, z3, z4, z5⟩ := cell6 r4; have s1d := b4.rd s1b (by omega); have B4 : Below w.heap.size w w4 := b4.below B3 (by have := b1.size; omega) B3.size)
    | (go_at_call 9; (have hck := S7; clear hck); (refine (heldDesk_any fdT fdP fdE fdR 100 _ g2 1 1 _ (by decide) S7).mono ?_); rintro e w8 ⟨rfl, b8⟩)
    | (go_at_call 9; (refine (heldDesk_any fdT fdP fdE fdR 100 _ g2 1 1 _ (by decide) s4).mono ?_); rintro e w5 ⟨rfl, b5⟩; have p5 := (b5.block _ (lt_of_heap p4)).trans p4; have r5 := (b5.block _ (lt_of_heap r4)).trans r4; obtain ⟨t0, t1, t2, t3, t4, t5⟩ := cell6 p5; have s1c := s1d.below b5; have s2c := s4.below b5; have B5 := B4.trans (b5.mono B4.size)))
  go_ret
  exact ⟨rfl, B7.trans (b8.mono B7.size)⟩
end Go.Proofs.Ytkdnplcaghnfhaa

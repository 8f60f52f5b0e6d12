/-
  The search for runs: its closures.
-/
import Derived.Test.YtjjegpoimnkknaaHoRwC
import Derived.Laws.EntriesVeiled
import Derived.Deep.LoopGhost
namespace Go.Proofs.Ytjjegpoimnkknaa
open Go.RowKit

theorem gb_refl (b : Nat) (w : World) : w.grownBy w (some b) := ⟨rfl, rfl, rfl, Nat.le_refl _, fun _ _ _ => rfl⟩
theorem gb_set {b : Nat} {w w' : World} (h : w.grownBy w' (some b)) (v : Value) : w.grownBy (w'.setCell ⟨b, 0, none⟩ v) (some b) :=
  ⟨h.os, h.tape, h.output, by simp [World.setCell]; exact h.size, fun k hk hne => (Below.heap_setCell _ _ _ _ (fun e => hne (by rw [e]))).trans (h.block k hk hne)⟩
theorem gb_below {b : Nat} {w w' w'' : World} (h : w.grownBy w' (some b)) (k : Below w'.heap.size w' w'') : w.grownBy w'' (some b) :=
  ⟨k.os.trans h.os, k.tape.trans h.tape, k.output.trans h.output, Nat.le_trans h.size k.size, fun i hi hne => (k.block i (Nat.lt_of_lt_of_le hi h.size)).trans (h.block i hi hne)⟩
theorem gb_trans {b : Nat} {w w' w'' : World} (h : w.grownBy w' (some b)) (k : w'.grownBy w'' (some b)) : w.grownBy w'' (some b) :=
  ⟨k.os.trans h.os, k.tape.trans h.tape, k.output.trans h.output, Nat.le_trans h.size k.size, fun i hi hne => (k.block i (Nat.lt_of_lt_of_le hi h.size) hne).trans (h.block i hi hne)⟩
theorem gb_to {b B : Nat} {w w' : World} (h : w.grownBy w' (some b)) (hB : B ≤ b) (hw : B ≤ w.heap.size) : Below B w w' :=
  ⟨h.os, h.tape, h.output, h.size, fun k hk => h.block k (by omega) (fun e => by cases e; omega)⟩
/-- The cells of a search: the sum, the step, what is left, and how many. -/
structure SrSt (w : World) (s t m : Int) (b2 b3 b5 b6 : Nat) : Prop where
  c2 : w.cell? ⟨b2, 0, none⟩ = some (.int .i64 s)
  c3 : w.cell? ⟨b3, 0, none⟩ = some (.int .i64 t)
  c5 : w.cell? ⟨b5, 0, none⟩ = some (.func (.func 72) #[] #[.pointer (some ⟨b2, 0, none⟩), .pointer (some ⟨b3, 0, none⟩)])
  c6 : w.cell? ⟨b6, 0, none⟩ = some (.int .i64 m)
  f6 : w.frozen? ⟨b6, 0, none⟩ = false
  lt : b2 < w.heap.size ∧ b3 < w.heap.size ∧ b5 < w.heap.size ∧ b6 < w.heap.size
  ne : b2 ≠ b6 ∧ b3 ≠ b6 ∧ b5 ≠ b6
theorem SrSt.keep {w w' : World} {s t m : Int} {b2 b3 b5 b6 : Nat} (h : SrSt w s t m b2 b3 b5 b6) (k : Below w.heap.size w w') : SrSt w' s t m b2 b3 b5 b6 := by
  obtain ⟨h1, h2, h3, h4, h5, ⟨l1, l2, l3, l4⟩, n⟩ := h
  have := k.size
  exact ⟨(k.cell (p := ⟨b2, 0, none⟩) l1).trans h1, (k.cell (p := ⟨b3, 0, none⟩) l2).trans h2, (k.cell (p := ⟨b5, 0, none⟩) l3).trans h3, (k.cell (p := ⟨b6, 0, none⟩) l4).trans h4, (k.frozen (p := ⟨b6, 0, none⟩) l4).trans h5, ⟨by omega, by omega, by omega, by omega⟩, n⟩
theorem SrSt.drewN {w : World} {s t m : Int} {b2 b3 b5 b6 : Nat} (h : SrSt w s t m b2 b3 b5 b6) (q : Nat) : SrSt (w.drewN q) s t m b2 b3 b5 b6 := ⟨h.c2, h.c3, h.c5, h.c6, h.f6, h.lt, h.ne⟩
theorem cell_other {w : World} {b c : Nat} {v : Value} {u : Value} (h : w.cell? ⟨c, 0, none⟩ = some u) (hne : c ≠ b) : (w.setCell ⟨b, 0, none⟩ v).cell? ⟨c, 0, none⟩ = some u := by
  rw [World.cell?_of_block (w := w) (Below.heap_setCell w ⟨b, 0, none⟩ v c hne)]; exact h
theorem SrSt.set {w : World} {s t m : Int} {b2 b3 b5 b6 : Nat} (h : SrSt w s t m b2 b3 b5 b6) (m' : Int) : SrSt (w.setCell ⟨b6, 0, none⟩ (.int .i64 m')) s t m' b2 b3 b5 b6 := by
  obtain ⟨h1, h2, h3, h4, h5, l, n1, n2, n3⟩ := h
  refine ⟨cell_other h1 n1, cell_other h2 n2, cell_other h3 n3, ?_, ?_, by simpa [World.setCell] using l, n1, n2, n3⟩
  · exact World.cell?_setCell_same' w _ _ (by rw [h4]; rfl)
  · rw [World.frozen?_setCell]; exact h5
theorem rst_bd {t m : Int} (ht : t = 1 ∨ t = 2) (h3 : 1 ≤ m) (h4 : m ≤ 2000) : 0 ≤ t * m * (m - 1) ∧ t * m * (m - 1) ≤ 8000000 := by
  have a0 : 0 ≤ t * m := Int.mul_nonneg (by omega) (by omega)
  have a1 : t * m ≤ 2 * 2000 := Int.mul_le_mul (by omega) h4 (by omega) (by omega)
  exact ⟨Int.mul_nonneg a0 (by omega), Int.mul_le_mul (by omega) (show m - 1 ≤ 2000 by omega) (by omega) (by omega)⟩
theorem restFor_any (s t k : Int) (b2 b3 : Nat) (w : World) (c2 : w.cell? ⟨b2, 0, none⟩ = some (.int .i64 s)) (c3 : w.cell? ⟨b3, 0, none⟩ = some (.int .i64 t)) (h1 : 1 ≤ s) (h2 : s ≤ 1000000) (ht : t = 1 ∨ t = 2) (h3 : 1 ≤ k) (h4 : k ≤ 2000) :
    Calls Try.prog 72 #[.int .i64 k, .pointer (some ⟨b2, 0, none⟩), .pointer (some ⟨b3, 0, none⟩)] w fun e w' => e = .returned (.int .i64 (rst s t k)) ∧ w = w' := by
  obtain ⟨p1, p2⟩ := rst_bd ht h3 h4
  have q1 : 0 ≤ t * k := Int.mul_nonneg (by omega) (by omega)
  have q2 : t * k ≤ 2 * 2000 := Int.mul_le_mul (by omega) h4 (by omega) (by omega)
  have HZ : Hid (rst s t k = s - t * k * (k - 1) / 2) := rfl
  clear ht
  go_enter Try.func72, Try.ntmps72
  go_wp2
  go_ret
  exact ⟨ret_int HZ.out.symm, rfl⟩
theorem rst_many {s t m : Int} (h2 : s ≤ 1000000) (ht : t = 1 ∨ t = 2) (h : m ≤ rst s t m) : m ≤ 1500 := by
  have e := rst_two s t m
  by_cases hk : m ≤ 1500
  · exact hk
  · have := sq_le (show (0 : Int) ≤ 1500 by omega) (show 1500 ≤ m by omega)
    have e2 : 1501 * m ≤ m * m := Int.mul_le_mul_of_nonneg_right (by omega) (by omega)
    rcases ht with rfl | rfl <;> omega
theorem rst_le (s t m : Int) (ht : 0 ≤ t) (hm : 1 ≤ m) : rst s t m ≤ s := by
  have h1 : 0 ≤ t * m := Int.mul_nonneg ht (by omega)
  have h2 : 0 ≤ t * m * (m - 1) := Int.mul_nonneg h1 (by omega)
  have h3 : 0 ≤ t * m * (m - 1) / 2 := by omega
  unfold rst
  omega
set_option maxHeartbeats 2000000 in
theorem searchRuns_any (s t : Int) (w : World) (hs : houB s = true) (ht : t = 1 ∨ t = 2) :
    Calls Try.prog 63 #[.int .i64 s, .int .i64 t] w fun e w' => (∃ (m : Nat) (b2 b3 b5 b6 : Nat), e = .returned (.func (.func 73) #[] #[.pointer (some ⟨b6, 0, none⟩), .pointer (some ⟨b5, 0, none⟩), .pointer (some ⟨b3, 0, none⟩)]) ∧ SrSt w' s t m b2 b3 b5 b6 ∧ 1 ≤ m ∧ m ≤ 1500 ∧ (m : Int) ≤ rst s t m ∧ rst s t ((m : Int) + 1) < (m : Int) + 1 ∧ w.heap.size ≤ b6) ∧ Below w.heap.size w w' := by
  obtain ⟨h1, h2⟩ := (houB_iff s).1 hs
  have HT := Lib.hid ht
  have ht1 : 1 ≤ t := by omega
  have ht2 : t ≤ 2 := by omega
  have HR1 : Hid ((1 : Int) ≤ rst s t 1) := by show _ ≤ _; unfold rst; simp; omega
  clear hs ht
  go_enter Try.func63, Try.ntmps63
  go_wp2
  generalize hb6 : w.heap.size + 1 + 1 + 1 = b6
  generalize hb5 : w.heap.size + 1 + 1 = b5
  generalize hb3 : w.heap.size + 1 = b3
  have H6 : Hid (b6 = w.heap.size + 3) := by show _ = _; omega
  have H5 : Hid (b5 = w.heap.size + 2) := by show _ = _; omega
  have H3 : Hid (b3 = w.heap.size + 1) := by show _ = _; omega
  clear hb6 hb5 hb3
  go_loopg [] 2000 (fun k wr => ∃ m : Nat, 1 ≤ m ∧ m ≤ 1500 ∧ m + k = 2000 + 1 ∧ Hid ((m : Int) ≤ rst s t m) ∧ Hid (SrSt wr s t m w.heap.size b3 b5 b6) ∧ Below w.heap.size w wr)
  case atStart =>
    refine ⟨1, by omega, by omega, rfl, HR1.out, ?_, by go_grown⟩
    show SrSt _ _ _ _ _ _ _ _
    rw [H6.out, H5.out, H3.out]
    exact ⟨by simp [go_sem], by simp [go_sem], by simp [go_sem], by simp [go_sem], by simp [go_sem], ⟨by simp <;> omega, by simp <;> omega, by simp <;> omega, by simp <;> omega⟩, by omega, by omega, by omega⟩
  case round =>
    obtain ⟨m, hm1, hm2, hmk, HM, HS, hb⟩ := hrel
    have c5 := HS.out.c5
    have c6 := HS.out.c6
    have f6 := HS.out.f6
    have HR := Lib.hid (fun W hW => restFor_any s t ((m : Int) + 1) w.heap.size b3 W (HS.out.keep hW).c2 (HS.out.keep hW).c3 h1 h2 HT.out (by omega) (by omega))
    obtain ⟨r, hr⟩ : ∃ r, r = rst s t ((m : Int) + 1) := ⟨_, rfl⟩
    rw [← hr] at HR
    have HRR := Lib.hid hr
    clear hr
    by_cases hge : (m : Int) + 1 ≤ r
    · have hm3 : m + 1 ≤ 1500 := by
        have h := hge
        rw [HRR.out] at h
        have := rst_many h2 HT.out h
        omega
      go_wp2
      go_quiet (first | (go_at_call 72; refine (HR.out _ (below_drewN (Below.refl _ _) _)).mono ?_; rintro e w' ⟨rfl, rfl⟩; exact ⟨rfl, _, rfl⟩))
      go_wp2
      go_roundg (gk - 1)
      case measure => omega
      case rel =>
        refine ⟨m + 1, by omega, hm3, by omega, ?_, ?_, ?_⟩
        · show _ ≤ _
          have h := hge
          rw [HRR.out] at h
          exact h
        · exact (HS.out.drewN _).set _
        · exact (below_drewN hb _).setCell (by rw [H6.out]; simp) _
    · have hlt : ¬ r ≥ (m : Int) + 1 := hge
      go_wp2
      go_quiet (first | (go_at_call 72; refine (HR.out _ (below_drewN (Below.refl _ _) _)).mono ?_; rintro e w' ⟨rfl, rfl⟩; exact ⟨rfl, _, rfl⟩))
      go_wp2
      go_ret
      refine ⟨⟨m, w.heap.size, b3, b5, b6, rfl, HS.out.drewN _, hm1, hm2, HM.out, ?_, by rw [H6.out]; omega⟩, below_drewN hb _⟩
      have h := hge
      rw [HRR.out] at h
      omega
end Go.Proofs.Ytjjegpoimnkknaa

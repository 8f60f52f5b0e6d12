/-
  Checks marked and held by the law.
-/
import Derived.Test.YtdjcgddcgjbboaaDoorSlTo
namespace Go.Proofs.YtdjcgddcgjbboaaDoor
open Go.RowKit

theorem Ints.self {B g n cap : Nat} {ts : List Int} {w : World} (h : Ints B ts (.slice (some ⟨g, 0, none⟩) n cap) w) : Ints g ts (.slice (some ⟨g, 0, none⟩) n cap) w := by
  refine ⟨h.1, ?_⟩
  rcases h.2 with h0 | ⟨g', cap', cur, hv, hb, r⟩
  · exact .inl h0
  · simp only [Value.slice.injEq, Option.some.injEq, Addr.mk.injEq] at hv
    obtain ⟨⟨rfl, _⟩, rfl, rfl⟩ := hv
    exact .inr ⟨g, cap, cur, rfl, Nat.le_refl _, r⟩
theorem Ints.baseLe {B g n cap : Nat} {ts : List Int} {w : World} (h : Ints B ts (.slice (some ⟨g, 0, none⟩) n cap) w) : B ≤ g ∧ g < w.heap.size := by
  rcases h.2 with ⟨h0, _⟩ | ⟨g', cap', cur, hv, hb, hg, r⟩
  · cases h0
  · simp only [Value.slice.injEq, Option.some.injEq, Addr.mk.injEq] at hv
    obtain ⟨⟨rfl, _⟩, rfl, rfl⟩ := hv
    exact ⟨hb, (Array.getElem?_eq_some_iff.1 hg).1⟩
/-- Nothing but one row has turned. -/
def But (g : Nat) (w w' : World) : Prop := w.grownBy w' (some g)
theorem But.of {g : Nat} {w w' : World} (k : Below w.heap.size w w') : But g w w' := ⟨k.os, k.tape, k.output, k.size, fun i hi _ => k.block i hi⟩
theorem But.trans {g : Nat} {a b c : World} (h : But g a b) (k : But g b c) : But g a c :=
  ⟨k.os.trans h.os, k.tape.trans h.tape, k.output.trans h.output, Nat.le_trans h.size k.size, fun i hi hne => (k.block i (Nat.lt_of_lt_of_le hi h.size) hne).trans (h.block i hi hne)⟩
theorem But.refl (g : Nat) (w : World) : But g w w := But.of (Below.refl _ _)
theorem But.setCell {g : Nat} {w w' : World} (h : But g w w') (i : Nat) (v : Value) : But g w (w'.setCell ⟨g, i, none⟩ v) := by
  refine ⟨h.os, h.tape, h.output, by simpa [World.setCell] using h.size, fun k hk hne => ?_⟩
  rw [Below.heap_setCell _ _ _ _ (fun e => hne (by rw [e]))]
  exact h.block k hk hne
theorem But.below {g : Nat} {w w' : World} (h : But g w w') {B : Nat} {w0 : World} (k : Below B w0 w) (hB : B ≤ g) (hB2 : B ≤ w.heap.size) : Below B w0 w' := by
  refine ⟨h.os.trans k.os, h.tape.trans k.tape, h.output.trans k.output, Nat.le_trans k.size h.size, fun i hi => ?_⟩
  rw [h.block i (by omega) (fun e => by cases e; omega)]
  exact k.block i hi
theorem But.cell {g : Nat} {w w' : World} (h : But g w w') {a : Addr} (ha : a.block < w.heap.size) (hne : a.block ≠ g) : w'.cell? a = w.cell? a := by
  have e : w'.heap[a.block]? = w.heap[a.block]? := h.block a.block ha (fun e => hne (by cases e; rfl))
  unfold World.cell?; rw [e]
theorem But.rdI {g : Nat} {w w' : World} (h : But g w w') {C n cap : Nat} {ts : List Int} {k : Nat} (hs : Ints C ts (.slice (some ⟨k, 0, none⟩) n cap) w) (hne : k ≠ g) : Ints C ts (.slice (some ⟨k, 0, none⟩) n cap) w' := by
  refine ⟨hs.1, ?_⟩
  rcases hs.2 with h0 | ⟨g', cap', cur, hv, hb, hg, r⟩
  · exact .inl h0
  · simp only [Value.slice.injEq, Option.some.injEq, Addr.mk.injEq] at hv
    obtain ⟨⟨rfl, _⟩, rfl, rfl⟩ := hv
    refine .inr ⟨k, cap, cur, rfl, hb, ?_, r⟩
    rw [h.block k (Array.getElem?_eq_some_iff.1 hg).1 (fun e => hne (by cases e; rfl))]
    exact hg
theorem keep2B {g : Nat} {w w1 : World} {b : Nat} {x y : Value} (h : b < w.heap.size) (hne : b ≠ g) (c0 : w.cell? ⟨b, 0, none⟩ = some x) (c1 : w.cell? ⟨b, 1, none⟩ = some y) (k : But g w w1) : w1.cell? ⟨b, 0, none⟩ = some x ∧ w1.cell? ⟨b, 1, none⟩ = some y ∧ b < w1.heap.size :=
  ⟨(k.cell (a := ⟨b, 0, none⟩) h hne).trans c0, (k.cell (a := ⟨b, 1, none⟩) h hne).trans c1, by have := k.size; omega⟩
theorem But.ints {g : Nat} {w w' : World} (h : But g w w') {C : Nat} {xs : List Int} {v : Value} (hs : Ints C xs v w) (hC : g < C) : Ints C xs v w' := by
  refine ⟨hs.1, ?_⟩
  rcases hs.2 with h0 | ⟨g', cap', cur, hv, hb, hg, r⟩
  · exact .inl h0
  · refine .inr ⟨g', cap', cur, hv, hb, ?_, r⟩
    rw [h.block g' (Array.getElem?_eq_some_iff.1 hg).1 (fun e => by cases e; omega)]
    exact hg
set_option maxHeartbeats 2000000 in
theorem markIG (g n cap : Nat) (xs : List Int) (w : World) (hnn : n = xs.length) (hn : n ≤ 1048576) (h1 : Ints g xs (.slice (some ⟨g, 0, none⟩) n cap) w) :
    Calls Tryd.prog 25 #[.slice (some ⟨g, 0, none⟩) n cap, .int .i64 1] w fun e w' => e = .returned (.int .i64 (1 + (n : Int))) ∧ Ints g (marks 1 n) (.slice (some ⟨g, 0, none⟩) n cap) w' ∧ But g w w' := by
  have H1 := Lib.hid h1
  have hg : g < w.heap.size := h1.baseLe.2
  have HN := Lib.hid hnn
  clear hnn h1
  go_enter Tryd.func25, Tryd.ntmps25
  go_wp2
  go_loopw [1, 5] (fun kv i wr => ∃ k : Nat, k ≤ n ∧ i = .int .i64 k ∧ kv = .int .i64 (1 + (k : Int)) ∧ Hid (Ints g (marked 1 xs k) (.slice (some ⟨g, 0, none⟩) n cap) wr) ∧ Hid (But g w wr) ∧ g < wr.heap.size ∧ w.heap.size ≤ wr.heap.size) (fun _ i _ => n - (intOf i).toNat)
  case atStart => exact ⟨0, Nat.zero_le _, rfl, by simp, by show Ints _ _ _ _; rw [marked_zero]; exact H1.out, But.refl _ _, hg, Nat.le_refl _⟩
  case round =>
    obtain ⟨k, hk, rfl, rfl, hI, HBT, hgs, hws⟩ := hrel
    have hlen : (marked 1 xs k).length = n := by rw [marked_len _ _ _ (by rw [← HN.out]; exact hk), ← HN.out]
    by_cases hlt : k < n
    · have hff : wr.frozen? ⟨g, k, none⟩ = false := by
        have := hI.out; unfold Ints at this; rw [hlen] at this; exact this.frozenAt k
      have hcc : wr.cell? ⟨g, k, none⟩ = some (.int .i64 ((marked 1 xs k).getD k 0)) := by
        have := hI.out; unfold Ints at this; rw [hlen] at this
        rw [this.cellAt k (by omega)]
        simp [List.getElem?_eq_getElem (show k < (marked 1 xs k).length by omega)]
      have HS := Lib.hid (Ints.store hlen hI.out k (1 + (k : Int)))
      have HE := Lib.hid (marked_succ 1 xs k (by rw [← HN.out]; exact hlt))
      clear hlen
      go_wp2
      go_roundw
      case rel => exact ⟨k + 1, by omega, by go_num, val_int (by omega), by show Ints _ _ _ _; rw [← HE.out]; exact HS.out, HBT.out.setCell _ _, by simp [World.setCell]; omega, by simp [World.setCell]; omega⟩
      case measure => simp [intOf]; omega
    · have HK : Hid (k = n) := by show _ = _; omega
      go_wp2
      go_ret
      exact ⟨ret_int (by rw [HK.out]), by
        have e : marks 1 n = marked 1 xs k := by rw [HK.out, HN.out, marked_all]
        rw [e]; exact hI.out, HBT.out⟩
theorem markCheck_any (m : Int) (g n cap : Nat) (xs : List Int) (w : World) (hnn : n = xs.length) (hn : n ≤ 1048576) (h1 : Ints g xs (.slice (some ⟨g, 0, none⟩) n cap) w) :
    Calls Tryd.prog 14 #[.agg #[.slice (some ⟨g, 0, none⟩) n cap, .int .i64 m], .int .i64 1] w fun e w' => e = .returned (.int .i64 (1 + (n : Int))) ∧ Ints g (marks 1 n) (.slice (some ⟨g, 0, none⟩) n cap) w' ∧ But g w w' := by
  have H1 := Lib.hid h1
  have HN := Lib.hid hnn
  clear h1 hnn
  have hb : Below w.heap.size w (w.alloc (.cells #[.slice (some ⟨g, 0, none⟩) n cap, .int .i64 m] 29)) := (Below.refl _ _).alloc (Nat.le_refl _) _
  have hc := markIG g n cap xs _ HN.out hn (H1.out.below hb)
  go_enter Tryd.func14, Tryd.ntmps14
  go_wp2_with (go_at_call 25; go_must ((with_reducible refine hc.mono ?_); rintro e w1 ⟨rfl, hs1, hb1⟩))
  go_ret
  exact ⟨rfl, hs1, (But.of hb).trans hb1⟩
end Go.Proofs.YtdjcgddcgjbboaaDoor

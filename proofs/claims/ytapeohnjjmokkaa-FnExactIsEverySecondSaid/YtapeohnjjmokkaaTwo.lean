/-
  Two builders of one call: what is written to one leaves the other one as it was.
-/
import Derived.Test.YtapeohnjjmokkaaBld
import Derived.Shelf.RegionOpenPlain
import Derived.Lib.UnsafeStr
import Derived.WalkKit
namespace Go.Proofs.Ytapeohnjjmokkaa
open Go.RowKit

theorem bat_keep {T e : TypeId} {B b : Nat} {p : Value} {bs : List Value} {w w' : World} (h : Lib.BuilderAt T e B b p bs w) (h1 : w'.heap[b]? = w.heap[b]?) (h2 : ∀ g, rowOf b w = some g → w'.heap[g]? = w.heap[g]?) : Lib.BuilderAt T e B b p bs w' := by
  obtain ⟨hB, v, hbk, hown, hne⟩ := h
  have hr := rowOf_at hbk
  refine ⟨hB, v, by rw [h1]; exact hbk, ⟨hown.1, ?_⟩, hne⟩
  rcases hown.2 with hn | ⟨g, cap, cur, rfl, hb, hgg, rest⟩
  · exact .inl hn
  · exact .inr ⟨g, cap, cur, rfl, hb, by rw [h2 g hr]; exact hgg, rest⟩
theorem isb_keep {T e : TypeId} {B b : Nat} {bs : List Value} {w w' : World} (h : Lib.IsBuilder T e B b bs w) (h1 : w'.heap[b]? = w.heap[b]?) (h2 : ∀ g, rowOf b w = some g → w'.heap[g]? = w.heap[g]?) : Lib.IsBuilder T e B b bs w' := by
  rcases h with h | h
  · exact .inl (bat_keep h h1 h2)
  · exact .inr (bat_keep h h1 h2)
theorem row_keep {b : Nat} {w w' : World} (h1 : w'.heap[b]? = w.heap[b]?) : rowOf b w' = rowOf b w := by
  unfold rowOf World.cell?
  simp only [h1]
theorem isb_at {T e : TypeId} {B b : Nat} {bs : List Value} {w : World} (h : Lib.IsBuilder T e B b bs w) : ∃ p, Lib.BuilderAt T e B b p bs w := by
  rcases h with h | h
  · exact ⟨_, h⟩
  · exact ⟨_, h⟩
theorem isb_lt {T e : TypeId} {B b : Nat} {bs : List Value} {w : World} (h : Lib.IsBuilder T e B b bs w) : b < w.heap.size := by
  obtain ⟨p, h⟩ := isb_at h
  exact h.lt
theorem isb_row {T e : TypeId} {B b : Nat} {bs : List Value} {w : World} (h : Lib.IsBuilder T e B b bs w) {g : Nat} (hg : rowOf b w = some g) : g < w.heap.size := by
  obtain ⟨p, hB, v, hbk, hown, hne⟩ := isb_at h
  rw [rowOf_at hbk] at hg
  rcases hown.2 with ⟨hv, _⟩ | ⟨g', cap, cur, rfl, hb, hgg, rest⟩
  · rw [hv] at hg; cases hg
  · cases hg; exact lt_of_heap hgg

/-- Two builders with rows of their own. -/
def Two (B b c : Nat) (xs ys : List UInt8) (w : World) : Prop :=
  b ≠ c ∧ Lib.IsBuilder 70 5 B b (Lib.byteCells xs) w ∧ Lib.IsBuilder 70 5 B c (Lib.byteCells ys) w ∧ rowOf b w ≠ some c ∧ rowOf c w ≠ some b ∧ ∀ g, rowOf b w = some g → rowOf c w ≠ some g
theorem Two.swap {B b c : Nat} {xs ys : List UInt8} {w : World} (h : Two B b c xs ys w) : Two B c b ys xs w :=
  ⟨h.1.symm, h.2.2.1, h.2.1, h.2.2.2.2.1, h.2.2.2.1, fun g h1 h2 => h.2.2.2.2.2 g h2 h1⟩
theorem two_snoc (l : List UInt8) (c : UInt8) : Lib.byteCells (l ++ [c]) = Lib.byteCells l ++ [.int .u8 c.toNat] := by simp [Lib.byteCells]

theorem wb_two (B b c : Nat) (xs ys : List UInt8) (x : UInt8) (w : World) (h : Two B b c xs ys w) (hlen : xs.length ≤ 1000) (hBw : B ≤ w.heap.size) :
    Calls Try.prog 58 #[.pointer (some ⟨b, 0, none⟩), .int .u8 x.toNat] w fun e w' => e = .returned .nilIface ∧ Two B b c (xs ++ [x]) ys w' ∧ Below B w w' ∧ w.heap.size ≤ w'.heap.size := by
  obtain ⟨hbc, h1, h2, h3, h4, h5⟩ := h
  refine (wb_any B b _ x.toNat w h1 (by rw [Lib.byteCells_length]; omega) hBw).mono ?_
  rintro e w' ⟨rfl, k1, k2, f1, f2, f3⟩
  have kc : w'.heap[c]? = w.heap[c]? := f1 c (isb_lt h2) (Ne.symm hbc) (fun e => h3 e.symm)
  have kr := row_keep kc
  refine ⟨rfl, ⟨hbc, by rw [two_snoc]; exact .inr k1, isb_keep h2 kc ?_, ?_, by rw [kr]; exact h4, ?_⟩, k2, f3⟩
  · intro g hg
    exact f1 g (isb_row h2 hg) (fun e => h4 (by rw [hg, e])) (fun e => h5 g e.symm hg)
  · rcases f2 with f2 | ⟨g, hg, f2⟩
    · rw [f2]; exact h3
    · rw [f2]; intro e; cases e; have := isb_lt h2; omega
  · intro g hg
    rw [kr]
    rcases f2 with f2 | ⟨g', hg', f2⟩
    · exact h5 g (by rw [← f2]; exact hg)
    · rw [f2] at hg; cases hg
      intro e
      have := isb_row h2 e
      omega
theorem freeze_heap (w : World) (g n k : Nat) (h : k ≠ g) : (w.freeze ⟨g, 0, none⟩ n).heap[k]? = w.heap[k]? := by
  unfold World.freeze
  split
  · rfl
  · simp [Array.getElem?_modify, Ne.symm h]
theorem freeze_size (w : World) (g n : Nat) : (w.freeze ⟨g, 0, none⟩ n).heap.size = w.heap.size := by
  unfold World.freeze
  split
  · rfl
  · simp

set_option maxHeartbeats 1000000 in
set_option maxRecDepth 100000 in
theorem bstr_two (B b c : Nat) (xs ys : List UInt8) (w : World) (h : Two B b c xs ys w) (h0 : xs ≠ []) :
    Calls Try.prog 59 #[.pointer (some ⟨b, 0, none⟩)] w fun e w' => e = .returned (.string ⟨xs.toArray⟩) ∧ Lib.IsBuilder 70 5 B c (Lib.byteCells ys) w' ∧ Below B w w' ∧ w.heap.size ≤ w'.heap.size := by
  obtain ⟨hbc, h1, h2, h3, h4, h5⟩ := h
  obtain ⟨p, hB, v, hbk, hown, hne⟩ := isb_at h1
  have hl0 : xs.length ≠ 0 := by simpa using h0
  rw [Lib.byteCells_length] at hown
  obtain ⟨g, cap, cur, rfl, hbg, hg, hnc, hcm, hcs, htake⟩ : ∃ g cap cur, v = .slice (some ⟨g, 0, none⟩) xs.length cap ∧ B ≤ g ∧ w.heap[g]? = some (.cells cur 5 (0, 0)) ∧ xs.length ≤ cap ∧ cap ≤ maxLen ∧ cur.size = cap * 1 ∧ cur.toList.take (xs.length * 1) = Lib.byteCells xs := by
    rcases hown.2 with ⟨_, hz⟩ | ⟨g, cap, cur, hv, r⟩
    · exact absurd hz hl0
    · exact ⟨g, cap, cur, hv, r⟩
  have hrow := rowOf_at hbk
  have hend : Lib.IsBuilder 70 5 B c (Lib.byteCells ys) (w.drew.freeze ⟨g, 0, none⟩ xs.length) := by
    refine isb_keep h2 ?_ ?_
    · exact freeze_heap _ _ _ _ (fun e => h3 (by rw [hrow, e]; rfl))
    · intro k hk
      exact freeze_heap _ _ _ _ (fun e => h5 k (by rw [hrow, e]; rfl) hk)
  have HE := Lib.hid hend
  have HB := Lib.hid (Lib.below_freeze (Below.drew (Below.refl B w)) (p := ⟨g, 0, none⟩) hbg xs.length)
  have hUS : (Builtin.unsafeString_ #[79, 3] 9 #[.pointer (some ⟨g, 0, none⟩), .int .i64 xs.length]).run Try.prog w.drew = .ok (.string ⟨xs.toArray⟩) (w.drew.freeze ⟨g, 0, none⟩ xs.length) := by
    refine Lib.run_unsafeString_row w.drew 79 3 9 5 Try.underlying79 (by kernel_rfl) g cur.size (by have hg' : w.drew.heap[g]? = some (.cells cur 5 (0, 0)) := hg; simp [World.shape?, hg']) xs h0 (by omega) (by unfold maxLen at hcm; omega) ?_
    intro j x hx
    have := hown.cells (g := g) rfl j (.int .u8 x.toNat) (by simp [Lib.byteCells, hx])
    exact this
  have hSD : (Builtin.unsafeSliceData_ #[68] 79 #[.slice (some ⟨g, 0, none⟩) xs.length cap]).run Try.prog w.drew = .ok (.pointer (some ⟨g, 0, none⟩)) w.drew :=
    Lib.run_unsafeSliceData_row _ _ _ _ _ _ (by omega)
  have c1 : w.drew.cell? ⟨b, 1, none⟩ = some (.slice (some ⟨g, 0, none⟩) xs.length cap) := by
    have : w.drew.heap[b]? = some (.cells #[p, .slice (some ⟨g, 0, none⟩) xs.length cap] 70 (0, 0)) := hbk
    rw [Lib.cell_of_heap this]; rfl
  clear hend h1 h2 h3 h4 h5 hown htake hg hrow hbk
  have mixed : Try.prog.follows .mixedOrders = true := by kernel_rfl
  go_enter Try.func59, Try.ntmps59
  go_wp2
  go_region_o
  all_goals (go_wp2; go_ret; exact ⟨rfl, HE.out, HB.out, by rw [freeze_size]; exact Nat.le_refl _⟩)
end Go.Proofs.Ytapeohnjjmokkaa

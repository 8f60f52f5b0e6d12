/-
  The law of ParseScheme.
-/
import Derived.Test.YtkeedoieadlbdabDoorPlPs
import Derived.Test.YtkeedoieadlbdabDoorPlOff
import Derived.Test.YtkeedoieadlbdabDoorPlPi
namespace Go.Proofs.YtkeedoieadlbdabDoor
open Go.RowKit

theorem But.strsV {g : Nat} {w w' : World} (h : But g w w') {C : Nat} {xs : List (List UInt8)} {v : Value} (hs : Strs C xs v w) (hC : ∀ k, v.ownBlock = some k → k ≠ g) : Strs C xs v w' := by
  refine ⟨hs.1, ?_⟩
  rcases hs.2 with h0 | ⟨g', cap', cur, hv, hb, hg, r⟩
  · exact .inl h0
  · refine .inr ⟨g', cap', cur, hv, hb, ?_, r⟩
    rw [h.block g' (Array.getElem?_eq_some_iff.1 hg).1 (fun e => hC g' (by rw [hv]; rfl) (by cases e; rfl))]
    exact hg
/-- As Ov, at a block that is named. -/
def Ovg (g : Nat) (us : List (List UInt8)) (v : Value) (w : World) : Prop :=
  (∃ a cap, v = .slice a 0 cap ∧ us = []) ∨ ∃ d cw cap, v = .slice (some ⟨g, 1, none⟩) us.length cap ∧ Strs g (d :: us) (.slice (some ⟨g, 0, none⟩) (us.length + 1) cw) w
theorem Ov.named {B : Nat} {us : List (List UInt8)} {v : Value} {w : World} (h : Ov B us v w) (hB : B ≤ w.heap.size) : ∃ g, B ≤ g ∧ g ≠ w.heap.size ∧ Ovg g us v w := by
  rcases h with ⟨a, cap, h1, h2⟩ | ⟨g, d, cw, cap, h1, h2, h3⟩
  · exact ⟨w.heap.size + 1, by omega, by omega, .inl ⟨a, cap, h1, h2⟩⟩
  · exact ⟨g, h2, by have := h3.baseLe.2; omega, .inr ⟨d, cw, cap, h1, h3⟩⟩
theorem Ovg.below {g : Nat} {us : List (List UInt8)} {v : Value} {w w' : World} (h : Ovg g us v w) (k : Below w.heap.size w w') : Ovg g us v w' := by
  rcases h with h | ⟨d, cw, cap, h1, h3⟩
  · exact .inl h
  · exact .inr ⟨d, cw, cap, h1, h3.below k⟩
theorem Ovg.rd {g : Nat} {us : List (List UInt8)} {v : Value} {w : World} (h : Ovg g us v w) : Rd us v w := by
  rcases h with ⟨a, cap, rfl, rfl⟩ | ⟨d, cw, cap, rfl, h3⟩
  · exact ⟨a, cap, rfl, fun i hi => absurd hi (Nat.not_lt_zero _)⟩
  · exact h3.tailRd rfl
theorem Ovg.len {g : Nat} {us : List (List UInt8)} {v : Value} {w : World} (h : Ovg g us v w) : ∃ a p, v = .slice a us.length p := by
  rcases h with ⟨a, cap, rfl, rfl⟩ | ⟨d, cw, cap, rfl, h3⟩
  · exact ⟨a, cap, rfl⟩
  · exact ⟨_, cap, rfl⟩
theorem smark0 (a : Option Addr) (cap : Nat) (w : World) :
    Calls Tryd.prog 14 #[.slice a 0 cap, .int .i64 1] w fun e w' => e = .returned (.int .i64 1) ∧ Below w.heap.size w w' := by
  go_enter Tryd.func14, Tryd.ntmps14
  go_wp2
  go_loopw [1, 5] (fun kv i wr => i = .int .i64 0 ∧ kv = .int .i64 1 ∧ Hid (Below w.heap.size w wr)) (fun _ _ _ => 0)
  case atStart => exact ⟨rfl, rfl, Below.refl _ _⟩
  case round =>
    obtain ⟨rfl, rfl, hb⟩ := hrel
    go_wp2
    go_ret
    exact ⟨rfl, hb.out⟩
theorem markV_any (P B : ByteArray) (g : Nat) (us : List (List UInt8)) (v : Value) (w : World) (hn : us.length ≤ 1000) (h : Ovg g us v w) :
    Calls Tryd.prog 7 #[.agg #[.string P, .string B, v], .int .i64 1] w fun e w' => e = .returned (.int .i64 (1 + (us.length : Int))) ∧ Ovg g (smarks 1 us.length) v w' ∧ But g w w' := by
  rcases h with ⟨a, cap, rfl, rfl⟩ | ⟨d, cw, cap, rfl, h3⟩
  · have hc := smark0 a cap
    go_enter Tryd.func7, Tryd.ntmps7
    go_wp2_with (go_at_call 14; go_must ((with_reducible refine (hc _).mono ?_); rintro e w1 ⟨rfl, b1⟩))
    go_ret
    exact ⟨rfl, .inl ⟨a, cap, rfl, rfl⟩, But.of (chain (w := w) (by go_grown) b1)⟩
  · refine (markO_any P B g us.length cap cw d us w rfl (by omega) h3).mono ?_
    rintro e w' ⟨he, hs, hb⟩
    exact ⟨he, .inr ⟨d, cw, cap, by rw [smarks_len], by rw [smarks_len]; exact hs⟩, hb⟩
theorem rT_len (T : List UInt8) : (rT T).length ≤ 3 := by
  unfold rT
  split
  · rename_i h
    rw [← sO_eq] at h
    simp only [Bool.and_eq_true] at h
    exact sch_three' h.1
  · simp
set_option maxRecDepth 100000 in
set_option maxHeartbeats 8000000 in
theorem FnExactParseScheme_law (s0 : ByteArray) (hs0 : s0.size ≤ maxLen) (w : World) (hm : MaxIs w) :
    Calls Tryd.prog 3 #[.string s0] w fun e w' => e = .returned (.bool true) ∧ Below w.heap.size w w' := by
  have HM := Lib.hid hm
  clear hm
  unfold maxLen at hs0
  by_cases hz1 : s0.size ≤ 1048576
  rotate_left
  · go_enter Tryd.func3, Tryd.ntmps3
    go_wp2_with fail
    go_ret
    exact ⟨rfl, by go_grown⟩
  obtain ⟨r1, hr1⟩ : ∃ r, r = rP s0.data.toList (pP s0.data.toList) := ⟨_, rfl⟩
  obtain ⟨r2, hr2⟩ : ∃ r, r = rP s0.data.toList (pB s0.data.toList) := ⟨_, rfl⟩
  obtain ⟨us, hus⟩ : ∃ r, r = rT s0.data.toList := ⟨_, rfl⟩
  obtain ⟨r, hr⟩ : ∃ r, r = pO s0.data.toList := ⟨_, rfl⟩
  have hul : us.length ≤ 3 := by rw [hus]; exact rT_len _
  have hs : ∀ W : World, Calls Tryd.prog 4 #[.string s0] W fun e w' => (∃ a k, e = .returned (.tuple #[.agg #[.string r1, .string r2, .slice a us.length k], .bool r]) ∧ Strs W.heap.size us (.slice a us.length k) w') ∧ Below W.heap.size W w' := fun W => by rw [hr1, hr2, hus, hr]; exact sParse_any s0 W hz1
  have hi : ∀ W : World, MaxIs W → Calls Tryd.prog 5 #[.string s0] W fun e w' => (∃ v, e = .returned (.tuple #[.agg #[.string r1, .string r2, v], .bool r]) ∧ Ov W.heap.size us v w') ∧ Below W.heap.size W w' := fun W hm => by rw [hr1, hr2, hus, hr]; exact iParse_any s0 W hz1 hm
  clear hr1 hr2 hus hr
  go_enter Tryd.func3, Tryd.ntmps3
  go_wp2_with fail
  refine (hs _).mono ?_
  rintro e w1 ⟨⟨a0, p0, rfl, i1⟩, b1⟩
  have i1' := i1.alloc (.cells #[.string r1, .string r2, .slice a0 us.length p0] 24)
  have B1 : Below w.heap.size w (w1.alloc (.cells #[.string r1, .string r2, .slice a0 us.length p0] 24)) := b1.alloc b1.size _
  have hz01 : (w1.alloc (.cells #[.string r1, .string r2, .slice a0 us.length p0] 24)).heap.size = w1.heap.size + 1 := World.size_alloc _ _
  go_wp2_with fail
  refine (hi _ (HM.out.below B1)).mono ?_
  rintro e w2 ⟨⟨v, rfl, j2⟩, b2⟩
  obtain ⟨g, hg1, hg2, hj⟩ := j2.named b2.size
  obtain ⟨a1, p1, rfl⟩ := hj.len
  obtain ⟨v0, v1, v2, vz⟩ := box_kept b2
  have B2 := chain B1 b2
  have i2 := i1'.below b2
  have b23 : Below w2.heap.size w2 (w2.alloc (.cells #[.string r1, .string r2, .slice a1 us.length p1] 24)) := (Below.refl _ _).alloc (Nat.le_refl _) _
  obtain ⟨v0, v1, v2, vz⟩ := keep3 vz v0 v1 v2 b23
  have j3 := hj.below b23
  have i3 := i2.below b23
  have B3 := chain B2 b23
  have HIO : Hid (∀ k, (Value.slice a0 us.length p0).ownBlock = some k → k < w1.heap.size) := fun k hk => i1.own_lt k hk
  have hgw : w.heap.size ≤ g := by have := b1.size; omega
  go_wp2_with fail
  refine (eqScheme_rd r1 r2 us _ _ _ (by omega) j3.rd i3.rd).mono ?_
  rintro e w4 ⟨rfl, b4⟩
  obtain ⟨q0, q1, q2, qz⟩ := box_kept (w := w2) b4
  obtain ⟨v0, v1, v2, vz⟩ := keep3 vz v0 v1 v2 b4
  have j4 := j3.below b4
  have i4 := i3.below b4
  have B4 := chain B3 b4
  go_wp2_with fail
  try go_region_with fail
  all_goals try go_wp2_with fail
  refine (markV_any r1 r2 g us _ _ (by omega) j4).mono ?_
  rintro e w5 ⟨rfl, h5, m5⟩
  obtain ⟨v0, v1, v2, vz⟩ := keep3B vz (by omega) v0 v1 v2 m5
  obtain ⟨q0, q1, q2, qz⟩ := keep3B qz (fun e => hg2 e.symm) q0 q1 q2 m5
  have B5 := m5.below B4 hgw B4.size
  have i5 := m5.strsV i4 (fun k hk => by have := HIO.out k hk; omega)
  have hkn : ¬ (1 : Int) + (us.length : Int) < 0 := by omega
  go_wp2_with fail
  refine (heldRd_any r1 r2 us.length _ _ (by omega) h5.rd).mono ?_
  rintro e w6 ⟨rfl, b6⟩
  obtain ⟨v0, v1, v2, vz⟩ := keep3 vz v0 v1 v2 b6
  obtain ⟨q0, q1, q2, qz⟩ := keep3 qz q0 q1 q2 b6
  have B6 := chain B5 b6
  have i6 := i5.below b6
  have h6 := h5.below b6
  go_wp2_with fail
  refine (hi _ (HM.out.below B6)).mono ?_
  rintro e w7 ⟨⟨vh, rfl, j7⟩, b7⟩
  obtain ⟨gh, _, _, hj7⟩ := j7.named b7.size
  obtain ⟨a2, p2, rfl⟩ := hj7.len
  obtain ⟨v0, v1, v2, vz⟩ := keep3 vz v0 v1 v2 b7
  obtain ⟨q0, q1, q2, qz⟩ := keep3 qz q0 q1 q2 b7
  have b78 : Below w7.heap.size w7 (w7.alloc (.cells #[.string r1, .string r2, .slice a2 us.length p2] 24)) := (Below.refl _ _).alloc (Nat.le_refl _) _
  obtain ⟨v0, v1, v2, vz⟩ := keep3 vz v0 v1 v2 b78
  obtain ⟨q0, q1, q2, qz⟩ := keep3 qz q0 q1 q2 b78
  have B8 := chain (chain B6 b7) b78
  have h8 := (h6.below b7).below b78
  go_wp2_with fail
  refine (eqScheme_rd r1 r2 us _ _ _ (by omega) (hj7.below b78).rd ((i6.below b7).below b78).rd).mono ?_
  rintro e w9 ⟨rfl, b9⟩
  obtain ⟨q0, q1, q2, qz⟩ := keep3 qz q0 q1 q2 b9
  go_wp2_with fail
  try go_region_with fail
  all_goals try go_wp2_with fail
  refine (heldRd_any r1 r2 us.length _ _ (by omega) (h8.below b9).rd).mono ?_
  rintro e wa ⟨rfl, ba⟩
  go_wp2_with fail
  go_ret
  exact ⟨rfl, chain (chain B8 b9) ba⟩
end Go.Proofs.YtkeedoieadlbdabDoor

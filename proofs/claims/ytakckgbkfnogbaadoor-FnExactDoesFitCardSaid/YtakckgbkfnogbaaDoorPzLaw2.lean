/-
  The law of DoesFit.
-/
import Derived.Test.YtakckgbkfnogbaaDoorPzFit
namespace Go.Proofs.YtakckgbkfnogbaaDoor
open Go.RowKit Go.Deep
set_option maxRecDepth 100000

def dfA (c : Cl) (s : ByteArray) : Bool := (clB c && hidB s.data.toList) && fitB c s.data.toList
def dfB (c : Cl) (s : ByteArray) : Bool := clB c && hidB s.data.toList
theorem keep3 {w w1 : World} {b : Nat} {x y z : Value} (h : b < w.heap.size) (c0 : w.cell? ⟨b, 0, none⟩ = some x) (c1 : w.cell? ⟨b, 1, none⟩ = some y) (c2 : w.cell? ⟨b, 2, none⟩ = some z) (k : Below w.heap.size w w1) : w1.cell? ⟨b, 0, none⟩ = some x ∧ w1.cell? ⟨b, 1, none⟩ = some y ∧ w1.cell? ⟨b, 2, none⟩ = some z ∧ b < w1.heap.size :=
  ⟨(k.cell (p := ⟨b, 0, none⟩) h).trans c0, (k.cell (p := ⟨b, 1, none⟩) h).trans c1, (k.cell (p := ⟨b, 2, none⟩) h).trans c2, by have := k.size; omega⟩
theorem isClue_b (c : Cl) (x : Bool) (w : World) (h : clB c = x) :
    Calls Tryd.prog 41 #[.agg #[.int .i64 c.k, .int .i64 c.a, .int .i64 c.b]] w fun e w' => e = .returned (.bool x) ∧ Below w.heap.size w w' := by subst h; exact isClue_any c w
set_option maxHeartbeats 2000000 in
theorem iDoesFit_any (c : Cl) (s : ByteArray) (w : World) (hs : s.size ≤ maxLen) :
    Calls Tryd.prog 13 #[.agg #[.int .i64 c.k, .int .i64 c.a, .int .i64 c.b], .string s] w fun e w' => e = .returned (.tuple #[.bool (dfA c s), .bool (dfB c s)]) ∧ Below w.heap.size w w' := by
  cases h1 : clB c with
  | false =>
    have H1 := Lib.hid h1
    have HA : Hid (dfA c s = false) := by show _ = _; unfold dfA; rw [h1]; rfl
    have HB : Hid (dfB c s = false) := by show _ = _; unfold dfB; rw [h1]; rfl
    clear h1
    go_enter Tryd.func13, Tryd.ntmps13
    go_wp2_with (go_at_call 41; (with_reducible refine (isClue_b c false _ H1.out).mono ?_); rintro e w1 ⟨rfl, b1⟩; have B1 := chain (w := w) (by go_grown) b1)
    go_ret2
    exact ⟨ret_bb HA.out.symm HB.out.symm, B1⟩
  | true =>
    have H1 := Lib.hid h1
    cases h2 : hidB s.data.toList with
    | false =>
      have H2 := Lib.hid h2
      have HA : Hid (dfA c s = false) := by show _ = _; unfold dfA; rw [h1, h2]; rfl
      have HB : Hid (dfB c s = false) := by show _ = _; unfold dfB; rw [h1, h2]; rfl
      clear h1 h2
      go_enter Tryd.func13, Tryd.ntmps13
      go_wp2_with (first
        | (go_at_call 41; (with_reducible refine (isClue_b c true _ H1.out).mono ?_); rintro e w1 ⟨rfl, b1⟩; have B1 := chain (w := w) (by go_grown) b1)
        | (go_at_call 42; (with_reducible refine (isHidden_b s false _ hs H2.out).mono ?_); rintro e w2 ⟨rfl, b2⟩; have B2 := chain B1 b2))
      go_ret2
      exact ⟨ret_bb HA.out.symm HB.out.symm, B2⟩
    | true =>
      have H2 := Lib.hid h2
      have HC := Lib.hid ((clB_iff c).1 h1)
      have HA : Hid (dfA c s = fitB c s.data.toList) := by show _ = _; unfold dfA; rw [h1, h2]; rfl
      have HB : Hid (dfB c s = true) := by show _ = _; unfold dfB; rw [h1, h2]; rfl
      clear h1 h2
      go_enter Tryd.func13, Tryd.ntmps13
      go_wp2_with (first
        | (go_at_call 41; (with_reducible refine (isClue_b c true _ H1.out).mono ?_); rintro e w1 ⟨rfl, b1⟩; obtain ⟨c0, c1, c2, _⟩ := blk3 (box_at w _ b1); have hz := box_lt w _ b1; have B1 := chain (w := w) (by go_grown) b1)
        | (go_at_call 42; (with_reducible refine (isHidden_b s true _ hs H2.out).mono ?_); rintro e w2 ⟨rfl, b2⟩; obtain ⟨d0, d1, d2, dz⟩ := keep3 hz c0 c1 c2 b2; have B2 := chain B1 b2)
        | (go_at_call 43; (with_reducible refine (doesFit_any c s _ HC.out H2.out).mono ?_); rintro e w3 ⟨rfl, b3⟩; have B3 := chain B2 b3))
      go_ret2
      exact ⟨ret_bb HA.out.symm HB.out.symm, B3⟩
set_option maxHeartbeats 2000000 in
theorem sDoesFit_any (c : Cl) (s : ByteArray) (w : World) (hs : s.size ≤ maxLen) :
    Calls Tryd.prog 11 #[.agg #[.int .i64 c.k, .int .i64 c.a, .int .i64 c.b], .string s] w fun e w' => e = .returned (.tuple #[.bool (dfA c s), .bool (dfB c s)]) ∧ Below w.heap.size w w' := by
  have hB0 : Below w.heap.size w (w.alloc (.cells #[.int .i64 c.k, .int .i64 c.a, .int .i64 c.b] 26)) := (Below.refl _ _).alloc (Nat.le_refl _) _
  have B0 := Lib.hid hB0
  clear hB0
  cases h2 : hidB s.data.toList with
  | false =>
    have H2 := Lib.hid h2
    have HA : Hid (dfA c s = false) := by show _ = _; unfold dfA; rw [h2, Bool.and_false]; rfl
    have HB : Hid (dfB c s = false) := by show _ = _; unfold dfB; rw [h2, Bool.and_false]
    clear h2
    go_enter Tryd.func11, Tryd.ntmps11
    go_wp2_with (go_at_call 38; (with_reducible refine (pzHidden_b s false _ hs H2.out).mono ?_); rintro e w1 ⟨rfl, rfl⟩)
    go_ret2
    exact ⟨ret_bb HA.out.symm HB.out.symm, B0.out⟩
  | true =>
    have H2 := Lib.hid h2
    cases h1 : clB c with
    | false =>
      have H1 := Lib.hid h1
      have HA : Hid (dfA c s = false) := by show _ = _; unfold dfA; rw [h1, h2]; rfl
      have HB : Hid (dfB c s = false) := by show _ = _; unfold dfB; rw [h1, h2]; rfl
      clear h1 h2
      go_enter Tryd.func11, Tryd.ntmps11
      go_wp2_with (first
        | (go_at_call 38; (with_reducible refine (pzHidden_b s true _ hs H2.out).mono ?_); rintro e w1 ⟨rfl, rfl⟩)
        | (go_at_call 39; (with_reducible refine (pzClue_b c false _ H1.out).mono ?_); rintro e w2 ⟨rfl, b2⟩; have B2 := chain B0.out b2))
      go_ret2
      exact ⟨ret_bb HA.out.symm HB.out.symm, B2⟩
    | true =>
      have H1 := Lib.hid h1
      have HC := Lib.hid ((clB_iff c).1 h1)
      have HA : Hid (dfA c s = fitB c s.data.toList) := by show _ = _; unfold dfA; rw [h1, h2]; rfl
      have HB : Hid (dfB c s = true) := by show _ = _; unfold dfB; rw [h1, h2]; rfl
      clear h1 h2
      go_enter Tryd.func11, Tryd.ntmps11
      go_wp2_with (first
        | (go_at_call 38; (with_reducible refine (pzHidden_b s true _ hs H2.out).mono ?_); rintro e w1 ⟨rfl, rfl⟩)
        | (go_at_call 39; (with_reducible refine (pzClue_b c true _ H1.out).mono ?_); rintro e w2 ⟨rfl, b2⟩; obtain ⟨d0, d1, d2, _⟩ := blk3 (box_at w _ b2); have dz := box_lt w _ b2; have B2 := chain B0.out b2)
        | (go_at_call 40; (with_reducible refine (pzFits_any c s _ HC.out H2.out).mono ?_); rintro e w3 ⟨rfl, b3⟩; have B3 := chain B2 b3))
      go_ret2
      exact ⟨ret_bb HA.out.symm HB.out.symm, B3⟩
set_option maxHeartbeats 2000000 in
theorem FnExactDoesFit_law (c : Cl) (s : ByteArray) (hs : s.size ≤ maxLen) (w : World) :
    Calls Tryd.prog 3 #[.agg #[.int .i64 c.k, .int .i64 c.a, .int .i64 c.b], .string s] w fun e w' => e = .returned (.bool true) ∧ Below w.heap.size w w' := by
  have hS := fun W => sDoesFit_any c s W hs
  have hI := fun W => iDoesFit_any c s W hs
  obtain ⟨x, hx⟩ : ∃ x, dfA c s = x := ⟨_, rfl⟩
  obtain ⟨y, hy⟩ : ∃ y, dfB c s = y := ⟨_, rfl⟩
  rw [hx, hy] at hS hI
  have HS := Lib.hid hS
  have HI := Lib.hid hI
  have hs' := hs
  unfold maxLen at hs'
  clear hS hI hx hy
  by_cases hbs : (s.size : Int) ≤ 1048576
  case neg =>
    go_enter Tryd.func3, Tryd.ntmps3
    go_wp2
    go_ret
    exact ⟨rfl, by first | exact Below.refl _ _ | exact (Below.refl _ _).alloc (Nat.le_refl _) _⟩
  go_enter Tryd.func3, Tryd.ntmps3
  go_wp2_with (first
    | (go_at_call 12; (with_reducible refine (toClue_any c _).mono ?_); rintro e w1 ⟨rfl, b1⟩; obtain ⟨c0, c1, c2, _⟩ := blk3 (box_at w _ b1); have hz := box_lt w _ b1; have B1 := chain (w := w) (by go_grown) b1)
    | (go_at_call 11; (with_reducible refine (HS.out _).mono ?_); rintro e w2 ⟨rfl, b2⟩; obtain ⟨d0, d1, d2, dz⟩ := keep3 hz c0 c1 c2 b2; have B2 := chain B1 b2)
    | (go_at_call 12; (with_reducible refine (toClue_any c _).mono ?_); rintro e w3 ⟨rfl, b3⟩; have B3 := chain B2 b3)
    | (go_at_call 13; (with_reducible refine (HI.out _).mono ?_); rintro e w4 ⟨rfl, b4⟩; have B4 := chain B3 b4))
  go_ret
  exact ⟨rfl, B4⟩
end Go.Proofs.YtakckgbkfnogbaaDoor

/-
  The laws of IsCheck, SumOfCheck and IsSound.
-/
import Derived.Test.YtleifibbdjplbaaSlNum
namespace Go.Proofs.Ytleifibbdjplbaa
open Go.RowKit

theorem box2_kept {w w1 : World} {x y : Value} {T : TypeId} (b1 : Below (w.alloc (.cells #[x, y] T)).heap.size (w.alloc (.cells #[x, y] T)) w1) : w1.cell? ⟨w.heap.size, 0, none⟩ = some x ∧ w1.cell? ⟨w.heap.size, 1, none⟩ = some y ∧ w.heap.size < w1.heap.size := by
  have hz := b1.size
  have z1 : (w.alloc (.cells #[x, y] T)).heap.size = w.heap.size + 1 := World.size_alloc _ _
  have h := blk2 (w := w1) (b := w.heap.size) (x := x) (y := y) (T := T) (by rw [b1.block _ (by omega)]; exact (MapKept.heap_alloc _ _).1)
  exact ⟨h.1, h.2.1, by omega⟩
theorem keep2 {w w1 : World} {b : Nat} {x y : Value} (h : b < w.heap.size) (c0 : w.cell? ⟨b, 0, none⟩ = some x) (c1 : w.cell? ⟨b, 1, none⟩ = some y) (k : Below w.heap.size w w1) : w1.cell? ⟨b, 0, none⟩ = some x ∧ w1.cell? ⟨b, 1, none⟩ = some y ∧ b < w1.heap.size :=
  ⟨(k.cell (p := ⟨b, 0, none⟩) h).trans c0, (k.cell (p := ⟨b, 1, none⟩) h).trans c1, by have := k.size; omega⟩

/-- What SumOfCheck answers. -/
def sumA (xs : List Int) (m : Int) (t : List UInt8) : Int := if numB xs m t = true then wsum xs t else 0
/-- What IsSound answers. -/
def isdA (xs : List Int) (m : Int) (t : List UInt8) : Bool := if numB xs m t = true then sndB xs m t else false
theorem sIsCheck_any (xs : List Int) (m : Int) (v : Value) (w : World) (hn : xs.length ≤ 1048576) (h : RdI xs v w) :
    Calls Try.prog 10 #[.agg #[v, .int .i64 m]] w fun e w' => e = .returned (.bool (chkB xs m)) ∧ Below w.heap.size w w' := by
  go_enter Try.func10, Try.ntmps10
  go_wp2_with (go_at_call 29; go_must ((with_reducible refine (slGood_any xs m _ _ hn (h.below (by go_grown))).mono ?_); rintro e w1 ⟨rfl, b1⟩))
  go_ret
  exact ⟨rfl, chain (w := w) (by go_grown) b1⟩
set_option maxHeartbeats 2000000 in
theorem FnExactIsCheck_law (xs : List Int) (m : Int) (v : Value) (hn : xs.length ≤ maxLen) (_hm : (Lit.int .i64 m).wf = true) (w : World) (h : RdI xs v w) :
    Calls Try.prog 3 #[.agg #[v, .int .i64 m]] w fun e w' => e = .returned (.bool true) ∧ Below w.heap.size w w' := by
  have hnm := hn
  unfold maxLen at hn
  have HV := Lib.hid h
  have hs1 : xs.length ≤ 1048576 → ∀ u W, RdI xs u W → Calls Try.prog 10 #[.agg #[u, .int .i64 m]] W fun e w' => e = .returned ((.bool (chkB xs m))) ∧ Below W.heap.size W w' := fun hn u W hr => sIsCheck_any xs m u W hn hr
  have hi1 : xs.length ≤ 1048576 → ∀ u W, RdI xs u W → Calls Try.prog 12 #[.agg #[u, .int .i64 m]] W fun e w' => e = .returned ((.bool (chkB xs m))) ∧ Below W.heap.size W w' := fun hn u W hr => isCheck_any xs m u W hn hr
  obtain ⟨A0, hA0⟩ : ∃ A0 : Bool, A0 = chkB xs m := ⟨_, rfl⟩
  rw [← hA0] at hs1 hi1
  have HS := Lib.hid hs1
  have HI := Lib.hid hi1
  clear h hs1 hi1 hA0
  go_enter Try.func3, Try.ntmps3
  go_wp2_with (go_at_call 9; go_must ((with_reducible refine (szCheck_any xs m v _ hnm (HV.out.below (by go_grown))).mono ?_); rintro e w1 ⟨⟨r, rfl, hr⟩, b1⟩; obtain ⟨c0, c1, hz⟩ := box2_kept b1; by_cases hr0 : r < 0))
  all_goals go_wp2_with fail
  · go_ret
    exact ⟨rfl, chain (w := w) (by go_grown) b1⟩
  · have hN := hr (by omega)
    have B1 : Below w.heap.size w w1 := chain (w := w) (by go_grown) b1
    have A1 := HV.out.below B1
    have HS' := Lib.hid (HS.out hN)
    have HI' := Lib.hid (HI.out hN)
    clear hr b1
    go_wp2_with (first
      | (go_at_call 11; (with_reducible refine (toCheck_any xs m v _ hN A1).mono ?_); rintro e w2 ⟨⟨g2, rfl, u2⟩, b2⟩; obtain ⟨d0, d1, dz⟩ := keep2 hz c0 c1 b2; have B2 := chain B1 b2)
      | (go_at_call 10; (with_reducible refine (HS'.out _ _ u2.rd).mono ?_); rintro e w3 ⟨rfl, b3⟩; obtain ⟨e0, e1, ez⟩ := keep2 dz d0 d1 b3; have B3 := chain B2 b3; have A3 := HV.out.below B3)
      | (go_at_call 11; (with_reducible refine (toCheck_any xs m v _ hN A3).mono ?_); rintro e w4 ⟨⟨g4, rfl, u4⟩, b4⟩; obtain ⟨f0, f1, fz⟩ := keep2 ez e0 e1 b4; have B4 := chain B3 b4; have u5 := u4.below ((Below.refl _ _).alloc (Nat.le_refl _) (.cells #[.slice (some ⟨g4, 0, none⟩) xs.length xs.length, .int .i64 m] 27)); have B5 : Below w.heap.size w (w4.alloc (.cells #[.slice (some ⟨g4, 0, none⟩) xs.length xs.length, .int .i64 m] 27)) := B4.alloc B4.size _)
      | (go_at_call 12; (with_reducible refine (HI'.out _ _ u5.rd).mono ?_); rintro e w6 ⟨rfl, b6⟩; obtain ⟨x0, x1, xz⟩ := box2_kept b6; obtain ⟨y0, y1, yz⟩ := keep2 fz f0 f1 (chain (w := w4) (by go_grown) b6); have B6 := chain B5 b6; have A6 := HV.out.below B6; have u6 := u5.below b6))
    go_region_with (first
      | (go_at_call 11; (with_reducible refine (toCheck_any xs m v _ hN (A6.below (by go_grown))).mono ?_); rintro e w7 ⟨⟨g7, rfl, u7⟩, b7⟩; have B7 : Below w6.heap.size w6 w7 := chain (w := w6) (by go_grown) b7; obtain ⟨z0, z1, zz⟩ := keep2 xz x0 x1 B7)
      | (go_at_call 13; (with_reducible refine (eqCheck_yes m _ _ xs _ _ _ hN (u6.below B7) u7).mono ?_); rintro e w8 ⟨rfl, b8⟩; have B8 : Below w6.heap.size w6 w8 := chain B7 b8))
    all_goals go_wp2
    all_goals
      go_ret
      exact ⟨rfl, chain B6 B8⟩
set_option maxHeartbeats 1000000 in
theorem sSumOf_any (xs : List Int) (m : Int) (s : ByteArray) (v : Value) (w : World) (hn : xs.length ≤ 1048576) (hs : s.size ≤ maxLen) (h : RdI xs v w) :
    Calls Try.prog 14 #[.agg #[v, .int .i64 m], .string s] w fun e w' => e = .returned (.tuple #[.int .i64 (sumA xs m s.data.toList), .bool (numB xs m s.data.toList)]) ∧ Below w.heap.size w w' := by
  have HV := Lib.hid h
  have HN := Lib.hid (fun W hr => slBoth_any xs m s v W hn hs hr)
  clear h
  cases hb : numB xs m s.data.toList with
  | false =>
    have HZ : Hid (0 = sumA xs m s.data.toList) := by show _ = _; unfold sumA; rw [if_neg (by simp [hb])]
    rw [hb] at HN
    go_enter Try.func14, Try.ntmps14
    go_wp2_with (go_at_call 35; (with_reducible refine (HN.out _ (HV.out.below (by go_grown))).mono ?_); rintro e w1 ⟨rfl, b1⟩)
    go_ret2
    exact ⟨ret_ib HZ.out rfl, chain (w := w) (by go_grown) b1⟩
  | true =>
    obtain ⟨⟨_, ho⟩, hl, hd⟩ := (numB_iff _ _ _).1 hb
    have hl2 : s.size = xs.length := by simpa using hl
    have HZ : Hid (wsum xs s.data.toList = sumA xs m s.data.toList) := by show _ = _; unfold sumA; rw [if_pos hb]
    have HB := Lib.hid (fun W hr => slSum_any xs m s v W ho hl2 hd hr)
    rw [hb] at HN
    clear hb hl hl2 hd ho
    go_enter Try.func14, Try.ntmps14
    go_wp2_with (first | (go_at_call 35; (with_reducible refine (HN.out _ (HV.out.below (by go_grown))).mono ?_); rintro e w1 ⟨rfl, b1⟩; have B1 : Below w.heap.size w w1 := chain (w := w) (by go_grown) b1; obtain ⟨c0, c1, hz⟩ := box2_kept b1; have A1 := HV.out.below B1) | (go_at_call 36; (with_reducible refine (HB.out _ A1).mono ?_); rintro e w2 ⟨rfl, b2⟩))
    go_ret2
    exact ⟨ret_ib HZ.out rfl, chain B1 b2⟩
set_option maxHeartbeats 1000000 in
theorem iSumOf_any (xs : List Int) (m : Int) (s : ByteArray) (v : Value) (w : World) (hn : xs.length ≤ 1048576) (hs : s.size ≤ maxLen) (h : RdI xs v w) :
    Calls Try.prog 15 #[.agg #[v, .int .i64 m], .string s] w fun e w' => e = .returned (.tuple #[.int .i64 (sumA xs m s.data.toList), .bool (numB xs m s.data.toList)]) ∧ Below w.heap.size w w' := by
  have HV := Lib.hid h
  have HN := Lib.hid (fun W hr => isNum_any xs m s v W hn hs hr)
  clear h
  cases hb : numB xs m s.data.toList with
  | false =>
    have HZ : Hid (0 = sumA xs m s.data.toList) := by show _ = _; unfold sumA; rw [if_neg (by simp [hb])]
    rw [hb] at HN
    go_enter Try.func15, Try.ntmps15
    go_wp2_with (go_at_call 37; (with_reducible refine (HN.out _ (HV.out.below (by go_grown))).mono ?_); rintro e w1 ⟨rfl, b1⟩)
    go_ret2
    exact ⟨ret_ib HZ.out rfl, chain (w := w) (by go_grown) b1⟩
  | true =>
    obtain ⟨⟨_, ho⟩, hl, hd⟩ := (numB_iff _ _ _).1 hb
    have hl2 : s.size = xs.length := by simpa using hl
    have HZ : Hid (wsum xs s.data.toList = sumA xs m s.data.toList) := by show _ = _; unfold sumA; rw [if_pos hb]
    have HB := Lib.hid (fun W hr => wSum_any xs m s v W ho hl2 hd hr)
    rw [hb] at HN
    clear hb hl hl2 hd ho
    go_enter Try.func15, Try.ntmps15
    go_wp2_with (first | (go_at_call 37; (with_reducible refine (HN.out _ (HV.out.below (by go_grown))).mono ?_); rintro e w1 ⟨rfl, b1⟩; have B1 : Below w.heap.size w w1 := chain (w := w) (by go_grown) b1; obtain ⟨c0, c1, hz⟩ := box2_kept b1; have A1 := HV.out.below B1) | (go_at_call 38; (with_reducible refine (HB.out _ A1).mono ?_); rintro e w2 ⟨rfl, b2⟩))
    go_ret2
    exact ⟨ret_ib HZ.out rfl, chain B1 b2⟩
set_option maxHeartbeats 2000000 in
theorem FnExactSumOfCheck_law (xs : List Int) (m : Int) (v : Value) (hn : xs.length ≤ maxLen) (_hm : (Lit.int .i64 m).wf = true) (s : ByteArray) (hs : s.size ≤ maxLen) (w : World) (h : RdI xs v w) :
    Calls Try.prog 4 #[.agg #[v, .int .i64 m], .string s] w fun e w' => e = .returned (.bool true) ∧ Below w.heap.size w w' := by
  have hnm := hn
  unfold maxLen at hn
  have HV := Lib.hid h
  have hs1 : xs.length ≤ 1048576 → ∀ u W, RdI xs u W → Calls Try.prog 14 #[.agg #[u, .int .i64 m], .string s] W fun e w' => e = .returned ((.tuple #[.int .i64 (sumA xs m s.data.toList), .bool (numB xs m s.data.toList)])) ∧ Below W.heap.size W w' := fun hn u W hr => sSumOf_any xs m s u W hn hs hr
  have hi1 : xs.length ≤ 1048576 → ∀ u W, RdI xs u W → Calls Try.prog 15 #[.agg #[u, .int .i64 m], .string s] W fun e w' => e = .returned ((.tuple #[.int .i64 (sumA xs m s.data.toList), .bool (numB xs m s.data.toList)])) ∧ Below W.heap.size W w' := fun hn u W hr => iSumOf_any xs m s u W hn hs hr
  obtain ⟨A0, hA0⟩ : ∃ A0 : Int, A0 = sumA xs m s.data.toList := ⟨_, rfl⟩
  obtain ⟨A1, hA1⟩ : ∃ A1 : Bool, A1 = numB xs m s.data.toList := ⟨_, rfl⟩
  rw [← hA0, ← hA1] at hs1 hi1
  have HS := Lib.hid hs1
  have HI := Lib.hid hi1
  clear h hs1 hi1 hA0 hA1
  have hs' := hs
  unfold maxLen at hs'
  by_cases hbs : (s.size : Int) ≤ 1048576
  case neg =>
    go_enter Try.func4, Try.ntmps4
    go_wp2
    go_ret
    exact ⟨rfl, by first | exact Below.refl _ _ | exact (Below.refl _ _).alloc (Nat.le_refl _) _⟩
  case pos =>
    go_enter Try.func4, Try.ntmps4
    go_wp2_with (go_at_call 9; go_must ((with_reducible refine (szCheck_any xs m v _ hnm (HV.out.below (by go_grown))).mono ?_); rintro e w1 ⟨⟨r, rfl, hr⟩, b1⟩; obtain ⟨c0, c1, hz⟩ := box2_kept b1; by_cases hr0 : r < 0))
    all_goals go_wp2_with fail
    · go_ret
      exact ⟨rfl, chain (w := w) (by go_grown) b1⟩
    · have hN := hr (by omega)
      have B1 : Below w.heap.size w w1 := chain (w := w) (by go_grown) b1
      have A1 := HV.out.below B1
      have HS' := Lib.hid (HS.out hN)
      have HI' := Lib.hid (HI.out hN)
      clear hr b1
      go_wp2_with (first
        | (go_at_call 11; (with_reducible refine (toCheck_any xs m v _ hN A1).mono ?_); rintro e w2 ⟨⟨g2, rfl, u2⟩, b2⟩; obtain ⟨d0, d1, dz⟩ := keep2 hz c0 c1 b2; have B2 := chain B1 b2)
        | (go_at_call 14; (with_reducible refine (HS'.out _ _ u2.rd).mono ?_); rintro e w3 ⟨rfl, b3⟩; obtain ⟨e0, e1, ez⟩ := keep2 dz d0 d1 b3; have B3 := chain B2 b3; have A3 := HV.out.below B3)
        | (go_at_call 11; (with_reducible refine (toCheck_any xs m v _ hN A3).mono ?_); rintro e w4 ⟨⟨g4, rfl, u4⟩, b4⟩; obtain ⟨f0, f1, fz⟩ := keep2 ez e0 e1 b4; have B4 := chain B3 b4; have u5 := u4.below ((Below.refl _ _).alloc (Nat.le_refl _) (.cells #[.slice (some ⟨g4, 0, none⟩) xs.length xs.length, .int .i64 m] 27)); have B5 : Below w.heap.size w (w4.alloc (.cells #[.slice (some ⟨g4, 0, none⟩) xs.length xs.length, .int .i64 m] 27)) := B4.alloc B4.size _)
        | (go_at_call 15; (with_reducible refine (HI'.out _ _ u5.rd).mono ?_); rintro e w6 ⟨rfl, b6⟩; obtain ⟨x0, x1, xz⟩ := box2_kept b6; obtain ⟨y0, y1, yz⟩ := keep2 fz f0 f1 (chain (w := w4) (by go_grown) b6); have B6 := chain B5 b6; have A6 := HV.out.below B6; have u6 := u5.below b6))
      go_region_with (first
        | (go_at_call 11; (with_reducible refine (toCheck_any xs m v _ hN (A6.below (by go_grown))).mono ?_); rintro e w7 ⟨⟨g7, rfl, u7⟩, b7⟩; have B7 : Below w6.heap.size w6 w7 := chain (w := w6) (by go_grown) b7; obtain ⟨z0, z1, zz⟩ := keep2 xz x0 x1 B7)
        | (go_at_call 13; (with_reducible refine (eqCheck_yes m _ _ xs _ _ _ hN (u6.below B7) u7).mono ?_); rintro e w8 ⟨rfl, b8⟩; have B8 : Below w6.heap.size w6 w8 := chain B7 b8))
      all_goals go_wp2
      all_goals
        go_ret
        exact ⟨rfl, chain B6 B8⟩
set_option maxHeartbeats 1000000 in
theorem sIsSnd_any (xs : List Int) (m : Int) (s : ByteArray) (v : Value) (w : World) (hn : xs.length ≤ 1048576) (hs : s.size ≤ maxLen) (h : RdI xs v w) :
    Calls Try.prog 16 #[.agg #[v, .int .i64 m], .string s] w fun e w' => e = .returned (.tuple #[.bool (isdA xs m s.data.toList), .bool (numB xs m s.data.toList)]) ∧ Below w.heap.size w w' := by
  have HV := Lib.hid h
  have HN := Lib.hid (fun W hr => slBoth_any xs m s v W hn hs hr)
  clear h
  cases hb : numB xs m s.data.toList with
  | false =>
    have HZ : Hid (false = isdA xs m s.data.toList) := by show _ = _; unfold isdA; rw [if_neg (by simp [hb])]
    rw [hb] at HN
    go_enter Try.func16, Try.ntmps16
    go_wp2_with (go_at_call 35; (with_reducible refine (HN.out _ (HV.out.below (by go_grown))).mono ?_); rintro e w1 ⟨rfl, b1⟩)
    go_ret2
    exact ⟨ret_bb HZ.out rfl, chain (w := w) (by go_grown) b1⟩
  | true =>
    obtain ⟨⟨_, ho⟩, hl, hd⟩ := (numB_iff _ _ _).1 hb
    have hl2 : s.size = xs.length := by simpa using hl
    have HZ : Hid (sndB xs m s.data.toList = isdA xs m s.data.toList) := by show _ = _; unfold isdA; rw [if_pos hb]
    have HB := Lib.hid (fun W hr => slSound_any xs m s v W ho hl2 hd hr)
    rw [hb] at HN
    clear hb hl hl2 hd ho
    go_enter Try.func16, Try.ntmps16
    go_wp2_with (first | (go_at_call 35; (with_reducible refine (HN.out _ (HV.out.below (by go_grown))).mono ?_); rintro e w1 ⟨rfl, b1⟩; have B1 : Below w.heap.size w w1 := chain (w := w) (by go_grown) b1; obtain ⟨c0, c1, hz⟩ := box2_kept b1; have A1 := HV.out.below B1) | (go_at_call 39; (with_reducible refine (HB.out _ A1).mono ?_); rintro e w2 ⟨rfl, b2⟩))
    go_ret2
    exact ⟨ret_bb HZ.out rfl, chain B1 b2⟩
set_option maxHeartbeats 1000000 in
theorem iIsSnd_any (xs : List Int) (m : Int) (s : ByteArray) (v : Value) (w : World) (hn : xs.length ≤ 1048576) (hs : s.size ≤ maxLen) (h : RdI xs v w) :
    Calls Try.prog 17 #[.agg #[v, .int .i64 m], .string s] w fun e w' => e = .returned (.tuple #[.bool (isdA xs m s.data.toList), .bool (numB xs m s.data.toList)]) ∧ Below w.heap.size w w' := by
  have HV := Lib.hid h
  have HN := Lib.hid (fun W hr => isNum_any xs m s v W hn hs hr)
  clear h
  cases hb : numB xs m s.data.toList with
  | false =>
    have HZ : Hid (false = isdA xs m s.data.toList) := by show _ = _; unfold isdA; rw [if_neg (by simp [hb])]
    rw [hb] at HN
    go_enter Try.func17, Try.ntmps17
    go_wp2_with (go_at_call 37; (with_reducible refine (HN.out _ (HV.out.below (by go_grown))).mono ?_); rintro e w1 ⟨rfl, b1⟩)
    go_ret2
    exact ⟨ret_bb HZ.out rfl, chain (w := w) (by go_grown) b1⟩
  | true =>
    obtain ⟨⟨_, ho⟩, hl, hd⟩ := (numB_iff _ _ _).1 hb
    have hl2 : s.size = xs.length := by simpa using hl
    have HZ : Hid (sndB xs m s.data.toList = isdA xs m s.data.toList) := by show _ = _; unfold isdA; rw [if_pos hb]
    have HB := Lib.hid (fun W hr => iSound_any xs m s v W ho hl2 hd hr)
    rw [hb] at HN
    clear hb hl hl2 hd ho
    go_enter Try.func17, Try.ntmps17
    go_wp2_with (first | (go_at_call 37; (with_reducible refine (HN.out _ (HV.out.below (by go_grown))).mono ?_); rintro e w1 ⟨rfl, b1⟩; have B1 : Below w.heap.size w w1 := chain (w := w) (by go_grown) b1; obtain ⟨c0, c1, hz⟩ := box2_kept b1; have A1 := HV.out.below B1) | (go_at_call 40; (with_reducible refine (HB.out _ A1).mono ?_); rintro e w2 ⟨rfl, b2⟩))
    go_ret2
    exact ⟨ret_bb HZ.out rfl, chain B1 b2⟩
set_option maxHeartbeats 2000000 in
theorem FnExactIsSound_law (xs : List Int) (m : Int) (v : Value) (hn : xs.length ≤ maxLen) (_hm : (Lit.int .i64 m).wf = true) (s : ByteArray) (hs : s.size ≤ maxLen) (w : World) (h : RdI xs v w) :
    Calls Try.prog 5 #[.agg #[v, .int .i64 m], .string s] w fun e w' => e = .returned (.bool true) ∧ Below w.heap.size w w' := by
  have hnm := hn
  unfold maxLen at hn
  have HV := Lib.hid h
  have hs1 : xs.length ≤ 1048576 → ∀ u W, RdI xs u W → Calls Try.prog 16 #[.agg #[u, .int .i64 m], .string s] W fun e w' => e = .returned ((.tuple #[.bool (isdA xs m s.data.toList), .bool (numB xs m s.data.toList)])) ∧ Below W.heap.size W w' := fun hn u W hr => sIsSnd_any xs m s u W hn hs hr
  have hi1 : xs.length ≤ 1048576 → ∀ u W, RdI xs u W → Calls Try.prog 17 #[.agg #[u, .int .i64 m], .string s] W fun e w' => e = .returned ((.tuple #[.bool (isdA xs m s.data.toList), .bool (numB xs m s.data.toList)])) ∧ Below W.heap.size W w' := fun hn u W hr => iIsSnd_any xs m s u W hn hs hr
  obtain ⟨A0, hA0⟩ : ∃ A0 : Bool, A0 = isdA xs m s.data.toList := ⟨_, rfl⟩
  obtain ⟨A1, hA1⟩ : ∃ A1 : Bool, A1 = numB xs m s.data.toList := ⟨_, rfl⟩
  rw [← hA0, ← hA1] at hs1 hi1
  have HS := Lib.hid hs1
  have HI := Lib.hid hi1
  clear h hs1 hi1 hA0 hA1
  have hs' := hs
  unfold maxLen at hs'
  by_cases hbs : (s.size : Int) ≤ 1048576
  case neg =>
    go_enter Try.func5, Try.ntmps5
    go_wp2
    go_ret
    exact ⟨rfl, by first | exact Below.refl _ _ | exact (Below.refl _ _).alloc (Nat.le_refl _) _⟩
  case pos =>
    go_enter Try.func5, Try.ntmps5
    go_wp2_with (go_at_call 9; go_must ((with_reducible refine (szCheck_any xs m v _ hnm (HV.out.below (by go_grown))).mono ?_); rintro e w1 ⟨⟨r, rfl, hr⟩, b1⟩; obtain ⟨c0, c1, hz⟩ := box2_kept b1; by_cases hr0 : r < 0))
    all_goals go_wp2_with fail
    · go_ret
      exact ⟨rfl, chain (w := w) (by go_grown) b1⟩
    · have hN := hr (by omega)
      have B1 : Below w.heap.size w w1 := chain (w := w) (by go_grown) b1
      have A1 := HV.out.below B1
      have HS' := Lib.hid (HS.out hN)
      have HI' := Lib.hid (HI.out hN)
      clear hr b1
      go_wp2_with (first
        | (go_at_call 11; (with_reducible refine (toCheck_any xs m v _ hN A1).mono ?_); rintro e w2 ⟨⟨g2, rfl, u2⟩, b2⟩; obtain ⟨d0, d1, dz⟩ := keep2 hz c0 c1 b2; have B2 := chain B1 b2)
        | (go_at_call 16; (with_reducible refine (HS'.out _ _ u2.rd).mono ?_); rintro e w3 ⟨rfl, b3⟩; obtain ⟨e0, e1, ez⟩ := keep2 dz d0 d1 b3; have B3 := chain B2 b3; have A3 := HV.out.below B3)
        | (go_at_call 11; (with_reducible refine (toCheck_any xs m v _ hN A3).mono ?_); rintro e w4 ⟨⟨g4, rfl, u4⟩, b4⟩; obtain ⟨f0, f1, fz⟩ := keep2 ez e0 e1 b4; have B4 := chain B3 b4; have u5 := u4.below ((Below.refl _ _).alloc (Nat.le_refl _) (.cells #[.slice (some ⟨g4, 0, none⟩) xs.length xs.length, .int .i64 m] 27)); have B5 : Below w.heap.size w (w4.alloc (.cells #[.slice (some ⟨g4, 0, none⟩) xs.length xs.length, .int .i64 m] 27)) := B4.alloc B4.size _)
        | (go_at_call 17; (with_reducible refine (HI'.out _ _ u5.rd).mono ?_); rintro e w6 ⟨rfl, b6⟩; obtain ⟨x0, x1, xz⟩ := box2_kept b6; obtain ⟨y0, y1, yz⟩ := keep2 fz f0 f1 (chain (w := w4) (by go_grown) b6); have B6 := chain B5 b6; have A6 := HV.out.below B6; have u6 := u5.below b6))
      go_region_with (first
        | (go_at_call 11; (with_reducible refine (toCheck_any xs m v _ hN (A6.below (by go_grown))).mono ?_); rintro e w7 ⟨⟨g7, rfl, u7⟩, b7⟩; have B7 : Below w6.heap.size w6 w7 := chain (w := w6) (by go_grown) b7; obtain ⟨z0, z1, zz⟩ := keep2 xz x0 x1 B7)
        | (go_at_call 13; (with_reducible refine (eqCheck_yes m _ _ xs _ _ _ hN (u6.below B7) u7).mono ?_); rintro e w8 ⟨rfl, b8⟩; have B8 : Below w6.heap.size w6 w8 := chain B7 b8))
      all_goals go_wp2
      all_goals
        go_ret
        exact ⟨rfl, chain B6 B8⟩
end Go.Proofs.Ytleifibbdjplbaa

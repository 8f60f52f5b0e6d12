/-
  The law of TellsSingle.
-/
import Derived.Test.YtleifibbdjplbaaDoorSlUn
import Derived.Test.YtleifibbdjplbaaDoorSlZs
namespace Go.Proofs.YtleifibbdjplbaaDoor
open Go.RowKit

/-- There are a check and a place. -/
def tlSB (xs : List Int) (m p : Int) : Bool := chkB xs m && decide (0 ≤ p ∧ p ≤ (xs.length : Int) - 1)
/-- What TellsSingle answers. -/
def tlSA (xs : List Int) (m p : Int) : Bool := tlSB xs m p && !(untS xs m p.toNat).isSome
set_option maxHeartbeats 2000000 in
theorem sTellsSingle_any (xs : List Int) (m p : Int) (v : Value) (w : World) (hn : xs.length ≤ 1048576) (h : RdI xs v w) :
    Calls Tryd.prog 16 #[.agg #[v, .int .i64 m], .int .i64 p] w fun e w' => e = .returned (.tuple #[.bool (tlSA xs m p), .bool (tlSB xs m p)]) ∧ Below w.heap.size w w' := by
  have HV := Lib.hid h
  obtain ⟨a, cap, rfl, _⟩ := h
  have HG := Lib.hid (fun W hr => slGood_any xs m _ W hn hr : ∀ W, RdI xs (.slice a xs.length cap) W → _)
  have HUN := Lib.hid (fun (ho : CkOk xs m) (hp : p.toNat < xs.length) W hr => slUntS_any xs m p.toNat _ W ho hp hr : ∀ (ho : CkOk xs m) (hp : p.toNat < xs.length) W, RdI xs (.slice a xs.length cap) W → _)
  obtain ⟨n, hnn⟩ : ∃ n, n = xs.length := ⟨_, rfl⟩
  have HN := Lib.hid hnn
  rw [← hnn] at HV HG HUN hn
  rw [← hnn]
  cases hb : chkB xs m with
  | false =>
    have HZ : Hid (tlSA xs m p = false ∧ tlSB xs m p = false) := by show _ ∧ _; unfold tlSA tlSB; rw [hb]; exact ⟨rfl, rfl⟩
    rw [hb] at HG
    clear hb hnn
    go_enter Tryd.func16, Tryd.ntmps16
    go_wp2_with (first | (go_at_call 42; (with_reducible refine (HG.out _ (HV.out.below (by go_grown))).mono ?_); rintro e w1 ⟨rfl, b1⟩))
    go_ret2
    exact ⟨ret_bb HZ.out.1.symm HZ.out.2.symm, chain (w := w) (by go_grown) b1⟩
  | true =>
    rw [hb] at HG
    obtain ⟨h2, ho⟩ := (chkB_iff _ _).1 hb
    rw [← hnn] at h2
    cases hq : decide (0 ≤ p ∧ p ≤ (n : Int) - 1) with
    | false =>
      have HQ := Lib.hid hq
      have HZ : Hid (tlSA xs m p = false ∧ tlSB xs m p = false) := by show _ ∧ _; unfold tlSA tlSB; rw [hb, ← hnn, hq]; exact ⟨rfl, rfl⟩
      clear hb hnn hq ho
      go_enter Tryd.func16, Tryd.ntmps16
      go_wp2_with (first | (go_at_call 42; (with_reducible refine (HG.out _ (HV.out.below (by go_grown))).mono ?_); rintro e w1 ⟨rfl, b1⟩; have B1 : Below w.heap.size w w1 := chain (w := w) (by go_grown) b1; obtain ⟨c0, c1, hz⟩ := box2_kept b1) | (go_at_call 47; (refine (in_b _ _ _ false _ HQ.out).mono ?_); rintro e w' ⟨rfl, rfl⟩))
      go_ret2
      exact ⟨ret_bb HZ.out.1.symm HZ.out.2.symm, B1⟩
    | true =>
      have HQ := Lib.hid hq
      have hp := of_decide_eq_true hq
      obtain ⟨P, hP⟩ : ∃ P : Nat, p = P := ⟨p.toNat, by omega⟩
      subst hP
      have hPP : ((P : Nat) : Int).toNat = P := by omega
      rw [hPP] at HUN
      have hU := HUN.out ho (by omega)
      obtain ⟨o, hoo⟩ : ∃ o, o = (untS xs m P).isSome := ⟨_, rfl⟩
      have HZ : Hid (tlSA xs m P = !o ∧ tlSB xs m P = true) := by show _ ∧ _; unfold tlSA tlSB; rw [hb, ← hnn, hq, hPP, hoo]; exact ⟨rfl, rfl⟩
      rw [← hoo] at hU
      have HU := Lib.hid hU
      clear hb hnn hq ho hU hoo hp HUN
      go_enter Tryd.func16, Tryd.ntmps16
      go_wp2_with (first | (go_at_call 42; (with_reducible refine (HG.out _ (HV.out.below (by go_grown))).mono ?_); rintro e w1 ⟨rfl, b1⟩; have B1 : Below w.heap.size w w1 := chain (w := w) (by go_grown) b1; obtain ⟨c0, c1, hz⟩ := box2_kept b1) | (go_at_call 47; (refine (in_b _ _ _ true _ HQ.out).mono ?_); rintro e w' ⟨rfl, rfl⟩) | (go_at_call 48; (with_reducible refine (HU.out _ (HV.out.below B1)).mono ?_); rintro e w2 ⟨u, rfl, hu, b2⟩))
      go_ret2
      exact ⟨ret_bb HZ.out.1.symm HZ.out.2.symm, chain B1 b2⟩
set_option maxHeartbeats 2000000 in
theorem tellsAt_any (xs : List Int) (m p q : Int) (v : Value) (w : World) (hn : xs.length ≤ 1048576) (h : RdI xs v w) (hq : q = (xs.length : Int) - 1 + 1) :
    Calls Tryd.prog 49 #[.agg #[v, .int .i64 m], .int .i64 p, .int .i64 q, .func (.func 50) #[] #[]] w fun e w' => e = .returned (.tuple #[.bool (tlSA xs m p), .bool (tlSB xs m p)]) ∧ Below w.heap.size w w' := by
  have HV := Lib.hid h
  have HG := Lib.hid (fun W hr => isCheck_any xs m v W hn hr)
  have HQ := Lib.hid hq
  cases hb : chkB xs m with
  | false =>
    have HZ : Hid (tlSA xs m p = false ∧ tlSB xs m p = false) := by show _ ∧ _; unfold tlSA tlSB; rw [hb]; exact ⟨rfl, rfl⟩
    rw [hb] at HG
    clear hb h hq
    go_enter Tryd.func49, Tryd.ntmps49
    go_wp2_with (first | (go_at_call 44; (with_reducible refine (HG.out _ (HV.out.below (by go_grown))).mono ?_); rintro e w1 ⟨rfl, b1⟩))
    go_ret2
    exact ⟨ret_bb HZ.out.1.symm HZ.out.2.symm, chain (w := w) (by go_grown) b1⟩
  | true =>
    rw [hb] at HG
    obtain ⟨h2, ho⟩ := (chkB_iff _ _).1 hb
    by_cases hp0 : p < 0
    · have HZ : Hid (tlSA xs m p = false ∧ tlSB xs m p = false) := by show _ ∧ _; unfold tlSA tlSB; rw [hb, decide_eq_false (by omega)]; exact ⟨rfl, rfl⟩
      clear hb h hq ho
      go_enter Tryd.func49, Tryd.ntmps49
      go_wp2_with (first | (go_at_call 44; (with_reducible refine (HG.out _ (HV.out.below (by go_grown))).mono ?_); rintro e w1 ⟨rfl, b1⟩))
      go_ret2
      exact ⟨ret_bb HZ.out.1.symm HZ.out.2.symm, chain (w := w) (by go_grown) b1⟩
    · by_cases hp1 : q ≤ p
      · have HZ : Hid (tlSA xs m p = false ∧ tlSB xs m p = false) := by show _ ∧ _; unfold tlSA tlSB; rw [hb, decide_eq_false (by omega)]; exact ⟨rfl, rfl⟩
        clear hb h hq ho
        go_enter Tryd.func49, Tryd.ntmps49
        go_wp2_with (first | (go_at_call 44; (with_reducible refine (HG.out _ (HV.out.below (by go_grown))).mono ?_); rintro e w1 ⟨rfl, b1⟩))
        go_ret2
        exact ⟨ret_bb HZ.out.1.symm HZ.out.2.symm, chain (w := w) (by go_grown) b1⟩
      · obtain ⟨P, hP⟩ : ∃ P : Nat, p = P := ⟨p.toNat, by omega⟩
        subst hP
        have hPP : ((P : Nat) : Int).toNat = P := by omega
        have hp : P < xs.length := by omega
        have hU := fun W hr => untSl_any xs m P v W ho hp hr
        obtain ⟨o, hoo⟩ : ∃ o, o = (untS xs m P).isSome := ⟨_, rfl⟩
        have HZ : Hid (tlSA xs m P = !o ∧ tlSB xs m P = true) := by show _ ∧ _; unfold tlSA tlSB; rw [hb, decide_eq_true (by omega), hPP, hoo]; exact ⟨rfl, rfl⟩
        rw [← hoo] at hU
        have HU := Lib.hid hU
        clear hb h hq ho hU hoo hp
        go_enter Tryd.func49, Tryd.ntmps49
        go_wp2_with (first | (go_at_call 44; (with_reducible refine (HG.out _ (HV.out.below (by go_grown))).mono ?_); rintro e w1 ⟨rfl, b1⟩; have B1 : Below w.heap.size w w1 := chain (w := w) (by go_grown) b1; obtain ⟨c0, c1, hz⟩ := box2_kept b1) | (go_at_call 50; (with_reducible refine (HU.out _ (HV.out.below B1)).mono ?_); rintro e w2 ⟨⟨u, rfl, ⟨⟨x, y, z, rfl⟩, _⟩⟩, b2⟩))
        go_ret2
        exact ⟨ret_bb HZ.out.1.symm HZ.out.2.symm, (chain B1 b2).alloc (chain B1 b2).size _⟩
set_option maxHeartbeats 1000000 in
theorem iTellsSingle_any (xs : List Int) (m p : Int) (v : Value) (w : World) (hn : xs.length ≤ 1048576) (h : RdI xs v w) :
    Calls Tryd.prog 17 #[.agg #[v, .int .i64 m], .int .i64 p] w fun e w' => e = .returned (.tuple #[.bool (tlSA xs m p), .bool (tlSB xs m p)]) ∧ Below w.heap.size w w' := by
  have HV := Lib.hid h
  have HT := Lib.hid (fun q W hr hq => tellsAt_any xs m p q v W hn hr hq)
  obtain ⟨A, hA⟩ : ∃ A, A = tlSA xs m p := ⟨_, rfl⟩
  obtain ⟨O, hO⟩ : ∃ O, O = tlSB xs m p := ⟨_, rfl⟩
  rw [← hA, ← hO] at HT ⊢
  obtain ⟨a, cap, rfl, _⟩ := h
  clear hA hO
  go_enter Tryd.func17, Tryd.ntmps17
  go_wp2_with (go_at_call 49; (with_reducible refine (HT.out _ _ (HV.out.below (by go_grown)) (by omega)).mono ?_); rintro e w1 ⟨rfl, b1⟩)
  go_ret2
  exact ⟨rfl, chain (w := w) (by go_grown) b1⟩
set_option maxHeartbeats 2000000 in
theorem FnExactTellsSingle_law (xs : List Int) (m : Int) (v : Value) (hn : xs.length ≤ maxLen) (_hm : (Lit.int .i64 m).wf = true) (p : Int) (_hp : (Lit.int .i64 p).wf = true) (w : World) (h : RdI xs v w) :
    Calls Tryd.prog 5 #[.agg #[v, .int .i64 m], .int .i64 p] w fun e w' => e = .returned (.bool true) ∧ Below w.heap.size w w' := by
  have hnm := hn
  unfold maxLen at hn
  have HV := Lib.hid h
  have hs1 : xs.length ≤ 1048576 → ∀ u W, RdI xs u W → Calls Tryd.prog 16 #[.agg #[u, .int .i64 m], .int .i64 p] W fun e w' => e = .returned ((.tuple #[.bool (tlSA xs m p), .bool (tlSB xs m p)])) ∧ Below W.heap.size W w' := fun hn u W hr => sTellsSingle_any xs m p u W hn hr
  have hi1 : xs.length ≤ 1048576 → ∀ u W, RdI xs u W → Calls Tryd.prog 17 #[.agg #[u, .int .i64 m], .int .i64 p] W fun e w' => e = .returned ((.tuple #[.bool (tlSA xs m p), .bool (tlSB xs m p)])) ∧ Below W.heap.size W w' := fun hn u W hr => iTellsSingle_any xs m p u W hn hr
  obtain ⟨A0, hA0⟩ : ∃ A0 : Bool, A0 = tlSA xs m p := ⟨_, rfl⟩
  obtain ⟨A1, hA1⟩ : ∃ A1 : Bool, A1 = tlSB xs m p := ⟨_, rfl⟩
  rw [← hA0, ← hA1] at hs1 hi1
  have HS := Lib.hid hs1
  have HI := Lib.hid hi1
  clear h hs1 hi1 hA0 hA1
  go_enter Tryd.func5, Tryd.ntmps5
  go_wp2_with (go_at_call 9; go_must ((with_reducible refine (szCheck_any xs m v _ hnm (HV.out.below (by go_grown))).mono ?_); rintro e w1 ⟨⟨r, rfl, hr⟩, b1⟩; obtain ⟨c0, c1, hz⟩ := box2_kept b1; by_cases hr0 : r < 0))
  all_goals go_wp2_with fail
  · go_ret
    exact ⟨rfl, chain (w := w) (by go_grown) b1⟩
  · have hN := hr (by omega)
    have B1 : Below w.heap.size w w1 := chain (w := w) (by go_grown) b1
    have A1 := HV.out.below B1
    have HS' := Lib.hid (HS.out hN)
    have HI' := Lib.hid (HI.out hN)
    clear hr b1
    go_wp2_with (first
      | (go_at_call 11; (with_reducible refine (toCheck_any xs m v _ hN A1).mono ?_); rintro e w2 ⟨⟨g2, rfl, u2⟩, b2⟩; obtain ⟨d0, d1, dz⟩ := keep2 hz c0 c1 b2; have B2 := chain B1 b2)
      | (go_at_call 16; (with_reducible refine (HS'.out _ _ u2.rd).mono ?_); rintro e w3 ⟨rfl, b3⟩; obtain ⟨e0, e1, ez⟩ := keep2 dz d0 d1 b3; have B3 := chain B2 b3; have A3 := HV.out.below B3)
      | (go_at_call 11; (with_reducible refine (toCheck_any xs m v _ hN A3).mono ?_); rintro e w4 ⟨⟨g4, rfl, u4⟩, b4⟩; obtain ⟨f0, f1, fz⟩ := keep2 ez e0 e1 b4; have B4 := chain B3 b4; have u5 := u4.below ((Below.refl _ _).alloc (Nat.le_refl _) (.cells #[.slice (some ⟨g4, 0, none⟩) xs.length xs.length, .int .i64 m] 28)); have B5 : Below w.heap.size w (w4.alloc (.cells #[.slice (some ⟨g4, 0, none⟩) xs.length xs.length, .int .i64 m] 28)) := B4.alloc B4.size _)
      | (go_at_call 17; (with_reducible refine (HI'.out _ _ u5.rd).mono ?_); rintro e w6 ⟨rfl, b6⟩; obtain ⟨x0, x1, xz⟩ := box2_kept b6; obtain ⟨y0, y1, yz⟩ := keep2 fz f0 f1 (chain (w := w4) (by go_grown) b6); have B6 := chain B5 b6; have A6 := HV.out.below B6; have u6 := u5.below b6))
    go_region_with (first
      | (go_at_call 11; (with_reducible refine (toCheck_any xs m v _ hN (A6.below (by go_grown))).mono ?_); rintro e w7 ⟨⟨g7, rfl, u7⟩, b7⟩; have B7 : Below w6.heap.size w6 w7 := chain (w := w6) (by go_grown) b7; obtain ⟨z0, z1, zz⟩ := keep2 xz x0 x1 B7)
      | (go_at_call 13; (with_reducible refine (eqCheck_yes m _ _ xs _ _ _ hN (u6.below B7) u7).mono ?_); rintro e w8 ⟨rfl, b8⟩; have B8 : Below w6.heap.size w6 w8 := chain B7 b8))
    all_goals go_wp2
    all_goals
      go_ret
      exact ⟨rfl, chain B6 B8⟩
end Go.Proofs.YtleifibbdjplbaaDoor

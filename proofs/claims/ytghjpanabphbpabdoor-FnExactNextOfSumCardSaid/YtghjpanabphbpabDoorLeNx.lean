/-
  The law of NextOfSum, whose search is one with that of the least numbers.
-/
import Derived.Test.YtghjpanabphbpabDoorLeBs
import Derived.Test.YtghjpanabphbpabDoorDiOr
namespace Go.Proofs.YtghjpanabphbpabDoor
open Go.RowKit
set_option maxRecDepth 100000

/-- What NextOfSum asks. -/
def nxB (n : Int) : Bool := decide (1 ≤ n ∧ n ≤ 1000000000000)
/-- What both answer. -/
def NxIs (n h : Int) (ok : Bool) : Prop := (nxB n = true ∧ LeastIs (moB (nsum n) (uc (nsum n) n)) 1 1000000000000 h ok) ∨ (nxB n = false ∧ ok = false ∧ h = 0)
theorem NxIs.uniq {n t s : Int} {a b : Bool} (u : NxIs n t a) (v : NxIs n s b) : t = s ∧ a = b := by
  rcases u with ⟨u1, u2⟩ | ⟨u1, rfl, rfl⟩ <;> rcases v with ⟨v1, v2⟩ | ⟨v1, rfl, rfl⟩
  · exact u2.uniq v2
  · rw [u1] at v1; cases v1
  · rw [u1] at v1; cases v1
  · exact ⟨rfl, rfl⟩
theorem uc_00 {x : Int} (h0 : 0 ≤ x) (h1 : x ≤ 1000000000000) : uc 0 x = 0 := by
  obtain ⟨m, rfl⟩ : ∃ m : Nat, x = (m : Int) := ⟨x.toNat, by omega⟩
  have := uc_flat (a := 0) 0 m (by omega) (fun y h2 h3 => by have := ds_pos (n := y) h2 (by omega); omega)
  rw [Nat.zero_add] at this
  rw [this]; exact uc_zero 0
theorem iNx_any (n : Int) (w : World) (htab : Tab w) :
    Calls Tryd.prog 14 #[.int .i64 n] w fun e w' => (∃ (h : Int) (ok : Bool), e = .returned (.tuple #[.int .i64 h, .bool ok]) ∧ NxIs n h ok) ∧ Below w.heap.size w w' := by
  have hB : Calls Tryd.prog 32 #[.int .i64 n, .int .i64 1] w fun e w' => (∃ (h : Int) (ok : Bool), e = .returned (.tuple #[.int .i64 h, .bool ok]) ∧ NxIs n h ok) ∧ Below w.heap.size w w' := by
    cases hn : nuB n with
    | false =>
      refine (beside_no n 1 w hn).mono ?_
      rintro e w' ⟨rfl, b⟩
      refine ⟨⟨0, false, rfl, .inr ⟨?_, rfl, rfl⟩⟩, b⟩
      unfold nxB; rw [decide_eq_false_iff_not]
      intro h
      have := (nuB_iff n).2 ⟨by omega, h.2⟩
      rw [hn] at this; cases this
    | true =>
      obtain ⟨h1, h2⟩ := (nuB_iff n).1 hn
      obtain ⟨m, rfl⟩ : ∃ m : Nat, n = (m : Int) := ⟨n.toNat, by omega⟩
      have e1 := nsum_nat (n := m) (by omega)
      have h0 := uc_nn (ds m : Int) (n := m) (by omega)
      refine (beside_yes (m : Int) 1 w htab hn (by rw [e1]; omega) (by omega)).mono ?_
      rintro e w' ⟨⟨h, ok, rfl, hl⟩, b⟩
      rw [show uc (nsum (m : Int)) (m : Int) - 1 + 1 = uc (nsum (m : Int)) (m : Int) by omega] at hl
      refine ⟨⟨h, ok, rfl, ?_⟩, b⟩
      by_cases hm : m = 0
      · subst hm
        refine .inr ⟨by decide, ?_⟩
        have hs : nsum ((0 : Nat) : Int) = 0 := by rw [e1, ds_0]; rfl
        rw [hs] at hl
        rcases hl with ⟨_, l1, l2, l3, _⟩ | ⟨rfl, rfl, _⟩
        · exfalso
          unfold moB at l3
          rw [decide_eq_true_iff, uc_00 (by omega) (by omega), uc_00 (by omega) l2] at l3
          omega
        · exact ⟨rfl, rfl⟩
      · exact .inl ⟨by unfold nxB; rw [decide_eq_true_iff]; omega, hl⟩
  have HB := Lib.hid hB
  clear htab hB
  go_enter Tryd.func14, Tryd.ntmps14
  go_wp2_with (go_at_call 32; refine HB.out.mono ?_; rintro e w1 ⟨⟨h, ok, rfl, hl⟩, b1⟩; have HL := Lib.hid hl; clear hl)
  go_ret2
  exact ⟨⟨h, ok, rfl, HL.out⟩, b1⟩
theorem sNx_yes (n : Int) (w : World) (hb : nxB n = true) :
    Calls Tryd.prog 13 #[.int .i64 n] w fun e w' => (∃ (h : Int) (ok : Bool), e = .returned (.tuple #[.int .i64 h, .bool ok]) ∧ LeastIs (moB (nsum n) (uc (nsum n) n)) 1 1000000000000 h ok) ∧ Below w.heap.size w w' := by
  have hd : decide (1 ≤ n ∧ n ≤ 1000000000000) = true := hb
  unfold nxB at hb
  obtain ⟨h1, h2⟩ := of_decide_eq_true hb
  have hs := nsum_bd n (by omega) h2
  have HG := Lib.hid (fun W => diSum_any n W (by omega) h2)
  have HM := Lib.hid (fun W => diOfSum_any n (nsum n) W (by omega) h2 hs.1 (by omega))
  have HN := Lib.hid (fun W => diOfRank_any (nsum n) (uc (nsum n) n) W hs.1 (by omega))
  obtain ⟨u, hu⟩ : ∃ u, nsum n = u := ⟨_, rfl⟩
  obtain ⟨c, hc⟩ : ∃ c, uc u n = c := ⟨_, rfl⟩
  rw [hu] at HG HM HN
  rw [hc] at HM HN
  rw [hu, hc]
  clear hb hs hu hc
  go_enter Tryd.func13, Tryd.ntmps13
  go_wp2_with (first | (go_at_call 19; refine (in_any _ _ _ _).mono ?_; rintro e w' ⟨rfl, rfl⟩) | (go_at_call 30; refine (HG.out _).mono ?_; rintro e w1 ⟨rfl, b1⟩; first | (have B2 := chain (w := w) B1 b1) | (have B1 := b1)) | (go_at_call 31; refine (HM.out _).mono ?_; rintro e w3 ⟨rfl, b3⟩; have B3 := chain (w := w) B2 b3) | (go_at_call 29; refine (HN.out _).mono ?_; rintro e w4 ⟨⟨h, ok, rfl, hl⟩, b4⟩; have HL2 := Lib.hid hl; clear hl))
  go_ret2
  exact ⟨⟨h, ok, rfl, HL2.out⟩, chain B3 b4⟩
theorem sNx_no (n : Int) (w : World) (hb : nxB n = false) :
    Calls Tryd.prog 13 #[.int .i64 n] w fun e w' => e = .returned (.tuple #[.int .i64 0, .bool false]) ∧ Below w.heap.size w w' := by
  have hd : decide (1 ≤ n ∧ n ≤ 1000000000000) = false := hb
  clear hb
  go_enter Tryd.func13, Tryd.ntmps13
  go_wp2_with (first | (go_at_call 19; refine (in_any _ _ _ _).mono ?_; rintro e w' ⟨rfl, rfl⟩))
  go_ret2
  exact ⟨rfl, Below.refl _ _⟩
theorem sNx_any (n : Int) (w : World) :
    Calls Tryd.prog 13 #[.int .i64 n] w fun e w' => (∃ (h : Int) (ok : Bool), e = .returned (.tuple #[.int .i64 h, .bool ok]) ∧ NxIs n h ok) ∧ Below w.heap.size w w' := by
  cases hb : nxB n with
  | true =>
    refine (sNx_yes n w hb).mono ?_
    rintro e w' ⟨⟨h, ok, rfl, hl⟩, b⟩
    exact ⟨⟨h, ok, rfl, .inl ⟨hb, hl⟩⟩, b⟩
  | false =>
    refine (sNx_no n w hb).mono ?_
    rintro e w' ⟨rfl, b⟩
    exact ⟨⟨0, false, rfl, .inr ⟨hb, rfl, rfl⟩⟩, b⟩
theorem FnExactNextOfSum_law (n : Int) (_h0 : (Lit.int .i64 n).wf = true) (w : World) (htab : Tab w) :
    Calls Tryd.prog 6 #[.int .i64 n] w fun e w' => e = .returned (.bool true) ∧ Below w.heap.size w w' := by
  have HT := Lib.hid (fun W hW => iNx_any n W (htab.keep hW))
  clear htab
  go_enter Tryd.func6, Tryd.ntmps6
  go_wp2_with (first | (go_at_call 13; go_must ((with_reducible refine (sNx_any _ _).mono ?_); rintro e w1 ⟨⟨l, a, rfl, hr⟩, b1⟩; have HR := Lib.hid hr; clear hr)) | (go_at_call 14; go_must ((refine (HT.out _ b1).mono ?_); rintro e w2 ⟨⟨q, o, rfl, hq⟩, b2⟩; have e0 := (HR.out.uniq hq).1; have e1 := (HR.out.uniq hq).2; subst e0; subst e1; clear hq)))
  go_ret
  exact ⟨rfl, chain b1 b2⟩
end Go.Proofs.YtghjpanabphbpabDoor

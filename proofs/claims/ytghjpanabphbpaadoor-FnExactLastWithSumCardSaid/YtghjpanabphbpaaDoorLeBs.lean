/-
  Least numbers: the program's next and last number with the same sum.
-/
import Derived.Test.YtghjpanabphbpaaDoorLeNos
import Derived.Test.YtghjpanabphbpaaDoorLeBsM
import Derived.Test.YtghjpanabphbpaaDoorLeLeaf
namespace Go.Proofs.YtghjpanabphbpaaDoor
open Go.RowKit
set_option maxRecDepth 100000

theorem nsum_nat {n : Nat} (h : n ≤ 1000000000000) : nsum (n : Int) = (ds n : Int) := nsum_ds h
set_option maxHeartbeats 1000000 in
theorem beside_no (n t : Int) (w : World) (hn : nuB n = false) :
    Calls Tryd.prog 48 #[.int .i64 n, .int .i64 t] w fun e w' => e = .returned (.tuple #[.int .i64 0, .bool false]) ∧ Below w.heap.size w w' := by
  go_enter Tryd.func48, Tryd.ntmps48
  go_wp2_with (go_at_call 68; refine (isWritable_any _ _).mono ?_; rintro e w' ⟨rfl, rfl⟩)
  go_ret2
  exact ⟨rfl, Below.refl _ _⟩
set_option maxHeartbeats 1000000 in
theorem beside_lt (n t : Int) (w : World) (htab : Tab w) (hn : nuB n = true) (h : uc (nsum n) n - 1 + t < 0) (ht : -1 ≤ t ∧ t ≤ 1) :
    Calls Tryd.prog 48 #[.int .i64 n, .int .i64 t] w fun e w' => e = .returned (.tuple #[.int .i64 0, .bool false]) ∧ Below w.heap.size w w' := by
  obtain ⟨h1, h2⟩ := (nuB_iff n).1 hn
  obtain ⟨t1, t2⟩ := ht
  have hs := nsum_bd n h1 h2
  have hcb := uc_bd (s := nsum n) h1 h2
  have HS := Lib.hid (newSums_any w htab)
  have HG := Lib.hid (fun W hW => digitSum_any n W h1 h2 (htab.keep hW))
  have HM := Lib.hid (fun v B W hW hC => numbersOfSum_any n (nsum n) v B W h1 h2 hs.1 (by omega) hC (htab.keep hW))
  obtain ⟨u, hu⟩ : ∃ u, nsum n = u := ⟨_, rfl⟩
  rw [hu] at h hcb HG HM
  obtain ⟨c, hc⟩ : ∃ c, uc u n = c := ⟨_, rfl⟩
  rw [hc] at h hcb HM
  obtain ⟨c1, c2⟩ := hcb
  clear htab hs hu hc
  go_enter Tryd.func48, Tryd.ntmps48
  go_wp2_with (first | (go_at_call 68; refine (isWritable_any _ _).mono ?_; rintro e w' ⟨rfl, rfl⟩) | (go_at_call 69; refine HS.out.mono ?_; rintro e w1 ⟨v, rfl, hc, b1⟩; have HC := Lib.hid hc; clear hc) | (go_at_call 70; refine (HG.out _ b1).mono ?_; rintro e w2 ⟨rfl, b2⟩; have HC2 := Lib.hid (HC.out.below b2); have B2 := chain (w := w) b1 b2) | (go_at_call 71; refine (HM.out _ _ _ B2 HC2.out).mono ?_; rintro e w3 ⟨rfl, b3⟩; have B3 := chain (w := w) B2 b3))
  go_ret2
  exact ⟨rfl, B3⟩
set_option maxHeartbeats 1000000 in
theorem beside_yes (n t : Int) (w : World) (htab : Tab w) (hn : nuB n = true) (h : 0 ≤ uc (nsum n) n - 1 + t) (ht : -1 ≤ t ∧ t ≤ 1) :
    Calls Tryd.prog 48 #[.int .i64 n, .int .i64 t] w fun e w' => (∃ (h : Int) (ok : Bool), e = .returned (.tuple #[.int .i64 h, .bool ok]) ∧ LeastIs (moB (nsum n) (uc (nsum n) n - 1 + t)) 1 1000000000000 h ok) ∧ Below w.heap.size w w' := by
  obtain ⟨h1, h2⟩ := (nuB_iff n).1 hn
  obtain ⟨t1, t2⟩ := ht
  have hs := nsum_bd n h1 h2
  have hcb := uc_bd (s := nsum n) h1 h2
  have HS := Lib.hid (newSums_any w htab)
  have HG := Lib.hid (fun W hW => digitSum_any n W h1 h2 (htab.keep hW))
  have HM := Lib.hid (fun v B W hW hC => numbersOfSum_any n (nsum n) v B W h1 h2 hs.1 (by omega) hC (htab.keep hW))
  have HN := Lib.hid (fun v B W hW hC => nos_any (nsum n) (uc (nsum n) n - 1 + t) v B W hs.1 (by omega) hC (htab.keep hW))
  obtain ⟨u, hu⟩ : ∃ u, nsum n = u := ⟨_, rfl⟩
  rw [hu] at h hcb HG HM HN ⊢
  obtain ⟨c, hc⟩ : ∃ c, uc u n = c := ⟨_, rfl⟩
  rw [hc] at h hcb HM HN ⊢
  obtain ⟨c1, c2⟩ := hcb
  clear htab hs hu hc
  go_enter Tryd.func48, Tryd.ntmps48
  go_wp2_with (first | (go_at_call 68; refine (isWritable_any _ _).mono ?_; rintro e w' ⟨rfl, rfl⟩) | (go_at_call 69; refine HS.out.mono ?_; rintro e w1 ⟨v, rfl, hc, b1⟩; have HC := Lib.hid hc; clear hc) | (go_at_call 70; refine (HG.out _ b1).mono ?_; rintro e w2 ⟨rfl, b2⟩; have HC2 := Lib.hid (HC.out.below b2); have B2 := chain (w := w) b1 b2) | (go_at_call 71; refine (HM.out _ _ _ B2 HC2.out).mono ?_; rintro e w3 ⟨rfl, b3⟩; have HC3 := Lib.hid (HC2.out.below b3); have B3 := chain (w := w) B2 b3) | (go_at_call 72; refine (HN.out _ _ _ B3 HC3.out).mono ?_; rintro e w4 ⟨⟨h, ok, rfl, hl⟩, b4⟩; have HL2 := Lib.hid hl; clear hl))
  go_ret2
  exact ⟨⟨h, ok, rfl, HL2.out⟩, chain B3 b4⟩
/-- What both answer. -/
def NwIs (n h : Int) (ok : Bool) : Prop := (nuB n = true ∧ NextSum n.toNat h ok) ∨ (nuB n = false ∧ h = 0 ∧ ok = false)
def LwIs (n h : Int) (ok : Bool) : Prop := (nuB n = true ∧ LastSum n.toNat h ok) ∨ (nuB n = false ∧ h = 0 ∧ ok = false)
theorem NwIs.uniq {n h g : Int} {a b : Bool} (u : NwIs n h a) (v : NwIs n g b) : h = g ∧ a = b := by
  rcases u with ⟨u1, u2⟩ | ⟨u1, rfl, rfl⟩ <;> rcases v with ⟨v1, v2⟩ | ⟨v1, rfl, rfl⟩
  · exact u2.uniq v2
  · rw [u1] at v1; cases v1
  · rw [u1] at v1; cases v1
  · exact ⟨rfl, rfl⟩
theorem LwIs.uniq {n h g : Int} {a b : Bool} (u : LwIs n h a) (v : LwIs n g b) : h = g ∧ a = b := by
  rcases u with ⟨u1, u2⟩ | ⟨u1, rfl, rfl⟩ <;> rcases v with ⟨v1, v2⟩ | ⟨v1, rfl, rfl⟩
  · exact u2.uniq v2
  · rw [u1] at v1; cases v1
  · rw [u1] at v1; cases v1
  · exact ⟨rfl, rfl⟩
theorem nw_ex (n : Int) (w : World) (htab : Tab w) :
    Calls Tryd.prog 48 #[.int .i64 n, .int .i64 1] w fun e w' => (∃ (h : Int) (ok : Bool), e = .returned (.tuple #[.int .i64 h, .bool ok]) ∧ NwIs n h ok) ∧ Below w.heap.size w w' := by
  cases hn : nuB n with
  | false =>
    refine (beside_no n 1 w hn).mono ?_
    rintro e w' ⟨rfl, b⟩
    exact ⟨⟨0, false, rfl, .inr ⟨hn, rfl, rfl⟩⟩, b⟩
  | true =>
    obtain ⟨h1, h2⟩ := (nuB_iff n).1 hn
    obtain ⟨m, rfl⟩ : ∃ m : Nat, n = (m : Int) := ⟨n.toNat, by omega⟩
    have e1 := nsum_nat (n := m) (by omega)
    have h0 := uc_nn (ds m : Int) (n := m) (by omega)
    refine (beside_yes (m : Int) 1 w htab hn (by rw [e1]; omega) (by omega)).mono ?_
    rintro e w' ⟨⟨h, ok, rfl, hl⟩, b⟩
    refine ⟨⟨h, ok, rfl, .inl ⟨hn, ?_⟩⟩, b⟩
    rw [Int.toNat_natCast]
    exact next_of (by omega) (fun x => by unfold moB; rw [e1, show uc (ds m : Int) (m : Int) - 1 + 1 = uc (ds m : Int) (m : Int) by omega]) hl
theorem lw_ex (n : Int) (w : World) (htab : Tab w) :
    Calls Tryd.prog 48 #[.int .i64 n, .int .i64 (-1)] w fun e w' => (∃ (h : Int) (ok : Bool), e = .returned (.tuple #[.int .i64 h, .bool ok]) ∧ LwIs n h ok) ∧ Below w.heap.size w w' := by
  cases hn : nuB n with
  | false =>
    refine (beside_no n (-1) w hn).mono ?_
    rintro e w' ⟨rfl, b⟩
    exact ⟨⟨0, false, rfl, .inr ⟨hn, rfl, rfl⟩⟩, b⟩
  | true =>
    obtain ⟨h1, h2⟩ := (nuB_iff n).1 hn
    obtain ⟨m, rfl⟩ : ∃ m : Nat, n = (m : Int) := ⟨n.toNat, by omega⟩
    have e1 := nsum_nat (n := m) (by omega)
    by_cases h0 : uc (ds m : Int) m - 1 - 1 < 0
    · refine (beside_lt (m : Int) (-1) w htab hn (by rw [e1]; omega) (by omega)).mono ?_
      rintro e w' ⟨rfl, b⟩
      refine ⟨⟨0, false, rfl, .inl ⟨hn, ?_⟩⟩, b⟩
      rw [Int.toNat_natCast]
      exact last_no (by omega) h0
    · refine (beside_yes (m : Int) (-1) w htab hn (by rw [e1]; omega) (by omega)).mono ?_
      rintro e w' ⟨⟨h, ok, rfl, hl⟩, b⟩
      refine ⟨⟨h, ok, rfl, .inl ⟨hn, ?_⟩⟩, b⟩
      rw [Int.toNat_natCast]
      exact last_of (by omega) (by omega) (fun x => by unfold moB; rw [e1, show uc (ds m : Int) (m : Int) - 1 + -1 = uc (ds m : Int) (m : Int) - 1 - 1 by omega]) hl
theorem iNw_any (n : Int) (w : World) (htab : Tab w) :
    Calls Tryd.prog 21 #[.int .i64 n] w fun e w' => (∃ (h : Int) (ok : Bool), e = .returned (.tuple #[.int .i64 h, .bool ok]) ∧ NwIs n h ok) ∧ Below w.heap.size w w' := by
  have HB := Lib.hid (nw_ex n w htab)
  clear htab
  go_enter Tryd.func21, Tryd.ntmps21
  go_wp2_with (go_at_call 48; refine HB.out.mono ?_; rintro e w1 ⟨⟨h, ok, rfl, hl⟩, b1⟩; have HL := Lib.hid hl; clear hl)
  go_ret2
  exact ⟨⟨h, ok, rfl, HL.out⟩, b1⟩
theorem iLw_any (n : Int) (w : World) (htab : Tab w) :
    Calls Tryd.prog 23 #[.int .i64 n] w fun e w' => (∃ (h : Int) (ok : Bool), e = .returned (.tuple #[.int .i64 h, .bool ok]) ∧ LwIs n h ok) ∧ Below w.heap.size w w' := by
  have HB := Lib.hid (lw_ex n w htab)
  clear htab
  go_enter Tryd.func23, Tryd.ntmps23
  go_wp2_with (go_at_call 48; refine HB.out.mono ?_; rintro e w1 ⟨⟨h, ok, rfl, hl⟩, b1⟩; have HL := Lib.hid hl; clear hl)
  go_ret2
  exact ⟨⟨h, ok, rfl, HL.out⟩, b1⟩
end Go.Proofs.YtghjpanabphbpaaDoor

/-
  Least numbers: the program's next and last number with the same sum.
-/
import Derived.Test.YtghjpanabphbpabDoorLeNos
import Derived.Test.YtghjpanabphbpabDoorLeBsM
import Derived.Test.YtghjpanabphbpabDoorLeLeaf
namespace Go.Proofs.YtghjpanabphbpabDoor
open Go.RowKit
set_option maxRecDepth 100000

theorem nsum_nat {n : Nat} (h : n ≤ 1000000000000) : nsum (n : Int) = (ds n : Int) := nsum_ds h
set_option maxHeartbeats 1000000 in
theorem beside_no (n t : Int) (w : World) (hn : nuB n = false) :
    Calls Tryd.prog 32 #[.int .i64 n, .int .i64 t] w fun e w' => e = .returned (.tuple #[.int .i64 0, .bool false]) ∧ Below w.heap.size w w' := by
  go_enter Tryd.func32, Tryd.ntmps32
  go_wp2_with (go_at_call 42; refine (isWritable_any _ _).mono ?_; rintro e w' ⟨rfl, rfl⟩)
  go_ret2
  exact ⟨rfl, Below.refl _ _⟩
set_option maxHeartbeats 1000000 in
theorem beside_lt (n t : Int) (w : World) (htab : Tab w) (hn : nuB n = true) (h : uc (nsum n) n - 1 + t < 0) (ht : -1 ≤ t ∧ t ≤ 1) :
    Calls Tryd.prog 32 #[.int .i64 n, .int .i64 t] w fun e w' => e = .returned (.tuple #[.int .i64 0, .bool false]) ∧ Below w.heap.size w w' := by
  obtain ⟨h1, h2⟩ := (nuB_iff n).1 hn
  obtain ⟨t1, t2⟩ := ht
  have hs := nsum_bd n h1 h2
  have hcb := uc_bd (s := nsum n) h1 h2
  have HS := Lib.hid (newSums_any w htab)
  have HG := Lib.hid (fun W hW => digitSum_any n W h1 h2 (htab.keep hW))
  have HM := Lib.hid (fun v B W hW hC => numbersOfSum_any n (nsum n) v B W h1 h2 hs.1 (by omega) hC (htab.keep hW))
  obtain ⟨u, hu⟩ : ∃ u, nsum n = u := ⟨_, rfl⟩
  rw [hu] at h hcb HG HM
  obtain ⟨c, hc⟩ : ∃ c, uc u n = c := ⟨_, rfl⟩
  rw [hc] at h hcb HM
  obtain ⟨c1, c2⟩ := hcb
  clear htab hs hu hc
  go_enter Tryd.func32, Tryd.ntmps32
  go_wp2_with (first | (go_at_call 42; refine (isWritable_any _ _).mono ?_; rintro e w' ⟨rfl, rfl⟩) | (go_at_call 43; refine HS.out.mono ?_; rintro e w1 ⟨v, rfl, hc, b1⟩; have HC := Lib.hid hc; clear hc) | (go_at_call 28; refine (HG.out _ b1).mono ?_; rintro e w2 ⟨rfl, b2⟩; have HC2 := Lib.hid (HC.out.below b2); have B2 := chain (w := w) b1 b2) | (go_at_call 44; refine (HM.out _ _ _ B2 HC2.out).mono ?_; rintro e w3 ⟨rfl, b3⟩; have B3 := chain (w := w) B2 b3))
  go_ret2
  exact ⟨rfl, B3⟩
set_option maxHeartbeats 1000000 in
theorem beside_yes (n t : Int) (w : World) (htab : Tab w) (hn : nuB n = true) (h : 0 ≤ uc (nsum n) n - 1 + t) (ht : -1 ≤ t ∧ t ≤ 1) :
    Calls Tryd.prog 32 #[.int .i64 n, .int .i64 t] w fun e w' => (∃ (h : Int) (ok : Bool), e = .returned (.tuple #[.int .i64 h, .bool ok]) ∧ LeastIs (moB (nsum n) (uc (nsum n) n - 1 + t)) 1 1000000000000 h ok) ∧ Below w.heap.size w w' := by
  obtain ⟨h1, h2⟩ := (nuB_iff n).1 hn
  obtain ⟨t1, t2⟩ := ht
  have hs := nsum_bd n h1 h2
  have hcb := uc_bd (s := nsum n) h1 h2
  have HS := Lib.hid (newSums_any w htab)
  have HG := Lib.hid (fun W hW => digitSum_any n W h1 h2 (htab.keep hW))
  have HM := Lib.hid (fun v B W hW hC => numbersOfSum_any n (nsum n) v B W h1 h2 hs.1 (by omega) hC (htab.keep hW))
  have HN := Lib.hid (fun v B W hW hC => nos_any (nsum n) (uc (nsum n) n - 1 + t) v B W hs.1 (by omega) hC (htab.keep hW))
  obtain ⟨u, hu⟩ : ∃ u, nsum n = u := ⟨_, rfl⟩
  rw [hu] at h hcb HG HM HN ⊢
  obtain ⟨c, hc⟩ : ∃ c, uc u n = c := ⟨_, rfl⟩
  rw [hc] at h hcb HM HN ⊢
  obtain ⟨c1, c2⟩ := hcb
  clear htab hs hu hc
  go_enter Tryd.func32, Tryd.ntmps32
  go_wp2_with (first | (go_at_call 42; refine (isWritable_any _ _).mono ?_; rintro e w' ⟨rfl, rfl⟩) | (go_at_call 43; refine HS.out.mono ?_; rintro e w1 ⟨v, rfl, hc, b1⟩; have HC := Lib.hid hc; clear hc) | (go_at_call 28; refine (HG.out _ b1).mono ?_; rintro e w2 ⟨rfl, b2⟩; have HC2 := Lib.hid (HC.out.below b2); have B2 := chain (w := w) b1 b2) | (go_at_call 44; refine (HM.out _ _ _ B2 HC2.out).mono ?_; rintro e w3 ⟨rfl, b3⟩; have HC3 := Lib.hid (HC2.out.below b3); have B3 := chain (w := w) B2 b3) | (go_at_call 45; refine (HN.out _ _ _ B3 HC3.out).mono ?_; rintro e w4 ⟨⟨h, ok, rfl, hl⟩, b4⟩; have HL2 := Lib.hid hl; clear hl))
  go_ret2
  exact ⟨⟨h, ok, rfl, HL2.out⟩, chain B3 b4⟩
end Go.Proofs.YtghjpanabphbpabDoor

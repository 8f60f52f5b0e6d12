/-
  Least numbers: LeastOfDigits.
-/
import Derived.Test.YtghjpanabphbpaaDoorLeGo
import Derived.Test.YtghjpanabphbpaaDoorLeRep
namespace Go.Proofs.YtghjpanabphbpaaDoor
open Go.RowKit
set_option maxRecDepth 100000

theorem lo_eq {K s first : Nat} (hs : 1 ≤ s) (h : s ≤ 9 * (K + 1)) (hf : first = max 1 (s - 9 * K)) : first * 10 ^ K + fv (s - first) K = 10 ^ K + fv (s - 1) (K + 1) := by
  have e1 : first = 1 + ld (s - 1) K := by unfold ld; omega
  have e2 : fv (s - first) K = fv (s - 1) K := by
    rw [← fv_min (s - 1) K, ← fv_min (s - first) K]; congr 1; omega
  rw [e2, fv, e1, Nat.add_mul]; omega
/-- The least one. -/
def lo (s K : Nat) : Nat := if s = 0 then 0 else 10 ^ K + fv (s - 1) (K + 1)
theorem lo_0 (K : Nat) : lo 0 K = 0 := rfl
theorem lo_up {s : Nat} (h : 1 ≤ s) (K : Nat) : lo s K = 10 ^ K + fv (s - 1) (K + 1) := by rw [lo, if_neg (by omega)]
theorem least_any (K s : Nat) (w : World) (hK : K ≤ 11) (hs : s ≤ 108) :
    Calls Tryd.prog 44 #[.int .i64 ((K + 1 : Nat) : Int), .int .i64 s] w fun e w' => e = .returned (.int .i64 (lo s K : Nat)) ∧ Below w.heap.size w w' := by
  by_cases h0 : s = 0
  · subst h0
    rw [lo_0]
    go_enter Tryd.func44, Tryd.ntmps44
    go_wp2
    go_ret
    exact ⟨rfl, Below.refl _ _⟩
  · have h1 : 1 ≤ s := by omega
    have hr := fun W => roundOf_any K W (by omega)
    have hh := fun W => half_any (s - 1) (K + 1) (by omega) (by omega) W
    have hn := fun W => numH_any (s - 1) (K + 1) W (by omega)
    have hfv := fv_lt (s - 1) (K + 1)
    have hp := pow12 (k := K + 1) (by omega)
    have hp2 := pow12 (k := K) (by omega)
    obtain ⟨d, hd⟩ : ∃ d : Int, ((K + 1 : Nat) : Int) = d := ⟨_, rfl⟩
    rw [hd] at hh ⊢
    have hdK : (K : Int) = d - 1 := by omega
    have hs1 : ((s - 1 : Nat) : Int) = (s : Int) - 1 := by omega
    rw [hdK] at hr
    rw [hs1] at hh
    obtain ⟨x, hx⟩ : ∃ x, fv (s - 1) (K + 1) = x := ⟨_, rfl⟩
    obtain ⟨y, hy⟩ : ∃ y, 10 ^ K = y := ⟨_, rfl⟩
    have HX : Hid (((y : Int) + (x : Int)) = (lo s K : Nat)) := by show _ = _; rw [lo_up h1, hx, hy]; push_cast; rfl
    rw [hx] at hn hfv
    rw [hy] at hr hp2
    have hd0 : 1 ≤ d := by omega
    have hd1 : d ≤ 12 := by omega
    have hx9 : x ≤ 1000000000000 := by omega
    have HR := Lib.hid hr
    have HH := Lib.hid hh
    have HN := Lib.hid hn
    have hs0 : ¬ (s : Int) = 0 := by omega
    clear hr hh hn hx hy hfv hp hd hdK hs1
    go_enter Tryd.func44, Tryd.ntmps44
    go_wp2_with (first | (go_at_call 67; (with_reducible refine (HR.out _).mono ?_); rintro e w1 ⟨rfl, b1⟩) | (go_at_call 40; (with_reducible refine (HH.out _).mono ?_); rintro e w2 ⟨rfl, b2⟩) | (go_at_call 39; (with_reducible refine (HN.out _).mono ?_); rintro e w' ⟨rfl, rfl⟩))
    go_ret
    exact ⟨ret_int HX.out, chain b1 b2⟩
/-- What LeastOfDigits answers. -/
def loA (d s : Int) : Int := if ogB d s = true then (lo s.toNat (d.toNat - 1) : Nat) else 0
theorem loA_yes {d s : Int} (h : ogB d s = true) : loA d s = (lo s.toNat (d.toNat - 1) : Nat) := by rw [loA, if_pos h]
theorem loA_no {d s : Int} (h : ogB d s = false) : loA d s = 0 := by rw [loA, if_neg (by simp [h])]
theorem iLo_any (d s : Int) (w : World) :
    Calls Tryd.prog 17 #[.int .i64 d, .int .i64 s] w fun e w' => e = .returned (.tuple #[.int .i64 (loA d s), .bool (ogB d s)]) ∧ Below w.heap.size w w' := by
  cases h : ogB d s with
  | false =>
    have HD := Lib.hid (fun v W => ofDigits_no d s v W h)
    have HA := Lib.hid (loA_no h)
    clear h
    go_enter Tryd.func17, Tryd.ntmps17
    go_wp2_with (go_at_call 43; refine (HD.out _ _).mono ?_; rintro e w1 ⟨rfl, b1⟩)
    go_ret2
    exact ⟨ret_ib HA.out.symm rfl, b1⟩
  | true =>
    obtain ⟨⟨d0, d1⟩, ⟨s0, s1⟩, _⟩ := (ogB_iff d s).1 h
    have hg := fun W => least_any (d.toNat - 1) s.toNat W (by omega) (by omega)
    rw [show ((d.toNat - 1 + 1 : Nat) : Int) = d by omega, show ((s.toNat : Nat) : Int) = s by omega] at hg
    have HD := Lib.hid (fun W => ofDigits_yes d s _ 44 W h (enters_of Tryd.func44 (by kernel_rfl) rfl) hg)
    have HA := Lib.hid (loA_yes h)
    clear h hg
    go_enter Tryd.func17, Tryd.ntmps17
    go_wp2_with (go_at_call 43; refine (HD.out _).mono ?_; rintro e w1 ⟨rfl, b1⟩)
    go_ret2
    exact ⟨ret_ib HA.out.symm rfl, b1⟩
set_option maxHeartbeats 1000000 in
theorem sLo_yes (K s : Nat) (w : World) (hK : K ≤ 11) (hs : s ≤ 9 * (K + 1)) (hz : 1 ≤ s ∨ K = 0) (hog : ogB ((K + 1 : Nat) : Int) s = true) :
    Calls Tryd.prog 16 #[.int .i64 ((K + 1 : Nat) : Int), .int .i64 s] w fun e w' => e = .returned (.tuple #[.int .i64 (lo s K : Nat), .bool true]) ∧ Below w.heap.size w w' := by
  have hz := fun W => leDigits_any ((K + 1 : Nat) : Int) s W
  rw [hog] at hz
  by_cases h0 : s = 0
  · subst h0
    rw [lo_0]
    obtain ⟨d, hd⟩ : ∃ d : Int, ((K + 1 : Nat) : Int) = d := ⟨_, rfl⟩
    rw [hd] at hz ⊢
    have HZ := Lib.hid hz
    have HZ0 : Hid (∀ W, Calls Tryd.prog 41 #[.int .i64 d, .int .i64 0] W fun e w' => e = .returned (.bool true) ∧ W = w') := hz
    clear hz HZ hog
    show Calls Tryd.prog 16 #[.int .i64 d, .int .i64 0] w fun e w' => e = .returned (.tuple #[.int .i64 0, .bool true]) ∧ Below w.heap.size w w'
    go_enter Tryd.func16, Tryd.ntmps16
    go_wp2_with (go_at_call 41; (with_reducible refine (HZ0.out _).mono ?_); rintro e w' ⟨rfl, rfl⟩)
    go_ret2
    exact ⟨rfl, Below.refl _ _⟩
  · have h1 : 1 ≤ s := by omega
    obtain ⟨first, hf⟩ : ∃ first, first = max 1 (s - 9 * K) := ⟨_, rfl⟩
    have HE := Lib.hid (lo_eq h1 hs hf)
    have hf1 : 1 ≤ first := by omega
    have hf9 : first ≤ 9 := by omega
    have hfs : first ≤ s := by omega
    have hF := fun W => fillL_any K (s - first) W (by omega) (by omega)
    have hff := fv_lt (s - first) K
    have hLO := lo_up h1 K
    have hpK := pow12 (k := K) (by omega)
    obtain ⟨d, hd⟩ : ∃ d : Int, ((K + 1 : Nat) : Int) = d := ⟨_, rfl⟩
    rw [hd] at hz ⊢
    have hdK : (K : Int) = d - 1 := by omega
    rw [hdK, show ((s - first : Nat) : Int) = (s : Int) - (first : Int) by omega] at hF
    have HX : Hid (max 1 ((s : Int) - 9 * (d - 1)) = (first : Int)) := by show _ = _; rw [hf]; omega
    obtain ⟨x, hx⟩ : ∃ x, fv (s - first) K = x := ⟨_, rfl⟩
    rw [hx] at hF hff HE
    have HP : Hid (∀ j, j ≤ K → first * 10 ^ j ≤ 9000000000000) := fun j hj => by
      have a := pow12 (k := j) (by omega)
      have b := Nat.mul_le_mul hf9 a
      omega
    have HDK := Lib.hid hdK
    have HLO := Lib.hid hLO
    have HF := Lib.hid hF
    have HZ := Lib.hid hz
    have hd0 : 1 ≤ d := by omega
    have hd1 : d ≤ 12 := by omega
    have hx9 : x ≤ 1000000000000 := by omega
    have hs0 : ¬ (s : Int) = 0 := by omega
    have hs5 : (s : Int) ≤ 108 := by omega
    clear hz hF hf hx hff hLO hpK hd hdK hog h0
    go_enter Tryd.func16, Tryd.ntmps16
    go_wp2_with (first | (go_at_call 41; (with_reducible refine (HZ.out _).mono ?_); rintro e w' ⟨rfl, rfl⟩) | (go_at_call 42; (with_reducible refine (mostI_any _ _ _).mono ?_); rintro e w1 ⟨rfl, rfl⟩; rw [HX.out]))
    go_loop [7, 8] (fun nv kv => ∃ (j N : Nat) (k : Int), j ≤ K ∧ k = (j : Int) + 1 ∧ nv = .int .i64 N ∧ kv = .int .i64 k ∧ Hid (N = first * 10 ^ j)) (fun _ kv => (d - intOf kv).toNat)
    case atStart => exact ⟨0, first, 1, Nat.zero_le _, rfl, rfl, rfl, by show _ = _; simp⟩
    case round =>
      obtain ⟨j, N, k, hj, hk, rfl, rfl, HN⟩ := hrel
      have hN := HP.out j hj
      rw [← HN.out] at hN
      have hKd := HDK.out
      by_cases hlt : k < d
      · have hk0 : 0 ≤ k := by omega
        have HN' : Hid (N * 10 = first * 10 ^ (j + 1)) := by show _ = _; rw [HN.out, Nat.pow_succ, Nat.mul_assoc]
        have hN' := HP.out (j + 1) (by omega)
        rw [← HN'.out] at hN'
        have HK := Lib.hid hk
        have HJ : Hid (j + 1 ≤ K) := by show _ ≤ _; omega
        clear hk hKd
        go_wp2
        go_round
        case rel => exact ⟨j + 1, N * 10, _, HJ.out, by have := HK.out; omega, val_int (by omega), rfl, HN'⟩
        case measure => simp [intOf]; omega
      · have hjK : j = K := by omega
        have HR : Hid ((N : Int) + (x : Int) = (lo s K : Nat)) := by show _ = _; rw [HLO.out, ← HE.out, HN.out, hjK]; push_cast; rfl
        clear hk hKd
        go_wp2_with (go_at_call 37; (with_reducible refine (HF.out _).mono ?_); rintro e w' ⟨rfl, rfl⟩)
        go_ret2
        exact ⟨ret_ib HR.out rfl, Below.refl _ _⟩
theorem sLo_any (d s : Int) (w : World) :
    Calls Tryd.prog 16 #[.int .i64 d, .int .i64 s] w fun e w' => e = .returned (.tuple #[.int .i64 (loA d s), .bool (ogB d s)]) ∧ Below w.heap.size w w' := by
  cases h : ogB d s with
  | false =>
    have hz := fun W => leDigits_any d s W
    rw [h] at hz
    have HZ := Lib.hid hz
    have HA := Lib.hid (loA_no h)
    clear h hz
    go_enter Tryd.func16, Tryd.ntmps16
    go_wp2_with (go_at_call 41; (with_reducible refine (HZ.out _).mono ?_); rintro e w' ⟨rfl, rfl⟩)
    go_ret2
    exact ⟨ret_ib HA.out.symm rfl, Below.refl _ _⟩
  | true =>
    obtain ⟨⟨d0, d1⟩, ⟨s0, s1⟩, s9, hz⟩ := (ogB_iff d s).1 h
    have e1 : ((d.toNat - 1 + 1 : Nat) : Int) = d := by omega
    have e2 : ((s.toNat : Nat) : Int) = s := by omega
    have := sLo_yes (d.toNat - 1) s.toNat w (by omega) (by omega) (by omega) (by rw [e1, e2]; exact h)
    rw [e1, e2] at this
    rw [loA_yes h]; exact this
theorem FnExactLeastOfDigits_law (d s : Int) (_h0 : (Lit.int .i64 d).wf = true) (_h1 : (Lit.int .i64 s).wf = true) (w : World) :
    Calls Tryd.prog 4 #[.int .i64 d, .int .i64 s] w fun e w' => e = .returned (.bool true) ∧ Below w.heap.size w w' := by
  have hs1 : ∀ W, Calls Tryd.prog 16 #[.int .i64 d, .int .i64 s] W fun e w' => e = .returned (.tuple #[.int .i64 (loA d s), .bool (ogB d s)]) ∧ Below W.heap.size W w' := fun W => sLo_any d s W
  have hi1 : ∀ W, Calls Tryd.prog 17 #[.int .i64 d, .int .i64 s] W fun e w' => e = .returned (.tuple #[.int .i64 (loA d s), .bool (ogB d s)]) ∧ Below W.heap.size W w' := fun W => iLo_any d s W
  obtain ⟨A0, hA0⟩ : ∃ A0 : Int, A0 = loA d s := ⟨_, rfl⟩
  obtain ⟨A1, hA1⟩ : ∃ A1 : Bool, A1 = ogB d s := ⟨_, rfl⟩
  rw [← hA0, ← hA1] at hs1 hi1
  have HS := Lib.hid hs1
  have HI := Lib.hid hi1
  clear hs1 hi1 hA0 hA1
  go_enter Tryd.func4, Tryd.ntmps4
  go_wp2_with (first | (go_at_call 16; (with_reducible refine (HS.out _).mono ?_); rintro e w1 ⟨rfl, b1⟩) | (go_at_call 17; (with_reducible refine (HI.out _).mono ?_); rintro e w2 ⟨rfl, b2⟩))
  go_ret
  exact ⟨rfl, chain b1 b2⟩
end Go.Proofs.YtghjpanabphbpaaDoor

/-
  Least numbers: LeastBoth of both sides, and its law.
-/
import Derived.Test.YtghjpanabphbpabDoorLeNum
import Derived.Test.YtghjpanabphbpabDoorLeLb
namespace Go.Proofs.YtghjpanabphbpabDoor
open Go.RowKit
set_option maxRecDepth 100000

theorem itoaD (u : Nat) (w : World) (h9 : u ≤ 9) :
    Calls Tryd.prog 35 #[.int .i64 u] w fun e w' => e = .returned (.string ⟨(tx [u]).toArray⟩) ∧ w = w' := by
  refine (Tryd.strconv_Itoa_small u (by omega) w).mono ?_
  rintro e w' ⟨rfl, rfl⟩
  exact ⟨by rw [dec_small (by omega)]; rfl, rfl⟩
/-- The text of what is found. -/
def lbT (o : Option (List Nat)) : List UInt8 := match o with | some l => tx l | none => []
theorem lbT_len {k d : Nat} {s : Int} {p : Nat} (hd : d ≤ 10) : (lbT (lb k d s p)).length ≤ k := by
  cases e : lb k d s p with
  | none => simp [lbT]
  | some l => have := (lb_sum hd e).2.2.1; simp [lbT, tx_len]; omega
theorem KD_bd {k d : Nat} (hk : k ≤ 12) (hd : d ≤ 10) : 0 ≤ (k : Int) * (d : Int) ∧ (k : Int) * (d : Int) ≤ 120 := by
  have h : k * d ≤ 12 * 10 := Nat.mul_le_mul hk hd
  have e : ((k * d : Nat) : Int) = (k : Int) * (d : Int) := by push_cast; rfl
  omega
set_option maxHeartbeats 2000000 in
theorem iBoth_any (k : Nat) : ∀ (d : Nat) (s : Int) (p : Nat) (w : World), k ≤ 12 → 1 ≤ d → d ≤ 9 → -1000 + 10 * (k : Int) ≤ s → s ≤ 108 → 1 ≤ p → p ≤ 1000000000000 →
    Calls Tryd.prog 23 #[.int .i64 k, .int .i64 d, .int .i64 s, .int .i64 p] w fun e w' => e = .returned (.tuple #[.string ⟨(lbT (lb k d s p)).toArray⟩, .bool (lb k d s p).isSome]) ∧ w = w' := by
  induction k with
  | zero =>
    intro d s p w _ hd1 hd9 hs0 hs1 hp1 hp2
    by_cases h1 : s = 0
    · subst h1
      by_cases h2 : p = 1
      · subst h2
        have HE : Hid (lb 0 d 0 1 = some []) := by show _ = _; rw [lb_0]; rfl
        rw [HE.out]
        go_enter Tryd.func23, Tryd.ntmps23
        go_wp2
        go_ret2
        exact ⟨rfl, rfl⟩
      · have HE : Hid (lb 0 d 0 p = none) := by show _ = _; rw [lb_0, if_neg (fun h => h2 h.2)]
        rw [HE.out]
        have h2' : ((p : Int) == 1) = false := by simp; omega
        clear h2
        go_enter Tryd.func23, Tryd.ntmps23
        go_wp2
        go_ret2
        exact ⟨rfl, rfl⟩
    · have HE : Hid (lb 0 d s p = none) := by show _ = _; rw [lb_0, if_neg (fun h => h1 h.1)]
      rw [HE.out]
      have h1' : (s == 0) = false := by simpa using h1
      clear h1
      go_enter Tryd.func23, Tryd.ntmps23
      go_wp2
      go_ret2
      exact ⟨rfl, rfl⟩
  | succ k ih =>
    intro d s p w hk hd1 hd9 hs0 hs1 hp1 hp2
    have hkd := KD_bd hk (show d ≤ 10 by omega)
    have HIH : Hid (∀ (e : Nat) (x y z : Int) (q : Nat) (W : World), x = (k : Int) → y = s - (e : Int) → z = (q : Int) → 1 ≤ e → e ≤ 9 → 1 ≤ q → q ≤ 1000000000000 → Calls Tryd.prog 23 #[.int .i64 x, .int .i64 e, .int .i64 y, .int .i64 z] W fun e2 w' => e2 = .returned (.tuple #[.string ⟨(lbT (lb k e (s - (e : Int)) q)).toArray⟩, .bool (lb k e (s - (e : Int)) q).isSome]) ∧ W = w') := fun e x y z q W hx hy hz he1 he9 hq1 hq2 => by
      subst hx hy hz
      exact ih e _ q W (by omega) he1 he9 (by omega) (by omega) hq1 hq2
    clear ih
    obtain ⟨K, hK⟩ : ∃ K : Nat, k + 1 = K := ⟨_, rfl⟩
    have hKi : (k : Int) + 1 = (K : Int) := by omega
    rw [hK] at hkd hk
    have HKK := Lib.hid hK
    have HKi : Hid ((K : Int) - 1 = (k : Int)) := by show _ = _; omega
    by_cases c1 : s < (K : Int) * (d : Int)
    · have HE : Hid (lb (k + 1) d s p = none) := lb_low (by omega) (by rw [Int.mul_comm, show ((k + 1 : Nat) : Int) = (K : Int) by omega]; exact c1)
      rw [HE.out]
      rw [hK]
      have hK1 : ((K : Int) == 0) = false := by simp; omega
      clear HIH hK hKi
      go_enter Tryd.func23, Tryd.ntmps23
      go_wp2
      go_ret2
      exact ⟨rfl, rfl⟩
    · by_cases c2 : 9 * (K : Int) < s
      · have HE : Hid (lb (k + 1) d s p = none) := lb_high (by omega) (by rw [show ((k + 1 : Nat) : Int) = (K : Int) by omega]; exact c2)
        rw [HE.out]
        rw [hK]
        have hK1 : ((K : Int) == 0) = false := by simp; omega
        clear HIH hK hKi
        go_enter Tryd.func23, Tryd.ntmps23
        go_wp2
        go_ret2
        exact ⟨rfl, rfl⟩
      · have hK1 : ((K : Int) == 0) = false := by simp; omega
        have HL0 := Lib.hid (lb_go k d s p (10 - d) rfl)
        obtain ⟨o, ho⟩ : ∃ o, lb (k + 1) d s p = o := ⟨_, rfl⟩
        rw [ho] at HL0 ⊢
        rw [hK]
        have hs2 : 0 ≤ s := by
          have := hkd.1
          omega
        clear hK hKi ho
        go_enter Tryd.func23, Tryd.ntmps23
        go_wp2
        go_loop [10] (fun ev => ∃ e m : Nat, ev = .int .i64 e ∧ 1 ≤ e ∧ e + m = 10 ∧ Hid (o = lgo (lb k) s p m e)) (fun ev => (10 - intOf ev).toNat)
        case atStart => exact ⟨d, 10 - d, rfl, hd1, by omega, HL0⟩
        case round =>
          obtain ⟨e, m, rfl, he1, hem, HO⟩ := hrel
          cases m with
          | zero =>
            have he10 : e = 10 := by omega
            have HR : Hid (o = none) := by show _ = _; rw [HO.out, lgo_0]
            have hge : ¬ (e : Int) ≤ 9 := by omega
            have HR2 : Hid ((⟨#[]⟩ : ByteArray) = ⟨(lbT o).toArray⟩ ∧ false = o.isSome) := by rw [HR.out]; exact ⟨rfl, rfl⟩
            clear HL0 HO he10 HR
            go_wp2
            go_ret2
            exact ⟨ret_sb HR2.out.1 HR2.out.2, rfl⟩
          | succ m =>
            have he9 : e ≤ 9 := by omega
            have he0 : (e : Int) ≠ 0 := by omega
            have g1 := Int.emod_nonneg (p : Int) he0
            have g2 := Int.emod_lt_of_pos (p : Int) (show 0 < (e : Int) by omega)
            by_cases hm : p % e = 0
            · have hne : ((p : Int) % (e : Int) != 0) = false := by
                have : (p : Int) % (e : Int) = ((p % e : Nat) : Int) := by push_cast; rfl
                simp [this, hm]
              have hq1 : 1 ≤ p / e := by
                have := Nat.div_add_mod p e
                rcases Nat.eq_zero_or_pos (p / e) with h | h
                · rw [h] at this; omega
                · exact h
              have hq2 : p / e ≤ 1000000000000 := Nat.le_trans (Nat.div_le_self _ _) hp2
              have HQ : Hid ((p : Int) / (e : Int) = ((p / e : Nat) : Int)) := by show _ = _; push_cast; rfl
              have q0 : 0 ≤ (p : Int) / (e : Int) := by rw [HQ.out]; omega
              have q1 : (p : Int) / (e : Int) ≤ 1000000000000 := by rw [HQ.out]; omega
              have HC := Lib.hid (fun W => HIH.out e ((K : Int) - 1) (s - (e : Int)) ((p : Int) / (e : Int)) (p / e) W HKi.out rfl HQ.out he1 he9 hq1 hq2)
              have hlen := lbT_len (k := k) (d := e) (s := s - (e : Int)) (p := p / e) (by omega)
              cases hr : lb k e (s - (e : Int)) (p / e) with
              | none =>
                have HO' : Hid (o = lgo (lb k) s p m (e + 1)) := by show _ = _; rw [HO.out, lgo_no hm hr]
                rw [hr] at HC
                clear hr hlen HO HL0 hm hq1 hq2
                go_wp2_with (go_at_call 23; (with_reducible refine (HC.out _).mono ?_); rintro e2 w' ⟨rfl, rfl⟩)
                go_round
                case rel => exact ⟨e + 1, m, by go_num, by omega, by omega, HO'⟩
                case measure => simp [intOf]; omega
              | some l =>
                have HO' : Hid (o = some (e :: l)) := by show _ = _; rw [HO.out, lgo_yes hm hr]
                rw [hr] at HC hlen
                have HO2 : Hid (true = o.isSome) := by show _ = _; rw [HO'.out]; rfl
                have hl12 : (tx l).length ≤ 12 := by have := HKi.out; simp only [lbT] at hlen; omega
                have HT := Lib.hid (fun W => itoaD e W he9)
                have HX : Hid ((⟨(tx [e]).toArray⟩ : ByteArray) ++ ⟨(tx l).toArray⟩ = ⟨(lbT o).toArray⟩) := by show _ = _; rw [HO'.out, str_two]; rfl
                have hs1 : (⟨(tx [e]).toArray⟩ : ByteArray).size = 1 := rfl
                have hs2 : (⟨(tx l).toArray⟩ : ByteArray).size ≤ 12 := by rw [sz_of]; exact hl12
                have HC2 : Hid (∀ W, Calls Tryd.prog 23 #[.int .i64 ((K : Int) - 1), .int .i64 e, .int .i64 (s - (e : Int)), .int .i64 ((p : Int) / (e : Int))] W fun e2 w' => e2 = .returned (.tuple #[.string ⟨(tx l).toArray⟩, .bool true]) ∧ W = w') := HC.out
                obtain ⟨t1, ht1⟩ : ∃ t1, (⟨(tx [e]).toArray⟩ : ByteArray) = t1 := ⟨_, rfl⟩
                obtain ⟨t2, ht2⟩ : ∃ t2, (⟨(tx l).toArray⟩ : ByteArray) = t2 := ⟨_, rfl⟩
                rw [ht1] at HT HX hs1
                rw [ht2] at HC2 HX hs2
                clear hr hlen HO HL0 hm hq1 hq2 HC hl12 ht1 ht2 HO'
                go_wp2_with (first | (go_at_call 23; (with_reducible refine (HC2.out _).mono ?_); rintro e2 w' ⟨rfl, rfl⟩) | (go_at_call 35; (with_reducible refine (HT.out _).mono ?_); rintro e2 w' ⟨rfl, rfl⟩))
                go_ret2
                exact ⟨ret_sb HX.out HO2.out, rfl⟩
            · have hne : ((p : Int) % (e : Int) != 0) = true := by
                have : (p : Int) % (e : Int) = ((p % e : Nat) : Int) := by push_cast; rfl
                rw [this]; simp; omega
              have HO' : Hid (o = lgo (lb k) s p m (e + 1)) := by show _ = _; rw [HO.out, lgo_skip hm]
              clear HO HL0 hm
              go_wp2
              go_round
              case rel => exact ⟨e + 1, m, by go_num, by omega, by omega, HO'⟩
              case measure => simp [intOf]; omega
end Go.Proofs.YtghjpanabphbpabDoor

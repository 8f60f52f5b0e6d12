/-
  Least numbers: the model's next and last number with the same sum; the laws.
-/
import Derived.Test.YtghjpanabphbpaaDoorLeBs
import Derived.Test.YtghjpanabphbpaaDoorLeFill
namespace Go.Proofs.YtghjpanabphbpaaDoor
open Go.RowKit
set_option maxRecDepth 100000

theorem quo_mul {n P : Nat} (hP : 1 ≤ P) (hP2 : P ≤ 1000000000000) (hn : n ≤ 1000000000000) : 0 ≤ ((n : Int) / (P : Int) + 1) * (P : Int) ∧ ((n : Int) / (P : Int) + 1) * (P : Int) ≤ 2000000000000 ∧ -1000000000000 ≤ ((n : Int) / (P : Int) - 1) * (P : Int) ∧ ((n : Int) / (P : Int) - 1) * (P : Int) ≤ 2000000000000 := by
  have h1 := Nat.div_mul_le_self n P
  have e1 : ((n : Int) / (P : Int) + 1) * (P : Int) = ((n / P * P + P : Nat) : Int) := by rw [Int.add_mul]; push_cast; omega
  have e2 : ((n : Int) / (P : Int) - 1) * (P : Int) = ((n / P * P : Nat) : Int) - (P : Int) := by rw [Int.sub_mul]; push_cast; omega
  rw [e1, e2]; omega
/-- What the model's search answers, forward. -/
def NearN (n : Nat) (h : Int) (ok : Bool) : Prop :=
  (ok = true ∧ 0 ≤ h ∧ h ≤ 10000000000000 ∧ (h ≤ 1000000000000 → NextSum n h true) ∧ (1000000000000 < h → NextSum n 0 false)) ∨ (ok = false ∧ h = 0 ∧ NextSum n 0 false)
set_option maxHeartbeats 2000000 in
theorem nearN_any (n : Nat) (w : World) (hn : n ≤ 1000000000000) :
    Calls Tryd.prog 47 #[.int .i64 n, .bool true] w fun e w' => (∃ (h : Int) (ok : Bool), e = .returned (.tuple #[.int .i64 h, .bool ok]) ∧ NearN n h ok) ∧ Below w.heap.size w w' := by
  go_enter Tryd.func47, Tryd.ntmps47
  go_wp2
  go_loopw [6, 7, 8] (fun rv pv kv wr => ∃ p r P : Nat, p ≤ 13 ∧ kv = .int .i64 p ∧ rv = .int .i64 r ∧ pv = .int .i64 P ∧ Hid (P = 10 ^ p ∧ r = dsk p (n % 10 ^ p)) ∧ Hid (Mx n p) ∧ Below w.heap.size w wr) (fun _ _ kv _ => 13 - (intOf kv).toNat)
  case atStart => exact ⟨0, 0, 1, Nat.zero_le _, rfl, rfl, rfl, ⟨rfl, rfl⟩, Mx_0 n, Below.refl _ _⟩
  case round =>
    obtain ⟨p, r, P, hp, rfl, rfl, rfl, HK, HM, hbl⟩ := hrel
    obtain ⟨wo, rfl⟩ : ∃ wo : World, wo = wr := ⟨_, rfl⟩
    by_cases hp13 : p = 13
    · subst hp13
      have HR : Hid (NearN n 0 false) := .inr ⟨rfl, rfl, model_next_no hn HM.out⟩
      go_wp2
      go_ret2
      first | exact ⟨⟨0, false, rfl, HR.out⟩, hbl⟩ | exact ⟨⟨0, .inr ⟨rfl, HR.out⟩⟩, hbl⟩ | exact ⟨HR.out, hbl⟩
    · have hp12 : p < 13 := by omega
      have hpi : (p : Int) ≤ 12 := by omega
      have hP1 : 1 ≤ P := by rw [HK.out.1]; exact pow_p p
      have hP2 : P ≤ 1000000000000 := by rw [HK.out.1]; exact pow12 (by omega)
      have hP0 : (P : Int) ≠ 0 := by omega
      have hr9 : r ≤ 9 * p := by rw [HK.out.2]; exact dsk_le p _ (Nat.mod_lt _ (pow_p p))
      obtain ⟨z1, z2, z3, z4⟩ := quo_mul hP1 hP2 hn
      have q0 : 0 ≤ (n : Int) / (P : Int) := Int.ediv_nonneg (by omega) (by omega)
      have q1 : (n : Int) / (P : Int) ≤ 1000000000000 := Int.le_trans (Int.ediv_le_self _ (by omega)) (by omega)
      have d0 : 0 ≤ (n : Int) / (P : Int) % 10 := Int.emod_nonneg _ (by decide)
      have d1 : (n : Int) / (P : Int) % 10 ≤ 9 := by have := Int.emod_lt_of_pos ((n : Int) / (P : Int)) (show (0 : Int) < 10 by decide); omega
      have HD : Hid ((n : Int) / (P : Int) % 10 = ((n / 10 ^ p % 10 : Nat) : Int)) := by show _ = _; rw [HK.out.1]; push_cast; rfl
      by_cases h9 : (n : Int) / (P : Int) % 10 < 9 ∧ 0 < (r : Int)
      · obtain ⟨h9, hr0⟩ := h9
        have hmm := model_next hp12 hn HM.out (by have := HD.out; omega) (by have := HK.out.2; omega)
        rw [← HK.out.1] at hmm
        rw [HK.out.1, ← HK.out.2, ← HK.out.1] at hmm
        have hfl := fv_lt (r - 1) p
        have hpw := pow12 (k := p) (by omega)
        have hf := fun W => fillL_any p (r - 1) W (by omega) (by omega)
        rw [show ((r - 1 : Nat) : Int) = (r : Int) - 1 by omega] at hf
        have HF := Lib.hid hf
        obtain ⟨x, hx⟩ : ∃ x, fv (r - 1) p = x := ⟨_, rfl⟩
        rw [hx] at hmm hfl HF
        have hx12 : x ≤ 1000000000000 := by omega
        have HE : Hid (((n : Int) / (P : Int) + 1) * (P : Int) + (x : Int) = (((n / P + 1) * P + x : Nat) : Int)) := by show _ = _; push_cast; rfl
        have HR : Hid (NearN n (((n : Int) / (P : Int) + 1) * (P : Int) + (x : Int)) true) := by
          refine .inl ⟨rfl, by omega, by omega, fun h => ?_, fun h => ?_⟩
          · rw [HE.out] at h ⊢; exact hmm.1 (by omega)
          · rw [HE.out] at h; exact hmm.2 (by omega)
        clear hmm hf hx hfl hpw HE HM HD
        have hP0' : ((P : Int) = 0) = False := eq_false hP0
        have hP1' : (P = 0) = False := eq_false (by omega)
        go_wp2
        go_quiet ((go_at_call 37; refine (HF.out _).mono ?_; rintro e w' ⟨rfl, rfl⟩; exact ⟨rfl, _, rfl⟩))
        go_wp2
        go_ret2
        first | exact ⟨⟨_, true, rfl, HR.out⟩, below_drewN hbl _⟩ | exact ⟨⟨_, .inr ⟨rfl, HR.out⟩⟩, below_drewN hbl _⟩ | exact ⟨HR.out, below_drewN hbl _⟩
      · have HM' : Hid (Mx n (p + 1)) := Mx_up HM.out (by have := HD.out; have := HK.out.2; omega)
        have HK' : Hid (P * 10 = 10 ^ (p + 1) ∧ r + (n / 10 ^ p % 10) = dsk (p + 1) (n % 10 ^ (p + 1))) := ⟨by rw [HK.out.1, Nat.pow_succ], by rw [dsk_up, ← HK.out.2]; omega⟩
        have HD2 : Hid ((r : Int) + (n : Int) / (P : Int) % 10 = ((r + (n / 10 ^ p % 10) : Nat) : Int)) := by show _ = _; rw [HD.out]; push_cast; rfl
        rcases Int.lt_or_le ((n : Int) / (P : Int) % 10) 9 with g1 | g1
        · have g2 : ¬ (0 : Int) < (r : Int) := fun h => h9 ⟨g1, h⟩
          have hr0 : r = 0 := by omega
          clear h9 HM HK HD g2
          subst hr0
          go_wp2
          go_roundw
          case rel => exact ⟨p + 1, _, P * 10, by omega, by go_num, val_int (by have := HD2.out; simpa using this), val_int (by omega), HK', HM', hbl⟩
          case measure => simp [intOf]; omega
        · have g3 : ¬ (n : Int) / (P : Int) % 10 < 9 := by omega
          clear h9 HM HK HD
          go_wp2
          go_roundw
          case rel => exact ⟨p + 1, _, P * 10, by omega, by go_num, val_int HD2.out, val_int (by omega), HK', HM', hbl⟩
          case measure => simp [intOf]; omega
set_option maxHeartbeats 2000000 in
theorem nearL_any (n : Nat) (w : World) (hn : n ≤ 1000000000000) :
    Calls Tryd.prog 47 #[.int .i64 n, .bool false] w fun e w' => (∃ (h : Int) (ok : Bool), e = .returned (.tuple #[.int .i64 h, .bool ok]) ∧ LastSum n h ok) ∧ Below w.heap.size w w' := by
  go_enter Tryd.func47, Tryd.ntmps47
  go_wp2
  go_loopw [6, 7, 8] (fun rv pv kv wr => ∃ p r P : Nat, p ≤ 13 ∧ kv = .int .i64 p ∧ rv = .int .i64 r ∧ pv = .int .i64 P ∧ Hid (P = 10 ^ p ∧ r = dsk p (n % 10 ^ p)) ∧ Hid (Mn n p) ∧ Below w.heap.size w wr) (fun _ _ kv _ => 13 - (intOf kv).toNat)
  case atStart => exact ⟨0, 0, 1, Nat.zero_le _, rfl, rfl, rfl, ⟨rfl, rfl⟩, Mn_0 n, Below.refl _ _⟩
  case round =>
    obtain ⟨p, r, P, hp, rfl, rfl, rfl, HK, HM, hbl⟩ := hrel
    obtain ⟨wo, rfl⟩ : ∃ wo : World, wo = wr := ⟨_, rfl⟩
    by_cases hp13 : p = 13
    · subst hp13
      have HR : Hid (LastSum n 0 false) := model_last_no hn HM.out
      go_wp2
      go_ret2
      first | exact ⟨⟨0, false, rfl, HR.out⟩, hbl⟩ | exact ⟨HR.out, hbl⟩
    · have hp12 : p < 13 := by omega
      have hpi : (p : Int) ≤ 12 := by omega
      have hP1 : 1 ≤ P := by rw [HK.out.1]; exact pow_p p
      have hP2 : P ≤ 1000000000000 := by rw [HK.out.1]; exact pow12 (by omega)
      have hP0 : (P : Int) ≠ 0 := by omega
      have hr9 : r ≤ 9 * p := by rw [HK.out.2]; exact dsk_le p _ (Nat.mod_lt _ (pow_p p))
      obtain ⟨z1, z2, z3, z4⟩ := quo_mul hP1 hP2 hn
      have q0 : 0 ≤ (n : Int) / (P : Int) := Int.ediv_nonneg (by omega) (by omega)
      have q1 : (n : Int) / (P : Int) ≤ 1000000000000 := Int.le_trans (Int.ediv_le_self _ (by omega)) (by omega)
      have d0 : 0 ≤ (n : Int) / (P : Int) % 10 := Int.emod_nonneg _ (by decide)
      have d1 : (n : Int) / (P : Int) % 10 ≤ 9 := by have := Int.emod_lt_of_pos ((n : Int) / (P : Int)) (show (0 : Int) < 10 by decide); omega
      have HD : Hid ((n : Int) / (P : Int) % 10 = ((n / 10 ^ p % 10 : Nat) : Int)) := by show _ = _; rw [HK.out.1]; push_cast; rfl
      by_cases h9 : 0 < (n : Int) / (P : Int) % 10 ∧ (r : Int) < 9 * (p : Int)
      · obtain ⟨h9, hr0⟩ := h9
        have hmm := model_last hp12 hn HM.out (by have := HD.out; omega) (by have := HK.out.2; omega)
        rw [← HK.out.1] at hmm
        rw [HK.out.1, ← HK.out.2, ← HK.out.1] at hmm
        have hqp : 1 ≤ n / P := by
          have := HD.out
          rw [← HK.out.1] at this
          rcases Nat.eq_zero_or_pos (n / P) with e | e
          · rw [e] at this; simp at this; omega
          · exact e
        have hfl := gv_lt p (r + 1)
        have hpw := pow12 (k := p) (by omega)
        have hf := fun W => fillG_any p (r + 1) W (by omega) (by omega)
        rw [show ((r + 1 : Nat) : Int) = (r : Int) + 1 by omega] at hf
        have HF := Lib.hid hf
        obtain ⟨x, hx⟩ : ∃ x, gv (r + 1) p = x := ⟨_, rfl⟩
        rw [hx] at hmm hfl HF
        have hx12 : x ≤ 1000000000000 := by omega
        have HE : Hid (((n : Int) / (P : Int) - 1) * (P : Int) + (x : Int) = (((n / P - 1) * P + x : Nat) : Int)) := by
          show _ = _
          have : ((n : Int) / (P : Int) - 1) = ((n / P - 1 : Nat) : Int) := by
            have : ((n / P : Nat) : Int) = (n : Int) / (P : Int) := by push_cast; rfl
            omega
          rw [this]; push_cast; rfl
        have HR : Hid (LastSum n (((n : Int) / (P : Int) - 1) * (P : Int) + (x : Int)) true) := by
          show LastSum _ _ _
          rw [HE.out]; exact hmm
        clear hmm hf hx hfl hpw HE HM HD hqp
        have hP0' : ((P : Int) = 0) = False := eq_false hP0
        have hP1' : (P = 0) = False := eq_false (by omega)
        go_wp2
        go_quiet ((go_at_call 37; refine (HF.out _).mono ?_; rintro e w' ⟨rfl, rfl⟩; exact ⟨rfl, _, rfl⟩))
        go_wp2
        go_ret2
        first | exact ⟨⟨_, true, rfl, HR.out⟩, below_drewN hbl _⟩ | exact ⟨HR.out, below_drewN hbl _⟩
      · have HM' : Hid (Mn n (p + 1)) := Mn_up HM.out (by have := HD.out; have := HK.out.2; omega)
        have HK' : Hid (P * 10 = 10 ^ (p + 1) ∧ r + (n / 10 ^ p % 10) = dsk (p + 1) (n % 10 ^ (p + 1))) := ⟨by rw [HK.out.1, Nat.pow_succ], by rw [dsk_up, ← HK.out.2]; omega⟩
        have HD2 : Hid ((r : Int) + (n : Int) / (P : Int) % 10 = ((r + (n / 10 ^ p % 10) : Nat) : Int)) := by show _ = _; rw [HD.out]; push_cast; rfl
        rcases Int.lt_or_le 0 ((n : Int) / (P : Int) % 10) with g1 | g1
        · have g2 : ¬ (r : Int) < 9 * (p : Int) := fun h => h9 ⟨g1, h⟩
          clear h9 HM HK HD
          go_wp2
          go_roundw
          case rel => exact ⟨p + 1, _, P * 10, by omega, by go_num, val_int HD2.out, val_int (by omega), HK', HM', hbl⟩
          case measure => simp [intOf]; omega
        · have g3 : ¬ 0 < (n : Int) / (P : Int) % 10 := by omega
          clear h9 HM HK HD
          go_wp2
          go_roundw
          case rel => exact ⟨p + 1, _, P * 10, by omega, by go_num, val_int HD2.out, val_int (by omega), HK', HM', hbl⟩
          case measure => simp [intOf]; omega
theorem sNw_any (n : Int) (w : World) :
    Calls Tryd.prog 20 #[.int .i64 n] w fun e w' => (∃ (h : Int) (ok : Bool), e = .returned (.tuple #[.int .i64 h, .bool ok]) ∧ NwIs n h ok) ∧ Below w.heap.size w w' := by
  have HZ := Lib.hid (fun W => leNumber_any n W)
  cases hn : nuB n with
  | false =>
    have HR : Hid (NwIs n 0 false) := .inr ⟨hn, rfl, rfl⟩
    rw [hn] at HZ
    clear hn
    go_enter Tryd.func20, Tryd.ntmps20
    go_wp2_with (go_at_call 46; (with_reducible refine (HZ.out _).mono ?_); rintro e w' ⟨rfl, rfl⟩)
    go_ret2
    exact ⟨⟨0, false, rfl, HR.out⟩, Below.refl _ _⟩
  | true =>
    obtain ⟨h1, h2⟩ := (nuB_iff n).1 hn
    obtain ⟨m, rfl⟩ : ∃ m : Nat, n = (m : Int) := ⟨n.toNat, by omega⟩
    have HN := Lib.hid (fun W => nearN_any m W (by omega))
    have HG : Hid (∀ (h : Int) (ok : Bool), NextSum m h ok → NwIs (m : Int) h ok) := fun h ok u => .inl ⟨hn, by rw [Int.toNat_natCast]; exact u⟩
    rw [hn] at HZ
    clear hn h1 h2
    go_enter Tryd.func20, Tryd.ntmps20
    go_wp2_with (first | (go_at_call 46; (with_reducible refine (HZ.out _).mono ?_); rintro e w' ⟨rfl, rfl⟩) | (go_at_call 47; (with_reducible refine (HN.out _).mono ?_); rintro e w1 ⟨⟨h, ok, rfl, hl⟩, b1⟩; rcases hl with ⟨rfl, l1, l2, l3, l4⟩ | ⟨rfl, rfl, l3⟩; rcases Int.lt_or_le 1000000000000 h with g | g))
    · have HR := Lib.hid (HG.out _ _ (l4 g))
      clear l3 l4
      go_wp2
      go_ret2
      exact ⟨⟨0, false, rfl, HR.out⟩, b1⟩
    · have HR := Lib.hid (HG.out _ _ (l3 g))
      clear l3 l4
      go_wp2
      go_ret2
      exact ⟨⟨h, true, rfl, HR.out⟩, b1⟩
    · have HR := Lib.hid (HG.out _ _ l3)
      clear l3
      go_wp2
      go_ret2
      exact ⟨⟨0, false, rfl, HR.out⟩, b1⟩
theorem sLw_any (n : Int) (w : World) :
    Calls Tryd.prog 22 #[.int .i64 n] w fun e w' => (∃ (h : Int) (ok : Bool), e = .returned (.tuple #[.int .i64 h, .bool ok]) ∧ LwIs n h ok) ∧ Below w.heap.size w w' := by
  have HZ := Lib.hid (fun W => leNumber_any n W)
  cases hn : nuB n with
  | false =>
    have HR : Hid (LwIs n 0 false) := .inr ⟨hn, rfl, rfl⟩
    rw [hn] at HZ
    clear hn
    go_enter Tryd.func22, Tryd.ntmps22
    go_wp2_with (go_at_call 46; (with_reducible refine (HZ.out _).mono ?_); rintro e w' ⟨rfl, rfl⟩)
    go_ret2
    exact ⟨⟨0, false, rfl, HR.out⟩, Below.refl _ _⟩
  | true =>
    obtain ⟨h1, h2⟩ := (nuB_iff n).1 hn
    obtain ⟨m, rfl⟩ : ∃ m : Nat, n = (m : Int) := ⟨n.toNat, by omega⟩
    have HN := Lib.hid (fun W => nearL_any m W (by omega))
    have HG : Hid (∀ (h : Int) (ok : Bool), LastSum m h ok → LwIs (m : Int) h ok) := fun h ok u => .inl ⟨hn, by rw [Int.toNat_natCast]; exact u⟩
    rw [hn] at HZ
    clear hn h1 h2
    go_enter Tryd.func22, Tryd.ntmps22
    go_wp2_with (first | (go_at_call 46; (with_reducible refine (HZ.out _).mono ?_); rintro e w' ⟨rfl, rfl⟩) | (go_at_call 47; (with_reducible refine (HN.out _).mono ?_); rintro e w1 ⟨⟨h, ok, rfl, hl⟩, b1⟩; have HR := Lib.hid (HG.out _ _ hl); clear hl))
    go_ret2
    exact ⟨⟨h, ok, rfl, HR.out⟩, b1⟩
theorem FnExactNextWithSum_law (n : Int) (_h0 : (Lit.int .i64 n).wf = true) (w : World) (htab : Tab w) :
    Calls Tryd.prog 6 #[.int .i64 n] w fun e w' => e = .returned (.bool true) ∧ Below w.heap.size w w' := by
  have HT := Lib.hid (fun W hW => iNw_any n W (htab.keep hW))
  clear htab
  go_enter Tryd.func6, Tryd.ntmps6
  go_wp2_with (first | (go_at_call 20; go_must ((with_reducible refine (sNw_any _ _).mono ?_); rintro e w1 ⟨⟨l, a, rfl, hr⟩, b1⟩; have HR := Lib.hid hr; clear hr)) | (go_at_call 21; go_must ((refine (HT.out _ b1).mono ?_); rintro e w2 ⟨⟨q, o, rfl, hq⟩, b2⟩; have e0 := (HR.out.uniq hq).1; have e1 := (HR.out.uniq hq).2; subst e0; subst e1; clear hq)))
  go_ret
  exact ⟨rfl, chain b1 b2⟩
theorem FnExactLastWithSum_law (n : Int) (_h0 : (Lit.int .i64 n).wf = true) (w : World) (htab : Tab w) :
    Calls Tryd.prog 7 #[.int .i64 n] w fun e w' => e = .returned (.bool true) ∧ Below w.heap.size w w' := by
  have HT := Lib.hid (fun W hW => iLw_any n W (htab.keep hW))
  clear htab
  go_enter Tryd.func7, Tryd.ntmps7
  go_wp2_with (first | (go_at_call 22; go_must ((with_reducible refine (sLw_any _ _).mono ?_); rintro e w1 ⟨⟨l, a, rfl, hr⟩, b1⟩; have HR := Lib.hid hr; clear hr)) | (go_at_call 23; go_must ((refine (HT.out _ b1).mono ?_); rintro e w2 ⟨⟨q, o, rfl, hq⟩, b2⟩; have e0 := (HR.out.uniq hq).1; have e1 := (HR.out.uniq hq).2; subst e0; subst e1; clear hq)))
  go_ret
  exact ⟨rfl, chain b1 b2⟩
end Go.Proofs.YtghjpanabphbpaaDoor

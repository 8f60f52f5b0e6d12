/-
  Least numbers: LeastWithProduct of both sides, and its law.
-/
import Derived.Test.YtghjpanabphbpaaDoorLeNum
namespace Go.Proofs.YtghjpanabphbpaaDoor
open Go.RowKit
set_option maxRecDepth 100000

/-- What both answer. -/
def WpEnd (s : PSt) (h : Int) (ok : Bool) : Prop := (1 < s.p ∨ 12 < s.l.length) ∧ h = 0 ∧ ok = false ∨ (¬ 1 < s.p ∧ ¬ 12 < s.l.length) ∧ h = ((max 1 (nl s.l) : Nat) : Int) ∧ ok = true
def WpIs (p h : Int) (ok : Bool) : Prop := (prB p = true ∧ ∃ k, (pseq p.toNat k).d ≤ 1 ∧ WpEnd (pseq p.toNat k) h ok) ∨ (prB p = false ∧ h = 0 ∧ ok = false)
theorem WpEnd.uniq {s : PSt} {h g : Int} {a b : Bool} (u : WpEnd s h a) (v : WpEnd s g b) : h = g ∧ a = b := by
  rcases u with ⟨u1, rfl, rfl⟩ | ⟨u1, rfl, rfl⟩ <;> rcases v with ⟨v1, rfl, rfl⟩ | ⟨v1, rfl, rfl⟩
  · exact ⟨rfl, rfl⟩
  · omega
  · omega
  · exact ⟨rfl, rfl⟩
theorem WpIs.uniq {p h g : Int} {a b : Bool} (u : WpIs p h a) (v : WpIs p g b) : h = g ∧ a = b := by
  rcases u with ⟨u1, k, u2, u3⟩ | ⟨u1, rfl, rfl⟩ <;> rcases v with ⟨v1, j, v2, v3⟩ | ⟨v1, rfl, rfl⟩
  · rw [pseq_uniq u2 v2] at u3; exact u3.uniq v3
  · rw [u1] at v1; cases v1
  · rw [u1] at v1; cases v1
  · exact ⟨rfl, rfl⟩
/-- A state that is met. -/
def PAt (p0 d p : Nat) (l : List Nat) : Prop := ∃ k, pseq p0 k = ⟨d, p, l⟩
theorem PAt.take {p0 d p : Nat} {l : List Nat} (h : PAt p0 d p l) (h1 : 1 < d) (h2 : p % d = 0) : PAt p0 d (p / d) (d :: l) := by
  obtain ⟨k, hk⟩ := h
  refine ⟨k + 1, ?_⟩
  rw [pseq_take (by rw [hk]; exact h1) (by rw [hk]; exact h2), hk]
theorem PAt.next {p0 d p : Nat} {l : List Nat} (h : PAt p0 d p l) (h1 : 1 < d) (h2 : ¬ p % d = 0) : PAt p0 (d - 1) p l := by
  obtain ⟨k, hk⟩ := h
  refine ⟨k + 1, ?_⟩
  rw [pseq_next (by rw [hk]; exact h1) (by rw [hk]; exact h2), hk]
theorem PAt.bd {p0 d p : Nat} {l : List Nat} (h : PAt p0 d p l) (g1 : 1 ≤ p0) (g2 : p0 ≤ 1000000000000) : l.length ≤ 18 ∧ 1 ≤ p ∧ p ≤ 1000000000000 ∧ 1 ≤ d ∧ d ≤ 9 ∧ ∀ x ∈ l, 2 ≤ x ∧ x ≤ 9 := by
  obtain ⟨k, hk⟩ := h
  have h1 := pInv_all g1 g2 k
  have h2 := pInv_len h1
  rw [hk] at h1 h2
  exact ⟨h2.1, h1.1, h2.2.1, h2.2.2.1, h2.2.2.2, h1.2.1⟩
theorem PAt.is {p0 d p : Nat} {l : List Nat} (h : PAt p0 d p l) (hd : d ≤ 1) {g : Int} {ok : Bool} (hb : prB (p0 : Int) = true) (he : WpEnd ⟨d, p, l⟩ g ok) : WpIs p0 g ok := by
  obtain ⟨k, hk⟩ := h
  refine .inl ⟨hb, k, ?_, ?_⟩
  · rw [Int.toNat_natCast, hk]; exact hd
  · rw [Int.toNat_natCast, hk]; exact he
theorem itoaW (u : Nat) (w : World) (h9 : u ≤ 9) :
    Calls Tryd.prog 54 #[.int .i64 u] w fun e w' => e = .returned (.string ⟨(tx [u]).toArray⟩) ∧ w = w' := by
  refine (Tryd.strconv_Itoa_small u (by omega) w).mono ?_
  rintro e w' ⟨rfl, rfl⟩
  exact ⟨by rw [dec_small (by omega)]; rfl, rfl⟩
theorem div_lt' {p d : Nat} (hp : 1 ≤ p) (hd : 1 < d) : p / d < p := Nat.div_lt_self hp hd
set_option maxHeartbeats 2000000 in
theorem iWp_yes (p0 : Nat) (w : World) (hb : prB (p0 : Int) = true) :
    Calls Tryd.prog 33 #[.int .i64 p0] w fun e w' => (∃ (h : Int) (ok : Bool), e = .returned (.tuple #[.int .i64 h, .bool ok]) ∧ WpIs p0 h ok) ∧ Below w.heap.size w w' := by
  obtain ⟨p01, p02⟩ := (prB_iff (p0 : Int)).1 hb
  have z1 := fun W => isProduct_any (p0 : Int) W
  rw [hb] at z1
  have HZ := Lib.hid z1
  have HB := Lib.hid hb
  clear hb z1
  go_enter Tryd.func33, Tryd.ntmps33
  go_wp2_with (go_at_call 61; (with_reducible refine (HZ.out _).mono ?_); rintro e w' ⟨rfl, rfl⟩)
  go_loopw [0, 4, 5] (fun pv tv dv' wr => ∃ (d p : Nat) (l : List Nat) (t : ByteArray), pv = .int .i64 p ∧ dv' = .int .i64 d ∧ tv = .string t ∧ Hid (t = ⟨(tx l).toArray⟩) ∧ Hid (PAt p0 d p l) ∧ 1 ≤ d ∧ d ≤ 9 ∧ p ≤ 1000000000000 ∧ Below w.heap.size w wr) (fun _ _ dv' _ => (intOf dv').toNat)
  case atStart => exact ⟨9, p0, [], ⟨#[]⟩, rfl, rfl, rfl, rfl, ⟨0, rfl⟩, by omega, by omega, by omega, Below.refl _ _⟩
  case round =>
    obtain ⟨d, p, l, t, rfl, rfl, rfl, HT, HP, hd1, hd9, hp12, hbl⟩ := hrel
    by_cases hd2 : 2 ≤ d
    · have hd2' : (2 : Int) ≤ (d : Int) := by omega
      go_wp2
      go_loopw [0, 4] (fun pv tv wr => ∃ (p : Nat) (l : List Nat) (t : ByteArray), pv = .int .i64 p ∧ tv = .string t ∧ Hid (t = ⟨(tx l).toArray⟩) ∧ Hid (PAt p0 d p l) ∧ p ≤ 1000000000000 ∧ Below w.heap.size w wr) (fun pv _ _ => (intOf pv).toNat)
      case atStart => exact ⟨p, l, t, rfl, rfl, HT, HP, hp12, hbl⟩
      case round =>
        obtain ⟨p, l, t, rfl, rfl, HT, HP, hp12, hbl⟩ := hrel
        obtain ⟨b1, b2, b3, _, _, _⟩ := HP.out.bd (by omega) (by omega)
        have hd0 : (d : Int) ≠ 0 := by omega
        have g1 := Int.emod_nonneg (p : Int) hd0
        have g2 := Int.emod_lt_of_pos (p : Int) (show 0 < (d : Int) by omega)
        have hE : (p : Int) % (d : Int) = ((p % d : Nat) : Int) := by push_cast; rfl
        by_cases hm : p % d = 0
        · have hq : ((p : Int) % (d : Int) == 0) = true := by simp [hE, hm]
          have hlt := div_lt' b2 (show 1 < d by omega)
          have HQ : Hid ((p : Int) / (d : Int) = ((p / d : Nat) : Int)) := by show _ = _; push_cast; rfl
          have q0 : 0 ≤ (p : Int) / (d : Int) := by rw [HQ.out]; exact Int.natCast_nonneg _
          have q1 : (p : Int) / (d : Int) ≤ 1000000000000 := by rw [HQ.out]; omega
          have HP' := Lib.hid (HP.out.take (by omega) hm)
          have HI := Lib.hid (fun W => itoaW d W hd9)
          have hs2 : t.size ≤ 18 := by rw [HT.out, sz_of, tx_len]; exact b1
          have HX : Hid ((⟨(tx [d]).toArray⟩ : ByteArray) ++ t = ⟨(tx (d :: l)).toArray⟩) := by show _ = _; rw [HT.out, str_two]; rfl
          have hs1 : (⟨(tx [d]).toArray⟩ : ByteArray).size = 1 := rfl
          obtain ⟨t1, ht1⟩ : ∃ t1, (⟨(tx [d]).toArray⟩ : ByteArray) = t1 := ⟨_, rfl⟩
          rw [ht1] at HI HX hs1
          clear hE hm ht1 HT HP
          go_wp2_with (go_at_call 54; (with_reducible refine (HI.out _).mono ?_); rintro e2 w' ⟨rfl, rfl⟩)
          go_roundw
          case rel => exact ⟨p / d, d :: l, t1 ++ t, val_int HQ.out, rfl, HX, HP', by omega, hbl⟩
          case measure => have := HQ.out; simp [intOf]; omega
        · have hq : ((p : Int) % (d : Int) == 0) = false := by rw [hE]; simp; omega
          have HP' := Lib.hid (HP.out.next (by omega) hm)
          clear hE hm
          go_wp2
          go_roundw
          case rel => exact ⟨d - 1, p, l, t, rfl, val_int (by omega), rfl, HT, HP', by omega, by omega, hp12, hbl⟩
          case measure => simp [intOf]; omega
    · have hd2' : ¬ (2 : Int) ≤ (d : Int) := by omega
      obtain ⟨b1, b2, b3, _, _, b6⟩ := HP.out.bd (by omega) (by omega)
      have hlen : t.size = l.length := by rw [HT.out, sz_of, tx_len]
      have HG : Hid (∀ (g : Int) (ok : Bool), WpEnd ⟨d, p, l⟩ g ok → WpIs p0 g ok) := fun g ok he => HP.out.is (by omega) HB.out he
      by_cases c1 : 1 < p
      · have c1' : (1 : Int) < (p : Int) := by omega
        have HR := Lib.hid (HG.out 0 false (.inl ⟨.inl c1, rfl, rfl⟩))
        clear HT HP HG b6 hlen
        go_wp2
        go_ret2
        first | exact ⟨⟨0, false, rfl, HR.out⟩, hbl⟩ | exact ⟨⟨0, .inl ⟨rfl, HR.out⟩⟩, hbl⟩ | exact ⟨HR.out, hbl⟩
      · have c1' : ¬ (1 : Int) < (p : Int) := by omega
        by_cases c2 : 12 < l.length
        · have c2' : (12 : Int) < (t.size : Int) := by omega
          have HR := Lib.hid (HG.out 0 false (.inl ⟨.inr c2, rfl, rfl⟩))
          clear HT HP HG b6 hlen c1 c2
          have hp1 : p = 1 := by omega
          subst hp1
          go_wp2
          go_ret2
          first | exact ⟨⟨0, false, rfl, HR.out⟩, hbl⟩ | exact ⟨⟨0, .inl ⟨rfl, HR.out⟩⟩, hbl⟩ | exact ⟨HR.out, hbl⟩
        · have c2' : ¬ (12 : Int) < (t.size : Int) := by omega
          have HR := Lib.hid (HG.out _ true (.inr ⟨⟨c1, c2⟩, rfl, rfl⟩))
          have hx9 : ∀ x ∈ l, x ≤ 9 := fun x hx => (b6 x hx).2
          have hnum := fun W => numL_any (tx l) W (by rw [tx_len]; omega) (tx_dig l hx9)
          rw [dnum_tx l hx9, ← HT.out] at hnum
          have hnb : nl l < 10 ^ l.length := nl_lt l hx9
          have hnb2 : 10 ^ l.length ≤ 10 ^ 12 := Nat.pow_le_pow_right (by omega) (by omega)
          have HN := Lib.hid hnum
          obtain ⟨x, hx⟩ : ∃ x, nl l = x := ⟨_, rfl⟩
          have HR2 : Hid (WpIs p0 (max 1 (x : Int)) true) := by show WpIs _ _ _; have := HR.out; rw [hx] at this; rwa [show ((max 1 x : Nat) : Int) = max 1 (x : Int) by omega] at this
          rw [hx] at HN hnb
          have hx12 : x ≤ 1000000000000 := by omega
          clear HT HP HG b6 hlen hx9 hnum hnb hnb2 hx HR c1 c2
          have hp1 : p = 1 := by omega
          subst hp1
          go_wp2_with (go_at_call 39; (with_reducible refine (HN.out _).mono ?_); rintro e2 w' ⟨rfl, rfl⟩)
          go_ret2
          first | exact ⟨⟨_, true, rfl, HR2.out⟩, hbl⟩ | exact ⟨⟨_, .inr ⟨rfl, HR2.out⟩⟩, hbl⟩ | exact ⟨HR2.out, hbl⟩
set_option maxHeartbeats 2000000 in
theorem sWp_yes (p0 : Nat) (w : World) (hb : prB (p0 : Int) = true) :
    Calls Tryd.prog 32 #[.int .i64 p0] w fun e w' => (∃ (h : Int) (ok : Bool), e = .returned (.tuple #[.int .i64 h, .bool ok]) ∧ WpIs p0 h ok) ∧ Below w.heap.size w w' := by
  obtain ⟨p01, p02⟩ := (prB_iff (p0 : Int)).1 hb
  have z1 := fun W => lprod_any (p0 : Int) W
  rw [hb] at z1
  have HZ := Lib.hid z1
  have HB := Lib.hid hb
  clear hb z1
  go_enter Tryd.func32, Tryd.ntmps32
  go_wp2_with (go_at_call 60; (with_reducible refine (HZ.out _).mono ?_); rintro e w' ⟨rfl, rfl⟩)
  go_loopw [0, 4, 5, 6] (fun pv nv wv dv' wr => ∃ (d p N P : Nat) (l : List Nat), pv = .int .i64 p ∧ dv' = .int .i64 d ∧ nv = .int .i64 N ∧ wv = .int .i64 P ∧ Hid (N = nl l ∧ P = 10 ^ l.length) ∧ Hid (PAt p0 d p l) ∧ 1 ≤ d ∧ d ≤ 9 ∧ p ≤ 1000000000000 ∧ N < 1000000000000000000 ∧ P ≤ 1000000000000000000 ∧ Below w.heap.size w wr) (fun _ _ _ dv' _ => (intOf dv').toNat)
  case atStart => exact ⟨9, p0, 0, 1, [], rfl, rfl, rfl, rfl, ⟨rfl, rfl⟩, ⟨0, rfl⟩, by omega, by omega, by omega, by omega, by omega, Below.refl _ _⟩
  case round =>
    obtain ⟨d, p, N, P, l, rfl, rfl, rfl, rfl, HK, HP, hd1, hd9, hp12, hN, hP, hbl⟩ := hrel
    by_cases hd2 : 2 ≤ d
    · have hd2' : (1 : Int) < (d : Int) := by omega
      go_wp2
      go_loopw [0, 4, 5] (fun pv nv wv wr => ∃ (p N P : Nat) (l : List Nat), pv = .int .i64 p ∧ nv = .int .i64 N ∧ wv = .int .i64 P ∧ Hid (N = nl l ∧ P = 10 ^ l.length) ∧ Hid (PAt p0 d p l) ∧ p ≤ 1000000000000 ∧ N < 1000000000000000000 ∧ P ≤ 1000000000000000000 ∧ Below w.heap.size w wr) (fun pv _ _ _ => (intOf pv).toNat)
      case atStart => exact ⟨p, N, P, l, rfl, rfl, rfl, HK, HP, hp12, hN, hP, hbl⟩
      case round =>
        obtain ⟨p, N, P, l, rfl, rfl, rfl, HK, HP, hp12, hN, hP, hbl⟩ := hrel
        obtain ⟨b1, b2, b3, _, _, _⟩ := HP.out.bd (by omega) (by omega)
        have hd0 : (d : Int) ≠ 0 := by omega
        have g1 := Int.emod_nonneg (p : Int) hd0
        have g2 := Int.emod_lt_of_pos (p : Int) (show 0 < (d : Int) by omega)
        have hE : (p : Int) % (d : Int) = ((p % d : Nat) : Int) := by push_cast; rfl
        by_cases hm : p % d = 0
        · have hq : ((p : Int) % (d : Int) == 0) = true := by simp [hE, hm]
          have hlt := div_lt' b2 (show 1 < d by omega)
          have HQ : Hid ((p : Int) / (d : Int) = ((p / d : Nat) : Int)) := by show _ = _; push_cast; rfl
          have q0 : 0 ≤ (p : Int) / (d : Int) := by rw [HQ.out]; exact Int.natCast_nonneg _
          have q1 : (p : Int) / (d : Int) ≤ 1000000000000 := by rw [HQ.out]; omega
          have HP' := Lib.hid (HP.out.take (by omega) hm)
          obtain ⟨c1, _, _, _, _, c6⟩ := HP'.out.bd (by omega) (by omega)
          rw [List.length_cons] at c1
          have hP17 : P ≤ 100000000000000000 := by
            have : 10 ^ l.length ≤ 10 ^ 17 := Nat.pow_le_pow_right (by omega) (by omega)
            rw [HK.out.2]; omega
          have hN17 : N < P := by rw [HK.out.1, HK.out.2]; exact nl_lt l (fun x hx => (c6 x (List.mem_cons_of_mem _ hx)).2)
          have hdP : 0 ≤ (d : Int) * (P : Int) ∧ (d : Int) * (P : Int) ≤ 9 * (P : Int) := ⟨Int.mul_nonneg (by omega) (by omega), Int.mul_le_mul_of_nonneg_right (by omega) (by omega)⟩
          obtain ⟨hdP0, hdP1⟩ := hdP
          have HN : Hid ((N : Int) + (d : Int) * (P : Int) = ((nl (d :: l) : Nat) : Int)) := by show _ = _; rw [nl_cons, ← HK.out.2, ← HK.out.1]; push_cast; omega
          have HPW : Hid ((P : Int) * 10 = ((10 ^ (d :: l).length : Nat) : Int)) := by show _ = _; rw [List.length_cons, Nat.pow_succ, ← HK.out.2]; push_cast; rfl
          have hnb1 : nl (d :: l) < 1000000000000000000 := by have := HN.out; omega
          have hnb2 : 10 ^ (d :: l).length ≤ 1000000000000000000 := by have := HPW.out; omega
          clear hE hm HK HP c6
          go_wp2
          go_roundw
          case rel => exact ⟨p / d, nl (d :: l), 10 ^ (d :: l).length, d :: l, val_int HQ.out, val_int HN.out, val_int HPW.out, ⟨rfl, rfl⟩, HP', by omega, hnb1, hnb2, hbl⟩
          case measure => have := HQ.out; simp [intOf]; omega
        · have hq : ((p : Int) % (d : Int) == 0) = false := by rw [hE]; simp; omega
          have HP' := Lib.hid (HP.out.next (by omega) hm)
          clear hE hm
          go_wp2
          go_roundw
          case rel => exact ⟨d - 1, p, N, P, l, rfl, val_int (by omega), rfl, rfl, HK, HP', by omega, by omega, hp12, hN, hP, hbl⟩
          case measure => simp [intOf]; omega
    · have hd2' : ¬ (1 : Int) < (d : Int) := by omega
      obtain ⟨b1, b2, b3, _, _, b6⟩ := HP.out.bd (by omega) (by omega)
      have HG : Hid (∀ (g : Int) (ok : Bool), WpEnd ⟨d, p, l⟩ g ok → WpIs p0 g ok) := fun g ok he => HP.out.is (by omega) HB.out he
      have hx9 : ∀ x ∈ l, x ≤ 9 := fun x hx => (b6 x hx).2
      have hx2 : ∀ x ∈ l, 2 ≤ x := fun x hx => (b6 x hx).1
      have hnb : nl l < 10 ^ l.length := nl_lt l hx9
      by_cases c1 : 1 < p
      · have c1' : (1 : Int) < (p : Int) := by omega
        have HR := Lib.hid (HG.out 0 false (.inl ⟨.inl c1, rfl, rfl⟩))
        clear HK HP HG b6 hx9 hx2 hnb
        go_wp2
        go_ret2
        first | exact ⟨⟨0, false, rfl, HR.out⟩, hbl⟩ | exact ⟨⟨0, .inl ⟨rfl, HR.out⟩⟩, hbl⟩ | exact ⟨HR.out, hbl⟩
      · have c1' : ¬ (1 : Int) < (p : Int) := by omega
        by_cases c2 : 12 < l.length
        · have c2' : (1000000000000 : Int) < (N : Int) := by have := nl_big hx2 c2; have := HK.out.1; omega
          have HR := Lib.hid (HG.out 0 false (.inl ⟨.inr c2, rfl, rfl⟩))
          clear HK HP HG b6 c1 c2 hx9 hx2 hnb
          have hp1 : p = 1 := by omega
          subst hp1
          go_wp2
          go_ret2
          first | exact ⟨⟨0, false, rfl, HR.out⟩, hbl⟩ | exact ⟨⟨0, .inl ⟨rfl, HR.out⟩⟩, hbl⟩ | exact ⟨HR.out, hbl⟩
        · have HR := Lib.hid (HG.out _ true (.inr ⟨⟨c1, c2⟩, rfl, rfl⟩))
          have hnb2 : 10 ^ l.length ≤ 10 ^ 12 := Nat.pow_le_pow_right (by omega) (by omega)
          have c2' : ¬ (1000000000000 : Int) < (N : Int) := by have := HK.out.1; omega
          have HR2 : Hid (WpIs p0 (max 1 (N : Int)) true) := by show WpIs _ _ _; have := HR.out; rw [← HK.out.1] at this; rwa [show ((max 1 N : Nat) : Int) = max 1 (N : Int) by omega] at this
          clear HK HP HG b6 hx9 hx2 hnb hnb2 HR c1 c2
          have hp1 : p = 1 := by omega
          subst hp1
          go_wp2_with (go_at_call 42; (with_reducible refine (mostI_any _ _ _).mono ?_); rintro e2 w' ⟨rfl, rfl⟩)
          go_ret2
          first | exact ⟨⟨_, true, rfl, HR2.out⟩, hbl⟩ | exact ⟨⟨_, .inr ⟨rfl, HR2.out⟩⟩, hbl⟩ | exact ⟨HR2.out, hbl⟩
theorem iWp_any (p : Int) (w : World) :
    Calls Tryd.prog 33 #[.int .i64 p] w fun e w' => (∃ (h : Int) (ok : Bool), e = .returned (.tuple #[.int .i64 h, .bool ok]) ∧ WpIs p h ok) ∧ Below w.heap.size w w' := by
  cases h1 : prB p with
  | false =>
    have z1 := fun W => isProduct_any p W
    rw [h1] at z1
    have HZ1 := Lib.hid z1
    have HR : Hid (WpIs p 0 false) := .inr ⟨h1, rfl, rfl⟩
    clear h1 z1
    go_enter Tryd.func33, Tryd.ntmps33
    go_wp2_with (go_at_call 61; (with_reducible refine (HZ1.out _).mono ?_); rintro e w' ⟨rfl, rfl⟩)
    go_ret2
    exact ⟨⟨0, false, rfl, HR.out⟩, Below.refl _ _⟩
  | true =>
    obtain ⟨p0, p1⟩ := (prB_iff p).1 h1
    obtain ⟨q, rfl⟩ : ∃ q : Nat, p = (q : Int) := ⟨p.toNat, by omega⟩
    exact iWp_yes q w h1
theorem sWp_any (p : Int) (w : World) :
    Calls Tryd.prog 32 #[.int .i64 p] w fun e w' => (∃ (h : Int) (ok : Bool), e = .returned (.tuple #[.int .i64 h, .bool ok]) ∧ WpIs p h ok) ∧ Below w.heap.size w w' := by
  cases h1 : prB p with
  | false =>
    have z1 := fun W => lprod_any p W
    rw [h1] at z1
    have HZ1 := Lib.hid z1
    have HR : Hid (WpIs p 0 false) := .inr ⟨h1, rfl, rfl⟩
    clear h1 z1
    go_enter Tryd.func32, Tryd.ntmps32
    go_wp2_with (go_at_call 60; (with_reducible refine (HZ1.out _).mono ?_); rintro e w' ⟨rfl, rfl⟩)
    go_ret2
    exact ⟨⟨0, false, rfl, HR.out⟩, Below.refl _ _⟩
  | true =>
    obtain ⟨p0, p1⟩ := (prB_iff p).1 h1
    obtain ⟨q, rfl⟩ : ∃ q : Nat, p = (q : Int) := ⟨p.toNat, by omega⟩
    exact sWp_yes q w h1
theorem FnExactLeastWithProduct_law (p : Int) (_h1 : (Lit.int .i64 p).wf = true) (w : World) :
    Calls Tryd.prog 12 #[.int .i64 p] w fun e w' => e = .returned (.bool true) ∧ Below w.heap.size w w' := by
  go_enter Tryd.func12, Tryd.ntmps12
  go_wp2_with (first | (go_at_call 32; go_must ((with_reducible refine (sWp_any _ _).mono ?_); rintro e w1 ⟨⟨l, a, rfl, hr⟩, b1⟩; have HR := Lib.hid hr; clear hr)) | (go_at_call 33; go_must ((with_reducible refine (iWp_any _ _).mono ?_); rintro e w2 ⟨⟨q, o, rfl, hq⟩, b2⟩; have e0 := (HR.out.uniq hq).1; have e1 := (HR.out.uniq hq).2; subst e0; subst e1; clear hq)))
  go_ret
  exact ⟨rfl, chain b1 b2⟩
end Go.Proofs.YtghjpanabphbpaaDoor

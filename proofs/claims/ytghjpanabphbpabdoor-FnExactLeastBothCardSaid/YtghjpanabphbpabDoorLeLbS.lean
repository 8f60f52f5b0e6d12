/-
  Least numbers: the model's LeastBoth, and the law.
-/
import Derived.Test.YtghjpanabphbpabDoorLeLbI
namespace Go.Proofs.YtghjpanabphbpabDoor
open Go.RowKit
set_option maxRecDepth 100000

/-- What the model's search answers. -/
def SbIs (N k : Nat) (o : Option (List Nat)) (x : Int) (ok : Bool) : Prop :=
  (∃ l, o = some l ∧ ok = true ∧ x = ((N * 10 ^ k + nl l : Nat) : Int)) ∨ (o = none ∧ ok = false)
theorem SbIs.bd {N k d : Nat} {s : Int} {p : Nat} (hd : d ≤ 10) (hk : k ≤ 12) (hN : N + 1 ≤ 10 ^ (12 - k)) {x : Int} (h : SbIs N k (lb k d s p) x true) : 0 ≤ x ∧ x ≤ 1000000000000 := by
  rcases h with ⟨l, h1, _, rfl⟩ | ⟨_, h⟩
  · have h2 := lb_sum hd h1
    have h3 := nl_lt l (fun y hy => (h2.2.2.2 y hy).2)
    rw [h2.2.2.1] at h3
    have h4 := Nat.mul_le_mul_right (10 ^ k) hN
    rw [← Nat.pow_add, show 12 - k + k = 12 by omega, Nat.add_mul] at h4
    omega
  · cases h
theorem sb_none {N k : Nat} {x : Int} : SbIs N k none x false := .inr ⟨rfl, rfl⟩
theorem sb_cons {N k e : Nat} {l : List Nat} {x : Int} (hl : l.length = k) (h : SbIs (10 * N + e) k (some l) x true) : SbIs N (k + 1) (some (e :: l)) x true := by
  rcases h with ⟨m, h1, _, rfl⟩ | ⟨h, _⟩
  · cases h1
    refine .inl ⟨_, rfl, rfl, ?_⟩
    rw [nl_cons, hl, Nat.pow_succ, Nat.add_mul, ← Nat.mul_assoc N, Nat.mul_comm (10 * N), Nat.mul_comm 10 N, ← Nat.mul_assoc, Nat.mul_comm (10 ^ k) N]
    push_cast; omega
  · cases h
set_option maxHeartbeats 2000000 in
theorem sBoth_any (k : Nat) : ∀ (N d : Nat) (s : Int) (p : Nat) (w : World), k ≤ 12 → N + 1 ≤ 10 ^ (12 - k) → 1 ≤ d → d ≤ 9 → -1000 + 10 * (k : Int) ≤ s → s ≤ 108 → 1 ≤ p → p ≤ 1000000000000 →
    Calls Tryd.prog 20 #[.int .i64 N, .int .i64 k, .int .i64 d, .int .i64 s, .int .i64 p] w fun e w' => (∃ (x : Int) (ok : Bool), e = .returned (.tuple #[.int .i64 x, .bool ok]) ∧ SbIs N k (lb k d s p) x ok) ∧ w = w' := by
  induction k with
  | zero =>
    intro N d s p w _ hN hd1 hd9 hs0 hs1 hp1 hp2
    by_cases h1 : s = 0
    · subst h1
      by_cases h2 : p = 1
      · subst h2
        have HE : Hid (SbIs N 0 (lb 0 d 0 1) (N : Int) true) := .inl ⟨[], by rw [lb_0]; rfl, rfl, by simp [nl]⟩
        go_enter Tryd.func20, Tryd.ntmps20
        go_wp2
        go_ret2
        first | exact ⟨⟨(N : Int), true, rfl, HE.out⟩, rfl⟩ | exact ⟨⟨(N : Int), .inr ⟨rfl, HE.out⟩⟩, rfl⟩
      · have HE : Hid (SbIs N 0 (lb 0 d 0 p) (N : Int) false) := .inr ⟨by rw [lb_0, if_neg (fun h => h2 h.2)], rfl⟩
        have h2' : ((p : Int) == 1) = false := by simp; omega
        clear h2
        go_enter Tryd.func20, Tryd.ntmps20
        go_wp2
        go_ret2
        first | exact ⟨⟨(N : Int), false, rfl, HE.out⟩, rfl⟩ | exact ⟨⟨(N : Int), .inl ⟨rfl, HE.out⟩⟩, rfl⟩
    · have HE : Hid (SbIs N 0 (lb 0 d s p) (N : Int) false) := .inr ⟨by rw [lb_0, if_neg (fun h => h1 h.1)], rfl⟩
      have h1' : (s == 0) = false := by simpa using h1
      clear h1
      go_enter Tryd.func20, Tryd.ntmps20
      go_wp2
      go_ret2
      first | exact ⟨⟨(N : Int), false, rfl, HE.out⟩, rfl⟩ | exact ⟨⟨(N : Int), .inl ⟨rfl, HE.out⟩⟩, rfl⟩
  | succ k ih =>
    intro N d s p w hk hN hd1 hd9 hs0 hs1 hp1 hp2
    have hN9 : ∀ e : Nat, e ≤ 9 → (10 * N + e) + 1 ≤ 10 ^ (12 - k) := fun e he => by
      rw [show 12 - k = (12 - (k + 1)) + 1 by omega, Nat.pow_succ]; omega
    have hNb : N ≤ 1000000000000 := by
      have : 10 ^ (12 - (k + 1)) ≤ 10 ^ 12 := Nat.pow_le_pow_right (by omega) (by omega)
      omega
    have HIH : Hid (∀ (e : Nat) (u x y z : Int) (q : Nat) (W : World), u = ((10 * N + e : Nat) : Int) → x = (k : Int) → y = s - (e : Int) → z = (q : Int) → 1 ≤ e → e ≤ 9 → 1 ≤ q → q ≤ 1000000000000 → Calls Tryd.prog 20 #[.int .i64 u, .int .i64 x, .int .i64 e, .int .i64 y, .int .i64 z] W fun e2 w' => (∃ (x : Int) (ok : Bool), e2 = .returned (.tuple #[.int .i64 x, .bool ok]) ∧ SbIs (10 * N + e) k (lb k e (s - (e : Int)) q) x ok) ∧ W = w') := fun e u x y z q W hu hx hy hz he1 he9 hq1 hq2 => by
      subst hu hx hy hz
      exact ih _ e _ q W (by omega) (hN9 e he9) he1 he9 (by omega) (by omega) hq1 hq2
    have HB : Hid (∀ (e : Nat) (q : Nat) (x : Int), e ≤ 9 → SbIs (10 * N + e) k (lb k e (s - (e : Int)) q) x true → 0 ≤ x ∧ x ≤ 1000000000000) := fun e q x he h => SbIs.bd (by omega) (by omega) (hN9 e he) h
    clear ih hN9 hN
    obtain ⟨K, hK⟩ : ∃ K : Nat, k + 1 = K := ⟨_, rfl⟩
    have HKK := Lib.hid hK
    have HKi : Hid ((K : Int) - 1 = (k : Int)) := by show _ = _; omega
    have hK12 : K ≤ 12 := by omega
    have hK1 : ((K : Int) == 0) = false := by simp; omega
    have HL0 := Lib.hid (lb_go k d s p (10 - d) rfl)
    have HSC : Hid (∀ (e : Nat) (l : List Nat) (x : Int), l.length = k → SbIs (10 * N + e) k (some l) x true → SbIs N K (some (e :: l)) x true) := fun e l x h1 h2 => by rw [← hK]; exact sb_cons h1 h2
    obtain ⟨o, ho⟩ : ∃ o, lb (k + 1) d s p = o := ⟨_, rfl⟩
    rw [ho] at HL0 ⊢
    rw [hK]
    clear hK ho hk
    go_enter Tryd.func20, Tryd.ntmps20
    go_wp2
    go_loop [12] (fun ev => ∃ e m : Nat, ev = .int .i64 e ∧ 1 ≤ e ∧ e + m = 10 ∧ Hid (o = lgo (lb k) s p m e)) (fun ev => (10 - intOf ev).toNat)
    case atStart => exact ⟨d, 10 - d, rfl, hd1, by omega, HL0⟩
    case round =>
      obtain ⟨e, m, rfl, he1, hem, HO⟩ := hrel
      cases m with
      | zero =>
        have hge : ¬ (e : Int) < 10 := by omega
        have HR2 : Hid (SbIs N K o 0 false) := by show SbIs _ _ _ _ _; rw [HO.out, lgo_0]; exact sb_none
        clear HL0 HO
        go_wp2
        go_ret2
        first | exact ⟨⟨0, false, rfl, HR2.out⟩, rfl⟩ | exact ⟨⟨0, .inl ⟨rfl, HR2.out⟩⟩, rfl⟩ | exact ⟨HR2.out, rfl⟩
      | succ m =>
        have he9 : e ≤ 9 := by omega
        have hlt10 : (e : Int) < 10 := by omega
        obtain ⟨hke0, hke1⟩ : 0 ≤ (e : Int) * (K : Int) ∧ (e : Int) * (K : Int) ≤ 120 := by
          have h : e * K ≤ 9 * 12 := Nat.mul_le_mul he9 hK12
          have e2 : ((e * K : Nat) : Int) = (e : Int) * (K : Int) := by push_cast; rfl
          omega
        by_cases hc : s < (e : Int) * (K : Int)
        · have HR2 : Hid (SbIs N K o 0 false) := by
            show SbIs _ _ _ _ _
            rw [HO.out, lgo_low (by omega) (by rw [show (k : Int) + 1 = (K : Int) by have := HKK.out; omega]; exact hc)]
            exact sb_none
          clear HL0 HO
          go_wp2
          go_ret2
          first | exact ⟨⟨0, false, rfl, HR2.out⟩, rfl⟩ | exact ⟨⟨0, .inl ⟨rfl, HR2.out⟩⟩, rfl⟩ | exact ⟨HR2.out, rfl⟩
        · have he0 : (e : Int) ≠ 0 := by omega
          have g1 := Int.emod_nonneg (p : Int) he0
          have g2 := Int.emod_lt_of_pos (p : Int) (show 0 < (e : Int) by omega)
          by_cases hm : p % e = 0
          · have hne : ((p : Int) % (e : Int) != 0) = false := by
              have : (p : Int) % (e : Int) = ((p % e : Nat) : Int) := by push_cast; rfl
              simp [this, hm]
            have hq1 : 1 ≤ p / e := by
              have := Nat.div_add_mod p e
              rcases Nat.eq_zero_or_pos (p / e) with h | h
              · rw [h] at this; omega
              · exact h
            have hq2 : p / e ≤ 1000000000000 := Nat.le_trans (Nat.div_le_self _ _) hp2
            have HQ : Hid ((p : Int) / (e : Int) = ((p / e : Nat) : Int)) := by show _ = _; push_cast; rfl
            have q0 : 0 ≤ (p : Int) / (e : Int) := by rw [HQ.out]; omega
            have q1 : (p : Int) / (e : Int) ≤ 1000000000000 := by rw [HQ.out]; omega
            have HC := Lib.hid (fun W => HIH.out e (10 * (N : Int) + (e : Int)) ((K : Int) - 1) (s - (e : Int)) ((p : Int) / (e : Int)) (p / e) W (by push_cast; rfl) HKi.out rfl HQ.out he1 he9 hq1 hq2)
            have HB2 := Lib.hid (fun x => HB.out e (p / e) x he9)
            have HO1 := Lib.hid (fun h => (HO.out.trans (lgo_no (m := m) hm h)))
            have HO2 : Hid (∀ l, lb k e (s - (e : Int)) (p / e) = some l → o = some (e :: l)) := fun l h => HO.out.trans (lgo_yes (m := m) hm h)
            have HLL : Hid (∀ l, lb k e (s - (e : Int)) (p / e) = some l → l.length = k) := fun l h => (lb_sum (by omega) h).2.2.1
            obtain ⟨r, hr⟩ : ∃ r, lb k e (s - (e : Int)) (p / e) = r := ⟨_, rfl⟩
            rw [hr] at HC HB2 HO1 HO2 HLL
            clear hr HO HL0 hm hq1 hq2
            go_wp2_with (go_at_call 20; refine (HC.out _).mono ?_; rintro e2 w' ⟨⟨x, ok, rfl, hsb⟩, rfl⟩; cases ok)
            · have hrn : r = none := by
                rcases hsb with ⟨l, _, h, _⟩ | ⟨h, _⟩
                · cases h
                · exact h
              have HO' := Lib.hid (HO1.out hrn)
              clear hsb hrn HO1 HO2 HC HB2
              go_wp2
              go_round
              case rel => exact ⟨e + 1, m, by go_num, by omega, by omega, HO'⟩
              case measure => simp [intOf]; omega
            · obtain ⟨x0, x1⟩ := HB2.out x hsb
              have HR2 : Hid (SbIs N K o x true) := by
                show SbIs _ _ _ _ _
                rcases hsb with ⟨l, h1, h2, h3⟩ | ⟨_, h⟩
                · rw [HO2.out l h1]
                  exact HSC.out e l x (HLL.out l h1) (.inl ⟨l, rfl, rfl, h3⟩)
                · cases h
              clear hsb HO1 HO2 HC HB2
              go_wp2
              go_ret2
              first | exact ⟨⟨x, true, rfl, HR2.out⟩, rfl⟩ | exact ⟨⟨x, .inr ⟨rfl, HR2.out⟩⟩, rfl⟩ | exact ⟨HR2.out, rfl⟩
          · have hne : ((p : Int) % (e : Int) != 0) = true := by
              have : (p : Int) % (e : Int) = ((p % e : Nat) : Int) := by push_cast; rfl
              rw [this]; simp; omega
            have HO' : Hid (o = lgo (lb k) s p m (e + 1)) := by show _ = _; rw [HO.out, lgo_skip hm]
            clear HO HL0 hm
            go_wp2
            go_round
            case rel => exact ⟨e + 1, m, by go_num, by omega, by omega, HO'⟩
            case measure => simp [intOf]; omega
/-- What both answer. -/
def LbIs (s p h : Int) (ok : Bool) : Prop :=
  (smB s = true ∧ prB p = true ∧ ((∃ l, lbA s p.toNat 12 1 = some l ∧ ok = true ∧ h = (nl l : Nat)) ∨ (lbA s p.toNat 12 1 = none ∧ ok = false ∧ h = 0))) ∨ ((smB s = false ∨ prB p = false) ∧ ok = false ∧ h = 0)
theorem LbIs.uniq {s p h g : Int} {a b : Bool} (u : LbIs s p h a) (v : LbIs s p g b) : h = g ∧ a = b := by
  rcases u with ⟨u1, u2, ⟨l, u3, rfl, rfl⟩ | ⟨u3, rfl, rfl⟩⟩ | ⟨u1, rfl, rfl⟩ <;> rcases v with ⟨v1, v2, ⟨m, v3, rfl, rfl⟩ | ⟨v3, rfl, rfl⟩⟩ | ⟨v1, rfl, rfl⟩
  · rw [u3] at v3; cases v3; exact ⟨rfl, rfl⟩
  · rw [u3] at v3; cases v3
  · rw [u1, u2] at v1; rcases v1 with h | h <;> cases h
  · rw [u3] at v3; cases v3
  · exact ⟨rfl, rfl⟩
  · exact ⟨rfl, rfl⟩
  · rw [v1, v2] at u1; rcases u1 with h | h <;> cases h
  · exact ⟨rfl, rfl⟩
  · exact ⟨rfl, rfl⟩
theorem lbA_go {s : Int} {p m k : Nat} : lbA s p (m + 1) k = match lb k 1 s p with | some l => some l | none => lbA s p m (k + 1) := rfl
set_option maxHeartbeats 1000000 in
theorem iLb_yes (s : Int) (p : Nat) (w : World) (h1 : smB s = true) (h2 : prB (p : Int) = true) :
    Calls Tryd.prog 10 #[.int .i64 s, .int .i64 p] w fun e w' => (∃ (h : Int) (ok : Bool), e = .returned (.tuple #[.int .i64 h, .bool ok]) ∧ LbIs s p h ok) ∧ Below w.heap.size w w' := by
  obtain ⟨s0, s1⟩ := (smB_iff s).1 h1
  obtain ⟨p0, p1⟩ := (prB_iff (p : Int)).1 h2
  have z1 := fun W => isSum_any s W
  rw [h1] at z1
  have z2 := fun W => isProduct_any (p : Int) W
  rw [h2] at z2
  have HZ1 := Lib.hid z1
  have HZ2 := Lib.hid z2
  have HG1 : Hid (∀ l, lbA s p 12 1 = some l → LbIs s p (nl l : Nat) true) := fun l h => .inl ⟨h1, h2, .inl ⟨l, by rw [Int.toNat_natCast]; exact h, rfl, rfl⟩⟩
  have HG2 : Hid (lbA s p 12 1 = none → LbIs s p 0 false) := fun h => .inl ⟨h1, h2, .inr ⟨by rw [Int.toNat_natCast]; exact h, rfl, rfl⟩⟩
  clear h1 h2 z1 z2
  go_enter Tryd.func10, Tryd.ntmps10
  go_wp2_with (first | (go_at_call 21; (with_reducible refine (HZ1.out _).mono ?_); rintro e w' ⟨rfl, rfl⟩) | (go_at_call 22; (with_reducible refine (HZ2.out _).mono ?_); rintro e w' ⟨rfl, rfl⟩))
  go_loopw [6] (fun kv wr => ∃ k m : Nat, kv = .int .i64 k ∧ 1 ≤ k ∧ k + m = 13 ∧ Hid (lbA s p 12 1 = lbA s p m k) ∧ Below w.heap.size w wr) (fun kv _ => (13 - intOf kv).toNat)
  case atStart => exact ⟨1, 12, rfl, by omega, by omega, rfl, Below.refl _ _⟩
  case round =>
    obtain ⟨k, m, rfl, hk1, hkm, HL, hbl⟩ := hrel
    cases m with
    | zero =>
      have hge : ¬ (k : Int) ≤ 12 := by omega
      have HR := Lib.hid (HG2.out (HL.out.trans rfl))
      go_wp2
      go_ret2
      first | exact ⟨⟨0, false, rfl, HR.out⟩, hbl⟩ | exact ⟨⟨0, .inl ⟨rfl, HR.out⟩⟩, hbl⟩ | exact ⟨HR.out, hbl⟩
    | succ m =>
      have hk12 : (k : Int) ≤ 12 := by omega
      have HC := Lib.hid (fun W => iBoth_any k 1 s p W (by omega) (by omega) (by omega) (by omega) s1 (by omega) (by omega))
      cases hr : lb k 1 s p with
      | none =>
        have HL' : Hid (lbA s p 12 1 = lbA s p m (k + 1)) := by show _ = _; rw [HL.out, lbA_go, hr]
        rw [hr] at HC
        have HC2 : Hid (∀ W, Calls Tryd.prog 23 #[.int .i64 k, .int .i64 1, .int .i64 s, .int .i64 p] W fun e2 w' => e2 = .returned (.tuple #[.string ⟨#[]⟩, .bool false]) ∧ W = w') := HC.out
        clear hr HL HC
        go_wp2_with (go_at_call 23; (with_reducible refine (HC2.out _).mono ?_); rintro e2 w' ⟨rfl, rfl⟩)
        go_roundw
        case rel => exact ⟨k + 1, m, by go_num, by omega, by omega, HL', hbl⟩
        case measure => simp [intOf]; omega
      | some l =>
        have hls := lb_sum (by omega) hr
        have HR := Lib.hid (HG1.out l (by rw [HL.out, lbA_go, hr]))
        rw [hr] at HC
        have hx9 : ∀ x ∈ l, x ≤ 9 := fun x hx => (hls.2.2.2 x hx).2
        have hnum := fun W => numL_any (tx l) W (by rw [tx_len, hls.2.2.1]; omega) (tx_dig l hx9)
        rw [dnum_tx l hx9] at hnum
        have HN := Lib.hid hnum
        have HC2 : Hid (∀ W, Calls Tryd.prog 23 #[.int .i64 k, .int .i64 1, .int .i64 s, .int .i64 p] W fun e2 w' => e2 = .returned (.tuple #[.string ⟨(tx l).toArray⟩, .bool true]) ∧ W = w') := HC.out
        obtain ⟨t2, ht2⟩ : ∃ t2, (⟨(tx l).toArray⟩ : ByteArray) = t2 := ⟨_, rfl⟩
        rw [ht2] at HC2 HN
        clear hr HL HC hls hx9 hnum ht2
        go_wp2_with (first | (go_at_call 23; (with_reducible refine (HC2.out _).mono ?_); rintro e2 w' ⟨rfl, rfl⟩) | (go_at_call 24; (with_reducible refine (HN.out _).mono ?_); rintro e2 w' ⟨rfl, rfl⟩))
        go_ret2
        first | exact ⟨⟨_, true, rfl, HR.out⟩, hbl⟩ | exact ⟨⟨_, .inr ⟨rfl, HR.out⟩⟩, hbl⟩ | exact ⟨HR.out, hbl⟩
set_option maxHeartbeats 1000000 in
theorem sLb_yes (s : Int) (p : Nat) (w : World) (h1 : smB s = true) (h2 : prB (p : Int) = true) :
    Calls Tryd.prog 9 #[.int .i64 s, .int .i64 p] w fun e w' => (∃ (h : Int) (ok : Bool), e = .returned (.tuple #[.int .i64 h, .bool ok]) ∧ LbIs s p h ok) ∧ Below w.heap.size w w' := by
  obtain ⟨s0, s1⟩ := (smB_iff s).1 h1
  obtain ⟨p0, p1⟩ := (prB_iff (p : Int)).1 h2
  have z1 := fun W => leSum_any s W
  rw [h1] at z1
  have z2 := fun W => lprod_any (p : Int) W
  rw [h2] at z2
  have HZ1 := Lib.hid z1
  have HZ2 := Lib.hid z2
  have HG1 : Hid (∀ l, lbA s p 12 1 = some l → LbIs s p (nl l : Nat) true) := fun l h => .inl ⟨h1, h2, .inl ⟨l, by rw [Int.toNat_natCast]; exact h, rfl, rfl⟩⟩
  have HG2 : Hid (lbA s p 12 1 = none → LbIs s p 0 false) := fun h => .inl ⟨h1, h2, .inr ⟨by rw [Int.toNat_natCast]; exact h, rfl, rfl⟩⟩
  clear h1 h2 z1 z2
  go_enter Tryd.func9, Tryd.ntmps9
  go_wp2_with (first | (go_at_call 18; (with_reducible refine (HZ1.out _).mono ?_); rintro e w' ⟨rfl, rfl⟩) | (go_at_call 19; (with_reducible refine (HZ2.out _).mono ?_); rintro e w' ⟨rfl, rfl⟩))
  go_loopw [6] (fun kv wr => ∃ k m : Nat, kv = .int .i64 k ∧ 1 ≤ k ∧ k + m = 13 ∧ Hid (lbA s p 12 1 = lbA s p m k) ∧ Below w.heap.size w wr) (fun kv _ => (13 - intOf kv).toNat)
  case atStart => exact ⟨1, 12, rfl, by omega, by omega, rfl, Below.refl _ _⟩
  case round =>
    obtain ⟨k, m, rfl, hk1, hkm, HL, hbl⟩ := hrel
    cases m with
    | zero =>
      have hge : ¬ (k : Int) ≤ 12 := by omega
      have HR := Lib.hid (HG2.out (HL.out.trans rfl))
      go_wp2
      go_ret2
      first | exact ⟨⟨0, false, rfl, HR.out⟩, hbl⟩ | exact ⟨⟨0, .inl ⟨rfl, HR.out⟩⟩, hbl⟩ | exact ⟨HR.out, hbl⟩
    | succ m =>
      have hk12 : (k : Int) ≤ 12 := by omega
      have HC : Hid (∀ W, Calls Tryd.prog 20 #[.int .i64 0, .int .i64 k, .int .i64 1, .int .i64 s, .int .i64 p] W fun e w' => (∃ (x : Int) (ok : Bool), e = .returned (.tuple #[.int .i64 x, .bool ok]) ∧ SbIs 0 k (lb k 1 s p) x ok) ∧ W = w') := fun W => sBoth_any k 0 1 s p W (by omega) (Nat.pow_pos (by omega)) (by omega) (by omega) (by omega) s1 (by omega) (by omega)
      have HO1 : Hid (lb k 1 s p = none → lbA s p 12 1 = lbA s p m (k + 1)) := fun h => by rw [HL.out, lbA_go, h]
      have HO2 : Hid (∀ l, lb k 1 s p = some l → lbA s p 12 1 = some l) := fun l h => by rw [HL.out, lbA_go, h]
      obtain ⟨r, hr⟩ : ∃ r, lb k 1 s p = r := ⟨_, rfl⟩
      rw [hr] at HC HO1 HO2
      clear hr HL
      go_wp2_with (go_at_call 20; refine (HC.out _).mono ?_; rintro e2 w' ⟨⟨x, ok, rfl, hsb⟩, rfl⟩; cases ok)
      · have hrn : r = none := by
          rcases hsb with ⟨l, _, h, _⟩ | ⟨h, _⟩
          · cases h
          · exact h
        have HL' := Lib.hid (HO1.out hrn)
        clear hsb hrn HO1 HO2 HC
        go_wp2
        go_roundw
        case rel => exact ⟨k + 1, m, by go_num, by omega, by omega, HL', hbl⟩
        case measure => simp [intOf]; omega
      · have HR : Hid (LbIs s p x true) := by
          show LbIs _ _ _ _
          rcases hsb with ⟨l, h1, h2, h3⟩ | ⟨_, h⟩
          · rw [h3, Nat.zero_mul, Nat.zero_add]; exact HG1.out l (HO2.out l h1)
          · cases h
        clear hsb HO1 HO2 HC
        go_wp2
        go_ret2
        first | exact ⟨⟨x, true, rfl, HR.out⟩, hbl⟩ | exact ⟨⟨x, .inr ⟨rfl, HR.out⟩⟩, hbl⟩ | exact ⟨HR.out, hbl⟩
theorem iLb_any (s p : Int) (w : World) :
    Calls Tryd.prog 10 #[.int .i64 s, .int .i64 p] w fun e w' => (∃ (h : Int) (ok : Bool), e = .returned (.tuple #[.int .i64 h, .bool ok]) ∧ LbIs s p h ok) ∧ Below w.heap.size w w' := by
  cases h1 : smB s with
  | false =>
    have z1 := fun W => isSum_any s W
    rw [h1] at z1
    have HZ1 := Lib.hid z1
    have HR : Hid (LbIs s p 0 false) := .inr ⟨.inl h1, rfl, rfl⟩
    clear h1 z1
    go_enter Tryd.func10, Tryd.ntmps10
    go_wp2_with (go_at_call 21; (with_reducible refine (HZ1.out _).mono ?_); rintro e w' ⟨rfl, rfl⟩)
    go_ret2
    exact ⟨⟨0, false, rfl, HR.out⟩, Below.refl _ _⟩
  | true =>
    cases h2 : prB p with
    | false =>
      have z1 := fun W => isSum_any s W
      rw [h1] at z1
      have z2 := fun W => isProduct_any p W
      rw [h2] at z2
      have HZ1 := Lib.hid z1
      have HZ2 := Lib.hid z2
      have HR : Hid (LbIs s p 0 false) := .inr ⟨.inr h2, rfl, rfl⟩
      clear h1 z1 h2 z2
      go_enter Tryd.func10, Tryd.ntmps10
      go_wp2_with (first | (go_at_call 21; (with_reducible refine (HZ1.out _).mono ?_); rintro e w' ⟨rfl, rfl⟩) | (go_at_call 22; (with_reducible refine (HZ2.out _).mono ?_); rintro e w' ⟨rfl, rfl⟩))
      go_ret2
      exact ⟨⟨0, false, rfl, HR.out⟩, Below.refl _ _⟩
    | true =>
      obtain ⟨p0, p1⟩ := (prB_iff p).1 h2
      obtain ⟨q, rfl⟩ : ∃ q : Nat, p = (q : Int) := ⟨p.toNat, by omega⟩
      exact iLb_yes s q w h1 h2
theorem sLb_any (s p : Int) (w : World) :
    Calls Tryd.prog 9 #[.int .i64 s, .int .i64 p] w fun e w' => (∃ (h : Int) (ok : Bool), e = .returned (.tuple #[.int .i64 h, .bool ok]) ∧ LbIs s p h ok) ∧ Below w.heap.size w w' := by
  cases h1 : smB s with
  | false =>
    have z1 := fun W => leSum_any s W
    rw [h1] at z1
    have HZ1 := Lib.hid z1
    have HR : Hid (LbIs s p 0 false) := .inr ⟨.inl h1, rfl, rfl⟩
    clear h1 z1
    go_enter Tryd.func9, Tryd.ntmps9
    go_wp2_with (go_at_call 18; (with_reducible refine (HZ1.out _).mono ?_); rintro e w' ⟨rfl, rfl⟩)
    go_ret2
    exact ⟨⟨0, false, rfl, HR.out⟩, Below.refl _ _⟩
  | true =>
    cases h2 : prB p with
    | false =>
      have z1 := fun W => leSum_any s W
      rw [h1] at z1
      have z2 := fun W => lprod_any p W
      rw [h2] at z2
      have HZ1 := Lib.hid z1
      have HZ2 := Lib.hid z2
      have HR : Hid (LbIs s p 0 false) := .inr ⟨.inr h2, rfl, rfl⟩
      clear h1 z1 h2 z2
      go_enter Tryd.func9, Tryd.ntmps9
      go_wp2_with (first | (go_at_call 18; (with_reducible refine (HZ1.out _).mono ?_); rintro e w' ⟨rfl, rfl⟩) | (go_at_call 19; (with_reducible refine (HZ2.out _).mono ?_); rintro e w' ⟨rfl, rfl⟩))
      go_ret2
      exact ⟨⟨0, false, rfl, HR.out⟩, Below.refl _ _⟩
    | true =>
      obtain ⟨p0, p1⟩ := (prB_iff p).1 h2
      obtain ⟨q, rfl⟩ : ∃ q : Nat, p = (q : Int) := ⟨p.toNat, by omega⟩
      exact sLb_yes s q w h1 h2
theorem FnExactLeastBoth_law (s p : Int) (_h0 : (Lit.int .i64 s).wf = true) (_h1 : (Lit.int .i64 p).wf = true) (w : World) :
    Calls Tryd.prog 4 #[.int .i64 s, .int .i64 p] w fun e w' => e = .returned (.bool true) ∧ Below w.heap.size w w' := by
  go_enter Tryd.func4, Tryd.ntmps4
  go_wp2_with (first | (go_at_call 9; go_must ((with_reducible refine (sLb_any _ _ _).mono ?_); rintro e w1 ⟨⟨l, a, rfl, hr⟩, b1⟩; have HR := Lib.hid hr; clear hr)) | (go_at_call 10; go_must ((with_reducible refine (iLb_any _ _ _).mono ?_); rintro e w2 ⟨⟨q, o, rfl, hq⟩, b2⟩; have e0 := (HR.out.uniq hq).1; have e1 := (HR.out.uniq hq).2; subst e0; subst e1; clear hq)))
  go_ret
  exact ⟨rfl, chain b1 b2⟩
end Go.Proofs.YtghjpanabphbpabDoor

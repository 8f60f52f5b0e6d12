/-
  Readings: the law of AddMiles.
-/
import Derived.Test.YtlkeemnnncnibaaDoorMiIm1
import Derived.Test.YtlkeemnnncnibaaDoorMiSp1
import Derived.Lib.LaidTab
import Derived.Lib.AppendIntMem
import Derived.Sort.Grow
namespace Go.Proofs.YtlkeemnnncnibaaDoor
open Go.RowKit

theorem dec_small {n : Nat} (h : n < 10) : Lib.decDigits n = [dc n] := by rw [Lib.decDigits, dif_pos h]; rfl
theorem dec_big {n : Nat} (h : ¬ n < 10) : Lib.decDigits n = Lib.decDigits (n / 10) ++ [dc (n % 10)] := by rw [Lib.decDigits, dif_neg h]; rfl
theorem dec_dg (d : Nat) : ∀ n : Nat, n < 10 ^ (d + 1) → (Lib.decDigits n).length ≤ d + 1 ∧ dg (d + 1) n = List.replicate (d + 1 - (Lib.decDigits n).length) 48 ++ Lib.decDigits n := by
  induction d with
  | zero =>
    intro n h
    have h10 : n < 10 := by simpa using h
    rw [dec_small h10, dg]
    simp [dg, Nat.mod_eq_of_lt h10]
  | succ d ih =>
    intro n h
    have hn : n / 10 < 10 ^ (d + 1) := by
      rw [Nat.div_lt_iff_lt_mul (by omega)]
      rwa [Nat.pow_succ] at h
    obtain ⟨h1, h2⟩ := ih (n / 10) hn
    by_cases h10 : n < 10
    · rw [dec_small h10, dg, h2]
      have h0 : n / 10 = 0 := by omega
      rw [h0, dec_small (by omega)]
      refine ⟨by simp, ?_⟩
      simp only [List.length_singleton, Nat.add_sub_cancel, Nat.mod_eq_of_lt h10]
      rw [show [dc 0] = List.replicate 1 48 from rfl, List.replicate_append_replicate]
    · rw [dec_big h10, dg, h2]
      refine ⟨by simp; omega, ?_⟩
      rw [List.append_assoc]
      congr 2
      simp
theorem tab_below {P : Program} {w w' : World} {name : String} {k : IntKind} {zs : List Int} (h : Lib.TabIs P w name k zs) (hb : Below w.heap.size w w') : Lib.TabIs P w' name k zs := by
  unfold Lib.TabIs World.var? at *
  cases hg : P.globalNamed name with
  | none => rw [hg] at h; cases h
  | some g =>
    rw [hg] at h
    simp only [Option.bind_some] at h ⊢
    by_cases hl : g < w.heap.size
    · rw [hb.block g hl]; exact h
    · rw [Array.getElem?_eq_none (by omega)] at h; cases h
theorem itoa_at (n : Int) (D : List UInt8) (h0 : 0 ≤ n) (h1 : n ≤ 9223372036854775807) (hD : D = Lib.decDigits n.toNat) (w : World) (htab : Lib.TabIs Tryd.prog w "internal/strconv.uint64pow10" .u64 Lib.pow10Tab) :
    Calls Tryd.prog 35 #[.int .i64 n] w fun e w' => e = .returned (.string ⟨D.toArray⟩) ∧ Below w.heap.size w w' := by
  refine (Tryd.strconv_Itoa n (by omega) h1 w htab).mono ?_
  rintro e w' ⟨rfl, k, os, rfl⟩
  refine ⟨?_, Lib.below_grow _ _ (Nat.le_refl _) _ _⟩
  rw [hD, Lib.itoa, if_neg (by omega)]
theorem rep_z (c : Nat) (h : c ≤ 9) : Lib.repeatL (⟨#[48]⟩ : ByteArray).data.toList c = List.replicate c 48 := by
  have : c = 0 ∨ c = 1 ∨ c = 2 ∨ c = 3 ∨ c = 4 ∨ c = 5 ∨ c = 6 ∨ c = 7 ∨ c = 8 ∨ c = 9 := by omega
  rcases this with h | h | h | h | h | h | h | h | h | h <;> subst h <;> decide +kernel
theorem digitsOf_any (d n : Nat) (x : Int) (w : World) (hd1 : 1 ≤ d) (hd9 : d ≤ 9) (hn : n < 10 ^ d) (hx : x = (n : Int)) (htab : Lib.TabIs Tryd.prog w "internal/strconv.uint64pow10" .u64 Lib.pow10Tab) :
    Calls Tryd.prog 22 #[.int .i64 x, .int .i64 d] w fun e w' => e = .returned (.string ⟨(dg d n).toArray⟩) ∧ Below w.heap.size w w' := by
  obtain ⟨k, hk⟩ : ∃ k, d = k + 1 := ⟨d - 1, by omega⟩
  have hdd := dec_dg k n (by rw [← hk]; exact hn)
  rw [← hk] at hdd
  obtain ⟨hl, he⟩ := hdd
  have hpb := pow_bd d hd9
  obtain ⟨D, hD⟩ : ∃ D, D = Lib.decDigits n := ⟨_, rfl⟩
  rw [← hD] at hl he
  obtain ⟨c, hc⟩ : ∃ c, c = d - D.length := ⟨_, rfl⟩
  rw [← hc] at he
  rw [he]
  have hIt := itoa_at x D (by omega) (by omega) (by rw [hD, hx]; simp) w htab
  have hRp : ∀ (y : Int) W, y = (c : Int) → Calls Tryd.prog 36 #[.string ⟨#[48]⟩, .int .i64 y] W fun e w' => e = .returned (.string ⟨(List.replicate c 48).toArray⟩) ∧ Below W.heap.size W w' := by
    intro y W hy
    subst hy
    have h1 : (⟨#[48]⟩ : ByteArray).size = 1 := rfl
    have := Tryd.strings_Repeat ⟨#[48]⟩ c W (by omega) (by rw [h1]; omega)
    rw [rep_z c (by omega)] at this
    exact this
  have HIT := Lib.hid hIt
  have HRP := Lib.hid hRp
  obtain ⟨S, hS⟩ : ∃ S : ByteArray, S = ⟨D.toArray⟩ := ⟨_, rfl⟩
  have hSs : S.size = D.length := by rw [hS, sz_of]
  obtain ⟨Z, hZ⟩ : ∃ Z : ByteArray, Z = ⟨(List.replicate c 48).toArray⟩ := ⟨_, rfl⟩
  have hZs : Z.size = c := by rw [hZ, sz_of]; simp
  rw [← hS] at HIT
  rw [← hZ] at HRP
  have hm : max 0 ((d : Int) - (S.size : Int)) = (c : Int) := by omega
  have hsz : Z.size + S.size ≤ 100 := by omega
  have HR : Hid (Z ++ S = ⟨(List.replicate c 48 ++ D).toArray⟩) := by show _ = _; rw [hZ, hS, str_two]
  have HM := Lib.hid hm
  clear hIt hRp htab hD hc hk he hS hZ hn hpb hx hSs hZs
  go_enter Tryd.func22, Tryd.ntmps22
  go_wp2_with (first | (go_at_call 35; refine HIT.out.mono ?_; rintro e w1 ⟨rfl, b1⟩) | (go_at_call 36; refine (HRP.out _ _ (by first | rfl | exact HM.out)).mono ?_; rintro e w2 ⟨rfl, b2⟩))
  go_ret
  exact ⟨ret_str HR.out, chain b1 b2⟩
/-- There are a reading and a number of miles. -/
def amB (s : ByteArray) (m : Int) : Bool := rdB s && decide (0 ≤ m ∧ m ≤ 1000000000)
def amA (s : ByteArray) (m : Int) : ByteArray := if amB s m then ⟨(dg s.size ((nu s.data.toList + m.toNat) % 10 ^ s.size)).toArray⟩ else ⟨#[]⟩
theorem amA_no {s : ByteArray} {m : Int} (h : amB s m = false) : amA s m = ⟨#[]⟩ := by unfold amA; rw [h]; rfl
theorem amA_yes {s : ByteArray} {m : Int} (h : amB s m = true) : amA s m = ⟨(dg s.size ((nu s.data.toList + m.toNat) % 10 ^ s.size)).toArray⟩ := by unfold amA; rw [h]; rfl
set_option maxHeartbeats 1000000 in
theorem sAddMiles_any (s : ByteArray) (m : Int) (w : World) (hs : s.size ≤ maxLen) :
    Calls Tryd.prog 5 #[.string s, .int .i64 m] w fun e w' => e = .returned (.tuple #[.string (amA s m), .bool (amB s m)]) ∧ Below w.heap.size w w' := by
  have HG := Lib.hid (fun W => miGood_any s W hs)
  cases hb : rdB s with
  | false =>
    have hn : amB s m = false := by unfold amB; rw [hb]; rfl
    have HA := Lib.hid (amA_no hn)
    have HN := Lib.hid hn
    rw [hb] at HG
    clear hb hn
    go_enter Tryd.func5, Tryd.ntmps5
    go_wp2_with (go_at_call 9; (with_reducible refine (HG.out _).mono ?_); rintro e w1 ⟨rfl, rfl⟩)
    go_ret2
    exact ⟨ret_sb HA.out.symm HN.out.symm, Below.refl _ _⟩
  | true =>
    rw [hb] at HG
    cases hq : decide (0 ≤ m ∧ m ≤ 1000000000) with
    | false =>
      have hn : amB s m = false := by unfold amB; rw [hb, hq]; rfl
      have HA := Lib.hid (amA_no hn)
      have HN := Lib.hid hn
      have HQ := Lib.hid hq
      clear hb hn hq
      go_enter Tryd.func5, Tryd.ntmps5
      go_wp2_with (first | (go_at_call 9; (with_reducible refine (HG.out _).mono ?_); rintro e w1 ⟨rfl, rfl⟩) | (go_at_call 10; refine (in_b _ _ _ false _ HQ.out).mono ?_; rintro e w' ⟨rfl, rfl⟩))
      go_ret2
      exact ⟨ret_sb HA.out.symm HN.out.symm, Below.refl _ _⟩
    | true =>
      have hn : amB s m = true := by unfold amB; rw [hb, hq]; rfl
      have hA := amA_yes hn
      have HN := Lib.hid hn
      have HQ := Lib.hid hq
      have hmm := of_decide_eq_true hq
      obtain ⟨M, hM⟩ : ∃ M : Nat, m = (M : Int) := ⟨m.toNat, by omega⟩
      subst hM
      rw [show ((M : Nat) : Int).toNat = M by omega] at hA
      obtain ⟨h1, h9, hd⟩ := (rdB_iff s).1 hb
      have hnum := fun W => tkNumber_any s W (by omega) hd
      have hnb := nu_9 s.data.toList (by rw [show s.data.toList.length = s.size by simp]; omega) hd
      have hall := fun W => miAll_any s.size W (by omega)
      have hpb := pow_bd s.size h9
      obtain ⟨X, hX⟩ : ∃ X, X = nu s.data.toList := ⟨_, rfl⟩
      obtain ⟨R, hR⟩ : ∃ R, R = 10 ^ s.size := ⟨_, rfl⟩
      rw [← hX] at hnum hnb hA
      rw [← hR] at hall hpb hA
      have hz := Nat.mod_lt (X + M) (show 0 < R by omega)
      have htx : ∀ W, Calls Tryd.prog 11 #[.int .i64 s.size, .int .i64 (((X : Int) + (M : Int)) % (R : Int))] W fun e w' => e = .returned (.string (amA s (M : Int))) ∧ Below W.heap.size W w' := by
        intro W
        rw [hA]
        exact miText_any s.size ((X + M) % R) _ W (by omega) (by omega) (by push_cast; rfl)
      have HNU := Lib.hid hnum
      have HALL := Lib.hid hall
      have HTX := Lib.hid htx
      have hR0 : (R : Int) ≠ 0 := by omega
      have q0 : 0 ≤ ((X : Int) + (M : Int)) % (R : Int) := Int.emod_nonneg _ (by omega)
      have q1 : ((X : Int) + (M : Int)) % (R : Int) < (R : Int) := Int.emod_lt_of_pos _ (by omega)
      clear hnum hall htx hX hR hA hn hb hq hd hz
      go_enter Tryd.func5, Tryd.ntmps5
      go_wp2_with (first | (go_at_call 9; (with_reducible refine (HG.out _).mono ?_); rintro e w1 ⟨rfl, rfl⟩) | (go_at_call 10; refine (in_b _ _ _ true _ HQ.out).mono ?_; rintro e w' ⟨rfl, rfl⟩) | (go_at_call 12; (with_reducible refine (HNU.out _).mono ?_); rintro e w3 ⟨rfl, rfl⟩) | (go_at_call 13; (with_reducible refine (HALL.out _).mono ?_); rintro e w4 ⟨rfl, rfl⟩) | (go_at_call 11; (with_reducible refine (HTX.out _).mono ?_); rintro e w5 ⟨rfl, b5⟩))
      go_ret2
      exact ⟨ret_sb rfl HN.out.symm, b5⟩
set_option maxHeartbeats 1000000 in
theorem iAddMiles_any (s : ByteArray) (m : Int) (w : World) (hs : s.size ≤ maxLen) (htab : Lib.TabIs Tryd.prog w "internal/strconv.uint64pow10" .u64 Lib.pow10Tab) :
    Calls Tryd.prog 6 #[.string s, .int .i64 m] w fun e w' => e = .returned (.tuple #[.string (amA s m), .bool (amB s m)]) ∧ Below w.heap.size w w' := by
  have HG := Lib.hid (fun W => iIsReading_any s W hs)
  cases hb : rdB s with
  | false =>
    have hn : amB s m = false := by unfold amB; rw [hb]; rfl
    have HA := Lib.hid (amA_no hn)
    have HN := Lib.hid hn
    rw [hb] at HG
    clear hb hn
    go_enter Tryd.func6, Tryd.ntmps6
    go_wp2_with (go_at_call 14; (with_reducible refine (HG.out _).mono ?_); rintro e w1 ⟨rfl, rfl⟩)
    go_ret2
    exact ⟨ret_sb HA.out.symm HN.out.symm, Below.refl _ _⟩
  | true =>
    rw [hb] at HG
    by_cases hneg : m < 0
    · have hn : amB s m = false := by unfold amB; rw [hb, decide_eq_false (by omega)]; rfl
      have HA := Lib.hid (amA_no hn)
      have HN := Lib.hid hn
      clear hb hn
      go_enter Tryd.func6, Tryd.ntmps6
      go_wp2_with (go_at_call 14; (with_reducible refine (HG.out _).mono ?_); rintro e w1 ⟨rfl, rfl⟩)
      go_ret2
      exact ⟨ret_sb HA.out.symm HN.out.symm, Below.refl _ _⟩
    · by_cases hbig : 1000000000 < m
      · have hn : amB s m = false := by unfold amB; rw [hb, decide_eq_false (by omega)]; rfl
        have HA := Lib.hid (amA_no hn)
        have HN := Lib.hid hn
        clear hb hn
        go_enter Tryd.func6, Tryd.ntmps6
        go_wp2_with (go_at_call 14; (with_reducible refine (HG.out _).mono ?_); rintro e w1 ⟨rfl, rfl⟩)
        go_ret2
        exact ⟨ret_sb HA.out.symm HN.out.symm, Below.refl _ _⟩
      · have hn : amB s m = true := by unfold amB; rw [hb, decide_eq_true (by omega)]; rfl
        have hA := amA_yes hn
        have HN := Lib.hid hn
        obtain ⟨M, hM⟩ : ∃ M : Nat, m = (M : Int) := ⟨m.toNat, by omega⟩
        subst hM
        rw [show ((M : Nat) : Int).toNat = M by omega] at hA
        obtain ⟨h1, h9, hd⟩ := (rdB_iff s).1 hb
        have HRB : Hid (Calls Tryd.prog 15 #[.string s, .int .i64 M] w fun e w' => e = .returned (.string (amA s (M : Int))) ∧ Below w.heap.size w w') := by
          have hnum := fun W => numberIn_any s W (by omega) hd
          have hnb := nu_9 s.data.toList (by rw [show s.data.toList.length = s.size by simp]; omega) hd
          have hrd := fun W => roundOf_any s.size W h1 h9
          have hpb := pow_bd s.size h9
          obtain ⟨X, hX⟩ : ∃ X, X = nu s.data.toList := ⟨_, rfl⟩
          obtain ⟨R, hR⟩ : ∃ R, R = 10 ^ s.size := ⟨_, rfl⟩
          rw [← hX] at hnum hnb hA
          rw [← hR] at hrd hpb hA
          have hz := Nat.mod_lt (X + M) (show 0 < R by omega)
          have hdg : ∀ W, Below w.heap.size w W → Calls Tryd.prog 22 #[.int .i64 (((X : Int) + (M : Int)) % (R : Int)), .int .i64 s.size] W fun e w' => e = .returned (.string (amA s (M : Int))) ∧ Below W.heap.size W w' := by
            intro W hW
            rw [hA]
            exact digitsOf_any s.size ((X + M) % R) _ W h1 h9 (by rw [← hR]; exact hz) (by push_cast; rfl) (tab_below htab hW)
          have HNU := Lib.hid hnum
          have HRD := Lib.hid hrd
          have HDG := Lib.hid hdg
          have hR0 : (R : Int) ≠ 0 := by omega
          have q0 : 0 ≤ ((X : Int) + (M : Int)) % (R : Int) := Int.emod_nonneg _ (by omega)
          have q1 : ((X : Int) + (M : Int)) % (R : Int) < (R : Int) := Int.emod_lt_of_pos _ (by omega)
          clear hnum hrd hdg hX hR hA hn hb hd hz htab
          go_enter Tryd.func15, Tryd.ntmps15
          go_wp2_with (first | (go_at_call 23; (with_reducible refine (HNU.out _).mono ?_); rintro e w3 ⟨rfl, rfl⟩) | (go_at_call 24; (with_reducible refine (HRD.out _).mono ?_); rintro e w4 ⟨rfl, b4⟩) | (go_at_call 22; (with_reducible refine (HDG.out _ b4).mono ?_); rintro e w5 ⟨rfl, b5⟩))
          go_ret
          exact ⟨rfl, chain b4 b5⟩
        clear hA hn hb hd htab
        go_enter Tryd.func6, Tryd.ntmps6
        go_wp2_with (first | (go_at_call 14; (with_reducible refine (HG.out _).mono ?_); rintro e w1 ⟨rfl, rfl⟩) | (go_at_call 15; refine HRB.out.mono ?_; rintro e w2 ⟨rfl, b2⟩))
        go_ret2
        exact ⟨ret_sb rfl HN.out.symm, b2⟩
set_option maxHeartbeats 1000000 in
theorem FnExactAddMiles_law (z0 : ByteArray) (p1 : Int) (hz0 : z0.size ≤ maxLen) (_hp1 : (Lit.int .i64 p1).wf = true) (w : World) (htab : Lib.TabIs Tryd.prog w "internal/strconv.uint64pow10" .u64 Lib.pow10Tab) :
    Calls Tryd.prog 3 #[.string z0, .int .i64 p1] w fun e w' => e = .returned (.bool true) ∧ Below w.heap.size w w' := by
  have hz0' := hz0
  unfold maxLen at hz0'
  have hs1 := fun W => sAddMiles_any z0 p1 W hz0
  have hi1 := fun W hW => iAddMiles_any z0 p1 W hz0 (tab_below htab hW)
  obtain ⟨A0, hA0⟩ : ∃ A0 : ByteArray, A0 = amA z0 p1 := ⟨_, rfl⟩
  obtain ⟨A1, hA1⟩ : ∃ A1 : Bool, A1 = amB z0 p1 := ⟨_, rfl⟩
  rw [← hA0, ← hA1] at hs1 hi1
  have HS := Lib.hid hs1
  have HI := Lib.hid hi1
  clear hs1 hi1 hA0 hA1 htab
  by_cases hb0 : (z0.size : Int) ≤ 1048576
  case neg =>
    go_enter Tryd.func3, Tryd.ntmps3
    go_wp2
    go_ret
    exact ⟨rfl, Below.refl _ _⟩
  case pos =>
    go_enter Tryd.func3, Tryd.ntmps3
    go_wp2_with (first | (go_at_call 5; (with_reducible refine (HS.out _).mono ?_); rintro e w1 ⟨rfl, b1⟩) | (go_at_call 6; (with_reducible refine (HI.out _ b1).mono ?_); rintro e w2 ⟨rfl, b2⟩))
    go_ret
    exact ⟨rfl, chain b1 b2⟩
end Go.Proofs.YtlkeemnnncnibaaDoor

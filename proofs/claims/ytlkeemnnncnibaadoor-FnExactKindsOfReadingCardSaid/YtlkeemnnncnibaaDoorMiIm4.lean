/-
  Readings: those with opposites, as the program counts them; all counters of kinds.
-/
import Derived.Test.YtlkeemnnncnibaaDoorMiIm3
namespace Go.Proofs.YtlkeemnnncnibaaDoor
open Go.RowKit

theorem get_ix (b : List UInt8) (p : Nat) (h : p < b.length) : b[p]? = some b[p] := List.getElem?_eq_getElem h
theorem mayStand_any (b : List UInt8) (p d : Nat) (x y : Int) (w : World) (_hb : b.length ≤ 1000) (hx : x = (p : Int)) (hy : y = 48 + (d : Int)) (hd : d ≤ 9) (_hp : p ≤ 1000) :
    Calls Tryd.prog 58 #[.string ⟨b.toArray⟩, .int .i64 x, .int .u8 y] w fun e w' => e = .returned (.bool (ms b p d)) ∧ w = w' := by
  obtain ⟨s, hs⟩ : ∃ s : ByteArray, s = ⟨b.toArray⟩ := ⟨_, rfl⟩
  have hsz : s.size = b.length := by rw [hs, sz_of]
  rw [← hs]
  subst hx
  subst hy
  by_cases h : b.length ≤ p
  · have HR : Hid (ms b p d = true) := ms_far b p d h
    have h' : s.size ≤ p := by omega
    clear h hsz hs
    go_enter Tryd.func58, Tryd.ntmps58
    go_wp2
    go_ret
    exact ⟨ret_bool HR.out.symm, rfl⟩
  · have hlt : p < s.size := by omega
    have hg : b[p]? = some s[p] := by
      subst hs
      exact get_ix b p (by omega)
    cases hm : ms b p d with
    | true =>
      have he : (s[p].toNat : Int) = 48 + (d : Int) := by
        unfold ms at hm
        rw [hg] at hm
        simp [h] at hm
        rw [hm, dc_nat hd]; omega
      clear hm hg h hsz hs
      go_enter Tryd.func58, Tryd.ntmps58
      go_wp2
      go_ret
      exact ⟨rfl, rfl⟩
    | false =>
      have he : ¬ (s[p].toNat : Int) = 48 + (d : Int) := by
        intro he
        have : s[p] = dc d := by apply UInt8.toNat_inj.1; rw [dc_nat hd]; omega
        unfold ms at hm
        rw [hg, this] at hm
        simp at hm
      clear hm hg h hsz hs
      go_enter Tryd.func58, Tryd.ntmps58
      go_wp2
      go_ret
      exact ⟨ret_bool (by simp; omega), rfl⟩
/-- A table of opposites, as the program holds it. -/
def Tbl (o : Nat → Nat) (t : ByteArray) : Prop := t.size = 10 ∧ ∀ (i : Nat) (h : i < t.size), (t[i].toNat : Int) = if o i ≤ 9 then 48 + (o i : Int) else 32
theorem pa_le (o : Nat → Nat) (b : List UInt8) (p q k : Nat) : sm (fun i => if decide (o i ≤ 9) && (decide (p ≠ q) || decide (o i = i)) && ms b p i && ms b q (o i) then 1 else 0) k ≤ k := by
  induction k with
  | zero => exact Nat.le_refl _
  | succ k ih => simp only [sm]; split <;> omega
set_option maxHeartbeats 1000000 in
theorem pairsAt_any (o : Nat → Nat) (t : ByteArray) (b : List UInt8) (p q : Nat) (y : Int) (w : World) (ht : Tbl o t) (hb : b.length ≤ 1000) (hp : p ≤ 1000) (hq : q ≤ 1000) (hy : y = (q : Int)) :
    Calls Tryd.prog 43 #[.string t, .string ⟨b.toArray⟩, .int .i64 p, .int .i64 y] w fun e w' => e = .returned (.int .i64 ((pa o b p q : Nat) : Int)) ∧ Below w.heap.size w w' := by
  subst hy
  obtain ⟨htz, hte⟩ := ht
  have HT := Lib.hid hte
  have HP := Lib.hid (pa_le o b p q)
  have HPA : Hid (pa o b p q = sm (fun i => if decide (o i ≤ 9) && (decide (p ≠ q) || decide (o i = i)) && ms b p i && ms b q (o i) then 1 else 0) 10) := rfl
  obtain ⟨f, hf⟩ : ∃ f : Nat → Nat, f = (fun i => if decide (o i ≤ 9) && (decide (p ≠ q) || decide (o i = i)) && ms b p i && ms b q (o i) then 1 else 0) := ⟨_, rfl⟩
  have HF : Hid (∀ i, f i = if decide (o i ≤ 9) && (decide (p ≠ q) || decide (o i = i)) && ms b p i && ms b q (o i) then 1 else 0) := by intro i; rw [hf]
  rw [← hf] at HP HPA
  clear hf hte
  go_enter Tryd.func43, Tryd.ntmps43
  go_wp2
  go_loopw [9, 16] (fun s i wr => ∃ (k S : Nat), k ≤ 10 ∧ i = .int .i64 k ∧ s = .int .i64 S ∧ S ≤ k ∧ Hid (S = sm f k) ∧ Below w.heap.size w wr) (fun _ i _ => 10 - (intOf i).toNat)
  case atStart => exact ⟨0, 0, Nat.zero_le _, rfl, rfl, Nat.le_refl _, rfl, Below.refl _ _⟩
  case round =>
    obtain ⟨k, S, hk, rfl, rfl, hSk, HS, hbl⟩ := hrel
    by_cases hlt : k < 10
    · have hkt : k < t.size := by omega
      have hv := HT.out k hkt
      have hstep : sm f (k + 1) = S + f k := by rw [HS.out]; rfl
      have hfk := HF.out k
      by_cases ho : o k ≤ 9
      · rw [if_pos ho] at hv
        obtain ⟨v, hvv⟩ : ∃ v, v = o k := ⟨_, rfl⟩
        rw [← hvv] at hv ho hfk
        have hm1 := fun W => mayStand_any b p k (p : Int) (48 + (k : Int)) W hb rfl rfl (by omega) hp
        have hm2 := fun W => mayStand_any b q v (q : Int) (48 + (v : Int)) W hb rfl rfl ho hq
        have hne : ((48 + (v : Int)) != 32) = true := by simp; omega
        by_cases hok : p ≠ q ∨ v = k
        · have hob : (decide (p ≠ q) || decide (v = k)) = true := by simpa using hok
          rw [hob, decide_eq_true ho] at hfk
          cases h1 : ms b p k with
          | false =>
            rw [h1] at hfk hm1
            have HN : Hid (S = sm f (k + 1)) := by show _ = _; rw [hstep, hfk]; rfl
            have HM := Lib.hid hm1
            clear hstep hfk hm1 hm2 hob hvv h1
            by_cases hpq : p = q
            · have hvk : v = k := by rcases hok with h | h; exact absurd hpq h; exact h
              subst hvk
              subst hpq
              clear hok
              go_wp2
              go_quiet (fail)
              go_wp2_with (go_at_call 58; with_reducible refine (HM.out _).mono ?_; rintro e w1 ⟨rfl, rfl⟩)
              go_roundw
              case rel => exact ⟨v + 1, S, by omega, by go_num, rfl, by omega, HN, below_drewN hbl _⟩
              case measure => simp [intOf]; omega
            · have hpqb : ((p : Int) != (q : Int)) = true := by simp; omega
              clear hok
              go_wp2
              go_quiet (fail)
              go_wp2_with (go_at_call 58; with_reducible refine (HM.out _).mono ?_; rintro e w1 ⟨rfl, rfl⟩)
              go_roundw
              case rel => exact ⟨k + 1, S, by omega, by go_num, rfl, by omega, HN, below_drewN hbl _⟩
              case measure => simp [intOf]; omega
          | true =>
            rw [h1] at hfk hm1
            obtain ⟨u, hu⟩ : ∃ u, u = ms b q v := ⟨_, rfl⟩
            have HU : Hid (p = q → v = k → u = true) := by intro e1 e2; rw [hu, ← e1, e2]; exact h1
            rw [← hu] at hfk hm2
            have HN : Hid (S + (if u then 1 else 0) = sm f (k + 1)) := by show _ = _; rw [hstep, hfk]; rfl
            have HM := Lib.hid hm1
            have HM2 := Lib.hid hm2
            clear hstep hfk hm1 hm2 hob hvv h1 hu
            by_cases hpq : p = q
            · have hvk : v = k := by rcases hok with h | h; exact absurd hpq h; exact h
              have hut : u = true := HU.out hpq hvk
              subst hvk
              subst hpq
              subst hut
              clear hok
              go_wp2
              go_quiet (fail)
              go_wp2_with (go_at_call 58; with_reducible refine (HM.out _).mono ?_; rintro e w1 ⟨rfl, rfl⟩)
              go_roundw
              case rel => exact ⟨v + 1, S + 1, by omega, by go_num, by go_num, by omega, HN, below_drewN hbl _⟩
              case measure => simp [intOf]; omega
            · have hpqb : ((p : Int) != (q : Int)) = true := by simp; omega
              clear hok
              cases u with
              | true =>
                go_wp2
                go_quiet (fail)
                go_wp2_with (go_at_call 58; (first | (with_reducible refine (HM.out _).mono ?_) | (with_reducible refine (HM2.out _).mono ?_)); rintro e w1 ⟨rfl, rfl⟩)
                go_roundw
                case rel => exact ⟨k + 1, S + 1, by omega, by go_num, by go_num, by omega, HN, below_drewN hbl _⟩
                case measure => simp [intOf]; omega
              | false =>
                go_wp2
                go_quiet (fail)
                go_wp2_with (go_at_call 58; (first | (with_reducible refine (HM.out _).mono ?_) | (with_reducible refine (HM2.out _).mono ?_)); rintro e w1 ⟨rfl, rfl⟩)
                go_roundw
                case rel => exact ⟨k + 1, S, by omega, by go_num, rfl, by omega, HN, below_drewN hbl _⟩
                case measure => simp [intOf]; omega
        · have hpq : p = q := Classical.byContradiction (fun h => hok (.inl h))
          have hvk : v ≠ k := fun h => hok (.inr h)
          have hob : (decide (p ≠ q) || decide (v = k)) = false := by simp [hpq, hvk]
          rw [hob] at hfk
          have HN : Hid (S = sm f (k + 1)) := by show _ = _; rw [hstep, hfk]; simp
          have heq : (48 + (k : Int) == 48 + (v : Int)) = false := by simp; omega
          clear hstep hfk hm1 hm2 hob hvv hok HF HP HPA
          subst hpq
          go_wp2
          go_quiet (fail)
          go_wp2
          go_roundw
          case rel => exact ⟨k + 1, S, by omega, by go_num, rfl, by omega, HN, below_drewN hbl _⟩
          case measure => simp [intOf]; omega
      · rw [if_neg ho] at hv
        rw [decide_eq_false ho] at hfk
        have HN : Hid (S = sm f (k + 1)) := by show _ = _; rw [hstep, hfk]; rfl
        clear hstep hfk ho
        go_wp2
        go_quiet (fail)
        go_wp2
        go_roundw
        case rel => exact ⟨k + 1, S, by omega, by go_num, rfl, by omega, HN, below_drewN hbl _⟩
        case measure => simp [intOf]; omega
    · have HR : Hid ((S : Int) = ((pa o b p q : Nat) : Int)) := by show _ = _; rw [HPA.out, HS.out, show k = 10 by omega]
      go_wp2
      go_ret
      exact ⟨ret_int HR.out, hbl⟩
end Go.Proofs.YtlkeemnnncnibaaDoor

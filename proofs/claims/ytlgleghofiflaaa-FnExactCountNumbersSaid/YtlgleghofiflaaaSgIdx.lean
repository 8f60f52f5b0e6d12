/-
  The first reckoning that fits.
-/
import Derived.Test.YtlgleghofiflaaaSgAt
namespace Go.Proofs.Ytlgleghofiflaaa
open Go.RowKit

/-- The first place at which it holds. -/
def fstI (p : Sr → Bool) : List Sr → Int
  | [] => -1
  | q :: l => if p q then 0 else if fstI p l < 0 then -1 else fstI p l + 1
theorem fstI_hit (p : Sr → Bool) (rs : List Sr) (k : Nat) (hk : k < rs.length) (h : ∀ j (hj : j < k), p (rs[j]'(by omega)) = false) (hp : p rs[k] = true) : fstI p rs = k := by
  induction rs generalizing k with
  | nil => simp at hk
  | cons q l ih =>
    cases k with
    | zero => simp at hp; simp [fstI, hp]
    | succ k =>
      have h0 : p q = false := h 0 (by omega)
      have := ih k (by simpa using hk) (fun j hj => by have := h (j + 1) (by omega); simpa using this) (by simpa using hp)
      simp only [fstI, h0, this]
      simp; omega
theorem fstI_miss (p : Sr → Bool) (rs : List Sr) (h : ∀ j (hj : j < rs.length), p rs[j] = false) : fstI p rs = -1 := by
  induction rs with
  | nil => rfl
  | cons q l ih =>
    have h0 : p q = false := h 0 (by simp)
    have := ih (fun j hj => by have := h (j + 1) (by simpa using hj); simpa using this)
    simp [fstI, h0, this]
set_option maxHeartbeats 1000000 in
theorem idx_way (B : Nat) (rs : List Sr) (v : Value) (p : Sr → Bool) (b1 : Nat) (w : World) (h1 : Rks B rs v w) (hn : rs.length ≤ 1000000) (h0 : 0 < rs.length)
    (hp : ∀ W (k : Nat) (hk : k < rs.length), Below w.heap.size w W → Calls Try.prog 71 #[srV rs[k], .pointer (some ⟨b1, 0, none⟩)] W fun e w' => e = .returned (.bool (p rs[k])) ∧ Below W.heap.size W w') :
    Calls Try.prog 72 #[v, .func (.func 71) #[] #[.pointer (some ⟨b1, 0, none⟩)]] w fun e w' => e = .returned (.int .i64 (fstI p rs)) ∧ Below w.heap.size w w' := by
  obtain ⟨g, cap, rfl, _, hgl, hc⟩ := h1.form h0
  have HC := Lib.hid hc
  have HP := Lib.hid hp
  obtain ⟨n, hnn⟩ : ∃ n, n = rs.length := ⟨_, rfl⟩
  have HN := Lib.hid hnn
  rw [← hnn] at hn h0
  rw [← hnn]
  clear h1 hc hp hnn
  go_enter Try.func72, Try.ntmps72
  go_wp2
  go_loopw [8] (fun i wr => ∃ k : Nat, k ≤ n ∧ i = .int .i64 k ∧ Below w.heap.size w wr ∧ Hid (∀ j (hj : j < rs.length), j < k → p rs[j] = false)) (fun i _ => n - (intOf i).toNat)
  case atStart => exact ⟨0, Nat.zero_le _, rfl, Below.refl _ _, fun j hj h => absurd h (by omega)⟩
  case round =>
    obtain ⟨k, hk, rfl, hbl, HA⟩ := hrel
    have hbs := hbl.size
    by_cases hlt : k < n
    · have hlr : k < rs.length := by rw [← HN.out]; exact hlt
      obtain ⟨q, hq⟩ : ∃ q, q = rs[k] := ⟨_, rfl⟩
      have hat := (HC.out k hlr).below hbl hgl
      rw [← hq] at hat
      obtain ⟨ha0, ha1, ha2, ha3⟩ := hat
      have HQ := Lib.hid hq
      have hcall : Calls Try.prog 71 #[.agg #[.int .i64 q.1.S, .int .i64 q.1.P, .int .i64 q.1.N, .int .i64 q.2], .pointer (some ⟨b1, 0, none⟩)] wr fun e w' => e = .returned (.bool (p q)) ∧ Below wr.heap.size wr w' := by
        have := HP.out wr k hlr hbl
        rw [← hq] at this
        exact this
      have HCA := Lib.hid hcall
      clear hq hcall
      cases hpq : p q with
      | true =>
        have HPQ := Lib.hid hpq
        go_wp2_with (go_at_call 71; go_must ((with_reducible refine HCA.out.mono ?_); rintro e w' ⟨rfl, b1⟩))
        go_ret
        exact ⟨ret_int (by
          rw [fstI_hit p rs k (by rw [← HN.out]; exact hlt) (fun j hj => HA.out j (by rw [← HN.out]; omega) hj) (by rw [← HQ.out]; exact HPQ.out)]), hbl.trans (b1.mono hbs)⟩
      | false =>
        have HPQ := Lib.hid hpq
        have HA2 : Hid (∀ j (hj : j < rs.length), j < k + 1 → p rs[j] = false) := by
          intro j hj hjk
          by_cases e : j = k
          · subst e; rw [← HQ.out]; exact HPQ.out
          · exact HA.out j hj (by omega)
        go_wp2_with (go_at_call 71; go_must ((with_reducible refine HCA.out.mono ?_); rintro e w' ⟨rfl, b1⟩))
        go_roundw
        case rel => exact ⟨k + 1, by omega, by go_num, hbl.trans (b1.mono hbs), HA2⟩
        case measure => simp [intOf]; omega
    · have HM : Hid (fstI p rs = -1) := fstI_miss p rs (fun j hj => HA.out j hj (by rw [← HN.out] at hj; omega))
      go_wp2
      go_ret
      exact ⟨ret_int HM.out.symm, hbl⟩
set_option maxHeartbeats 1000000 in
theorem idx_few (B : Nat) (rs : List Sr) (v : Value) (p : Sr → Bool) (b1 b2 : Nat) (w : World) (h1 : Rks B rs v w) (hn : rs.length ≤ 1000000) (h0 : 0 < rs.length)
    (hp : ∀ W (k : Nat) (hk : k < rs.length), Below w.heap.size w W → Calls Try.prog 63 #[srV rs[k], .pointer (some ⟨b1, 0, none⟩), .pointer (some ⟨b2, 0, none⟩)] W fun e w' => e = .returned (.bool (p rs[k])) ∧ Below W.heap.size W w') :
    Calls Try.prog 72 #[v, .func (.func 63) #[] #[.pointer (some ⟨b1, 0, none⟩), .pointer (some ⟨b2, 0, none⟩)]] w fun e w' => e = .returned (.int .i64 (fstI p rs)) ∧ Below w.heap.size w w' := by
  obtain ⟨g, cap, rfl, _, hgl, hc⟩ := h1.form h0
  have HC := Lib.hid hc
  have HP := Lib.hid hp
  obtain ⟨n, hnn⟩ : ∃ n, n = rs.length := ⟨_, rfl⟩
  have HN := Lib.hid hnn
  rw [← hnn] at hn h0
  rw [← hnn]
  clear h1 hc hp hnn
  go_enter Try.func72, Try.ntmps72
  go_wp2
  go_loopw [8] (fun i wr => ∃ k : Nat, k ≤ n ∧ i = .int .i64 k ∧ Below w.heap.size w wr ∧ Hid (∀ j (hj : j < rs.length), j < k → p rs[j] = false)) (fun i _ => n - (intOf i).toNat)
  case atStart => exact ⟨0, Nat.zero_le _, rfl, Below.refl _ _, fun j hj h => absurd h (by omega)⟩
  case round =>
    obtain ⟨k, hk, rfl, hbl, HA⟩ := hrel
    have hbs := hbl.size
    by_cases hlt : k < n
    · have hlr : k < rs.length := by rw [← HN.out]; exact hlt
      obtain ⟨q, hq⟩ : ∃ q, q = rs[k] := ⟨_, rfl⟩
      have hat := (HC.out k hlr).below hbl hgl
      rw [← hq] at hat
      obtain ⟨ha0, ha1, ha2, ha3⟩ := hat
      have HQ := Lib.hid hq
      have hcall : Calls Try.prog 63 #[.agg #[.int .i64 q.1.S, .int .i64 q.1.P, .int .i64 q.1.N, .int .i64 q.2], .pointer (some ⟨b1, 0, none⟩), .pointer (some ⟨b2, 0, none⟩)] wr fun e w' => e = .returned (.bool (p q)) ∧ Below wr.heap.size wr w' := by
        have := HP.out wr k hlr hbl
        rw [← hq] at this
        exact this
      have HCA := Lib.hid hcall
      clear hq hcall
      cases hpq : p q with
      | true =>
        have HPQ := Lib.hid hpq
        go_wp2_with (go_at_call 63; go_must ((with_reducible refine HCA.out.mono ?_); rintro e w' ⟨rfl, b1⟩))
        go_ret
        exact ⟨ret_int (by
          rw [fstI_hit p rs k (by rw [← HN.out]; exact hlt) (fun j hj => HA.out j (by rw [← HN.out]; omega) hj) (by rw [← HQ.out]; exact HPQ.out)]), hbl.trans (b1.mono hbs)⟩
      | false =>
        have HPQ := Lib.hid hpq
        have HA2 : Hid (∀ j (hj : j < rs.length), j < k + 1 → p rs[j] = false) := by
          intro j hj hjk
          by_cases e : j = k
          · subst e; rw [← HQ.out]; exact HPQ.out
          · exact HA.out j hj (by omega)
        go_wp2_with (go_at_call 63; go_must ((with_reducible refine HCA.out.mono ?_); rintro e w' ⟨rfl, b1⟩))
        go_roundw
        case rel => exact ⟨k + 1, by omega, by go_num, hbl.trans (b1.mono hbs), HA2⟩
        case measure => simp [intOf]; omega
    · have HM : Hid (fstI p rs = -1) := fstI_miss p rs (fun j hj => HA.out j hj (by rw [← HN.out] at hj; omega))
      go_wp2
      go_ret
      exact ⟨ret_int HM.out.symm, hbl⟩
end Go.Proofs.Ytlgleghofiflaaa

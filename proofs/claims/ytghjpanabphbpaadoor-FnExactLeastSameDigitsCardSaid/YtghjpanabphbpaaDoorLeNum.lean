/-
  Least numbers: what digits tell, LeastWithSum.
-/
import Derived.Test.YtghjpanabphbpaaDoorLeFill
namespace Go.Proofs.YtghjpanabphbpaaDoor
open Go.RowKit

theorem sz_of (t : List UInt8) : (⟨t.toArray⟩ : ByteArray).size = t.length := by simp [ByteArray.size]
theorem lst (s : ByteArray) : (⟨s.data.toList.toArray⟩ : ByteArray) = s := by
  apply ByteArray.ext; simp
/-- The digits as signs. -/
def tx (l : List Nat) : List UInt8 := l.map dc
theorem tx_len (l : List Nat) : (tx l).length = l.length := by simp [tx]
theorem tx_cons (d : Nat) (l : List Nat) : tx (d :: l) = dc d :: tx l := rfl
theorem tx_append (a b : List Nat) : tx (a ++ b) = tx a ++ tx b := by simp [tx]
theorem tx_dig (l : List Nat) (h : ∀ x ∈ l, x ≤ 9) : digB (tx l) = true := by
  induction l with
  | nil => rfl
  | cons d l ih =>
    have h1 := ih (fun x hx => h x (List.mem_cons_of_mem _ hx))
    have e : digB (tx (d :: l)) = (dgB (dc d) && digB (tx l)) := by simp [tx, digB]
    rw [e, h1, dgB_dc (h d List.mem_cons_self)]; rfl
/-- The number that digits tell. -/
def dnum (l : List UInt8) : Int := l.foldl (fun n c => n * 10 + dv c) 0
theorem dnum_snoc (l : List UInt8) (c : UInt8) : dnum (l ++ [c]) = dnum l * 10 + dv c := by simp [dnum, List.foldl_append]
theorem dnum_bd (n : Nat) : ∀ l : List UInt8, l.length = n → digB l = true → 0 ≤ dnum l ∧ dnum l < ((10 ^ n : Nat) : Int) := by
  induction n with
  | zero => intro l hl _; have : l = [] := List.length_eq_zero_iff.1 hl; subst this; simp [dnum]
  | succ n ih =>
    intro l hl hd
    obtain ⟨a, c, rfl⟩ : ∃ a c, l = a ++ [c] := ⟨l.dropLast, l.getLast (by intro e; subst e; simp at hl), (List.dropLast_concat_getLast _).symm⟩
    rw [digB_snoc] at hd; simp at hd hl
    have h1 := ih a hl hd.1
    have h2 := (dgB_iff c).1 hd.2
    rw [dnum_snoc, Nat.pow_succ]; unfold dv; push_cast at *; omega
theorem dnum_17 (l : List UInt8) (hl : l.length ≤ 17) (hd : digB l = true) : 0 ≤ dnum l ∧ dnum l ≤ 99999999999999999 := by
  have h := dnum_bd l.length l rfl hd
  have hp : (10 : Nat) ^ l.length ≤ 10 ^ 17 := Nat.pow_le_pow_right (by omega) hl
  omega
theorem dnum_tx (l : List Nat) (h : ∀ x ∈ l, x ≤ 9) : dnum (tx l) = (nl l : Nat) := by
  have : ∀ r : List Nat, (∀ x ∈ r, x ≤ 9) → dnum (tx r.reverse) = (nl r.reverse : Nat) := by
    intro r
    induction r with
    | nil => intro _; rfl
    | cons d r ih =>
      intro hr
      rw [List.reverse_cons, tx_append, show tx [d] = [dc d] from rfl, dnum_snoc, nl_snoc, ih (fun x hx => hr x (List.mem_cons_of_mem _ hx)), dv_dc (hr d List.mem_cons_self)]
      push_cast; rfl
  have := this l.reverse (fun x hx => h x (List.mem_reverse.1 hx))
  rwa [List.reverse_reverse] at this
theorem numberIn_any (s : ByteArray) (w : World) (hs : s.size ≤ 17) (hd : digB s.data.toList = true) :
    Calls Tryd.prog 39 #[.string s] w fun e w' => e = .returned (.int .i64 (dnum s.data.toList)) ∧ w = w' := by
  have HD := Lib.hid hd; clear hd
  go_enter Tryd.func39, Tryd.ntmps39
  go_wp2
  go_loop [3, 7] (fun t i => ∃ k : Nat, k ≤ s.size ∧ i = .int .i64 k ∧ t = .int .i64 (dnum (s.data.toList.take k))) (fun _ i => s.size - (intOf i).toNat)
  case atStart => exact ⟨0, Nat.zero_le _, rfl, rfl⟩
  case round =>
    obtain ⟨k, hk, rfl, rfl⟩ := hrel
    have hl : (s.data.toList.take k).length ≤ k := List.length_take_le _ _
    have hb := dnum_17 (s.data.toList.take k) (by omega) (digB_take _ _ HD.out)
    obtain ⟨hb1, hb2⟩ := hb
    by_cases hlt : k < s.size
    · have hc := digB_get s k hlt HD.out
      obtain ⟨hc1, hc2⟩ := hc
      go_wp2
      go_round
      case rel => exact ⟨k + 1, by omega, by go_num, val_int (by rw [take_snoc s k hlt, dnum_snoc, dv])⟩
      case measure => simp [intOf]; omega
    · go_wp2
      go_ret
      exact ⟨ret_int (by rw [show k = s.size by omega, take_all]), rfl⟩
theorem numL_any (l : List UInt8) (w : World) (hs : l.length ≤ 17) (hd : digB l = true) :
    Calls Tryd.prog 39 #[.string ⟨l.toArray⟩] w fun e w' => e = .returned (.int .i64 (dnum l)) ∧ w = w' := numberIn_any ⟨l.toArray⟩ w (by rw [sz_of]; exact hs) hd
/-- The digits of the least one. -/
def ll (S : Nat) : Nat → List Nat
  | 0 => []
  | n + 1 => ld S n :: ll S n
theorem lh_ll (S n : Nat) : lh S n = tx (ll S n) := by
  induction n with
  | zero => rfl
  | succ n ih => rw [lh, ll, ih]; rfl
theorem ll_len (S n : Nat) : (ll S n).length = n := by
  induction n with
  | zero => rfl
  | succ n ih => simp [ll, ih]
theorem ll_9 (S n : Nat) : ∀ x ∈ ll S n, x ≤ 9 := by
  induction n with
  | zero => intro x hx; cases hx
  | succ n ih =>
    intro x hx
    rcases List.mem_cons.1 hx with h | h
    · have := ld_le S n; omega
    · exact ih x h
theorem ll_fv (S n : Nat) : nl (ll S n) = fv S n := by
  induction n with
  | zero => rfl
  | succ n ih => rw [ll, nl_cons, ih, ll_len, fv]
theorem numH_any (S n : Nat) (w : World) (hn : n ≤ 12) :
    Calls Tryd.prog 39 #[.string ⟨(lh S n).toArray⟩] w fun e w' => e = .returned (.int .i64 (fv S n : Nat)) ∧ w = w' := by
  have h := numL_any (lh S n) w (by rw [lh_len]; omega) (by rw [lh_ll]; exact tx_dig _ (ll_9 S n))
  rw [lh_ll, dnum_tx _ (ll_9 S n), ll_fv] at h
  rw [lh_ll]; exact h
/-- What LeastWithSum answers. -/
def lwA (n : Int) : Int := if smB n = true then (fv n.toNat 12 : Nat) else 0
theorem lwA_yes {n : Int} (h : smB n = true) : lwA n = (fv n.toNat 12 : Nat) := by rw [lwA, if_pos h]
theorem lwA_no {n : Int} (h : smB n = false) : lwA n = 0 := by rw [lwA, if_neg (by simp [h])]
theorem sLws_any (n : Int) (w : World) :
    Calls Tryd.prog 14 #[.int .i64 n] w fun e w' => e = .returned (.tuple #[.int .i64 (lwA n), .bool (smB n)]) ∧ Below w.heap.size w w' := by
  have HZ := Lib.hid (fun W => leSum_any n W)
  cases hb : smB n with
  | false =>
    have HA := Lib.hid (lwA_no hb)
    rw [hb] at HZ
    clear hb
    go_enter Tryd.func14, Tryd.ntmps14
    go_wp2_with (go_at_call 36; (with_reducible refine (HZ.out _).mono ?_); rintro e w' ⟨rfl, rfl⟩)
    go_ret2
    exact ⟨ret_ib HA.out.symm rfl, Below.refl _ _⟩
  | true =>
    have HA := Lib.hid (lwA_yes hb)
    obtain ⟨h0, h1⟩ := (smB_iff n).1 hb
    have hf := fun W => fillL_any 12 n.toNat W (by omega) (by omega)
    rw [show ((n.toNat : Nat) : Int) = n by omega] at hf
    have HF := Lib.hid hf
    rw [hb] at HZ
    clear hb hf
    go_enter Tryd.func14, Tryd.ntmps14
    go_wp2_with (first | (go_at_call 36; (with_reducible refine (HZ.out _).mono ?_); rintro e w' ⟨rfl, rfl⟩) | (go_at_call 37; refine (HF.out _).mono ?_; rintro e w' ⟨rfl, rfl⟩))
    go_ret2
    exact ⟨ret_ib HA.out.symm rfl, Below.refl _ _⟩
theorem iLws_any (n : Int) (w : World) :
    Calls Tryd.prog 15 #[.int .i64 n] w fun e w' => e = .returned (.tuple #[.int .i64 (lwA n), .bool (smB n)]) ∧ Below w.heap.size w w' := by
  have HZ := Lib.hid (fun W => isSum_any n W)
  cases hb : smB n with
  | false =>
    have HA := Lib.hid (lwA_no hb)
    rw [hb] at HZ
    clear hb
    go_enter Tryd.func15, Tryd.ntmps15
    go_wp2_with (go_at_call 38; (with_reducible refine (HZ.out _).mono ?_); rintro e w' ⟨rfl, rfl⟩)
    go_ret2
    exact ⟨ret_ib HA.out.symm rfl, Below.refl _ _⟩
  | true =>
    have HA := Lib.hid (lwA_yes hb)
    obtain ⟨h0, h1⟩ := (smB_iff n).1 hb
    have hf := fun W => half_any n.toNat 12 (by omega) (by omega) W
    rw [show ((n.toNat : Nat) : Int) = n by omega] at hf
    have HF := Lib.hid hf
    have HN := Lib.hid (fun W => numH_any n.toNat 12 W (by omega))
    rw [hb] at HZ
    clear hb hf
    go_enter Tryd.func15, Tryd.ntmps15
    go_wp2_with (first | (go_at_call 38; (with_reducible refine (HZ.out _).mono ?_); rintro e w' ⟨rfl, rfl⟩) | (go_at_call 40; refine (HF.out _).mono ?_; rintro e w1 ⟨rfl, b1⟩) | (go_at_call 39; refine (HN.out _).mono ?_; rintro e w' ⟨rfl, rfl⟩))
    go_ret2
    exact ⟨ret_ib HA.out.symm rfl, b1⟩
set_option maxHeartbeats 1000000 in
theorem FnExactLeastWithSum_law (p0 : Int) (_hp0 : (Lit.int .i64 p0).wf = true) (w : World) :
    Calls Tryd.prog 3 #[.int .i64 p0] w fun e w' => e = .returned (.bool true) ∧ Below w.heap.size w w' := by
  have hs1 : ∀ W, Calls Tryd.prog 14 #[.int .i64 p0] W fun e w' => e = .returned (.tuple #[.int .i64 (lwA p0), .bool (smB p0)]) ∧ Below W.heap.size W w' := fun W => sLws_any p0 W
  have hi1 : ∀ W, Calls Tryd.prog 15 #[.int .i64 p0] W fun e w' => e = .returned (.tuple #[.int .i64 (lwA p0), .bool (smB p0)]) ∧ Below W.heap.size W w' := fun W => iLws_any p0 W
  obtain ⟨A0, hA0⟩ : ∃ A0 : Int, A0 = lwA p0 := ⟨_, rfl⟩
  obtain ⟨A1, hA1⟩ : ∃ A1 : Bool, A1 = smB p0 := ⟨_, rfl⟩
  rw [← hA0, ← hA1] at hs1 hi1
  have HS := Lib.hid hs1
  have HI := Lib.hid hi1
  clear hs1 hi1 hA0 hA1
  go_enter Tryd.func3, Tryd.ntmps3
  go_wp2_with (first | (go_at_call 14; (with_reducible refine (HS.out _).mono ?_); rintro e w1 ⟨rfl, b1⟩) | (go_at_call 15; (with_reducible refine (HI.out _).mono ?_); rintro e w2 ⟨rfl, b2⟩))
  go_ret
  exact ⟨rfl, chain b1 b2⟩
end Go.Proofs.YtghjpanabphbpaaDoor

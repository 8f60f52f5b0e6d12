/-
  Least numbers: what digits tell, LeastWithSum.
-/
import Derived.Test.YtghjpanabphbpabDoorLeFill
namespace Go.Proofs.YtghjpanabphbpabDoor
open Go.RowKit

theorem sz_of (t : List UInt8) : (⟨t.toArray⟩ : ByteArray).size = t.length := by simp [ByteArray.size]
theorem lst (s : ByteArray) : (⟨s.data.toList.toArray⟩ : ByteArray) = s := by
  apply ByteArray.ext; simp
/-- The digits as signs. -/
def tx (l : List Nat) : List UInt8 := l.map dc
theorem tx_len (l : List Nat) : (tx l).length = l.length := by simp [tx]
theorem tx_cons (d : Nat) (l : List Nat) : tx (d :: l) = dc d :: tx l := rfl
theorem tx_append (a b : List Nat) : tx (a ++ b) = tx a ++ tx b := by simp [tx]
theorem tx_dig (l : List Nat) (h : ∀ x ∈ l, x ≤ 9) : digB (tx l) = true := by
  induction l with
  | nil => rfl
  | cons d l ih =>
    have h1 := ih (fun x hx => h x (List.mem_cons_of_mem _ hx))
    have e : digB (tx (d :: l)) = (dgB (dc d) && digB (tx l)) := by simp [tx, digB]
    rw [e, h1, dgB_dc (h d List.mem_cons_self)]; rfl
/-- The number that digits tell. -/
def dnum (l : List UInt8) : Int := l.foldl (fun n c => n * 10 + dv c) 0
theorem dnum_snoc (l : List UInt8) (c : UInt8) : dnum (l ++ [c]) = dnum l * 10 + dv c := by simp [dnum, List.foldl_append]
theorem dnum_bd (n : Nat) : ∀ l : List UInt8, l.length = n → digB l = true → 0 ≤ dnum l ∧ dnum l < ((10 ^ n : Nat) : Int) := by
  induction n with
  | zero => intro l hl _; have : l = [] := List.length_eq_zero_iff.1 hl; subst this; simp [dnum]
  | succ n ih =>
    intro l hl hd
    obtain ⟨a, c, rfl⟩ : ∃ a c, l = a ++ [c] := ⟨l.dropLast, l.getLast (by intro e; subst e; simp at hl), (List.dropLast_concat_getLast _).symm⟩
    rw [digB_snoc] at hd; simp at hd hl
    have h1 := ih a hl hd.1
    have h2 := (dgB_iff c).1 hd.2
    rw [dnum_snoc, Nat.pow_succ]; unfold dv; push_cast at *; omega
theorem dnum_17 (l : List UInt8) (hl : l.length ≤ 17) (hd : digB l = true) : 0 ≤ dnum l ∧ dnum l ≤ 99999999999999999 := by
  have h := dnum_bd l.length l rfl hd
  have hp : (10 : Nat) ^ l.length ≤ 10 ^ 17 := Nat.pow_le_pow_right (by omega) hl
  omega
theorem dnum_tx (l : List Nat) (h : ∀ x ∈ l, x ≤ 9) : dnum (tx l) = (nl l : Nat) := by
  have : ∀ r : List Nat, (∀ x ∈ r, x ≤ 9) → dnum (tx r.reverse) = (nl r.reverse : Nat) := by
    intro r
    induction r with
    | nil => intro _; rfl
    | cons d r ih =>
      intro hr
      rw [List.reverse_cons, tx_append, show tx [d] = [dc d] from rfl, dnum_snoc, nl_snoc, ih (fun x hx => hr x (List.mem_cons_of_mem _ hx)), dv_dc (hr d List.mem_cons_self)]
      push_cast; rfl
  have := this l.reverse (fun x hx => h x (List.mem_reverse.1 hx))
  rwa [List.reverse_reverse] at this
theorem numberIn_any (s : ByteArray) (w : World) (hs : s.size ≤ 17) (hd : digB s.data.toList = true) :
    Calls Tryd.prog 24 #[.string s] w fun e w' => e = .returned (.int .i64 (dnum s.data.toList)) ∧ w = w' := by
  have HD := Lib.hid hd; clear hd
  go_enter Tryd.func24, Tryd.ntmps24
  go_wp2
  go_loop [3, 7] (fun t i => ∃ k : Nat, k ≤ s.size ∧ i = .int .i64 k ∧ t = .int .i64 (dnum (s.data.toList.take k))) (fun _ i => s.size - (intOf i).toNat)
  case atStart => exact ⟨0, Nat.zero_le _, rfl, rfl⟩
  case round =>
    obtain ⟨k, hk, rfl, rfl⟩ := hrel
    have hl : (s.data.toList.take k).length ≤ k := List.length_take_le _ _
    have hb := dnum_17 (s.data.toList.take k) (by omega) (digB_take _ _ HD.out)
    obtain ⟨hb1, hb2⟩ := hb
    by_cases hlt : k < s.size
    · have hc := digB_get s k hlt HD.out
      obtain ⟨hc1, hc2⟩ := hc
      go_wp2
      go_round
      case rel => exact ⟨k + 1, by omega, by go_num, val_int (by rw [take_snoc s k hlt, dnum_snoc, dv])⟩
      case measure => simp [intOf]; omega
    · go_wp2
      go_ret
      exact ⟨ret_int (by rw [show k = s.size by omega, take_all]), rfl⟩
theorem numL_any (l : List UInt8) (w : World) (hs : l.length ≤ 17) (hd : digB l = true) :
    Calls Tryd.prog 24 #[.string ⟨l.toArray⟩] w fun e w' => e = .returned (.int .i64 (dnum l)) ∧ w = w' := numberIn_any ⟨l.toArray⟩ w (by rw [sz_of]; exact hs) hd
end Go.Proofs.YtghjpanabphbpabDoor

/-
  The law of LuckyDigits.
-/
import Derived.Test.YtapeohnjjmokkabTkRanked
import Derived.Test.YtapeohnjjmokkabTkLucky
import Derived.Test.YtapeohnjjmokkabSums
import Derived.Deep.RegionWith
import Derived.Deep.DrawnRows
namespace Go.Proofs.Ytapeohnjjmokkab
open Go.RowKit

/-- The last byte. -/
def lastB (s : ByteArray) : UInt8 := if h : s.size - 1 < s.size then s[s.size - 1] else 48
theorem lastB_at (s : ByteArray) (h : s.size - 1 < s.size) : lastB s = s[s.size - 1] := by rw [lastB, dif_pos h]
/-- The digit that would make a ticket lucky. -/
def wish (s : ByteArray) : Int := dsum (lo s) - (dsum (hi s) - dv (lastB s))
def repl (s : ByteArray) (d : Nat) : ByteArray := s.extract 0 (s.size - 1) ++ ⟨#[dch d]⟩
theorem repl_list (s : ByteArray) (d : Nat) : (repl s d).data.toList = s.data.toList.take (s.size - 1) ++ [dch d] := by
  simp [repl, ByteArray.data_append, ByteArray.data_extract]
  rw [List.dropLast_eq_take]; simp
theorem repl_size (s : ByteArray) (d : Nat) (h : 1 ≤ s.size) : (repl s d).size = s.size := by
  have : (repl s d).data.toList.length = s.size := by rw [repl_list]; simp; omega
  simpa using this
theorem repl_good (s : ByteArray) (d : Nat) (hd : d ≤ 9) (hg : goodB s = true) : goodB (repl s d) = true := by
  have hs := good_sz hg
  unfold goodB
  rw [repl_size s d (by omega), repl_list, digB_append, digB_take _ _ (good_dig hg)]
  simp [digB, dch_dg d hd]
  exact (szB_iff _).2 hs
theorem hi_last (s : ByteArray) (hg : goodB s = true) : hi s = (s.data.toList.take (s.size - 1)).drop (s.size / 2) ++ [lastB s] := by
  have hs := good_sz hg
  have h1 : s.size - 1 < s.size := by omega
  have e : s.data.toList = s.data.toList.take (s.size - 1) ++ [s[s.size - 1]] := by
    rw [← take_snoc s (s.size - 1) h1, show s.size - 1 + 1 = s.size by omega, take_all]
  unfold hi
  rw [lastB_at s h1]
  conv => lhs; rw [e]
  rw [List.drop_append_of_le_length (by simp; omega)]
theorem repl_lucky (s : ByteArray) (d : Nat) (hd : d ≤ 9) (hg : goodB s = true) : lucky (repl s d) = decide (wish s = (d : Int)) := by
  have hs := good_sz hg
  have e1 : lo (repl s d) = lo s := by
    unfold lo
    rw [repl_size s d (by omega), repl_list, List.take_append_of_le_length (by simp; omega), List.take_take]
    congr 1; omega
  have e2 : hi (repl s d) = (s.data.toList.take (s.size - 1)).drop (s.size / 2) ++ [dch d] := by
    unfold hi
    rw [repl_size s d (by omega), repl_list, List.drop_append_of_le_length (by simp; omega)]
  have e3 : dsum (hi (repl s d)) = dsum (hi s) - dv (lastB s) + d := by
    rw [e2, hi_last s hg, dsum_snoc, dsum_snoc, dch_dv d hd]; omega
  unfold lucky wish
  rw [e1, e3]
  congr 1
  exact propext ⟨fun h => by omega, fun h => by omega⟩
/-- What comes out. -/
def ldig (s : ByteArray) : List Int := if goodB s = true ∧ 0 ≤ wish s ∧ wish s ≤ 9 then [wish s] else []
theorem ldig_len (s : ByteArray) : (ldig s).length ≤ 1000000 := by unfold ldig; split <;> simp
/-- .. after d digits have been tried. -/
def ldTo (s : ByteArray) (d : Nat) : List Int := if 0 ≤ wish s ∧ wish s < (d : Int) then [wish s] else []
theorem ldTo_ten (s : ByteArray) (hg : goodB s = true) : ldTo s 10 = ldig s := by
  unfold ldTo ldig
  by_cases h : 0 ≤ wish s ∧ wish s ≤ 9
  · rw [if_pos (by omega), if_pos ⟨hg, h⟩]
  · rw [if_neg (by omega), if_neg (fun q => h q.2)]
theorem ldTo_hit (s : ByteArray) (d : Nat) (h : wish s = (d : Int)) : ldTo s (d + 1) = ldTo s d ++ [(d : Int)] := by
  unfold ldTo
  rw [if_pos (by omega), if_neg (by omega), h]; rfl
theorem ldTo_miss (s : ByteArray) (d : Nat) (h : ¬ wish s = (d : Int)) : ldTo s (d + 1) = ldTo s d := by
  unfold ldTo
  by_cases q : 0 ≤ wish s ∧ wish s < (d : Int)
  · rw [if_pos q, if_pos (by omega)]
  · rw [if_neg q, if_neg (by omega)]
theorem ldTo_len (s : ByteArray) (d : Nat) : (ldTo s d).length ≤ 1 := by unfold ldTo; split <;> simp
theorem ldig_no (s : ByteArray) (hg : goodB s = false) : ldig s = [] := by rw [ldig, if_neg (by rw [hg]; simp)]

theorem Ints.one (B : Nat) (w : World) (x : Int) (hB : B ≤ w.heap.size) : Ints B [x] (.slice (some ⟨w.heap.size, 0, none⟩) 1 1) (w.alloc (.cells #[.int .i64 x] 3)) :=
  World.ownsRow_lit (base := B) (e := 3) (size := 1) w #[.int .i64 x] 1 hB (by unfold maxLen; omega) (by simp)
theorem iDig_any (s : ByteArray) (w : World) (hg : goodB s = true) :
    Calls Try.prog 51 #[.agg #[.int .i64 (hsz s), .int .i64 (dsum (lo s)), .int .i64 (hsz s), .int .i64 (dsum (hi s)), .string s]] w fun e w' => ∃ v, e = .returned v ∧ Ints w.heap.size (ldig s) v w' ∧ Below w.heap.size w w' := by
  have hs := good_sz hg
  obtain ⟨hs1, hs2, _⟩ := hs
  have h1 : s.size - 1 < s.size := by omega
  have hc := digB_get s (s.size - 1) h1 (good_dig hg)
  obtain ⟨hc1, hc2⟩ := hc
  have b1 := dsum_bd (lo s) (digB_take _ _ (good_dig hg))
  have b2 := dsum_bd (hi s) (digB_drop _ _ (good_dig hg))
  have l1 : (lo s).length ≤ 12 := by simp [lo]; omega
  have l2 : (hi s).length ≤ 12 := by simp [hi]; omega
  obtain ⟨b11, b12⟩ := b1
  obtain ⟨b21, b22⟩ := b2
  have HW : Hid (wish s = dsum (lo s) - (dsum (hi s) - ((s[s.size - 1].toNat : Int) - 48))) := by show _ = _; rw [wish, lastB_at s h1]; rfl
  by_cases h0 : dsum (lo s) - (dsum (hi s) - ((s[s.size - 1].toNat : Int) - 48)) < 0
  · have E : Hid (ldig s = []) := by show _ = _; rw [ldig, if_neg]; have := HW.out; omega
    have hd1 : decide (dsum (lo s) - (dsum (hi s) - ((s[s.size - 1].toNat : Int) - 48)) < 0) = true := by simpa using h0
    go_enter Try.func51, Try.ntmps51
    go_wp2
    go_ret
    exact ⟨_, rfl, by rw [E.out]; exact Ints.nil _ _, by go_grown⟩
  · have hd1 : decide (dsum (lo s) - (dsum (hi s) - ((s[s.size - 1].toNat : Int) - 48)) < 0) = false := by simpa using h0
    by_cases h9 : 9 < dsum (lo s) - (dsum (hi s) - ((s[s.size - 1].toNat : Int) - 48))
    · have E : Hid (ldig s = []) := by show _ = _; rw [ldig, if_neg]; have := HW.out; omega
      go_enter Try.func51, Try.ntmps51
      go_wp2
      go_ret
      exact ⟨_, rfl, by rw [E.out]; exact Ints.nil _ _, by go_grown⟩
    · have E : Hid (ldig s = [wish s]) := by show _ = _; rw [ldig, if_pos]; have := HW.out; exact ⟨hg, by omega, by omega⟩
      go_enter Try.func51, Try.ntmps51
      go_wp2
      go_ret
      refine ⟨_, rfl, ?_, by go_grown⟩
      rw [E.out, HW.out]
      have := Ints.one w.heap.size (w.alloc (.cells #[.int .i64 (hsz s), .int .i64 (dsum (lo s)), .int .i64 (hsz s), .int .i64 (dsum (hi s)), .string s] 50)) (dsum (lo s) - (dsum (hi s) - ((s[s.size - 1].toNat : Int) - 48))) (by simp)
      rw [World.size_alloc] at this; exact this
theorem iLd_any (s : ByteArray) (w : World) (hm : s.size ≤ maxLen) :
    Calls Try.prog 29 #[.string s] w fun e w' => ∃ v, e = .returned (.tuple #[v, .bool (goodB s)]) ∧ Ints w.heap.size (ldig s) v w' ∧ Below w.heap.size w w' := by
  have hof : Calls Try.prog 50 #[.string s, .func (Fn.func 51) #[] #[]] w fun e w' => ∃ v, e = .returned (.tuple #[v, .bool (goodB s)]) ∧ Ints w.heap.size (ldig s) v w' ∧ Below w.heap.size w w' := by
    cases hg : goodB s with
    | true =>
      have hev : s.size % 2 = 0 := by have := good_sz hg; omega
      have HEV := Lib.hid hev
      clear hev
      go_enter Try.func50, Try.ntmps50
      go_wp2_with (first | (go_at_call 37; go_must ((with_reducible refine (isTicket_any _ _ hm).mono ?_); rintro e w' ⟨rfl, rfl⟩)) | (go_at_call 60; go_must ((with_reducible refine (halvesOf_any _ _ (gle hg) HEV.out (good_dig hg)).mono ?_); rintro e w1 ⟨rfl, hb⟩)) | (go_at_call 51; go_must ((with_reducible refine (iDig_any _ _ hg).mono ?_); rintro e w2 ⟨v, rfl, hI, hb2⟩)))
      go_ret2
      exact ⟨_, rfl, hI.mono hb.size, chain hb hb2⟩
    | false =>
      have E := Lib.hid (ldig_no s hg)
      go_enter Try.func50, Try.ntmps50
      go_wp2_with (first | (go_at_call 37; go_must ((with_reducible refine (isTicket_any _ _ hm).mono ?_); rintro e w' ⟨rfl, rfl⟩)))
      go_ret2
      exact ⟨_, rfl, by rw [E.out]; exact Ints.nil _ _, by go_grown⟩
  have HO := Lib.hid hof
  clear hof
  go_enter Try.func29, Try.ntmps29
  go_wp2_with (go_at_call 50; go_must (refine HO.out.mono ?_; rintro e w1 ⟨v, rfl, hI, hb⟩))
  go_ret2
  exact ⟨_, rfl, hI, hb⟩
theorem tkL_repl (s : ByteArray) (d : Nat) (w : World) (hd : d ≤ 9) (hg : goodB s = true) :
    Calls Try.prog 36 #[.string (s.extract 0 (s.size - 1) ++ ⟨#[dch d]⟩)] w fun e w' => e = .returned (.bool (decide (wish s = (d : Int)))) ∧ Below w.heap.size w w' := by
  exact (tkLucky_any (repl s d) _ (repl_good s d hd hg)).mono fun e w' ⟨he, hb⟩ => ⟨by rw [he, repl_lucky s d hd hg], hb⟩
end Go.Proofs.Ytapeohnjjmokkab

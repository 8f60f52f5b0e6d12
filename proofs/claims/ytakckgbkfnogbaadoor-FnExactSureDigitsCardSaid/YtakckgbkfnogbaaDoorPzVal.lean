/-
  What a clue tells of a hidden ticket: both sides.
-/
import Derived.Test.YtakckgbkfnogbaaDoorPzHid
import Derived.Test.YtakckgbkfnogbaaDoorPzMath2
namespace Go.Proofs.YtakckgbkfnogbaaDoor
open Go.RowKit
set_option maxRecDepth 100000

theorem dnum_dnm (l : List UInt8) : dnum l = dnm l := rfl
/-- A hidden ticket as bytes. -/
theorem hid_at {s : ByteArray} (h : hidB s.data.toList = true) : s.size = 4 ∧ ∀ j (hj : j < s.size), 48 ≤ (s[j].toNat : Int) ∧ (s[j].toNat : Int) ≤ 53 := by
  have h1 := hid_len h
  refine ⟨by simpa using h1, fun j hj => ?_⟩
  have h2 := hid_all h
  rw [List.all_eq_true] at h2
  exact (hdB_iff _).1 (h2 s[j] (List.getElem_mem (by simpa using hj)))
theorem dat_at (s : ByteArray) (j : Nat) (hj : j < s.size) (i : Int) (hi : i = (j : Int)) : dat s.data.toList i = (s[j].toNat : Int) - 48 := by
  subst hi
  unfold dat dv
  rw [Int.toNat_natCast, List.getD_eq_getElem?_getD, List.getElem?_eq_getElem (by simpa using hj)]
  rfl
theorem ix_neg (l : List UInt8) (c : UInt8) (h : l.contains c = false) : Lib.indexByte l c = -1 := by
  have hge := Lib.indexByte_ge l c
  rcases Int.lt_or_le (Lib.indexByte l c) 0 with h1 | h1
  · omega
  · exfalso
    obtain ⟨o, ho⟩ : ∃ o : Nat, Lib.indexByte l c = (o : Int) := ⟨(Lib.indexByte l c).toNat, by omega⟩
    obtain ⟨h2, h3⟩ := Lib.indexByte_some ho
    have : c ∈ l := by
      obtain ⟨h5, h6⟩ := List.getElem?_eq_some_iff.1 h2
      rw [← h6]; exact List.getElem_mem h5
    rw [← List.contains_iff_mem, h] at this; cases this
theorem ix_pos (l : List UInt8) (c : UInt8) (h : l.contains c = true) : 0 ≤ Lib.indexByte l c := by
  rcases Int.lt_or_le (Lib.indexByte l c) 0 with h1 | h1
  · exfalso
    have hge := Lib.indexByte_ge l c
    have e : Lib.indexByte l c = -1 := by omega
    rw [List.contains_iff_mem] at h
    obtain ⟨k, hk, hkc⟩ := List.mem_iff_getElem.1 h
    exact Lib.indexByte_none e k (by rw [List.getElem?_eq_getElem hk, hkc])
  · exact h1
theorem find_any (s : ByteArray) (c : UInt8) (w : World) (hs : s.size ≤ maxLen) :
    Calls Tryd.prog 71 #[.string s, .int .u8 (c.toNat : Int)] w fun e w' => e = .returned (.int .i64 (Lib.indexByte s.data.toList c)) ∧ w = w' := by
  unfold maxLen at hs
  go_enter Tryd.func71, Tryd.ntmps71
  go_wp2
  go_loop [5] (fun i => ∃ k : Nat, k ≤ s.size ∧ i = .int .i64 k ∧ Hid ((s.data.toList.take k).contains c = false)) (fun i => s.size - (intOf i).toNat)
  case atStart => exact ⟨0, Nat.zero_le _, rfl, by show _ = _; simp⟩
  case round =>
    obtain ⟨k, hk, rfl, HI⟩ := hrel
    by_cases hlt : k < s.size
    · by_cases hc : s[k] = c
      · have hq : ((s[k].toNat : Int) == (c.toNat : Int)) = true := by rw [hc]; simp
        have HY : Hid ((k : Int) = Lib.indexByte s.data.toList c) := by
          show _ = _
          have := (ix_here s.data.toList k (by simpa using hlt)).2
          have hx : s.data.toList[k]'(by simpa using hlt) = c := hc
          rw [hx] at this
          exact (this HI.out).symm
        clear hc
        go_wp2
        go_ret
        exact ⟨ret_int HY.out, rfl⟩
      · have hq : ((s[k].toNat : Int) == (c.toNat : Int)) = false := by
          rw [beq_eq_false_iff_ne]; intro h; exact hc (UInt8.toNat_inj.1 (by omega))
        have HI2 : Hid ((s.data.toList.take (k + 1)).contains c = false) := by
          show _ = _
          rw [take_snoc s k hlt, List.contains_eq_any_beq, List.any_append, ← List.contains_eq_any_beq, HI.out]
          simp
          intro h; exact hc h.symm
        clear hc
        go_wp2
        go_round
        case rel => exact ⟨k + 1, by omega, by go_num, HI2⟩
        case measure => simp [intOf]; omega
    · have HN : Hid (-1 = Lib.indexByte s.data.toList c) := by
        have := HI.out; rw [show k = s.size by omega, take_all] at this; exact (ix_neg _ _ this).symm
      go_wp2
      go_ret
      exact ⟨ret_int HN.out, rfl⟩
theorem tkLucky_any (s : ByteArray) (w : World) (hs : s.size ≤ 1000) (hd : digB s.data.toList = true) :
    Calls Tryd.prog 70 #[.string s] w fun e w' => e = .returned (.bool (decide (dsum (lo s) = dsum (hi s)))) ∧ ∃ n, w' = w.drewN n := by
  have HD := Lib.hid hd
  clear hd
  have HR : Hid ((dsum (lo s) == dsum (hi s)) = decide (dsum (lo s) = dsum (hi s))) := by show _ = _; rw [Bool.eq_iff_iff]; simp
  go_enter Tryd.func70, Tryd.ntmps70
  go_wp2_with (go_at_call 90; (with_reducible refine (tkHalves_any s _ hs HD.out).mono ?_); rintro e w1 ⟨rfl, n1, rfl⟩)
  go_ret
  exact ⟨ret_bool HR.out, n1, rfl⟩
theorem lucky_tv {s : ByteArray} (h : hidB s.data.toList = true) : (dsum (lo s) = dsum (hi s)) ↔ (dat s.data.toList 0 + dat s.data.toList 1 = dat s.data.toList 2 + dat s.data.toList 3) := by
  obtain ⟨x, y, z, u, hl, _⟩ := hid_form h
  have hsz := (hid_at h).1
  unfold lo hi dat
  rw [hsz, hl]
  simp [dsum]
set_option maxHeartbeats 4000000 in
theorem pzValue_any (k a : Int) (s : ByteArray) (w : World) (hh : hidB s.data.toList = true) (hk : 0 ≤ k ∧ k ≤ 4) (ha : 0 ≤ a) (a0 : k = 0 → a ≤ 1) (a1 : k = 1 → a ≤ 3) (a3 : k = 3 → a ≤ 2) :
    Calls Tryd.prog 60 #[.int .i64 k, .int .i64 a, .string s] w fun e w' => e = .returned (.int .i64 (tv k a s.data.toList)) ∧ ∃ n, w' = w.drewN n := by
  obtain ⟨hsz, hb⟩ := hid_at hh
  have HH := Lib.hid hh
  have hL : (s.size : Int) = 4 := by omega
  have p0 : 0 < s.size := by omega
  have p1 : 1 < s.size := by omega
  have p2 : 2 < s.size := by omega
  have p3 : 3 < s.size := by omega
  have D0 := Lib.hid (dat_at s 0 p0 0 rfl)
  have D1 := Lib.hid (dat_at s 1 p1 1 rfl)
  have D2 := Lib.hid (dat_at s 2 p2 2 rfl)
  have D3 := Lib.hid (dat_at s 3 p3 3 rfl)
  obtain ⟨b0, c0⟩ := hb 0 p0
  obtain ⟨b1, c1⟩ := hb 1 p1
  obtain ⟨b2, c2⟩ := hb 2 p2
  obtain ⟨b3, c3⟩ := hb 3 p3
  clear hb hh
  rcases (show k = 0 ∨ k = 1 ∨ k = 2 ∨ k = 3 ∨ k = 4 by omega) with rfl | rfl | rfl | rfl | rfl
  · rcases (show a = 0 ∨ a = 1 by have := a0 rfl; omega) with rfl | rfl
    all_goals
      clear hk ha a0 a1 a3
      go_enter Tryd.func60, Tryd.ntmps60
      go_wp2
      go_quiet (fail)
      go_wp2
      go_ret
      exact ⟨ret_int (by first | (show _ = tv 0 0 _; unfold tv; simp only [if_true]; rw [show (2 : Int) * 0 = 0 from rfl, show (0 : Int) + 1 = 1 from rfl, D0.out, D1.out]) | (show _ = tv 0 1 _; unfold tv; simp only [if_true]; rw [show (2 : Int) * 1 = 2 from rfl, show (2 : Int) + 1 = 3 from rfl, D2.out, D3.out])), _, rfl⟩
  · rcases (show a = 0 ∨ a = 1 ∨ a = 2 ∨ a = 3 by have := a1 rfl; omega) with rfl | rfl | rfl | rfl
    all_goals
      clear hk ha a0 a1 a3
      go_enter Tryd.func60, Tryd.ntmps60
      go_wp2
      go_ret
      exact ⟨ret_int (by first | exact D0.out.symm | exact D1.out.symm | exact D2.out.symm | exact D3.out.symm), 0, rfl⟩
  · have HT := Lib.hid (lucky_tv HH.out)
    by_cases hl : dsum (lo s) = dsum (hi s)
    · have HV : Hid (tv 2 a s.data.toList = 1) := by show _ = _; unfold tv; simp only [if_true]; rw [if_neg (by omega), if_neg (by omega), if_pos (HT.out.1 hl)]
      have HL : Hid (decide (dsum (lo s) = dsum (hi s)) = true) := decide_eq_true hl
      clear hk ha a0 a1 a3 hl
      go_enter Tryd.func60, Tryd.ntmps60
      go_wp2_with (go_at_call 70; (with_reducible refine (tkLucky_any s _ (by omega) (hid_dig HH.out)).mono ?_); rintro e w1 ⟨rfl, n1, rfl⟩; rw [HL.out])
      go_ret
      exact ⟨ret_int HV.out.symm, n1, rfl⟩
    · have HV : Hid (tv 2 a s.data.toList = 0) := by show _ = _; unfold tv; simp only [if_true]; rw [if_neg (by omega), if_neg (by omega), if_neg (fun h => hl (HT.out.2 h))]
      have HL : Hid (decide (dsum (lo s) = dsum (hi s)) = false) := decide_eq_false hl
      clear hk ha a0 a1 a3 hl
      go_enter Tryd.func60, Tryd.ntmps60
      go_wp2_with (go_at_call 70; (with_reducible refine (tkLucky_any s _ (by omega) (hid_dig HH.out)).mono ?_); rintro e w1 ⟨rfl, n1, rfl⟩; rw [HL.out])
      go_ret
      exact ⟨ret_int HV.out.symm, n1, rfl⟩
  · have HV : Hid (∀ i, tv 3 i s.data.toList = if dat s.data.toList i < dat s.data.toList (i + 1) then 1 else 0) := by intro i; unfold tv; simp
    rcases (show a = 0 ∨ a = 1 ∨ a = 2 by have := a3 rfl; omega) with rfl | rfl | rfl
    · have HV2 := Lib.hid (HV.out 0)
      by_cases hc : ((s[0]'p0).toNat : Int) < ((s[1]'p1).toNat : Int)
      all_goals
        clear hk ha a0 a1 a3
        have HC := Lib.hid hc
        go_enter Tryd.func60, Tryd.ntmps60
        go_wp2
        go_quiet (fail)
        go_wp2
        go_ret
        exact ⟨ret_int (by have hh := HC.out; rw [HV2.out, D0.out, show (0 : Int) + 1 = 1 from rfl, D1.out]; first | rw [if_pos (by omega)] | rw [if_neg (by omega)]), _, rfl⟩
    · have HV2 := Lib.hid (HV.out 1)
      by_cases hc : ((s[1]'p1).toNat : Int) < ((s[2]'p2).toNat : Int)
      all_goals
        clear hk ha a0 a1 a3
        have HC := Lib.hid hc
        go_enter Tryd.func60, Tryd.ntmps60
        go_wp2
        go_quiet (fail)
        go_wp2
        go_ret
        exact ⟨ret_int (by have hh := HC.out; rw [HV2.out, D1.out, show (1 : Int) + 1 = 2 from rfl, D2.out]; first | rw [if_pos (by omega)] | rw [if_neg (by omega)]), _, rfl⟩
    · have HV2 := Lib.hid (HV.out 2)
      by_cases hc : ((s[2]'p2).toNat : Int) < ((s[3]'p3).toNat : Int)
      all_goals
        clear hk ha a0 a1 a3
        have HC := Lib.hid hc
        go_enter Tryd.func60, Tryd.ntmps60
        go_wp2
        go_quiet (fail)
        go_wp2
        go_ret
        exact ⟨ret_int (by have hh := HC.out; rw [HV2.out, D2.out, show (2 : Int) + 1 = 3 from rfl, D3.out]; first | rw [if_pos (by omega)] | rw [if_neg (by omega)]), _, rfl⟩
  · have HV : Hid (tv 4 a s.data.toList = ((df s.data.toList : Nat) : Int)) := by show _ = _; unfold tv; simp
    clear hk ha a0 a1 a3 b0 c0 b1 c1 b2 c2 b3 c3 D0 D1 D2 D3 p0 p1 p2 p3
    go_enter Tryd.func60, Tryd.ntmps60
    go_wp2
    go_loopw [7, 8] (fun t i wr => ∃ (j S q : Nat), j ≤ 4 ∧ i = .int .i64 j ∧ t = .int .i64 S ∧ S ≤ j ∧ Hid (S = df (s.data.toList.take j)) ∧ Hid (wr = w.drewN q)) (fun _ i _ => 4 - (intOf i).toNat)
    case atStart => exact ⟨0, 0, 0, Nat.zero_le _, rfl, rfl, Nat.le_refl _, rfl, rfl⟩
    case round =>
      obtain ⟨j, S, q, hj, rfl, rfl, hSj, HS, HW⟩ := hrel
      obtain ⟨wo, rfl⟩ : ∃ wo : World, wo = wr := ⟨_, rfl⟩
      by_cases hlt : j < 4
      · have hjs : j < s.size := by omega
        have hj0 : (0 : Int) ≤ (j : Int) := by omega
        have hj1 : (j : Int) < (s.size : Int) := by omega
        have hj2 : (j : Int) ≤ (s.size : Int) := by omega
        have hj3 : (j : Int) < 4 := by omega
        have hj4 : (j : Int) ≤ 4 := by omega
        have hslc : ∀ W, (Instr.slice 9 (.string s) none (some (.int .i64 (j : Int))) none).run Tryd.prog W = .ok (.string (s.extract 0 j)) W := fun W => by simp [go_sem, hj0, hj2]
        have hex : (s.extract 0 j).data.toList = s.data.toList.take j := by simp
        have hexz : (s.extract 0 j).size ≤ maxLen := by unfold maxLen; simp; omega
        have HX := Lib.hid hex
        have HXZ := Lib.hid hexz
        have hdf := df_snoc (s.data.toList.take j) s[j]
        rw [← take_snoc s j hjs] at hdf
        obtain ⟨z, hz⟩ : ∃ z, Lib.indexByte (s.data.toList.take j) s[j] = z := ⟨_, rfl⟩
        have hq : ∀ W, Calls Tryd.prog 71 #[.string (s.extract 0 j), .int .u8 (s[j].toNat : Int)] W fun e w' => e = .returned (.int .i64 z) ∧ W = w' := fun W => by
          have := find_any (s.extract 0 j) s[j] W hexz
          rw [hex, hz] at this; exact this
        clear hex hexz
        cases hc : (s.data.toList.take j).contains s[j] with
        | true =>
          rw [hc] at hdf
          have hz0 : ¬ z < 0 := by have := ix_pos _ _ hc; omega
          have HN : Hid (S = df (s.data.toList.take (j + 1))) := by show _ = _; rw [hdf, ← HS.out]; rfl
          have HQ := Lib.hid hq
          clear hdf hq hc hz
          go_wp2_with fail
          go_quiet ((go_at_call 71; exact quiet_eq (HQ.out _)))
          go_wp2
          go_roundw
          case rel => exact ⟨j + 1, S, q + nq, by omega, by go_num, rfl, by omega, HN, by show _ = _; rw [HW.out, World.drewN_drewN]⟩
          case measure => simp [intOf]; omega
        | false =>
          rw [hc] at hdf
          have hz0 : z < 0 := by have := ix_neg _ _ hc; omega
          have HN : Hid (S + 1 = df (s.data.toList.take (j + 1))) := by show _ = _; rw [hdf, ← HS.out]; rfl
          have HQ := Lib.hid hq
          clear hdf hq hc hz
          go_wp2_with fail
          go_quiet ((go_at_call 71; exact quiet_eq (HQ.out _)))
          go_wp2
          go_roundw
          case rel => exact ⟨j + 1, S + 1, q + nq, by omega, by go_num, by go_num, by omega, HN, by show _ = _; rw [HW.out, World.drewN_drewN]⟩
          case measure => simp [intOf]; omega
      · have HR : Hid ((S : Int) = tv 4 a s.data.toList) := by show _ = _; rw [HV.out, HS.out, show j = s.size by omega, take_all]
        go_wp2
        go_ret
        exact ⟨ret_int HR.out, q, HW.out⟩
end Go.Proofs.YtakckgbkfnogbaaDoor

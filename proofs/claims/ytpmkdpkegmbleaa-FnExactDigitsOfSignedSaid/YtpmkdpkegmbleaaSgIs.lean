/-
  Both functions tell signed digits alike.
-/
import Derived.Test.YtpmkdpkegmbleaaSgLeaf
namespace Go.Proofs.Ytpmkdpkegmbleaa
open Go.RowKit

theorem ext_one (s : ByteArray) (k : Nat) (h : k < s.size) : (s.extract k (k + 1)).data.toList = [s[k]] := by
  simp only [ByteArray.data_extract, Array.toList_extract, List.extract_eq_take_drop]
  have hk : k < s.data.toList.length := by simpa using h
  rw [List.drop_eq_getElem_cons hk]
  simp; rfl
theorem isDigits_b (s : ByteArray) (b : Bool) (w : World) (hs : s.size ≤ maxLen) (h : digB s.data.toList = b) :
    Calls Try.prog 16 #[.string s] w fun e w' => e = .returned (.bool b) ∧ w = w' := by subst h; exact isDigits_any s w hs
theorem isSign_b (c : UInt8) (b : Bool) (w : World) (h : sgB c = b) :
    Calls Try.prog 17 #[.int .u8 (c.toNat : Int)] w fun e w' => e = .returned (.bool b) ∧ w = w' := by subst h; exact isSign_any c w
theorem sgSign_b (c : UInt8) (b : Bool) (w : World) (h : sgB c = b) :
    Calls Try.prog 14 #[.int .u8 (c.toNat : Int)] w fun e w' => e = .returned (.bool b) ∧ w = w' := by subst h; exact sgSign_any c w
theorem sgDigits_b (s : ByteArray) (b : Bool) (w : World) (hs : s.size ≤ maxLen) (h : dgsB s.data.toList = b) :
    Calls Try.prog 15 #[.string s] w fun e w' => e = .returned (.bool b) ∧ w = w' := by subst h; exact sgDigits_any s w hs
theorem digB_one (s : ByteArray) (k : Nat) (h : k < s.size) (b : Bool) (hb : dgB s[k] = b) : digB (s.extract k (k + 1)).data.toList = b := by
  rw [ext_one s k h]; simpa [digB] using hb
theorem size_ext (s : ByteArray) (k : Nat) (hs : s.size ≤ maxLen) : (s.extract k (k + 1)).size ≤ maxLen := by
  rw [ByteArray.size_extract]; omega
theorem okSt_take_succ (s : ByteArray) (k : Nat) (h : k < s.size) : okSt (s.data.toList.take (k + 1)) = okStep (okSt (s.data.toList.take k)) s[k] := by
  rw [take_snoc s k h, okSt_snoc]
theorem nDig_take_succ (s : ByteArray) (k : Nat) (h : k < s.size) : nDig (s.data.toList.take (k + 1)) = nDig (s.data.toList.take k) + (if dgB s[k] then 1 else 0) := by
  rw [take_snoc s k h, nDig_snoc]
theorem sigB_none (s : ByteArray) (k : Nat) (h : okSt (s.data.toList.take k) = none) : sigB s.data.toList = false := by
  have := okSt_none_sig (s.data.toList.take k) (s.data.toList.drop k) h
  rwa [List.take_append_drop] at this
set_option maxHeartbeats 400000 in
theorem iIsSigned_any (s : ByteArray) (w : World) (hs : s.size ≤ maxLen) :
    Calls Try.prog 10 #[.string s] w fun e w' => e = .returned (.bool (sigB s.data.toList)) ∧ w = w' := by
  have hm := hs
  unfold maxLen at hs
  go_enter Try.func10, Try.ntmps10
  go_wp2
  go_loop [3, 4, 9] (fun d b i => ∃ (k m : Nat) (q : Bool), k ≤ s.size ∧ i = .int .i64 k ∧ b = .bool q ∧ d = .int .i64 m ∧ m ≤ k ∧ Hid (m = nDig (s.data.toList.take k)) ∧ Hid (okSt (s.data.toList.take k) = some q)) (fun _ _ i => s.size - (intOf i).toNat)
  case atStart => exact ⟨0, 0, false, Nat.zero_le _, rfl, rfl, rfl, Nat.le_refl _, by show _ = _; simp [nDig], by show _ = _; simp [okSt]⟩
  case round =>
    obtain ⟨k, m, q, hk, rfl, rfl, rfl, hmk, HM, HQ⟩ := hrel
    by_cases hlt : k < s.size
    · have H1 := Lib.hid (okSt_take_succ s k hlt)
      have H2 := Lib.hid (nDig_take_succ s k hlt)
      by_cases hd : dgB s[k] = true
      · have HD := Lib.hid hd
        have H3 := Lib.hid (digB_one s k hlt true hd)
        clear hd
        go_wp2_with (go_at_call 16; go_must ((with_reducible refine (isDigits_b _ true _ (size_ext s k hm) H3.out).mono ?_); rintro e w' ⟨rfl, rfl⟩))
        go_round
        case rel => exact ⟨k + 1, m + 1, true, by omega, by go_num, rfl, val_int (by omega), by omega, by show _ = _; rw [H2.out, HD.out, HM.out]; rfl, by show _ = _; rw [H1.out, HQ.out]; simp [okStep, HD.out]⟩
        case measure => simp [intOf]; omega
      · have hd' : dgB s[k] = false := by simpa using hd
        have HD := Lib.hid hd'
        have H3 := Lib.hid (digB_one s k hlt false hd')
        clear hd hd'
        by_cases hg : sgB s[k] = true
        · have HG := Lib.hid hg
          clear hg
          cases q with
          | true =>
            go_wp2_with (first | (go_at_call 16; go_must ((with_reducible refine (isDigits_b _ false _ (size_ext s k hm) H3.out).mono ?_); rintro e w' ⟨rfl, rfl⟩)) | (go_at_call 17; go_must ((with_reducible refine (isSign_b _ true _ HG.out).mono ?_); rintro e w' ⟨rfl, rfl⟩)))
            go_round
            case rel => exact ⟨k + 1, m, false, by omega, by go_num, rfl, rfl, by omega, by show _ = _; rw [H2.out, HD.out, HM.out]; rfl, by show _ = _; rw [H1.out, HQ.out]; simp [okStep, HD.out, HG.out]⟩
            case measure => simp [intOf]; omega
          | false =>
            go_wp2_with (first | (go_at_call 16; go_must ((with_reducible refine (isDigits_b _ false _ (size_ext s k hm) H3.out).mono ?_); rintro e w' ⟨rfl, rfl⟩)) | (go_at_call 17; go_must ((with_reducible refine (isSign_b _ true _ HG.out).mono ?_); rintro e w' ⟨rfl, rfl⟩)))
            go_ret
            exact ⟨ret_bool (sigB_none s (k + 1) (by rw [H1.out, HQ.out]; simp [okStep, HD.out])).symm, rfl⟩
        · have hg' : sgB s[k] = false := by simpa using hg
          have HG := Lib.hid hg'
          clear hg hg'
          go_wp2_with (first | (go_at_call 16; go_must ((with_reducible refine (isDigits_b _ false _ (size_ext s k hm) H3.out).mono ?_); rintro e w' ⟨rfl, rfl⟩)) | (go_at_call 17; go_must ((with_reducible refine (isSign_b _ false _ HG.out).mono ?_); rintro e w' ⟨rfl, rfl⟩)))
          go_ret
          exact ⟨ret_bool (sigB_none s (k + 1) (by rw [H1.out, HQ.out]; simp [okStep, HD.out, HG.out])).symm, rfl⟩
    · have HS : Hid (s.data.toList.take k = s.data.toList) := by show _ = _; rw [show k = s.size by omega, take_all]
      rw [HS.out] at HM HQ
      cases q with
      | true =>
        by_cases h7 : m ≤ 7
        · have h7' : (m : Int) ≤ 7 := by omega
          go_wp2
          go_ret
          exact ⟨ret_bool (by unfold sigB; rw [HQ.out, ← HM.out]; simp [h7]), rfl⟩
        · have h7' : ¬ (m : Int) ≤ 7 := by omega
          go_wp2
          go_ret
          exact ⟨ret_bool (by unfold sigB; rw [HQ.out, ← HM.out]; simp [h7]), rfl⟩
      | false =>
        go_wp2
        go_ret
        exact ⟨ret_bool (by unfold sigB; rw [HQ.out]; rfl), rfl⟩
/-- What the model hands back. -/
def plainOk (s : ByteArray) (v : Value) : Prop := ∃ t : ByteArray, v = .tuple #[.string t, .bool (sigB s.data.toList)] ∧ (sigB s.data.toList = true → t = ⟨(nos s.data.toList).toArray⟩)
theorem str_snoc (l : List UInt8) (s : ByteArray) (k : Nat) (h : k < s.size) : (⟨l.toArray⟩ : ByteArray) ++ s.extract k (k + 1) = ⟨(l ++ [s[k]]).toArray⟩ := by
  apply ByteArray.ext
  simp [ByteArray.data_append, ByteArray.data_extract]
  have hk : k < s.data.toList.length := by simpa using h
  rw [List.drop_eq_getElem_cons hk]
  simp; rfl
theorem pSt_take_succ (s : ByteArray) (k : Nat) (h : k < s.size) : pSt (s.data.toList.take (k + 1)) = pStep (pSt (s.data.toList.take k)) s[k] := by
  rw [take_snoc s k h, pSt_snoc]
theorem nos_take_succ (s : ByteArray) (k : Nat) (h : k < s.size) : nos (s.data.toList.take (k + 1)) = if sgB s[k] then nos (s.data.toList.take k) else nos (s.data.toList.take k) ++ [s[k]] := by
  rw [take_snoc s k h, nos_snoc]
theorem plain_no (s : ByteArray) (k : Nat) (h : pSt (s.data.toList.take k) = none) : sigB s.data.toList = false := by
  refine sigB_no_pSt _ ?_
  have := pSt_none_append (s.data.toList.take k) (s.data.toList.drop k) h
  rw [List.take_append_drop] at this
  rw [this]; simp
theorem nos_le (l : List UInt8) : (nos l).length ≤ l.length := List.length_filter_le _ _
set_option maxHeartbeats 1000000 in
theorem plain_any (s : ByteArray) (w : World) (hs : s.size ≤ maxLen) :
    Calls Try.prog 9 #[.string s] w fun e w' => ∃ t, e = .returned (.tuple #[.string t, .bool (sigB s.data.toList)]) ∧ (sigB s.data.toList = true → t = ⟨(nos s.data.toList).toArray⟩) ∧ Below w.heap.size w w' := by
  have hm := hs
  unfold maxLen at hs
  by_cases h14 : 14 < s.size
  · have hno : sigB s.data.toList = false := sigB_long _ (by simpa using h14)
    rw [hno]
    clear hno
    go_enter Try.func9, Try.ntmps9
    go_wp2
    go_ret2
    exact ⟨_, rfl, by simp, Below.refl _ _⟩
  · go_enter Try.func9, Try.ntmps9
    go_wp2
    go_loopw [4, 5] (fun o i wr => ∃ (k : Nat) (q : Bool) (l : List UInt8), k ≤ s.size ∧ i = .int .i64 k ∧ o = .string ⟨l.toArray⟩ ∧ Hid (l = nos (s.data.toList.take k)) ∧ Hid (pSt (s.data.toList.take k) = some q) ∧ Hid (k = s.size → k = 0 ∨ q = true) ∧ Below w.heap.size w wr) (fun _ i _ => s.size - (intOf i).toNat)
    case atStart => exact ⟨0, false, [], Nat.zero_le _, rfl, rfl, by show _ = _; simp [nos], by show _ = _; simp [pSt], fun _ => .inl rfl, Below.refl _ _⟩
    case round =>
      obtain ⟨k, q, l, hk, rfl, rfl, HL, HQ, HE, hbl⟩ := hrel
      by_cases hlt : k < s.size
      · have H1 := Lib.hid (pSt_take_succ s k hlt)
        have H2 := Lib.hid (nos_take_succ s k hlt)
        by_cases hg : sgB s[k] = true
        · have HG := Lib.hid hg
          clear hg
          by_cases hk0 : k = 0
          · subst hk0
            have HN : Hid (sigB s.data.toList = false) := plain_no s 1 (by rw [H1.out]; simp [pSt, pStep, HG.out])
            clear H1 H2 HL HQ HE
            go_wp2_with (go_at_call 14; go_must ((with_reducible refine (sgSign_b _ true _ HG.out).mono ?_); rintro e w' ⟨rfl, rfl⟩))
            go_ret2
            exact ⟨⟨#[]⟩, ret_sb2 rfl HN.out.symm, by rw [HN.out]; simp, hbl⟩
          · have hk0' : ¬ (k : Int) = 0 := by omega
            by_cases hkl : k + 1 = s.size
            · have HN : Hid (sigB s.data.toList = false) := by
                refine sigB_no_pSt _ ?_
                have e : s.data.toList = s.data.toList.take (k + 1) := by rw [hkl, take_all]
                rw [e, H1.out, HQ.out]
                cases q <;> simp [pStep, HG.out]
              have hkl' : (s.size : Int) - 1 = (k : Int) := by omega
              clear H1 H2 HL HQ HE
              go_wp2_with (go_at_call 14; go_must ((with_reducible refine (sgSign_b _ true _ HG.out).mono ?_); rintro e w' ⟨rfl, rfl⟩))
              go_ret2
              exact ⟨⟨#[]⟩, ret_sb2 rfl HN.out.symm, by rw [HN.out]; simp, hbl⟩
            · have hkl' : ¬ (k : Int) = (s.size : Int) - 1 := by omega
              obtain ⟨j, hkj⟩ : ∃ j, k = j + 1 := ⟨k - 1, by omega⟩
              have hj : j < s.size := by omega
              have HP : Hid (q = !sgB s[j]) := by
                have e := HQ.out
                rw [hkj, take_snoc s j hj] at e
                exact pSt_last _ _ _ e
              have hix : (k : Int) - 1 = (j : Int) := by omega
              clear hkj
              have hb0 : ((k : Int) == 0) = false := by simpa using hk0
              have hb1 : ((k : Int) == (s.size : Int) - 1) = false := by simpa using hkl'
              cases q with
              | true =>
                have HG2 : Hid (sgB s[j] = false) := by have e := HP.out; show _ = _; revert e; generalize sgB s[j] = z; cases z <;> simp
                clear HP
                go_wp2_with (first | (go_at_call 14; ((with_reducible refine (sgSign_b s[k] true _ HG.out).mono ?_); rintro e w' ⟨rfl, rfl⟩)) | (go_at_call 14; go_must ((with_reducible refine (sgSign_b s[j] false _ HG2.out).mono ?_); rintro e w' ⟨rfl, rfl⟩)))
                go_roundw
                case rel => exact ⟨k + 1, false, l, by omega, by go_num, rfl, by show _ = _; rw [H2.out, HG.out, HL.out]; rfl, by show _ = _; rw [H1.out, HQ.out]; simp [pStep, HG.out], fun h => absurd h hkl, hbl⟩
                case measure => simp [intOf]; omega
              | false =>
                have HG2 : Hid (sgB s[j] = true) := by have e := HP.out; show _ = _; revert e; generalize sgB s[j] = z; cases z <;> simp
                have HN : Hid (sigB s.data.toList = false) := plain_no s (k + 1) (by rw [H1.out, HQ.out]; simp [pStep, HG.out])
                clear HP H1 H2 HL HQ HE
                go_wp2_with (first | (go_at_call 14; ((with_reducible refine (sgSign_b s[k] true _ HG.out).mono ?_); rintro e w' ⟨rfl, rfl⟩)) | (go_at_call 14; go_must ((with_reducible refine (sgSign_b s[j] true _ HG2.out).mono ?_); rintro e w' ⟨rfl, rfl⟩)))
                go_ret2
                exact ⟨⟨#[]⟩, ret_sb2 rfl HN.out.symm, by rw [HN.out]; simp, hbl⟩
        · have hg' : sgB s[k] = false := by simpa using hg
          have HG := Lib.hid hg'
          clear hg hg'
          have HS := Lib.hid (str_snoc l s k hlt)
          have hll : l.length ≤ k := by rw [HL.out]; exact Nat.le_trans (nos_le _) (List.length_take_le _ _)
          have hnb : ¬ 9223372036854775807 < l.length + (min (k + 1) s.size - k) := by omega
          go_wp2_with (go_at_call 14; go_must ((with_reducible refine (sgSign_b _ false _ HG.out).mono ?_); rintro e w' ⟨rfl, rfl⟩))
          go_roundw
          case rel => exact ⟨k + 1, true, l ++ [s[k]], by omega, by go_num, by rw [HS.out], by show _ = _; rw [H2.out, HG.out, HL.out]; rfl, by show _ = _; rw [H1.out, HQ.out]; simp [pStep, HG.out], fun _ => .inr rfl, hbl⟩
          case measure => simp [intOf]; omega
      · have HS : Hid (s.data.toList.take k = s.data.toList) := by show _ = _; rw [show k = s.size by omega, take_all]
        rw [HS.out] at HL HQ
        have hll : l.length ≤ s.size := by rw [HL.out]; exact Nat.le_trans (nos_le _) (by simp)
        have HZ : Hid ((⟨l.toArray⟩ : ByteArray).size ≤ maxLen) := by
          have e1 : (⟨l.toArray⟩ : ByteArray).size = l.length := by show l.toArray.size = _; simp
          show _ ≤ _; rw [e1]; unfold maxLen; omega
        have HR : Hid (dgsB (⟨l.toArray⟩ : ByteArray).data.toList = sigB s.data.toList) := by
          show dgsB l = _
          rw [HL.out]
          cases q with
          | true => exact sigB_of_pSt _ HQ.out
          | false =>
            rcases HE.out (by omega) with h0 | h0
            · have e : s.data.toList = [] := by
                apply List.eq_nil_of_length_eq_zero
                have e1 : s.data.toList.length = s.size := by simp
                omega
              rw [e]; rfl
            · cases h0
        go_wp2_with (go_at_call 15; go_must ((with_reducible refine (sgDigits_b ⟨l.toArray⟩ _ _ HZ.out HR.out).mono ?_); rintro e w' ⟨rfl, rfl⟩))
        go_ret2
        exact ⟨_, rfl, fun _ => by rw [HL.out], hbl⟩
end Go.Proofs.Ytpmkdpkegmbleaa

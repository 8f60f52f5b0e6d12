/-
  All signed digits with some digits: the model's list.
-/
import Derived.Test.YtpmkdpkegmbleaaDoorSgStrs
import Derived.Test.YtpmkdpkegmbleaaDoorSgSv
namespace Go.Proofs.YtpmkdpkegmbleaaDoor
open Go.RowKit

theorem ext_snoc (plain : Bool) (d : UInt8) (ts : List (List UInt8)) (k : Nat) (h : k < ts.length) : ext plain d (ts.take (k + 1)) = ext plain d (ts.take k) ++ (sgs plain).map (fun s => ts.getD k [] ++ s ++ [d]) := by
  rw [List.take_succ_eq_append_getElem h]
  simp only [ext, List.flatMap_append, List.flatMap_cons, List.flatMap_nil, List.append_nil, List.getD_eq_getElem?_getD, List.getElem?_eq_getElem h, Option.getD_some]
theorem str_ext (t u : List UInt8) (s : ByteArray) (i : Nat) (h : i < s.size) : (⟨t.toArray⟩ : ByteArray) ++ ⟨u.toArray⟩ ++ s.extract i (i + 1) = ⟨(t ++ u ++ [s[i]]).toArray⟩ := by
  apply ByteArray.ext
  have hk : i < s.data.toList.length := by simpa using h
  apply Array.ext'
  simp only [ByteArray.data_append, ByteArray.data_extract, Array.toList_append, Array.toList_extract, List.extract_eq_take_drop, List.drop_eq_getElem_cons hk, Nat.add_sub_cancel_left, List.take_succ_cons, List.take_zero, List.append_assoc]
  rfl
theorem str_ext0 (t : List UInt8) (s : ByteArray) (i : Nat) (h : i < s.size) : (⟨t.toArray⟩ : ByteArray) ++ s.extract i (i + 1) = ⟨(t ++ [s[i]]).toArray⟩ := by
  apply ByteArray.ext
  have hk : i < s.data.toList.length := by simpa using h
  apply Array.ext'
  simp only [ByteArray.data_append, ByteArray.data_extract, Array.toList_append, Array.toList_extract, List.extract_eq_take_drop, List.drop_eq_getElem_cons hk, Nat.add_sub_cancel_left, List.take_succ_cons, List.take_zero]
  rfl
theorem first_one (s : ByteArray) : s.extract 0 1 = ⟨(s.data.toList.take 1).toArray⟩ := by
  apply ByteArray.ext
  apply Array.ext'
  simp [ByteArray.data_extract]
set_option maxHeartbeats 2000000 in
theorem sAll_any (s : ByteArray) (plain : Bool) (w : World) (hg : dgsB s.data.toList = true) :
    Calls Tryd.prog 8 #[.string s, .bool plain] w fun e w' => ∃ v, e = .returned v ∧ Strs w.heap.size (allK plain s.data.toList (s.size - 1)) v w' ∧ Below w.heap.size w w' := by
  have hsl : s.data.toList.length = s.size := by simp
  have HG := Lib.hid hg
  have hl : 1 ≤ s.size ∧ s.size ≤ 7 := by
    unfold dgsB at hg
    simp only [Bool.and_eq_true, decide_eq_true_eq] at hg
    omega
  obtain ⟨hl1, hl2⟩ := hl
  have HD : Hid (digB s.data.toList = true) := by
    show _ = _
    unfold dgsB at hg
    simp only [Bool.and_eq_true] at hg
    exact hg.2
  have HSL := Lib.hid hsl
  clear hg hsl
  have hone : min 1 s.size = 1 := by omega
  have HF := Lib.hid (first_one s)
  go_enter Tryd.func8, Tryd.ntmps8
  go_wp2
  go_loopw [5, 6] (fun o i wr => ∃ (j : Nat) (ts : List (List UInt8)), 1 ≤ j ∧ j ≤ s.size ∧ i = .int .i64 j ∧ Hid (ts = allK plain s.data.toList (j - 1)) ∧ Strs w.heap.size ts o wr ∧ Below w.heap.size w wr) (fun _ i _ => s.size - (intOf i).toNat)
  case atStart => exact ⟨1, _, Nat.le_refl _, hl1, rfl, rfl, by rw [HF.out]; exact Strs.one _ _, by go_grown⟩
  case round =>
    obtain ⟨j, ts, hj1, hj, rfl, HT, hst, hbl⟩ := hrel
    rename World => wo
    have HST := Lib.hid hst
    clear hst
    by_cases hlt : j < s.size
    · have hn : ts.length ≤ 4096 := by rw [HT.out]; exact allK_len_le _ _ _ (by omega)
      rcases HST.out.form with ⟨rfl, h0⟩ | ⟨g, cap, rfl, _, hgl, hc, _⟩
      · exfalso
        rw [HT.out, allK_len] at h0
        have := Nat.pow_pos (n := j - 1) (sgsN_pos plain)
        omega
      obtain ⟨n, hnn⟩ : ∃ n, n = ts.length := ⟨_, rfl⟩
      have HN := Lib.hid hnn
      rw [← hnn]
      rw [← hnn] at hn hc
      have HC := Lib.hid hc
      clear hc hnn
      obtain ⟨d, hd⟩ : ∃ d, d = s[j] := ⟨_, rfl⟩
      have HDD := Lib.hid hd
      go_wp2
      go_loopw [7, 21] (fun u i wr => ∃ (k : Nat) (us : List (List UInt8)), k ≤ n ∧ i = .int .i64 k ∧ Hid (us = ext plain d (ts.take k)) ∧ Strs wo.heap.size us u wr ∧ Below wo.heap.size wo wr) (fun _ i _ => n - (intOf i).toNat)
      case atStart => exact ⟨0, [], Nat.zero_le _, rfl, by show _ = _; simp [ext], Strs.nil _ _, Below.refl _ _⟩
      case round =>
        obtain ⟨k, us, hk, rfl, HU, hus, hbq⟩ := hrel
        have HUS := Lib.hid hus
        clear hus
        by_cases hltk : k < n
        · obtain ⟨t, ht⟩ : ∃ t, t = ts.getD k [] := ⟨_, rfl⟩
          have hck : wr.cell? ⟨g, k, none⟩ = some (.string ⟨t.toArray⟩) := by
            rw [(hbq.cell (p := ⟨g, k, none⟩) hgl), HC.out k hltk, ht]; rfl
          have HTT := Lib.hid ht
          have HE := Lib.hid (ext_snoc plain d ts k (by rw [← HN.out]; exact hltk))
          have hul : us.length ≤ 16384 := by
            rw [HU.out, ext_len, List.length_take]
            have : sgsN plain ≤ 4 := by cases plain <;> decide
            have h2 : min k ts.length ≤ 4096 := by omega
            exact Nat.le_trans (Nat.mul_le_mul h2 this) (by decide)
          have htl : t.length ≤ 14 := by
            have hm : t ∈ ts := by
              rw [HTT.out, List.getD_eq_getElem?_getD, List.getElem?_eq_getElem (by rw [← HN.out]; exact hltk)]
              exact List.getElem_mem _
            rw [HT.out] at hm
            have := (allK_nice plain _ HD.out (j - 1) (by rw [HSL.out]; omega) t hm).len
            omega
          have hnb1 : ¬ 9223372036854775807 < t.length + 1 := by omega
          have hnb2 : ¬ 9223372036854775807 < t.length + 1 + (min (j + 1) s.size - j) := by omega
          have hnb3 : ¬ 9223372036854775807 < t.length + (min (j + 1) s.size - j) := by omega
          have hqs := hbq.size
          have hw1 : IntKind.i64.wrap ((j : Int) + 1) = (j : Int) + 1 := IntWalk.i64_in _ (by omega)
          have hj0 : (0 : Int) ≤ (j : Int) := by omega
          have hj3 : (j : Int) ≤ (j : Int) + 1 := by omega
          have hj4 : (j : Int) + 1 ≤ (s.size : Int) := by omega
          have S1 := Lib.hid (str_ext t [43] s j hlt)
          have S2 := Lib.hid (str_ext t [45] s j hlt)
          have S3 := Lib.hid (str_ext0 t s j hlt)
          clear ht
          cases plain with
          | true =>
            have HE2 : Hid (us ++ [t ++ [43] ++ [s[j]], t ++ [45] ++ [s[j]], t ++ [s[j]]] = ext true d (ts.take (k + 1))) := by
              show _ = _
              rw [HE.out, ← HU.out, ← HTT.out, HDD.out]; simp [sgs]
            go_wp2
            go_region_law (refine step_append_strs _ rfl _ _ rfl wo.heap.size us _ rfl (HUS.out.below (by go_grown)) _ [t ++ [43] ++ [s[j]], t ++ [45] ++ [s[j]], t ++ [s[j]]] rfl (news3 _ _ S1.out S2.out S3.out) (by simp) (by simp; omega) (by simp; omega) ?_; intro v' w2 hus2 hb2)
            all_goals
              have hb3 : Below wo.heap.size wo w2 := (hbq.trans (by go_grown)).trans hb2
              have HU2 := Lib.hid hus2
              clear hus2 hb2
              go_wp2
              go_roundw
              case rel => exact ⟨k + 1, _, by omega, by go_num, HE2, HU2.out, hb3⟩
              case measure => simp [intOf]; omega
          | false =>
            have S0 := Lib.hid (str_ext t [42] s j hlt)
            have HE2 : Hid (us ++ [t ++ [42] ++ [s[j]]] ++ [t ++ [43] ++ [s[j]], t ++ [45] ++ [s[j]], t ++ [s[j]]] = ext false d (ts.take (k + 1))) := by
              show _ = _
              rw [HE.out, ← HU.out, ← HTT.out, HDD.out]; simp [sgs]
            go_wp2_with (at_builtin; refine append_strs _ rfl _ _ rfl wo.heap.size us _ rfl (HUS.out.below (by go_grown)) _ [t ++ [42] ++ [s[j]]] rfl (news1 _ _ S0.out) (by simp; omega) (by simp; omega) ?_; intro v1 w1 hus1 hb1)
            have HUT := Lib.hid hus1
            have hb10 : Below wo.heap.size wo w1 := (hbq.trans (by go_grown)).trans hb1
            have hqs1 := hb10.size
            clear hus1 hb1
            go_wp2
            go_region_law (refine step_append_strs _ rfl _ _ rfl wo.heap.size (us ++ [t ++ [42] ++ [s[j]]]) _ rfl (HUT.out.below (by go_grown)) _ [t ++ [43] ++ [s[j]], t ++ [45] ++ [s[j]], t ++ [s[j]]] rfl (news3 _ _ S1.out S2.out S3.out) (by simp) (by simp; omega) (by simp; omega) ?_; intro v' w2 hus2 hb2)
            all_goals
              have hb3 : Below wo.heap.size wo w2 := (hb10.trans (by go_grown)).trans hb2
              have HU2 := Lib.hid hus2
              clear hus2 hb2
              go_wp2
              go_roundw
              case rel => exact ⟨k + 1, _, by omega, by go_num, HE2, HU2.out, hb3⟩
              case measure => simp [intOf]; omega
        · have HK : Hid (ts.take k = ts) := by show _ = _; rw [show k = n by omega, HN.out, List.take_length]
          have hww := hbl.size
          go_wp2
          go_roundw
          case rel => exact ⟨j + 1, us, by omega, by omega, by go_num, by
            show _ = _
            rw [HU.out, HK.out, HT.out, HDD.out, Nat.add_sub_cancel]
            obtain ⟨m, rfl⟩ : ∃ m, j = m + 1 := ⟨j - 1, by omega⟩
            rw [Nat.add_sub_cancel, allK, List.getD_eq_getElem?_getD, List.getElem?_eq_getElem (by rw [HSL.out]; exact hlt)]; rfl, HUS.out.mono hww, hbl.trans (hbq.mono hww)⟩
          case measure => simp [intOf]; omega
    · have HJ : Hid (j = s.size) := by show _ = _; omega
      go_wp2
      go_ret
      exact ⟨_, rfl, by rw [← HJ.out, ← HT.out]; exact HST.out, hbl⟩
end Go.Proofs.YtpmkdpkegmbleaaDoor

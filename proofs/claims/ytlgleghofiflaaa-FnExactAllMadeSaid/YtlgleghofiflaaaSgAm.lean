/-
  The law of AllMade.
-/
import Derived.Test.YtlgleghofiflaaaSgCnt
import Derived.Test.YtlgleghofiflaaaSgSl
import Derived.Test.YtlgleghofiflaaaSgAt
namespace Go.Proofs.Ytlgleghofiflaaa
open Go.RowKit

def amB (s : ByteArray) (x : Int) : Bool := dgsB s.data.toList && numB x && decide ((madeL false s.data.toList x).length ≤ 100)
/-- What both answer. -/
def amL (s : ByteArray) (x : Int) : List (List UInt8) := if amB s x then madeL false s.data.toList x else []
theorem amL_len (s : ByteArray) (x : Int) : (amL s x).length ≤ 100 := by
  unfold amL
  split
  · rename_i h
    unfold amB at h
    simp only [Bool.and_eq_true, decide_eq_true_eq] at h
    exact h.2
  · simp
set_option maxHeartbeats 1000000 in
theorem sAm_any (s : ByteArray) (x : Int) (w : World) (hs : s.size ≤ maxLen) :
    Calls Try.prog 31 #[.string s, .int .i64 x] w fun e w' => ∃ v, e = .returned (.tuple #[v, .bool (amB s x)]) ∧ Strs w.heap.size (amL s x) v w' ∧ Below w.heap.size w w' := by
  cases hd : (dgsB s.data.toList && numB x) with
  | false =>
    have HB : Hid (amB s x = false) := by show _ = _; unfold amB; rw [hd]; rfl
    have HL : Hid (amL s x = []) := by show _ = _; unfold amL; rw [HB.out]; rfl
    have HD := Lib.hid hd
    clear hd
    rw [HB.out, HL.out]
    go_enter Try.func31, Try.ntmps31
    go_wp2_with (first | (go_at_call 50; go_must ((with_reducible refine (asked_b _ _ false _ hs HD.out).mono ?_); rintro e w' ⟨rfl, rfl⟩)))
    go_ret2
    exact ⟨_, rfl, Strs.nil _ _, Below.refl _ _⟩
  | true =>
    have HD := Lib.hid hd
    have HG : Hid (dgsB s.data.toList = true) := by show _ = _; simp only [Bool.and_eq_true] at hd; exact hd.1
    obtain ⟨n, hn⟩ : ∃ n, n = (madeL false s.data.toList x).length := ⟨_, rfl⟩
    have HNL := Lib.hid hn
    by_cases h100 : n ≤ 100
    · have HB : Hid (amB s x = true) := by show _ = _; unfold amB; rw [hd, ← hn]; simp [h100]
      have HL : Hid (amL s x = madeL false s.data.toList x) := by show _ = _; unfold amL; rw [HB.out]; rfl
      have hc : ¬ (100 : Int) < (n : Int) := by omega
      rw [HB.out, HL.out]
      clear hd hn
      go_enter Try.func31, Try.ntmps31
      go_wp2_with (first | (go_at_call 50; go_must ((with_reducible refine (asked_b _ _ true _ hs HD.out).mono ?_); rintro e w' ⟨rfl, rfl⟩)) | (go_at_call 51; go_must ((with_reducible refine (made_any _ _ _ _ HG.out).mono ?_); rintro e w1 ⟨v, rfl, hst, b1⟩; have HST := Lib.hid hst; have HSF : Hid (∃ ao cap, v = .slice ao n cap) := (by rcases hst.form with ⟨h1, h2⟩ | ⟨g, cap, h1, _⟩; (rw [h1, HNL.out, h2]; exact ⟨_, _, rfl⟩); (rw [h1, HNL.out]; exact ⟨_, _, rfl⟩)); obtain ⟨ao, cap, rfl⟩ := HSF.out; clear hst)))
      go_ret2
      exact ⟨_, rfl, HST.out, b1⟩
    · have HB : Hid (amB s x = false) := by show _ = _; unfold amB; rw [hd, ← hn]; simp [h100]
      have HL : Hid (amL s x = []) := by show _ = _; unfold amL; rw [HB.out]; rfl
      have hc : (100 : Int) < (n : Int) := by omega
      rw [HB.out, HL.out]
      clear hd hn
      go_enter Try.func31, Try.ntmps31
      go_wp2_with (first | (go_at_call 50; go_must ((with_reducible refine (asked_b _ _ true _ hs HD.out).mono ?_); rintro e w' ⟨rfl, rfl⟩)) | (go_at_call 51; go_must ((with_reducible refine (made_any _ _ _ _ HG.out).mono ?_); rintro e w1 ⟨v, rfl, hst, b1⟩; have HSF : Hid (∃ ao cap, v = .slice ao n cap) := (by rcases hst.form with ⟨h1, h2⟩ | ⟨g, cap, h1, _⟩; (rw [h1, HNL.out, h2]; exact ⟨_, _, rfl⟩); (rw [h1, HNL.out]; exact ⟨_, _, rfl⟩)); obtain ⟨ao, cap, rfl⟩ := HSF.out; clear hst)))
      go_ret2
      exact ⟨_, rfl, Strs.nil _ _, b1⟩
set_option maxHeartbeats 2000000 in
theorem iAm_any (s : ByteArray) (x : Int) (w : World) (hs : s.size ≤ maxLen) :
    Calls Try.prog 32 #[.string s, .int .i64 x] w fun e w' => ∃ v, e = .returned (.tuple #[v, .bool (amB s x)]) ∧ Strs w.heap.size (amL s x) v w' ∧ Below w.heap.size w w' := by
  obtain ⟨c, hc⟩ : ∃ c, c = cwN false s x := ⟨_, rfl⟩
  have HC := Lib.hid hc
  cases hd : (dgsB s.data.toList && numB x) with
  | false =>
    have HB : Hid (amB s x = false) := by show _ = _; unfold amB; rw [hd]; rfl
    have HL : Hid (amL s x = []) := by show _ = _; unfold amL; rw [HB.out]; rfl
    have HD := Lib.hid hd
    clear hd hc
    rw [HB.out, HL.out]
    go_enter Try.func32, Try.ntmps32
    go_wp2_with (first | (go_at_call 24; go_must ((with_reducible refine (iCountMade_any s x _ hs).mono ?_); rw [HD.out, ← HC.out]; rintro e w1 ⟨rfl, b1⟩)))
    go_ret2
    exact ⟨_, rfl, Strs.nil _ _, b1⟩
  | true =>
    have HD := Lib.hid hd
    have HG : Hid (dgsB s.data.toList = true) := by show _ = _; simp only [Bool.and_eq_true] at hd; exact hd.1
    have hcl : c = ((madeL false s.data.toList x).length : Int) := by rw [hc]; unfold cwN; rw [hd]; rfl
    by_cases h100 : c ≤ 100
    · have HB : Hid (amB s x = true) := by show _ = _; unfold amB; rw [hd]; simp; omega
      have HL : Hid (amL s x = madeL false s.data.toList x) := by show _ = _; unfold amL; rw [HB.out]; rfl
      have hcc : ¬ (100 : Int) < c := by omega
      rw [HB.out, HL.out]
      have hsl : s.data.toList.length = s.size := by simp
      have HSL := Lib.hid hsl
      have HS : Hid ((⟨#[42, 43, 45, 32]⟩ : ByteArray) = sbs false) := rfl
      obtain ⟨hl1, hl2, _⟩ := dgs_len HG.out
      rw [hsl] at hl1 hl2
      obtain ⟨ts, hts⟩ : ∃ ts, ts = allK false s.data.toList (s.size - 1) := ⟨_, rfl⟩
      have HT := Lib.hid hts
      have HTN : Hid (ts.length = sgsN false ^ (s.size - 1)) := by show _ = _; rw [hts, allK_len]
      have hn : ts.length ≤ 4096 := by rw [hts]; exact allK_len_le _ _ _ (by omega)
      have hn0 : 0 < (ts.map sr).length := by rw [List.length_map, hts, allK_len]; exact Nat.pow_pos (sgsN_pos false)
      have HN0 := Lib.hid hn0
      have HNI : Hid (∀ t ∈ ts, (rk t).Fine) := by
        intro t ht
        rw [hts, ← hsl] at ht
        exact (allK_sig HG.out t ht).fine (by rw [hsl]; exact hl2)
      clear hd hc hcl hsl hts hn0
      go_enter Try.func32, Try.ntmps32
      go_wp2_with (first | (go_at_call 24; go_must ((with_reducible refine (iCountMade_any s x _ hs).mono ?_); rw [HD.out, ← HC.out]; rintro e w1 ⟨rfl, b1⟩)) | (go_at_call 55; go_must ((with_reducible refine (rec_any s _ false _ HG.out HS.out).mono ?_); rintro e w2 ⟨v, rfl, hrk, b2⟩; rw [← HT.out] at hrk; obtain ⟨ga, capa, rfl, hga, hgl, hcel⟩ := hrk.form HN0.out; rw [List.length_map])))
      have hmap : (ts.map sr).length = ts.length := List.length_map _
      obtain ⟨n, hnn⟩ : ∃ n, n = ts.length := ⟨_, rfl⟩
      have HN := Lib.hid hnn
      rw [← hnn] at hn
      rw [← hnn]
      have HCL : Hid (∀ k (hk : k < ts.length), Rat w2 ga k (sr ts[k])) := by
        intro k hk
        have := hcel k (by rw [hmap]; exact hk)
        rwa [List.getElem_map] at this
      have hb12 := chain b1 b2
      have hz2 := hb12.size
      clear hrk hcel hnn hmap b1 b2 hga
      go_loopw [8, 26] (fun u i wr => ∃ (k : Nat) (us : List (List UInt8)), k ≤ n ∧ i = .int .i64 k ∧ Hid (us = (ts.take k).filter (fun t => sval t == x)) ∧ Strs w2.heap.size us u wr ∧ Below w2.heap.size w2 wr) (fun _ i _ => n - (intOf i).toNat)
      case atStart => exact ⟨0, [], Nat.zero_le _, rfl, by show _ = _; simp, Strs.nil _ _, Below.refl _ _⟩
      case round =>
        obtain ⟨k, us, hk, rfl, HU, hus, hbq⟩ := hrel
        have HUS := Lib.hid hus
        clear hus
        have hqs := hbq.size
        by_cases hlt : k < n
        · have hlr : k < ts.length := by rw [← HN.out]; exact hlt
          obtain ⟨t, ht⟩ : ∃ t, t = ts[k] := ⟨_, rfl⟩
          obtain ⟨q, hq⟩ : ∃ q, q = sr t := ⟨_, rfl⟩
          have hat := (HCL.out k hlr).below hbq hgl
          rw [← ht, ← hq] at hat
          obtain ⟨ha0, ha1, ha2, ha3⟩ := hat
          have HQ := Lib.hid hq
          have HTT := Lib.hid ht
          have HF : Hid ((rk t).Fine) := HNI.out t (by rw [ht]; exact List.getElem_mem _)
          have HE := Lib.hid (filter_snoc (fun t => sval t == x) ts k hlr)
          have hul : us.length ≤ 4096 := by
            rw [HU.out]
            exact Nat.le_trans (List.length_filter_le _ _) (Nat.le_trans (List.length_take_le _ _) (by omega))
          have HKP : Hid (k < sgsN false ^ (s.size - 1)) := by show _ < _; rw [← HTN.out]; exact hlr
          have HGT : Hid ((allK false s.data.toList (s.size - 1)).getD k [] = t) := by
            show _ = _
            rw [← HT.out, ht, List.getD_eq_getElem?_getD, List.getElem?_eq_getElem hlr]; rfl
          clear hq ht
          by_cases hv : sval t = x
          · have HE2 : Hid (us ++ [t] = (ts.take (k + 1)).filter (fun t => sval t == x)) := by
              show _ = _
              rw [HE.out, HU.out, ← HTT.out]; simp [hv]
            have HV := Lib.hid hv
            clear hv
            go_wp2_with (first | (go_at_call 47; go_must ((with_reducible refine (cl_value2 q t x _ HQ.out HF.out HV.out).mono ?_); rintro e w3 ⟨rfl, rfl⟩)) | (go_at_call 56; go_must ((with_reducible refine (at_any s _ false k _ HG.out HS.out HKP.out).mono ?_); rw [HGT.out]; rintro e w4 ⟨rfl, b4⟩; have b5 : Below wr.heap.size wr w4 := chain (w := wr) (by go_grown) b4; have hz5 := b5.size)) | (at_builtin; refine append_strs _ rfl _ _ rfl w2.heap.size us _ rfl (HUS.out.below (b5.alloc hz5 _)) _ [t] rfl (news1 _ _ rfl) (by simp; omega) (by simp; omega) ?_; intro v1 w6 hus1 hb6))
            have HU2 := Lib.hid hus1
            have hb7 : Below w2.heap.size w2 w6 := (hbq.trans ((b5.alloc hz5 _).mono hqs)).trans hb6
            clear hus1 hb6
            go_wp2
            go_roundw
            case rel => exact ⟨k + 1, _, by omega, by go_num, HE2, HU2.out, hb7⟩
            case measure => simp [intOf]; omega
          · have HE2 : Hid (us = (ts.take (k + 1)).filter (fun t => sval t == x)) := by
              show _ = _
              rw [HE.out, HU.out, ← HTT.out]; simp [hv]
            obtain ⟨y, hy⟩ : ∃ y, sval t = y := ⟨_, rfl⟩
            have hyx : (y == x) = false := by rw [← hy]; simpa using hv
            have HY := Lib.hid hy
            clear hv hy
            go_wp2_with (first | (go_at_call 47; go_must ((with_reducible refine (cl_value2 q t y _ HQ.out HF.out HY.out).mono ?_); rintro e w3 ⟨rfl, rfl⟩)))
            go_roundw
            case rel => exact ⟨k + 1, us, by omega, by go_num, HE2, HUS.out.below (by go_grown), hbq.trans (by go_grown)⟩
            case measure => simp [intOf]; omega
        · have HK : Hid (ts.take k = ts) := by show _ = _; rw [show k = n by omega, HN.out, List.take_length]
          go_wp2
          go_ret2
          refine ⟨_, rfl, ?_, hb12.trans (hbq.mono hz2)⟩
          have e : us = madeL false s.data.toList x := by rw [HU.out, HK.out, HT.out]; unfold madeL; rw [HSL.out]
          rw [← e]; exact HUS.out.mono hz2
    · have HB : Hid (amB s x = false) := by show _ = _; unfold amB; rw [hd]; simp; omega
      have HL : Hid (amL s x = []) := by show _ = _; unfold amL; rw [HB.out]; rfl
      have hcc : (100 : Int) < c := by omega
      rw [HB.out, HL.out]
      clear hd hc hcl
      go_enter Try.func32, Try.ntmps32
      go_wp2_with (first | (go_at_call 24; go_must ((with_reducible refine (iCountMade_any s x _ hs).mono ?_); rw [HD.out, ← HC.out]; rintro e w1 ⟨rfl, b1⟩)))
      go_ret2
      exact ⟨_, rfl, Strs.nil _ _, b1⟩
set_option maxHeartbeats 1000000 in
theorem FnExactAllMade_law (s : ByteArray) (x : Int) (hs : s.size ≤ maxLen) (_hx : (Lit.int .i64 x).wf = true) (w : World) :
    Calls Try.prog 11 #[.string s, .int .i64 x] w fun e w' => e = .returned (.bool true) ∧ Below w.heap.size w w' := by
  have hm := hs
  have hn := amL_len s x
  unfold maxLen at hs
  by_cases hb : s.size ≤ 1048576
  · go_enter Try.func11, Try.ntmps11
    go_wp2_with fail
    refine (sAm_any s x _ hm).mono ?_
    rintro e w1 ⟨v0, rfl, i0, b1⟩
    go_wp2_with fail
    refine (iAm_any s x _ hm).mono ?_
    rintro e w2 ⟨g0, rfl, j0, b2⟩
    have i1 := i0.below b2
    go_wp2_with fail
    refine (eqStrs_yes _ _ (amL s x) _ _ _ (by omega) j0 i1).mono ?_
    rintro e w' ⟨rfl, q, rfl⟩
    go_wp2_with fail
    refine (smark_any w1.heap.size (amL s x) g0 1 _ (by omega) (by omega) (j0.drewN q) (by have := b2.size; exact this)).mono ?_
    rintro e w3 ⟨rfl, k0, b3⟩
    have i3 := (i1.drewN q).apart (.inr i0.own_lt) b3
    go_wp2_with fail
    refine (sheld_any w1.heap.size (amL s x).length g0 1 _ (by omega) (by omega) k0).mono ?_
    rintro e w4 ⟨rfl, b4⟩
    have i4 := i3.below b4
    have k4 := k0.below b4
    go_wp2_with fail
    refine (iAm_any s x _ hm).mono ?_
    rintro e w5 ⟨h0, rfl, l0, b5⟩
    have i5 := i4.below b5
    have k5 := k4.below b5
    go_wp2_with fail
    refine (eqStrs_yes _ _ (amL s x) _ _ _ (by omega) l0 i5).mono ?_
    rintro e w' ⟨rfl, q2, rfl⟩
    go_wp2_with fail
    refine (sheld_any w1.heap.size (amL s x).length g0 1 _ (by omega) (by omega) (k5.drewN q2)).mono ?_
    rintro e w6 ⟨rfl, b6⟩
    go_wp2_with fail
    go_ret
    have s1 := b1.size
    have s2 := b2.size
    have s3 : w2.heap.size ≤ w3.heap.size := b3.size
    have s4 := b4.size
    have s5 : w4.heap.size ≤ w5.heap.size := b5.size
    exact ⟨rfl, (below_drewN ((((below_drewN (b1.trans (b2.mono s1)) q).trans (b3.mono s1)).trans (b4.mono (by omega))).trans (b5.mono (by omega))) q2).trans (b6.mono (show w.heap.size ≤ w5.heap.size by omega))⟩
  · go_enter Try.func11, Try.ntmps11
    go_wp2_with fail
    go_ret
    exact ⟨rfl, Below.refl _ _⟩
end Go.Proofs.Ytlgleghofiflaaa

/-
  The reckonings of all signed digits with some digits.
-/
import Derived.Test.YtpmkdpkegmbleaaDoorSgRks
import Derived.Test.YtpmkdpkegmbleaaDoorSgMade
namespace Go.Proofs.YtpmkdpkegmbleaaDoor
open Go.RowKit

/-- One text's signed digits that go on by one digit, reckoned. -/
def srx (plain : Bool) (d : UInt8) (t : List UInt8) : List Sr := (sgs plain).map (fun u => sr (t ++ u ++ [d]))
theorem srx_len (plain : Bool) (d : UInt8) (t : List UInt8) : (srx plain d t).length = sgsN plain := by simp [srx, sgs_len]
theorem ext_sr (plain : Bool) (d : UInt8) (ts : List (List UInt8)) : (ext plain d ts).map sr = ts.flatMap (srx plain d) := by
  simp only [ext, List.map_flatMap, List.map_map]; rfl
theorem flat_snoc {α β : Type} (f : α → List β) (ts : List α) (k : Nat) (h : k < ts.length) : (ts.take (k + 1)).flatMap f = (ts.take k).flatMap f ++ f ts[k] := by
  rw [List.take_succ_eq_append_getElem h]; simp only [List.flatMap_append, List.flatMap_cons, List.flatMap_nil, List.append_nil]
theorem rkOf_first (s : ByteArray) (w : World) (hg : dgsB s.data.toList = true) :
    Calls Tryd.prog 17 #[.string (s.extract 0 1)] w fun e w' => e = .returned (srV (sr (s.data.toList.take 1))) ∧ Below w.heap.size w w' := by
  obtain ⟨h1, h2, h3⟩ := dgs_len hg
  have e : (s.extract 0 1).data.toList = s.data.toList.take 1 := by simp [ByteArray.data_extract]
  have hn : Nice 1 (s.data.toList.take 1) := allK_nice true s.data.toList h3 0 (by omega) _ (by simp [allK])
  have := rkOf_any (s.extract 0 1) w (by rw [ByteArray.size_extract]; unfold maxLen; omega) (by rw [e]; exact nice_sig hn (by omega))
  rw [e] at this
  exact this
set_option maxRecDepth 100000 in
set_option maxHeartbeats 4000000 in
theorem rec_any (s g : ByteArray) (plain : Bool) (w : World) (hg : dgsB s.data.toList = true) (hgs : g = sbs plain) :
    Calls Tryd.prog 13 #[.string s, .string g] w fun e w' => ∃ v, e = .returned v ∧ Rks w.heap.size ((allK plain s.data.toList (s.size - 1)).map sr) v w' ∧ Below w.heap.size w w' := by
  obtain ⟨i0, hi, hz0, hz1, hz2⟩ := info_parts (show (Tryd.prog.info? 35).map (fun i => (i.zero, i.size, i.bytes)) = some (some (.agg #[.int .i64 0, .int .i64 0, .int .i64 0, .int .i64 0]), 4, 32) by kernel_rfl)
  have hsl : s.data.toList.length = s.size := by simp
  have HG := Lib.hid hg
  have HSL := Lib.hid hsl
  obtain ⟨hl1, hl2, hd⟩ := dgs_len hg
  rw [hsl] at hl1 hl2
  have HD := Lib.hid hd
  have HGS := Lib.hid hgs
  have hgz : g.size = sgsN plain := by rw [hgs, sbs_size]
  have hg4 : g.size ≤ 4 := by rw [hgz]; cases plain <;> decide
  have HGZ := Lib.hid hgz
  clear hg hsl hd hgs hgz
  have hone : min 1 s.size = 1 := by omega
  go_enter Tryd.func13, Tryd.ntmps13
  go_wp2_with (go_at_call 17; go_must ((with_reducible refine (rkOf_first _ _ HG.out).mono ?_); unfold srV; rintro e w1 ⟨rfl, hb1⟩))
  have hz1w := hb1.size
  go_loopw [5, 6] (fun o i wr => ∃ (j : Nat) (ts : List (List UInt8)), 1 ≤ j ∧ j ≤ s.size ∧ i = .int .i64 j ∧ Hid (ts = allK plain s.data.toList (j - 1)) ∧ Rks w1.heap.size (ts.map sr) o wr ∧ Below w1.heap.size w1 wr) (fun _ i _ => s.size - (intOf i).toNat)
  case atStart => exact ⟨1, _, Nat.le_refl _, hl1, rfl, rfl, Rks.one _ _, by go_grown⟩
  case round =>
    obtain ⟨j, ts, hj1, hj, rfl, HT, hst, hbl⟩ := hrel
    rename World => wo
    have HST := Lib.hid hst
    clear hst
    by_cases hlt : j < s.size
    · have hn : ts.length ≤ 4096 := by rw [HT.out]; exact allK_len_le _ _ _ (by omega)
      have hn0 : 0 < ts.length := by rw [HT.out, allK_len]; exact Nat.pow_pos (sgsN_pos plain)
      obtain ⟨ga, capa, rfl, _, hgl, hc⟩ := HST.out.form (by rw [List.length_map]; exact hn0)
      rw [List.length_map]
      obtain ⟨n, hnn⟩ : ∃ n, n = ts.length := ⟨_, rfl⟩
      have HN := Lib.hid hnn
      rw [← hnn]
      rw [← hnn] at hn
      have HC := Lib.hid hc
      have HDJ : Hid (dgB s[j] = true) := by
        have := getD_dg s.data.toList j (by rw [HSL.out]; exact hlt) HD.out
        rw [List.getD_eq_getElem?_getD, List.getElem?_eq_getElem (by rw [HSL.out]; exact hlt)] at this
        exact this
      have HX : Hid (48 ≤ (s[j].toNat : Int) ∧ (s[j].toNat : Int) ≤ 57) := (dgB_iff _).1 HDJ.out
      obtain ⟨M, hM⟩ : ∃ M, M = n * g.size := ⟨_, rfl⟩
      have hmb : (n : Int) * (g.size : Int) = (M : Int) := by rw [hM]; simp
      have hm1 : M ≤ 16384 := by rw [hM]; exact Nat.le_trans (Nat.mul_le_mul hn hg4) (by decide)
      clear hM
      have hbz := hbl.size
      clear hc hnn
      go_wp2_with (at_make; refine wpList_make_own _ rfl _ _ 32 rfl wo.heap.size 35 i0 (.agg #[.int .i64 0, .int .i64 0, .int .i64 0, .int .i64 0]) 4 Tryd.underlying32 hi hz0 hz1 .i64 .i64 _ M rfl rfl ?c1 ?c2 ?c3 (Nat.le_refl _) ?_)
      case c1 => rfl
      case c2 => rw [hz2]; omega
      case c3 => unfold maxLen; omega
      intro wm hown hgrow
      have HM : Hid (Rks wo.heap.size [] (.slice (some ⟨wo.heap.size, 0, none⟩) 0 M) wm) := hown
      have hbm : Below wo.heap.size wo wm := (Below.refl _ _).grown hgrow (Nat.le_refl _) (by rintro q hq; cases hq)
      clear hown hgrow
      go_wp2
      go_loopw [7, 29] (fun u i wr => ∃ (k : Nat) (us : List Sr) (gu capu : Nat), k ≤ n ∧ i = .int .i64 k ∧ u = .slice (some ⟨gu, 0, none⟩) us.length capu ∧ Hid (us = (ts.take k).flatMap (srx plain s[j])) ∧ Hid (Rks wo.heap.size us (.slice (some ⟨gu, 0, none⟩) us.length capu) wr) ∧ Below wo.heap.size wo wr) (fun _ i _ => n - (intOf i).toNat)
      case atStart => exact ⟨0, [], _, _, Nat.zero_le _, rfl, rfl, by show _ = _; simp, HM.out, hbm⟩
      case round =>
        obtain ⟨k, us, gu, capu, hk, rfl, rfl, HU, HUS, hbq⟩ := hrel
        rename World => wq
        have hqs := hbq.size
        by_cases hltk : k < n
        · obtain ⟨t, ht⟩ : ∃ t, t = ts[k]'(by rw [← HN.out]; exact hltk) := ⟨_, rfl⟩
          have HTT := Lib.hid ht
          have hat : Rat wq ga k (sr t) := by
            have := HC.out k (by rw [List.length_map, ← HN.out]; exact hltk)
            rw [List.getElem_map, ← ht] at this
            exact this.below hbq hgl
          obtain ⟨ha0, ha1, ha2, ha3⟩ := hat
          obtain ⟨r, C, hrC⟩ : ∃ r C, sr t = (r, C) := ⟨_, _, rfl⟩
          rw [hrC] at ha0 ha1 ha2 ha3
          simp only at ha0 ha1 ha2 ha3
          have HRC := Lib.hid hrC
          clear ht hrC
          have hul : us.length ≤ 16384 := by
            rw [HU.out]
            have : ∀ l : List (List UInt8), (l.flatMap (srx plain s[j])).length = l.length * sgsN plain := by
              intro l
              induction l with
              | nil => simp
              | cons a l ih => rw [List.flatMap_cons, List.length_append, ih, srx_len, List.length_cons, Nat.succ_mul]; omega
            rw [this, List.length_take]
            have h4 : sgsN plain ≤ 4 := by cases plain <;> decide
            exact Nat.le_trans (Nat.mul_le_mul (show min k ts.length ≤ 4096 by omega) h4) (by decide)
          have hgu : gu < wq.heap.size := HUS.out.lt
          have HR : Hid (r.Fine ∧ 0 ≤ C ∧ C ≤ 1000) := by
            have e1 : r = rk t := by have := HRC.out; rw [sr] at this; exact (congrArg Prod.fst this).symm
            have e2 : C = (nSg t : Int) := by have := HRC.out; rw [sr] at this; exact (congrArg Prod.snd this).symm
            have hm : t ∈ ts := by rw [HTT.out]; exact List.getElem_mem _
            rw [HT.out] at hm
            have hni := allK_nice plain _ HD.out (j - 1) (by rw [HSL.out]; omega) t hm
            have hle := nSg_le t
            have hlen := hni.len
            refine ⟨by rw [e1]; exact hni.fine (by omega), by omega, by omega⟩
          obtain ⟨bx, hbx⟩ : ∃ bx, bx = wq.heap.size := ⟨_, rfl⟩
          have HBX := Lib.hid hbx
          clear hbx
          go_wp2
          go_loopw [7, 35] (fun u i wr => ∃ (m : Nat) (us' : List Sr) (gv capv : Nat), m ≤ g.size ∧ i = .int .i64 m ∧ u = .slice (some ⟨gv, 0, none⟩) us'.length capv ∧ gv ≠ bx ∧ Hid (us' = us ++ ((sgs plain).take m).map (fun u => sr (t ++ u ++ [s[j]]))) ∧ Hid (Rks wo.heap.size us' (.slice (some ⟨gv, 0, none⟩) us'.length capv) wr) ∧ Rb wr bx r.S r.P r.N C ∧ Below wo.heap.size wo wr ∧ bx < wr.heap.size) (fun _ i _ => g.size - (intOf i).toNat)
          case atStart => exact ⟨0, us, gu, capu, Nat.zero_le _, rfl, rfl, by rw [HBX.out]; omega, by show _ = _; simp, HUS.out.below (by go_grown), by rw [HBX.out]; exact ⟨by simp [go_sem], by simp [go_sem], by simp [go_sem], by simp [go_sem], by simp [go_sem], by simp [go_sem], by simp [go_sem], by simp [go_sem]⟩, hbq.trans (by go_grown), by rw [HBX.out]; simp⟩
          case round =>
            obtain ⟨m, us', gv, capv, hm, rfl, rfl, hgv, HV, HVS, hrb, hbi, hbxl⟩ := hrel
            have hbis := hbi.size
            by_cases hltm : m < g.size
            · have HST2 := Lib.hid (sbs_step plain t s[j] HDJ.out g HGS.out m hltm)
              have hvl : us'.length ≤ 17000 := by
                rw [HV.out]; simp only [List.length_append, List.length_map, List.length_take, sgs_len]
                have h4 : sgsN plain ≤ 4 := by cases plain <;> decide
                omega
              have HZ1 := Lib.hid HST2.out.1
              have hc0 := hrb.c0
              have hc1 := hrb.c1
              have hc2 := hrb.c2
              have hc3 := hrb.c3
              rw [HBX.out] at hc0 hc1 hc2 hc3
              obtain ⟨q, hq⟩ : ∃ q : Sr, q = (⟨(ap (g[m].toNat : Int) r).S, (ap (g[m].toNat : Int) r).P, 10 * (ap (g[m].toNat : Int) r).N + ((s[j].toNat : Int) - 48)⟩, C + if (g[m].toNat : Int) = 32 then 0 else 1) := ⟨_, rfl⟩
              have HQ := Lib.hid hq
              have HQ2 : Hid (us' ++ [q] = us ++ ((sgs plain).take (m + 1)).map (fun u => sr (t ++ u ++ [s[j]]))) := by
                show _ = _
                have hml : m < (sgs plain).length := by rw [sgs_len, ← HGZ.out]; exact hltm
                rw [List.take_succ_eq_append_getElem hml, List.map_append, ← List.append_assoc, ← HV.out]
                congr 1
                have e2 := HST2.out.2
                have e3 := HRC.out
                rw [sr] at e3
                have e4 : rk t = r := congrArg Prod.fst e3
                have e5 : (nSg t : Int) = C := congrArg Prod.snd e3
                rw [e4, e5, ← hq, List.getD_eq_getElem?_getD, List.getElem?_eq_getElem hml, Option.getD_some] at e2
                rw [e2]; rfl
              have hj0 : (0 : Int) ≤ (j : Int) := by omega
              have hj4 : (j : Int) < (s.size : Int) := by omega
              have hm0 : (0 : Int) ≤ (m : Int) := by omega
              have hm4 : (m : Int) < (g.size : Int) := by omega
              clear hq
              go_wp2
              go_region_law (first | (refine step_append_rk _ rfl _ _ rfl wo.heap.size us' (.slice (some ⟨gv, 0, none⟩) us'.length capv) rfl (HVS.out.below (H2.alloc H2.size _)) _ q rfl (newsq _ _ q) (by omega) (by simp; omega) ?_; intro gw capw w3 hrk hgr hatt) | (go_simp; go_at_call 18; refine (beh_q q r C _ _ _ HQ.out HZ1.out HR.out.1 HR.out.2 HX.out).mono ?_; rintro e w2 ⟨rfl, hb2⟩; have H2 : Below wr.heap.size wr w2 := chain (w := wr) (by go_grown) hb2; have hz2s := H2.size))
              all_goals
                have hv1 : (Value.slice (some ⟨gv, 0, none⟩) us'.length capv).ownBlock = some gv := rfl
                have R2 := ((hrb.below H2 hbxl).below ((Below.refl _ _).alloc (Nat.le_refl _) (.cells #[.int .i64 q.1.S, .int .i64 q.1.P, .int .i64 q.1.N, .int .i64 q.2] 35)) (by omega)).grown hgr (by simp; omega) (by rw [hv1]; intro e; exact hgv (Option.some.inj e).symm)
                have hgw : gw ≠ bx := by
                  rcases hatt with h | h
                  · rw [hv1] at h
                    intro e; exact hgv (by rw [Option.some.inj h, e])
                  · rw [h]; simp; omega
                have hb3 : Below wo.heap.size wo w3 := ((hbi.trans (H2.mono hbis)).alloc (by omega) _).grown hgr (by simp; omega) (fun p hp => (World.ownsRow.lt HVS.out p hp).1)
                have hz3 := hgr.size
                have HRK := Lib.hid hrk
                clear hrk hgr hatt hb2 hc0 hc1 hc2 hc3
                go_wp2
                go_roundw
                case rel => exact ⟨m + 1, us' ++ [q], gw, capw, by omega, by go_num, by simp, hgw, HQ2, by show Rks _ _ _ _; simpa using HRK.out, R2, hb3, by simp at hz3; omega⟩
                case measure => simp [intOf]; omega
            · have HK : Hid (us' = (ts.take (k + 1)).flatMap (srx plain s[j])) := by
                show _ = _
                have e9 : (sgs plain).take m = sgs plain := List.take_of_length_le (by rw [sgs_len, ← HGZ.out]; omega)
                rw [HV.out, HU.out, flat_snoc _ _ _ (by rw [← HN.out]; exact hltk), ← HTT.out, e9]
                rfl
              go_wp2
              go_roundw
              case rel => exact ⟨k + 1, us', gv, capv, by omega, by go_num, rfl, HK, HVS.out, hbi⟩
              case measure => simp [intOf]; omega
        · have HK : Hid (us = (allK plain s.data.toList j).map sr) := by
            show _ = _
            obtain ⟨jj, hjj⟩ : ∃ jj, j = jj + 1 := ⟨j - 1, by omega⟩
            have e1 : allK plain s.data.toList j = ext plain (s.data.toList.getD j 0) (allK plain s.data.toList (j - 1)) := by
              rw [hjj, Nat.add_sub_cancel, allK]
            rw [e1, ext_sr, ← HT.out, HU.out, List.take_of_length_le (by rw [← HN.out]; omega), List.getD_eq_getElem?_getD, List.getElem?_eq_getElem (by rw [HSL.out]; exact hlt)]
            rfl
          have hww := hbl.size
          go_wp2
          go_roundw
          case rel => exact ⟨j + 1, allK plain s.data.toList j, by omega, by omega, by go_num, by rw [Nat.add_sub_cancel]; rfl, by rw [← HK.out]; exact HUS.out.mono hww, hbl.trans (hbq.mono hww)⟩
          case measure => simp [intOf]; omega
    · have HJ : Hid (j = s.size) := by show _ = _; omega
      go_wp2
      go_ret
      exact ⟨_, rfl, by rw [← HJ.out, ← HT.out]; exact HST.out.mono hz1w, hb1.trans (hbl.mono hz1w)⟩
end Go.Proofs.YtpmkdpkegmbleaaDoor

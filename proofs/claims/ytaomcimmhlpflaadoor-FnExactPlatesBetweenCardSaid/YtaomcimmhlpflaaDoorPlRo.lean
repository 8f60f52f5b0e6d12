/-
  The rank of a plate, by a walk.
-/
import Derived.Test.YtaomcimmhlpflaaDoorPlCn
namespace Go.Proofs.YtaomcimmhlpflaaDoor
open Go.RowKit

theorem heap7 {W : World} {b : Nat} {x0 x1 x2 x3 x4 x5 x6 y0 y1 y2 y3 y4 y5 y6 : Value} {T : TypeId} (h : W.heap[b]? = some (.cells #[x0, x1, x2, x3, x4, x5, x6] T (0, 0))) :
    (((((((W.setCell ⟨b, 0, none⟩ y0).setCell ⟨b, 1, none⟩ y1).setCell ⟨b, 2, none⟩ y2).setCell ⟨b, 3, none⟩ y3).setCell ⟨b, 4, none⟩ y4).setCell ⟨b, 5, none⟩ y5).setCell ⟨b, 6, none⟩ y6).heap[b]? = some (.cells #[y0, y1, y2, y3, y4, y5, y6] T (0, 0)) := by
  simp [World.setCell, Array.getElem?_modify, h]
set_option maxRecDepth 100000 in
set_option maxHeartbeats 8000000 in
theorem rankOf_any (ts rows : List (List UInt8)) (va : Option Addr) (V vcap : Nat) (ga : Option Addr) (L L1 gc b N g wc : Nat) (T : ByteArray) (w : World) (hV : V = ts.length) (hL : L = rows.length) (hL1 : L1 = rows.length + 1)
    (hn : ts.length ≤ 3) (hr : rows.length ≤ 8) (h26 : ∀ r ∈ rows, r.length ≤ 26) (hasc : ∀ r ∈ rows, ∀ c ∈ r, c.toNat < 128) (hso : ∀ r ∈ rows, r.Pairwise (fun a b => a < b)) (hTs : T.size = rows.length) (hTr : ∀ i (hi : i < T.size), T[i]'hi ∈ rows.getD i []) (hTf : Free ts T.data.toList)
    (hM : rkU ts rows [] T.data.toList ≤ 208827064576)
    (h : Rd ts (.slice va V vcap) w) (hS : SetM w b N (fun t => decide (t = []) || beg ts t)) (hsg : Rd rows (.slice ga L gc) w) (hW : Wys w (fun t => decide (t = []) || beg ts t) (fun j t => (Gq ts (qSuf ts) (rows.drop j) t : Int)) g 0 L1) :
    Calls Tryd.prog 51 #[.agg #[.slice va V vcap, .map (some b), .slice ga L gc, .slice (some ⟨g, 0, none⟩) L1 wc, .int .i64 0, .string ⟨#[]⟩, .bool false], .string T] w fun e w' => e = .returned (.int .i64 (rkU ts rows [] T.data.toList : Int)) ∧ Below w.heap.size w w' := by
  have HV := Lib.hid h
  have HS := Lib.hid hS
  have HG := Lib.hid hsg
  have HW := Lib.hid hW
  have H26 := Lib.hid h26
  have HA := Lib.hid hasc
  have HSO := Lib.hid hso
  have HTR := Lib.hid hTr
  have HL := Lib.hid hL
  have HL1 := Lib.hid hL1
  have HVL := Lib.hid hV
  have HTF := Lib.hid hTf
  obtain ⟨M, hMd⟩ : ∃ M, M = rkU ts rows [] T.data.toList := ⟨_, rfl⟩
  rw [← hMd] at hM ⊢
  have HM := Lib.hid hMd
  rw [← hL] at hTs hr
  have HRL := Lib.hid hr
  have HN3 := Lib.hid hn
  have HTS := Lib.hid hTs
  clear hTs h hS hsg hW h26 hasc hso hTr hL hL1 hV hTf hMd hn
  have htl : T.data.toList.length = T.size := by simp
  have HTL := Lib.hid htl
  clear htl
  have mixed : Tryd.prog.follows .mixedOrders = true := by kernel_rfl
  have late : Tryd.prog.follows .lateStores = true := by kernel_rfl
  go_enter Tryd.func51, Tryd.ntmps51
  go_wp2_with fail
  obtain ⟨W, hWd⟩ : ∃ W, W = w.alloc (.cells #[.slice va V vcap, .map (some b), .slice ga L gc, .slice (some ⟨g, 0, none⟩) L1 wc, .int .i64 0, .string ⟨#[]⟩, .bool false] 60) := ⟨_, rfl⟩
  have hq : W.heap[w.heap.size]? = some (.cells #[.slice va V vcap, .map (some b), .slice ga L gc, .slice (some ⟨g, 0, none⟩) L1 wc, .int .i64 ((0 : Nat) : Int), .string ⟨#[]⟩, .bool false] 60 (0, 0)) := by rw [hWd]; exact (MapKept.heap_alloc _ _).1
  have HB : Hid (Below w.heap.size w W) := by show Below _ _ _; rw [hWd]; exact (Below.refl _ _).alloc (Nat.le_refl _) _
  rw [← hWd]
  obtain ⟨b0, hb0⟩ : ∃ b0, b0 = w.heap.size := ⟨_, rfl⟩
  rw [← hb0] at hq ⊢
  have HQ := Lib.hid hq
  have HB0 := Lib.hid hb0
  clear hWd hq hb0
  go_loopw [5, 11] (fun rk iv wr => ∃ (i S : Nat) (x : ByteArray), i ≤ T.size ∧ iv = .int .i64 i ∧ rk = .int .i64 S ∧ x.size ≤ i ∧ Hid (wr.heap[b0]? = some (.cells #[.slice va V vcap, .map (some b), .slice ga L gc, .slice (some ⟨g, 0, none⟩) L1 wc, .int .i64 (i : Int), .string x, .bool false] 60 (0, 0))) ∧ Hid (Below w.heap.size w wr) ∧ Hid (Free ts (x.data.toList ++ T.data.toList.drop i)) ∧ Hid ((fun t => decide (t = []) || beg ts t) x.data.toList = true) ∧ Hid (S + rkU ts (rows.drop i) x.data.toList (T.data.toList.drop i) = M)) (fun _ iv _ => T.size - (intOf iv).toNat)
  case atStart => exact ⟨0, 0, ⟨#[]⟩, Nat.zero_le _, rfl, rfl, Nat.zero_le _, HQ, HB, HTF.out, rfl, by show _ = _; rw [HM.out]; simp⟩
  case round =>
    obtain ⟨i, S, x, hi, rfl, rfl, hxs, HH, HBL, HF, HK, HE⟩ := hrel
    by_cases hlt : i < T.size
    · have hil : i < rows.length := by have := HL.out; have := HTS.out; omega
      have hltI : (i : Int) < (T.size : Int) := by omega
      have hiL : (i : Int) < (L : Int) := by have := HL.out; omega
      have hi0 : (0 : Int) ≤ (i : Int) := by omega
      obtain ⟨r, hrr⟩ : ∃ r, r = rows[i] := ⟨_, rfl⟩
      have hrd : rows.getD i [] = r := by rw [hrr, List.getD_eq_getElem?_getD, List.getElem?_eq_getElem hil]; rfl
      have hdrop : rows.drop i = r :: rows.drop (i + 1) := by rw [hrr]; exact List.drop_eq_getElem_cons hil
      have hbr := HTR.out i hlt
      rw [hrd] at hbr
      obtain ⟨kb, hkb, hkbe⟩ := List.getElem_of_mem hbr
      have hTd : T.data.toList.drop i = (T[i]'hlt) :: T.data.toList.drop (i + 1) := by
        rw [List.drop_eq_getElem_cons (by rw [HTL.out]; exact hlt)]
        congr 1
      have hst := rank_step (rs := rows.drop (i + 1)) (r := r) (by rw [← hTd]; exact HF.out)
      have hrs : r.Pairwise (fun a b => a < b) := HSO.out r (by rw [hrr]; exact List.getElem_mem _)
      have hra : ∀ c ∈ r, c.toNat < 128 := HA.out r (by rw [hrr]; exact List.getElem_mem _)
      have hr26 : r.length ≤ 26 := H26.out r (by rw [hrr]; exact List.getElem_mem _)
      have hfx : Free ts x.data.toList := HF.out.infix ⟨[], T.data.toList.drop i, by simp⟩
      obtain ⟨sa, scap, hsv, hcs⟩ := HG.out
      have hsa : ga = sa := by simp only [Value.slice.injEq] at hsv; exact hsv.1
      obtain ⟨g2, o2, hgo, hg2, hcell⟩ := hcs i hil
      rw [← hsa] at hgo
      clear hsv hsa hcs
      subst hgo
      obtain ⟨bb, hbb⟩ : ∃ bb : ByteArray, bb = ⟨(rows.getD i []).toArray⟩ := ⟨_, rfl⟩
      have hbd : bb.data.toList = r := by rw [hbb]; exact hrd
      have hbs : bb.size = r.length := by rw [hbb, ← hrd]; rfl
      unfold strV at hcell
      rw [← hbb] at hcell
      have hcl := (HBL.out.cell (p := ⟨g2, o2 + i, none⟩) hg2).trans hcell
      obtain ⟨m0, m1, m2, m3, m4, m5, m6, mf, ms⟩ := blk7 HH.out
      have hx1 : x.size ≤ 1000 := by have := HRL.out; have := HTS.out; omega
      have HX1 := Lib.hid hx1
      obtain ⟨I1, hI1⟩ : ∃ I1 : Nat, (i : Int) + 1 = (I1 : Int) := ⟨i + 1, by omega⟩
      have HI1 : Hid (I1 = i + 1) := by show _ = _; omega
      have HST : Hid (∀ (c : UInt8), c ∈ r → ∀ X : World, Below w.heap.size w X → ∀ (Z : ByteArray) (R R' : Bool), Z = (if qSuf ts (x.data.toList ++ [c]) = true then ⟨(stt ts (x.data.toList ++ [c])).toArray⟩ else ⟨#[]⟩) → R = qSuf ts (x.data.toList ++ [c]) → R' = (!R) → Calls Tryd.prog 55 #[.agg #[.slice va V vcap, .map (some b), .slice (some ⟨g2, o2, none⟩) L gc, .slice (some ⟨g, 0, none⟩) L1 wc, .int .i64 (i : Int), .string x, .bool false], .int .u8 (c.toNat : Int)] X fun e w' => e = .returned (.agg #[.slice va V vcap, .map (some b), .slice (some ⟨g2, o2, none⟩) L gc, .slice (some ⟨g, 0, none⟩) L1 wc, .int .i64 (I1 : Int), .string Z, .bool R']) ∧ Below X.heap.size X w') := by
        intro c hc X hX Z R R' hZ hR hR'
        subst hR'
        rw [← hI1]
        exact step_go ts rows _ _ _ _ _ b N i x c X HN3.out HX1.out (by have := HRL.out; have := HL.out; omega) hil (hra c hc) (by rw [hrd]; exact hc) (HV.out.below hX) (HS.out.below hX) (HG.out.below hX) Z R hZ hR
      have HCO : Hid (∀ X : World, Below w.heap.size w X → ∀ (Z : ByteArray), Z.size ≤ maxLen → (fun t => decide (t = []) || beg ts t) Z.data.toList = true → Calls Tryd.prog 56 #[.agg #[.slice va V vcap, .map (some b), .slice (some ⟨g2, o2, none⟩) L gc, .slice (some ⟨g, 0, none⟩) L1 wc, .int .i64 (I1 : Int), .string Z, .bool false]] X fun e w' => e = .returned (.int .i64 (Gq ts (qSuf ts) (rows.drop (i + 1)) Z.data.toList : Int)) ∧ Below X.heap.size X w') := by
        intro X hX Z hZ hK
        have hW2 := HW.out.below hX
        have hc := completions_any ts rows (.slice va V vcap) (.slice (some ⟨g2, o2, none⟩) L gc) b g wc I1 Z X hZ (by have := HRL.out; have := HL.out; omega) (by have := HI1.out; omega) hK (by rw [HL1.out] at hW2; exact hW2)
        rw [← HL1.out, HI1.out] at hc
        rw [HI1.out]
        exact hc
      obtain ⟨Q, hQd⟩ : ∃ Q : Nat → Nat, Q = fun k => S + ((r.take k).map fun c => cnt ts (rows.drop (i + 1)) (x.data.toList ++ [c])).sum := ⟨_, rfl⟩
      have HQS : Hid (∀ k (hk : k < r.length), Q (k + 1) = Q k + cnt ts (rows.drop (i + 1)) (x.data.toList ++ [r[k]])) := by
        intro k hk
        rw [hQd]
        show S + _ = S + _ + _
        rw [rank_row k hk]; omega
      have hQ0 : Q 0 = S := by rw [hQd]; rfl
      have HQK : Hid (Q kb + rkU ts (rows.drop (i + 1)) (stt ts (x.data.toList ++ [T[i]'hlt])) (T.data.toList.drop (i + 1)) = M) := by
        show _ = _
        have h1 := HE.out
        rw [hdrop, hTd, hst.2.2, ← hkbe, rkD_take kb hkb hrs, hkbe] at h1
        rw [hQd]
        show S + _ + _ = M
        omega
      have hmono : ∀ d k, k + d ≤ r.length → Q k ≤ Q (k + d) := by
        intro d
        induction d with
        | zero => intro k _; exact Nat.le_refl _
        | succ d ih => intro k hk; exact Nat.le_trans (ih k (by omega)) (by rw [← Nat.add_assoc, HQS.out (k + d) (by omega)]; omega)
      have HQB : Hid (∀ k, k ≤ kb → Q k ≤ 208827064576) := fun k hk => by
        have h1 := hmono (kb - k) k (by omega)
        rw [show k + (kb - k) = kb by omega] at h1
        have h2 := HQK.out
        omega
      have HFS := Lib.hid hst.2.1
      have HF1 := Lib.hid hst.1
      have HRS : Hid (∀ j, (hj : j < kb) → (r[j]'(Nat.lt_trans hj hkb)) < T[i]'hlt) := fun j hj => by
        rw [← hkbe]; exact List.pairwise_iff_getElem.1 hrs j kb (by omega) hkb hj
      have HBR := Lib.hid hbr
      have HKB := Lib.hid hkbe
      have HBD := Lib.hid hbd
      have HFX := Lib.hid hfx
      have HHO := Lib.hid HH.out
      have hkr : kb < bb.size := by omega
      have hb26 : bb.size ≤ 26 := by omega
      have HBS := Lib.hid hbs
      clear hst hmono hQd hrs hra hbr hdrop hTd hrd hrr hfx hcell hkbe hbb hbs HSO HA H26 HTR
      rename World => wo
      go_wp2
      go_loopw [5, 8] (fun rk jv wr => ∃ j : Nat, j ≤ kb ∧ jv = .int .i64 j ∧ rk = .int .i64 (Q j) ∧ Hid (Below wo.heap.size wo wr)) (fun _ jv _ => kb - (intOf jv).toNat)
      case atStart => exact ⟨0, Nat.zero_le _, rfl, by rw [hQ0], Below.refl _ _⟩
      case round =>
        obtain ⟨j, hj, rfl, rfl, HBJ⟩ := hrel
        have hh1 := heapk HHO.out HBJ.out
        have HH1 := Lib.hid hh1
        obtain ⟨m0, m1, m2, m3, m4, m5, m6, mf, ms⟩ := blk7 hh1
        clear hh1
        have HWX : Hid (Below w.heap.size w wr) := HBL.out.trans (HBJ.out.mono HBL.out.size)
        have hjb : j < bb.size := by omega
        have hjbI : (j : Int) < (bb.size : Int) := by omega
        have hj0 : (0 : Int) ≤ (j : Int) := by omega
        have hjr : j < r.length := by have := HBS.out; omega
        have HCJ : Hid ((bb[j]'hjb) = r[j]'hjr) := by
          show _ = _
          have e : r[j]'hjr = bb.data.toList[j]'(by simpa using hjb) := by congr 1; exact HBD.out.symm
          rw [e]; simp; rfl
        by_cases hjk : j < kb
        · have hlss : ((bb[j]'hjb).toNat : Int) < ((T[i]'hlt).toNat : Int) := by
            have h1 := HRS.out j hjk
            rw [← HCJ.out] at h1
            have := UInt8.lt_iff_toNat_lt.1 h1
            omega
          obtain ⟨R, hR⟩ : ∃ R, R = qSuf ts (x.data.toList ++ [bb[j]'hjb]) := ⟨_, rfl⟩
          obtain ⟨Z, hZ⟩ : ∃ Z : ByteArray, Z = if qSuf ts (x.data.toList ++ [bb[j]'hjb]) = true then ⟨(stt ts (x.data.toList ++ [bb[j]'hjb])).toArray⟩ else ⟨#[]⟩ := ⟨_, rfl⟩
          obtain ⟨R', hR'⟩ : ∃ R', R' = (!R) := ⟨_, rfl⟩
          obtain ⟨C, hC⟩ : ∃ C : Nat, C = cnt ts (rows.drop (i + 1)) (x.data.toList ++ [bb[j]'hjb]) := ⟨_, rfl⟩
          have hcc := stepcnt (rows.drop (i + 1)) (bb[j]'hjb) HFX.out
          have HS1 : Hid (∀ X : World, Below w.heap.size w X → Calls Tryd.prog 55 #[.agg #[.slice va V vcap, .map (some b), .slice (some ⟨g2, o2, none⟩) L gc, .slice (some ⟨g, 0, none⟩) L1 wc, .int .i64 (i : Int), .string x, .bool false], .int .u8 ((bb[j]'hjb).toNat : Int)] X fun e w' => e = .returned (.agg #[.slice va V vcap, .map (some b), .slice (some ⟨g2, o2, none⟩) L gc, .slice (some ⟨g, 0, none⟩) L1 wc, .int .i64 (I1 : Int), .string Z, .bool R']) ∧ Below X.heap.size X w') := fun X hX => HST.out _ (by rw [HCJ.out]; exact List.getElem_mem _) X hX Z R R' hZ hR hR'
          have HC1 : Hid (∀ X : World, Below w.heap.size w X → Calls Tryd.prog 56 #[.agg #[.slice va V vcap, .map (some b), .slice (some ⟨g2, o2, none⟩) L gc, .slice (some ⟨g, 0, none⟩) L1 wc, .int .i64 (I1 : Int), .string Z, .bool R']] X fun e w' => e = .returned (.int .i64 (C : Int)) ∧ Below X.heap.size X w') := by
            intro X hX
            rcases Bool.eq_false_or_eq_true R with hRt | hRf
            · have hq : qSuf ts (x.data.toList ++ [bb[j]'hjb]) = true := by rw [← hR]; exact hRt
              have hr' : R' = false := by rw [hR', hRt]; rfl
              have hzz : Z.data.toList = stt ts (x.data.toList ++ [bb[j]'hjb]) := by rw [hZ, if_pos hq]
              have hzs : Z.size ≤ maxLen := by
                have h1 := stt_len ts (x.data.toList ++ [bb[j]'hjb])
                have h2 : Z.data.toList.length = Z.size := by simp
                have h3 : x.data.toList.length = x.size := by simp
                have h4 := HX1.out
                rw [← hzz, h2, List.length_append, h3] at h1
                simp at h1
                unfold maxLen; omega
              rw [if_pos hq] at hcc
              have h5 := HCO.out X hX Z hzs (by rw [hzz]; exact (stepfree HFX.out hq).2)
              rw [hzz, hcc, ← hC] at h5
              rw [hr']
              exact h5
            · have hq : ¬ qSuf ts (x.data.toList ++ [bb[j]'hjb]) = true := by rw [← hR, hRf]; decide
              have hr' : R' = true := by rw [hR', hRf]; rfl
              rw [if_neg hq] at hcc
              have hC0 : C = 0 := by rw [hC, ← hcc]
              rw [hr', hC0]
              exact completions_lost _ _ _ _ _ _ X
          have HQN : Hid (Q (j + 1) = Q j + C) := by show _ = _; rw [HQS.out j hjr, hC, HCJ.out]
          have hsum : (Q j : Int) + (C : Int) ≤ 208827064576 := by have h1 := HQN.out; have h2 := HQB.out (j + 1) (by omega); omega
          have hq0 : (0 : Int) ≤ (Q j : Int) := by omega
          have hc0 : (0 : Int) ≤ (C : Int) := by omega
          clear hR hZ hR' hC hcc
          go_wp2
          go_region_with fail
          all_goals go_wp2
          all_goals go_region_with (first
            | (go_at_call 55; (with_reducible refine (HS1.out _ (HWX.out.trans ((show Below wr.heap.size wr _ by go_grown).mono HWX.out.size))).mono ?_); rintro e w1 ⟨rfl, c1⟩; have B1 : Below wr.heap.size wr w1 := chain (w := wr) (by go_grown) c1)
            | (go_at_call 56; (with_reducible refine (HC1.out _ (HWX.out.trans ((chain (w := wr) B1 (by go_grown)).mono HWX.out.size))).mono ?_); rintro e w2 ⟨rfl, c2⟩; have B2 : Below wr.heap.size wr w2 := chain (chain (w := wr) B1 (by go_grown)) c2))
          all_goals go_wp2
          all_goals
            go_roundw
            case rel => exact ⟨j + 1, by omega, by go_num, val_int (by have := HQN.out; omega), HBJ.out.trans (B2.mono HBJ.out.size)⟩
            case measure => simp [intOf]; omega
        · have hje : j = kb := by omega
          subst hje
          have HTJ : Hid ((bb[j]'hjb) = T[i]'hlt) := by show _ = _; rw [HCJ.out]; exact HKB.out
          have hlss : ¬ ((bb[j]'hjb).toNat : Int) < ((T[i]'hlt).toNat : Int) := by rw [HTJ.out]; omega
          have hq : qSuf ts (x.data.toList ++ [T[i]'hlt]) = true := (right_suf ts x.data.toList (T[i]'hlt) HFX.out).2 HF1.out
          obtain ⟨Z, hZ⟩ : ∃ Z : ByteArray, Z = if qSuf ts (x.data.toList ++ [T[i]'hlt]) = true then ⟨(stt ts (x.data.toList ++ [T[i]'hlt])).toArray⟩ else ⟨#[]⟩ := ⟨_, rfl⟩
          have hzz : Z.data.toList = stt ts (x.data.toList ++ [T[i]'hlt]) := by rw [hZ, if_pos hq]
          have hzs : Z.size ≤ i + 1 := by
            have h1 := stt_len ts (x.data.toList ++ [T[i]'hlt])
            have h2 : Z.data.toList.length = Z.size := by simp
            have h3 : x.data.toList.length = x.size := by simp
            rw [← hzz, h2, List.length_append, h3] at h1
            simp at h1
            omega
          have HS1 : Hid (∀ X : World, Below w.heap.size w X → Calls Tryd.prog 55 #[.agg #[.slice va V vcap, .map (some b), .slice (some ⟨g2, o2, none⟩) L gc, .slice (some ⟨g, 0, none⟩) L1 wc, .int .i64 (i : Int), .string x, .bool false], .int .u8 ((T[i]'hlt).toNat : Int)] X fun e w' => e = .returned (.agg #[.slice va V vcap, .map (some b), .slice (some ⟨g2, o2, none⟩) L gc, .slice (some ⟨g, 0, none⟩) L1 wc, .int .i64 (I1 : Int), .string Z, .bool false]) ∧ Below X.heap.size X w') := fun X hX => HST.out _ HBR.out X hX Z true false hZ hq.symm rfl
          have HE2 : Hid (Q j + rkU ts (rows.drop (i + 1)) Z.data.toList (T.data.toList.drop (i + 1)) = M) := by show _ = _; rw [hzz]; exact HQK.out
          have HF2 : Hid (Free ts (Z.data.toList ++ T.data.toList.drop (i + 1))) := by show Free _ _; rw [hzz]; exact HFS.out
          have HK2 : Hid ((fun t => decide (t = []) || beg ts t) Z.data.toList = true) := by show (decide _ || _) = true; rw [hzz]; exact (stepfree HFX.out hq).2
          have HBB : Hid (w.heap.size ≤ b0) := by show _ ≤ _; have := HB0.out; omega
          clear hZ hzz hq
          go_wp2
          go_region_with fail
          all_goals go_wp2
          all_goals go_region_with (go_at_call 55; (with_reducible refine (HS1.out _ (HWX.out.trans ((show Below wr.heap.size wr _ by go_grown).mono HWX.out.size))).mono ?_); rintro e w1 ⟨rfl, c1⟩; have B1 : Below wr.heap.size wr w1 := chain (w := wr) (by go_grown) c1; have hh3 := heapk HH1.out B1; obtain ⟨n0, n1, n2, n3, n4, n5, n6, nf, ns⟩ := blk7 hh3; have HH3 := Lib.hid hh3; clear hh3)
          all_goals go_wp2
          all_goals
            have hBz : Below w.heap.size w w1 := HWX.out.trans (B1.mono HWX.out.size)
            go_roundw
            case rel => exact ⟨i + 1, Q j, Z, by omega, by go_num, rfl, hzs, by show _ = _; rw [show ((i + 1 : Nat) : Int) = (I1 : Int) by have := HI1.out; omega]; exact heap7 HH3.out, ((((((hBz.setCell HBB.out _).setCell HBB.out _).setCell HBB.out _).setCell HBB.out _).setCell HBB.out _).setCell HBB.out _).setCell HBB.out _, HF2.out, HK2.out, HE2.out⟩
            case measure => simp [intOf]; omega
    · have hltI : ¬ (i : Int) < (T.size : Int) := by omega
      have HES : Hid (S = M) := by
        show _ = _
        have h1 := HE.out
        rw [show T.data.toList.drop i = [] from List.drop_of_length_le (by rw [HTL.out]; omega)] at h1
        have h2 : rkU ts (rows.drop i) x.data.toList [] = 0 := by cases rows.drop i <;> rfl
        rw [h2] at h1
        exact h1
      go_wp2
      go_ret
      exact ⟨by rw [HES.out]; rfl, HBL.out⟩
end Go.Proofs.YtaomcimmhlpflaaDoor

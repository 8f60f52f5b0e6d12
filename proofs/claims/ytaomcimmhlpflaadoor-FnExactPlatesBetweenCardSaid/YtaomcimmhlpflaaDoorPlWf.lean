/-
  The ways from a place on.
-/
import Derived.Test.YtaomcimmhlpflaaDoorPlTb
import Derived.Test.YtaomcimmhlpflaaDoorPlDm2
namespace Go.Proofs.YtaomcimmhlpflaaDoor
open Go.RowKit

/-- A row of maps: from lo to hi, each holds numbers for the same keys. -/
def Wys (w : World) (K : List UInt8 → Bool) (fs : Nat → List UInt8 → Int) (g lo hi : Nat) : Prop :=
  g < w.heap.size ∧ ∀ j, lo ≤ j → j < hi → ∃ bj nj, w.cell? ⟨g, j, none⟩ = some (.map (some bj)) ∧ NumM w bj nj K (fs j)
theorem Wys.below {w w' : World} {K : List UInt8 → Bool} {fs : Nat → List UInt8 → Int} {g lo hi : Nat} (h : Wys w K fs g lo hi) (k : Below w.heap.size w w') : Wys w' K fs g lo hi := by
  refine ⟨Nat.lt_of_lt_of_le h.1 k.size, fun j h1 h2 => ?_⟩
  obtain ⟨bj, nj, k1, k2⟩ := h.2 j h1 h2
  exact ⟨bj, nj, (k.cell (p := ⟨g, j, none⟩) h.1).trans k1, k2.below k⟩
set_option maxRecDepth 100000 in
set_option maxHeartbeats 4000000 in
theorem waysFrom_any (ts rows : List (List UInt8)) (v sg : Value) (b N g cap p : Nat) (u : ByteArray) (w : World) (hn : ts.length ≤ 3) (hu : u.size ≤ 1000) (hr : rows.length ≤ 8) (h26 : ∀ r ∈ rows, r.length ≤ 26) (hasc : ∀ r ∈ rows, ∀ c ∈ r, c.toNat < 128) (hp : p ≤ rows.length)
    (h : Rd ts v w) (hS : SetM w b N (fun t => decide (t = []) || beg ts t)) (hsg : Rd rows sg w) (hW : Wys w (fun t => decide (t = []) || beg ts t) (fun j t => (Gq ts (qSuf ts) (rows.drop j) t : Int)) g (p + 1) (rows.length + 1)) :
    Calls Tryd.prog 108 #[.agg #[v, .map (some b), sg, .slice (some ⟨g, 0, none⟩) (rows.length + 1) cap], .int .i64 (p : Int), .string u] w fun e w' => e = .returned (.int .i64 (Gq ts (qSuf ts) (rows.drop p) u.data.toList : Int)) ∧ Below w.heap.size w w' := by
  have HV := Lib.hid h
  have HS := Lib.hid hS
  have HG := Lib.hid hsg
  have HW := Lib.hid hW
  obtain ⟨sa, scap, rfl, _⟩ := hsg
  obtain ⟨L, hL⟩ : ∃ L, L = rows.length := ⟨_, rfl⟩
  obtain ⟨L1, hL1⟩ : ∃ L1, L1 = rows.length + 1 := ⟨_, rfl⟩
  rw [← hL1]
  rw [← hL] at hr hp ⊢
  have HL := Lib.hid hL
  have HL1 := Lib.hid hL1
  clear h hS hW hL hL1
  by_cases hpe : p = L
  · have HZ : Hid (Gq ts (qSuf ts) (rows.drop p) u.data.toList = 1) := by show _ = _; rw [List.drop_of_length_le (by have := HL.out; omega)]; rfl
    have hpI : (p : Int) = (L : Int) := by omega
    go_enter Tryd.func108, Tryd.ntmps108
    go_wp2_with fail
    go_ret
    exact ⟨by rw [HZ.out]; rfl, by go_grown⟩
  have hpl : p < rows.length := by have := HL.out; omega
  have hpI : ¬ (p : Int) = (L : Int) := by omega
  have hpB : ((p : Int) == (L : Int)) = false := by simpa using hpI
  have hpL : (p : Int) < (L : Int) := by omega
  have hp0 : (0 : Int) ≤ (p : Int) := by omega
  obtain ⟨r, hrr⟩ : ∃ r, r = rows[p] := ⟨_, rfl⟩
  obtain ⟨F, hF⟩ : ∃ F : UInt8 → Nat, F = fun c => if qSuf ts (u.data.toList ++ [c]) = true then Gq ts (qSuf ts) (rows.drop (p + 1)) (stt ts (u.data.toList ++ [c])) else 0 := ⟨_, rfl⟩
  have hdrop : rows.drop p = r :: rows.drop (p + 1) := by rw [hrr]; exact List.drop_eq_getElem_cons hpl
  have hFB : ∀ c ∈ r, F c ≤ 8031810176 := by
    intro c _
    rw [hF]
    show (if _ then _ else _) ≤ _
    split
    · refine Nat.le_trans (Gq_le ts (qSuf ts) _ _ (fun x hx => h26 x (List.mem_of_mem_drop hx))) ?_
      rw [List.length_drop]
      exact Nat.le_trans (Nat.pow_le_pow_right (by omega) (show rows.length - (p + 1) ≤ 7 by have := HL.out; omega)) (by decide)
    · omega
  have hr26 : r.length ≤ 26 := by rw [hrr]; exact h26 _ (List.getElem_mem _)
  obtain ⟨S, hSd⟩ : ∃ S : Nat → Nat, S = fun k => ((r.take k).map F).sum := ⟨_, rfl⟩
  have HSB : Hid (∀ k, S k ≤ 208827064576) := by
    intro k
    rw [hSd]
    exact Nat.le_trans (sum_bd r F k 8031810176 26 hr26 hFB) (by decide)
  have HSS : Hid (∀ k (hk : k < r.length), S (k + 1) = S k + F r[k]) := by
    intro k hk
    rw [hSd]
    exact sum_take_succ r F k hk
  have hS0 : S 0 = 0 := by rw [hSd]; rfl
  have HSE : Hid (Gq ts (qSuf ts) (rows.drop p) u.data.toList = S r.length) := by
    show _ = _
    rw [hdrop, hSd]
    show _ = ((r.take r.length).map F).sum
    rw [List.take_length, hF]
    rfl
  have HFD := Lib.hid hF
  have HAS : Hid (∀ k (hk : k < r.length), (r[k]).toNat < 128) := fun k hk => hasc _ (by rw [hrr]; exact List.getElem_mem _) _ (List.getElem_mem _)
  have HR0 : Hid (rows.getD p [] = r) := by show _ = _; rw [hrr, List.getD_eq_getElem?_getD, List.getElem?_eq_getElem hpl]; rfl
  clear hF hSd hFB hdrop hrr hasc h26
  go_enter Tryd.func108, Tryd.ntmps108
  obtain ⟨sa', scap', hsv, hcs⟩ := HG.out
  have hsa : sa = sa' := by simp only [Value.slice.injEq] at hsv; exact hsv.1
  obtain ⟨g2, o2, hgo, hg2, hcell⟩ := hcs p hpl
  rw [← hsa] at hgo
  clear hsv hsa hcs
  subst hgo
  obtain ⟨bb, hbb⟩ : ∃ bb : ByteArray, bb = ⟨(rows.getD p []).toArray⟩ := ⟨_, rfl⟩
  have HBD : Hid (bb.data.toList = r) := by show _ = _; rw [hbb]; exact HR0.out
  have hbs : bb.size = r.length := by rw [hbb, ← HR0.out]; rfl
  unfold strV at hcell
  rw [← hbb] at hcell
  have HBS := Lib.hid hbs
  have hbs2 : bb.size ≤ 26 := by omega
  clear hbb hbs
  have HC := Lib.hid hcell
  have hWc : (w.alloc (.cells #[v, .map (some b), .slice (some ⟨g2, o2, none⟩) L scap, .slice (some ⟨g, 0, none⟩) L1 cap] 58)).cell? ⟨g2, o2 + p, none⟩ = some (.string bb) :=
    (((Below.refl w.heap.size w).alloc (Nat.le_refl _) _).cell (p := ⟨g2, o2 + p, none⟩) hg2).trans hcell
  clear hcell
  go_wp2_with fail
  obtain ⟨W, hWd⟩ : ∃ W, W = w.alloc (.cells #[v, .map (some b), .slice (some ⟨g2, o2, none⟩) L scap, .slice (some ⟨g, 0, none⟩) L1 cap] 58) := ⟨_, rfl⟩
  have HB : Hid (Below w.heap.size w W) := by show Below _ _ _; rw [hWd]; exact (Below.refl _ _).alloc (Nat.le_refl _) _
  have hWs : w.heap.size < W.heap.size := by rw [hWd]; simp
  have hW0 : W.cell? ⟨w.heap.size, 0, none⟩ = some v := by rw [hWd]; simp [go_sem]
  have hW1 : W.cell? ⟨w.heap.size, 1, none⟩ = some (.map (some b)) := by rw [hWd]; simp [go_sem]
  have hW2 : W.cell? ⟨w.heap.size, 2, none⟩ = some (.slice (some ⟨g2, o2, none⟩) L scap) := by rw [hWd]; simp [go_sem]
  have hW3 : W.cell? ⟨w.heap.size, 3, none⟩ = some (.slice (some ⟨g, 0, none⟩) L1 cap) := by rw [hWd]; simp [go_sem]
  rw [← hWd] at hWc ⊢
  clear hWd
  obtain ⟨b0, hb0⟩ : ∃ b0, b0 = w.heap.size := ⟨_, rfl⟩
  rw [← hb0] at hWs hW0 hW1 hW2 hW3 ⊢
  have HB0 := Lib.hid hb0
  clear hb0
  obtain ⟨P1, hP1⟩ : ∃ P1 : Nat, (p : Int) + 1 = (P1 : Int) := ⟨p + 1, by omega⟩
  have HP1 : Hid (P1 = p + 1) := by show _ = _; omega
  have hL1I : (P1 : Int) < (L1 : Int) := by have := HL1.out; have := HP1.out; omega
  have hP0 : (0 : Int) ≤ (P1 : Int) := by omega
  have HW0 := Lib.hid hW0; have HW1 := Lib.hid hW1; have HW2 := Lib.hid hW2; have HW3 := Lib.hid hW3; have HWC := Lib.hid hWc
  have hg2W : g2 < W.heap.size := Nat.lt_of_lt_of_le hg2 HB.out.size
  clear hW0 hW1 hW2 hW3 hWc
  have mixed : Tryd.prog.follows .mixedOrders = true := by kernel_rfl
  have late : Tryd.prog.follows .lateStores = true := by kernel_rfl
  go_loopw [7, 22] (fun sm i wr => ∃ k : Nat, k ≤ bb.size ∧ i = .int .i64 k ∧ sm = .int .i64 (S k) ∧ Hid (Below W.heap.size W wr)) (fun _ i _ => bb.size - (intOf i).toNat)
  case atStart => exact ⟨0, Nat.zero_le _, rfl, by rw [hS0]; rfl, Below.refl _ _⟩
  case round =>
    obtain ⟨k, hk, rfl, rfl, HBL⟩ := hrel
    have x0 := (HBL.out.cell (p := ⟨b0, 0, none⟩) hWs).trans HW0.out
    have x1 := (HBL.out.cell (p := ⟨b0, 1, none⟩) hWs).trans HW1.out
    have x2 := (HBL.out.cell (p := ⟨b0, 2, none⟩) hWs).trans HW2.out
    have x3 := (HBL.out.cell (p := ⟨b0, 3, none⟩) hWs).trans HW3.out
    have xc := (HBL.out.cell (p := ⟨g2, o2 + p, none⟩) hg2W).trans HWC.out
    by_cases hlt : k < bb.size
    · have hkr : k < r.length := by have := HBS.out; omega
      have HCE : Hid ((bb[k]'hlt) = r[k]'hkr) := by
        show _ = _
        have e : r[k]'hkr = bb.data.toList[k]'(by simpa using hlt) := by congr 1; exact HBD.out.symm
        rw [e]; simp; rfl
      have HC128 : Hid ((bb[k]'hlt).toNat < 128) := by show _ < _; rw [HCE.out]; exact HAS.out k hkr
      obtain ⟨Z, hZ⟩ : ∃ Z : ByteArray, Z = if qSuf ts (u.data.toList ++ [bb[k]'hlt]) = true then ⟨(stt ts (u.data.toList ++ [bb[k]'hlt])).toArray⟩ else ⟨#[]⟩ := ⟨_, rfl⟩
      obtain ⟨R, hR⟩ : ∃ R, R = qSuf ts (u.data.toList ++ [bb[k]'hlt]) := ⟨_, rfl⟩
      have HTB : Hid (∀ X : World, Below W.heap.size W X → Calls Tryd.prog 81 #[.agg #[v, .map (some b), .slice (some ⟨g2, o2, none⟩) L scap, .slice (some ⟨g, 0, none⟩) L1 cap], .string u, .int .u8 ((bb[k]'hlt).toNat : Int)] X fun e w' => e = .returned (.tuple #[.string Z, .bool R]) ∧ Below X.heap.size X w') := fun X hX => by
        rw [hZ, hR]
        exact tailBehind_any ts v _ _ b N u _ X hn hu HC128.out ((HV.out.below HB.out).below hX) ((HS.out.below HB.out).below hX)
      have hltI : (k : Int) < (bb.size : Int) := by omega
      have hk0 : (0 : Int) ≤ (k : Int) := by omega
      have HSk := Lib.hid (HSS.out k hkr)
      have HSk1 := Lib.hid (HSB.out (k + 1))
      rcases Bool.eq_false_or_eq_true R with hRt | hRf
      · have hq : qSuf ts (u.data.toList ++ [bb[k]'hlt]) = true := by rw [← hR]; exact hRt
        have hzz : Z.data.toList = stt ts (u.data.toList ++ [bb[k]'hlt]) := by rw [hZ, if_pos hq]
        have HKZ : Hid ((fun t => decide (t = []) || beg ts t) Z.data.toList = true) := by
          show (decide _ || _) = true
          rw [hzz, Bool.or_eq_true, decide_eq_true_eq]
          exact stt_beg ts _
        have HZS : Hid (Z.size ≤ maxLen) := by
          show _ ≤ _
          have h1 := stt_len ts (u.data.toList ++ [bb[k]'hlt])
          have h2 : Z.data.toList.length = Z.size := by simp
          have h3 : u.data.toList.length = u.size := by simp
          rw [← hzz, h2, List.length_append, h3] at h1
          simp at h1
          unfold maxLen; omega
        obtain ⟨fz, hfz⟩ : ∃ fz, fz = Gq ts (qSuf ts) (rows.drop (p + 1)) Z.data.toList := ⟨_, rfl⟩
        have HFZ : Hid (F (r[k]'hkr) = fz) := by
          show _ = _
          rw [← HCE.out, HFD.out, hfz, hzz]
          exact if_pos hq
        have HFN := Lib.hid hfz
        clear hZ hR hq hzz hfz
        subst hRt
        have HFR : Hid ((Gq ts (qSuf ts) (rows.drop P1) Z.data.toList : Int) = (fz : Int)) := by show _ = _; rw [HFN.out, HP1.out]
        have hsum : (S k : Int) + (fz : Int) ≤ 208827064576 := by have h1 := HSk.out; have h2 := HSk1.out; have h3 := HFZ.out; omega
        have HNX : Hid (S (k + 1) = S k + fz) := by show _ = _; rw [HSk.out, HFZ.out]
        have hs0 : (0 : Int) ≤ (S k : Int) := by omega
        have hf0 : (0 : Int) ≤ (fz : Int) := by omega
        go_wp2
        go_region_with (go_at_call 81; (with_reducible refine (HTB.out _ (chain HBL.out (by go_grown))).mono ?_); rintro e w1 ⟨rfl, b1⟩; have B1 : Below W.heap.size W w1 := chain HBL.out (chain (w := wr) (by go_grown) b1); have y3 := (B1.cell (p := ⟨b0, 3, none⟩) hWs).trans HW3.out)
        all_goals
          obtain ⟨bj, nj, hbc, hbn⟩ := ((HW.out.below HB.out).below B1).2 P1 (by have := HP1.out; omega) (by have := HP1.out; omega)
          have HBN := Lib.hid hbn
          clear hbn
          go_wp2_with (at_lookup; refine look_num _ rfl _ _ rfl bj nj _ (fun t => (Gq ts (qSuf ts) (rows.drop P1) t : Int)) rfl HBN.out Z rfl HZS.out HKZ.out (fz : Int) HFR.out ?_)
          go_roundw
          case rel => exact ⟨k + 1, by omega, by go_num, val_int (by have := HNX.out; omega), B1⟩
          case measure => simp [intOf]; omega
      · have HNX : Hid (S (k + 1) = S k) := by
          show _ = _
          rw [HSk.out, ← HCE.out, HFD.out]
          have hq : ¬ qSuf ts (u.data.toList ++ [bb[k]'hlt]) = true := by rw [← hR, hRf]; decide
          show _ + (if _ then _ else _) = _
          rw [if_neg hq]
          rfl
        clear hZ hR
        subst hRf
        go_wp2
        go_region_with (go_at_call 81; (with_reducible refine (HTB.out _ (chain HBL.out (by go_grown))).mono ?_); rintro e w1 ⟨rfl, b1⟩; have B1 : Below W.heap.size W w1 := chain HBL.out (chain (w := wr) (by go_grown) b1); have y3 := (B1.cell (p := ⟨b0, 3, none⟩) hWs).trans HW3.out)
        all_goals
          go_wp2
          go_roundw
          case rel => exact ⟨k + 1, by omega, by go_num, by rw [HNX.out], B1⟩
          case measure => simp [intOf]; omega
    · have hltI : ¬ (k : Int) < (bb.size : Int) := by omega
      have HKE : Hid (k = r.length) := by show _ = _; have := HBS.out; omega
      go_wp2
      go_ret
      exact ⟨by rw [HSE.out, ← HKE.out]; rfl, HB.out.trans (HBL.out.mono HB.out.size)⟩
end Go.Proofs.YtaomcimmhlpflaaDoor

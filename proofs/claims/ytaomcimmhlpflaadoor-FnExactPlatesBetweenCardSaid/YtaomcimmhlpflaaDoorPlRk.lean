/-
  How many plates come before one: the model.
-/
import Derived.Test.YtaomcimmhlpflaaDoorPlBg
import Derived.Test.YtaomcimmhlpflaaDoorPlIdx
import Derived.Deep.RegionLaw
namespace Go.Proofs.YtaomcimmhlpflaaDoor
open Go.RowKit Go.Maps

set_option maxRecDepth 100000 in
theorem fS_nat {p : UInt8} (hp : (p.toNat : Int) = 76 ∨ (p.toNat : Int) = 68) {m : Nat} (hm : m < (fS p).length) : ((fS p)[m]).toNat = (if (p.toNat : Int) = 76 then 65 else 48) + m := by
  rcases hp with h | h
  · have e : p = 76 := by rw [← UInt8.toNat_inj]; show p.toNat = 76; omega
    subst e
    exact (by decide : ∀ m (hm : m < (fS 76).length), ((fS 76)[m]).toNat = 65 + m) m hm
  · have e : p = 68 := by rw [← UInt8.toNat_inj]; show p.toNat = 68; omega
    subst e
    exact (by decide : ∀ m (hm : m < (fS 68).length), ((fS 68)[m]).toNat = 48 + m) m hm
theorem fits_fS {P B t : List UInt8} (h : fitsB P B t = true) {i : Nat} (hi : i < t.length) : t[i] ∈ sgRow (P.getD i 0) B := by
  unfold fitsB at h
  simp only [Bool.and_eq_true, decide_eq_true_eq] at h
  have h1 := h.2 i hi
  rw [List.contains_iff_mem, List.getD_eq_getElem?_getD (l := t), List.getElem?_eq_getElem hi] at h1
  exact h1
theorem fits_take {P B t : List UInt8} (h : fitsB P B t = true) (i : Nat) : fitsB P B (t.take i) = true := by
  unfold fitsB at h
  simp only [Bool.and_eq_true, decide_eq_true_eq] at h
  refine fits_yes (by rw [List.length_take]; omega) fun j hj => ?_
  rw [List.length_take] at hj
  rw [List.getD_eq_getElem?_getD (l := t.take i), List.getElem?_take, if_pos (by omega), ← List.getD_eq_getElem?_getD]
  exact h.2 j (by omega)
theorem fits_rows {P B : List UInt8} : ∀ (k : Nat) (t : List UInt8), fitsB P B t = true → t.length = P.length → k ≤ t.length → Fits (rowsF P B k) (t.drop k) := by
  intro k t hf hl hk
  obtain ⟨d, hd⟩ : ∃ d, d = t.length - k := ⟨_, rfl⟩
  induction d generalizing k with
  | zero =>
    rw [show k = t.length by omega, List.drop_length, hl, rowsF_end]
    exact rfl
  | succ d ih =>
    have hkl : k < t.length := by omega
    rw [List.drop_eq_getElem_cons hkl, rowsF_at P B (by omega)]
    exact ⟨fits_fS hf hkl, ih (k + 1) (by omega) (by omega)⟩
theorem rkU_le {P B : List UInt8} {ts : List (List UInt8)} {t : List UInt8} (h8 : P.length ≤ 8) (hf : fitsB P B t = true) (hl : t.length = P.length) (hfr : Free ts t) : rkU ts (rowsF P B 0) [] t ≤ 208827064576 := by
  have h1 := rkU_lt (Ws := ts) (rowsF P B 0) [] t (by have := fits_rows 0 t hf hl (Nat.zero_le _); rwa [List.drop_zero] at this) (by simpa using hfr)
  have h2 := plF_le (P := P) (B := B) (ts := ts) (t := []) h8
  rw [plF_all] at h2
  omega
theorem iter_kept (w : World) (o : Obj) (t : ByteArray) : ((w.alloc o).iter t 0).heap.size = w.heap.size + 2 := by simp [World.iter]
set_option maxRecDepth 100000 in
set_option maxHeartbeats 8000000 in
theorem plRank_any (P B t : ByteArray) (ts : List (List UInt8)) (v : Value) (w : World) (hs : schB P.data.toList B.data.toList ts = true) (hts : t.size = P.size) (hfit : fitsB P.data.toList B.data.toList t.data.toList = true) (hfree : Free ts t.data.toList) (h : Rd ts v w) :
    Calls Tryd.prog 48 #[.agg #[.string P, .string B, v], .string t] w fun e w' => e = .returned (.int .i64 (rkU ts (rowsF P.data.toList B.data.toList 0) [] t.data.toList : Nat)) ∧ Below w.heap.size w w' := by
  have mixed : Tryd.prog.follows .mixedOrders = true := by kernel_rfl
  have late : Tryd.prog.follows .lateStores = true := by kernel_rfl
  have h8 : P.size ≤ 8 := (sch_facts hs).1
  have HPC := Lib.hid (sch_facts hs).2.2.1
  have htl : t.data.toList.length = t.size := by simp
  have hpl : P.data.toList.length = P.size := by simp
  have hM := rkU_le (ts := ts) (by rw [hpl]; exact h8) hfit (by rw [htl, hpl]; exact hts) hfree
  obtain ⟨M, hMd⟩ : ∃ M, M = rkU ts (rowsF P.data.toList B.data.toList 0) [] t.data.toList := ⟨_, rfl⟩
  rw [← hMd] at hM ⊢
  have HN := Lib.hid (fun (x : ByteArray) (W : World) (hx : x.size ≤ 1048576) (hW : Below w.heap.size w W) => plFrom_any P B x ts v W hx hs (h.below hW))
  have HFT := Lib.hid hfit
  have HMD := Lib.hid hMd
  have HTL := Lib.hid htl
  have HPL := Lib.hid hpl
  obtain ⟨a, cap, rfl, _⟩ := h
  obtain ⟨n, hn⟩ : ∃ n, n = ts.length := ⟨_, rfl⟩
  rw [← hn] at HN ⊢
  clear hs hfit hfree hMd htl hpl hn
  go_enter Tryd.func48, Tryd.ntmps48
  go_wp2
  obtain ⟨W, hW⟩ : ∃ W, W = (w.alloc (.cells #[.string P, .string B, .slice a n cap] 26)).iter t 0 := ⟨_, rfl⟩
  have hblk : Below w.heap.size w W := by rw [hW]; exact ((Below.refl _ _).alloc (Nat.le_refl _) _).alloc (by simp) _
  have hWs : W.heap.size = w.heap.size + 2 := by rw [hW]; exact iter_kept _ _ _
  have hWi : W.heap[w.heap.size + 1]? = some (.stringIter t 0) := by
    have := World.iter_heap (w.alloc (.cells #[.string P, .string B, .slice a n cap] 26)) t 0
    simp only [World.size_alloc] at this
    rw [hW]; exact this
  have hWb : W.cell? ⟨w.heap.size, 0, none⟩ = some (.string P) ∧ W.cell? ⟨w.heap.size, 1, none⟩ = some (.string B) ∧ W.cell? ⟨w.heap.size, 2, none⟩ = some (.slice a n cap) := by
    rw [hW]; refine ⟨?_, ?_, ?_⟩ <;> simp [World.iter, go_sem]
  have HBLK := Lib.hid hblk
  rw [← hW]
  clear hblk hW
  obtain ⟨r, hr⟩ : ∃ r, r = w.heap.size + 1 := ⟨_, rfl⟩
  obtain ⟨b0, hb0⟩ : ∃ b0, b0 = w.heap.size := ⟨_, rfl⟩
  rw [← hr] at hWi ⊢
  rw [← hb0] at hWb ⊢
  have hrb : b0 < r := by omega
  have hrW : r < W.heap.size := by omega
  have HR0 : Hid (W.heap[r]? = some (.stringIter t 0)) := hWi
  have HC := Lib.hid hWb
  have HB0 := Lib.hid hb0
  clear hWi hr hWs hWb hb0
  go_loopg [5] t.size (fun m rk wr => ∃ (k S : Nat), k + m = t.size ∧ rk = .int .i64 (S : Int) ∧ Hid (wr.heap[r]? = some (.stringIter t k)) ∧ Hid (W.grownBy wr (some r)) ∧ Hid (S + rkU ts (rowsF P.data.toList B.data.toList k) (t.data.toList.take k) (t.data.toList.drop k) = M))
  case atStart => exact ⟨0, 0, by omega, rfl, HR0, gb_refl _ _, by show _ = _; rw [HMD.out]; simp⟩
  case round =>
    obtain ⟨k, S, hkm, rfl, HI, HG, HS⟩ := hrel
    have hgs := HG.out.size
    by_cases hlt : k < t.size
    · have hkl : k < t.data.toList.length := by rw [HTL.out]; exact hlt
      have hkP : k < P.size := by omega
      have hasc : (t[k]'hlt).toNat < 128 := fits_ascii HFT.out _ (List.getElem_mem hkl)
      have hpc := patC_get P k hkP HPC.out
      have hrow := fits_fS HFT.out hkl
      have hget : t.data.toList[k] = t[k] := rfl
      rw [getD_at P k hkP, hget] at hrow
      rw [row_fS] at hrow
      have hmem := (List.mem_filter.1 hrow).1
      obtain ⟨mb, hmb, hmbe⟩ := List.getElem_of_mem hmem
      obtain ⟨lo, hlo⟩ : ∃ lo : Nat, lo = (if (P[k].toNat : Int) = 76 then 65 else 48) := ⟨_, rfl⟩
      have hlob : lo ≤ 65 := by rw [hlo]; split <;> omega
      obtain ⟨q, hq⟩ : ∃ q, q = fS P[k] := ⟨_, rfl⟩
      have hq26 : q.length ≤ 26 := by rw [hq]; exact fS_len _
      have HNAT : Hid (∀ m (hm : m < q.length), (q[m]).toNat = lo + m) := fun m hm => by
        subst hq
        rw [hlo]; exact fS_nat hpc hm
      obtain ⟨Q, hQd⟩ : ∃ Q : Nat → Nat, Q = fun m => S + ((q.take m).map fun c => plF P.data.toList B.data.toList ts (t.data.toList.take k ++ [c])).sum := ⟨_, rfl⟩
      have HQS : Hid (∀ m (hm : m < q.length), Q (m + 1) = Q m + plF P.data.toList B.data.toList ts (t.data.toList.take k ++ [q[m]])) := fun m hm => by
        rw [hQd]
        show S + _ = S + _ + _
        rw [sum_take_succ q _ m hm]; omega
      have HQ0 : Hid (Q 0 = S) := by show _ = _; rw [hQd]; rfl
      have hmbq : mb < q.length := by rw [hq]; exact hmb
      have hlk : (t.data.toList.take k).length = k := by rw [List.length_take]; omega
      have HQK : Hid (Q mb + rkU ts (rowsF P.data.toList B.data.toList (k + 1)) (t.data.toList.take (k + 1)) (t.data.toList.drop (k + 1)) = M) := by
        show _ = _
        have h1 := HS.out
        rw [rowsF_at _ _ (by rw [HPL.out]; exact hkP), List.drop_eq_getElem_cons hkl] at h1
        simp only [rkU] at h1
        rw [← takeS hkl] at h1
        have hrp := rank_place (P := P.data.toList) (B := B.data.toList) (ts := ts) (u := t.data.toList.take k) (fits_take HFT.out k) (by rw [hlk, HPL.out]; exact hkP) (m := mb) (by rw [hlk, getD_at P k hkP]; exact hmb)
        simp only [hlk, getD_at P k hkP] at hrp
        rw [hmbe] at hrp
        rw [getD_at P k hkP, hget, ← hrp] at h1
        rw [hQd, hq]
        show S + _ + _ = M
        omega
      have hmono : ∀ d m, m + d ≤ q.length → Q m ≤ Q (m + d) := by
        intro d
        induction d with
        | zero => intro m _; exact Nat.le_refl _
        | succ d ih => intro m hm; exact Nat.le_trans (ih m (by omega)) (by rw [← Nat.add_assoc, HQS.out (m + d) (by omega)]; omega)
      have HQB : Hid (∀ m, m ≤ mb → Q m ≤ 208827064576) := fun m hm => by
        have h1 := hmono (mb - m) m (by omega)
        rw [show m + (mb - m) = mb by omega] at h1
        have h2 := HQK.out
        omega
      have HTK : Hid ((t[k]'hlt).toNat = lo + mb) := by
        show _ = _
        have h1 := HNAT.out mb hmbq
        subst hq
        rw [hmbe] at h1
        exact h1
      have hk0 : (0 : Int) ≤ (k : Int) := by omega
      have hkPI : (k : Int) < (P.size : Int) := by omega
      have hktI : (k : Int) < (t.size : Int) := by omega
      have hktI2 : (k : Int) ≤ (t.size : Int) := by omega
      have HLO := Lib.hid hlo
      have HQA : Hid (∀ m (hm : m < q.length), (q[m]).toNat < 128) := fun m hm => by rw [HNAT.out m hm]; omega
      clear hQd hmono hrow hmem hmbe hmb hq hlo hget hkl hlk
      rcases hpc with hpc | hpc
      all_goals
        have hpn : (P[k].toNat : Int) ≠ 76 ∨ (P[k].toNat : Int) = 76 := by omega
        go_wp2_with (at_next; refine wpList_next_str _ rfl _ rfl r t k rfl HI.out hlt hasc ?_; intro w1 hr1 hg1 hs1; have HI1 := Lib.hid hr1; have HG1 := Lib.hid (gb_trans HG.out hg1); clear hr1 hg1; have d0 := (gb_cell HG1.out (p := ⟨b0, 0, none⟩) (by show b0 < _; omega) (by show b0 ≠ r; omega)).trans HC.out.1; have d1 := (gb_cell HG1.out (p := ⟨b0, 1, none⟩) (by show b0 < _; omega) (by show b0 ≠ r; omega)).trans HC.out.2.1; have d2 := (gb_cell HG1.out (p := ⟨b0, 2, none⟩) (by show b0 < _; omega) (by show b0 ≠ r; omega)).trans HC.out.2.2; clear hs1)
        go_loopw [5, 8] (fun rk bv wr2 => ∃ (m x : Nat), m ≤ mb ∧ x = lo + m ∧ bv = .int .u8 (x : Int) ∧ rk = .int .i64 (Q m : Int) ∧ Hid (Below w1.heap.size w1 wr2)) (fun _ bv _ => lo + mb - (intOf bv).toNat)
        case atStart => exact ⟨0, lo, Nat.zero_le _, rfl, by rw [HLO.out]; simp [hpc], by rw [HQ0.out], Below.refl _ _⟩
        case round =>
          obtain ⟨m, x, hm, hx, rfl, rfl, HB⟩ := hrel
          have hlm0 : (0 : Int) ≤ (x : Int) := by omega
          have hlm1 : (x : Int) ≤ 90 := by omega
          by_cases hlm : m < mb
          · have hlss : (x : Int) < ((t[k]'hlt).toNat : Int) := by have := HTK.out; omega
            have hmq : m < q.length := by omega
            obtain ⟨c, hc⟩ : ∃ c, c = q[m] := ⟨_, rfl⟩
            have HCQ := Lib.hid hc
            have henc : Utf8.encode (x : Int) = ⟨#[c]⟩ := by rw [hx, ← HNAT.out m hmq, hc]; exact enc_ascii _ (HQA.out m hmq)
            have HXX := Lib.hid hx
            clear hc hx
            have e0 := (HB.out.cell (p := ⟨b0, 0, none⟩) (by show b0 < _; have := HG1.out.size; omega)).trans d0
            have e1 := (HB.out.cell (p := ⟨b0, 1, none⟩) (by show b0 < _; have := HG1.out.size; omega)).trans d1
            have e2 := (HB.out.cell (p := ⟨b0, 2, none⟩) (by show b0 < _; have := HG1.out.size; omega)).trans d2
            go_wp2_with fail
            have HX2 : Hid ((t.extract 0 k ++ (⟨#[c]⟩ : ByteArray)).data.toList = t.data.toList.take k ++ [c]) := by
              show _ = _
              simp
            have hc1 : (⟨#[c]⟩ : ByteArray).size = 1 := rfl
            have hext : (t.extract 0 k).size = k := by rw [ByteArray.size_extract]; omega
            have hx2 : (t.extract 0 k ++ (⟨#[c]⟩ : ByteArray)).size ≤ 1048576 := by rw [ByteArray.size_append, hext, hc1]; omega
            have hk9 : k ≤ 8 := by omega
            have HBW : Hid (Below w.heap.size w w1) := HBLK.out.trans (gb_to HG1.out (by have := HB0.out; omega) HBLK.out.size)
            have HBB : Hid (Below w.heap.size w wr) := HBW.out.trans (HB.out.mono HBW.out.size)
            have HQN : Hid (Q (m + 1) = Q m + plF P.data.toList B.data.toList ts (t.data.toList.take k ++ [c])) := by show _ = _; rw [HQS.out m hmq, HCQ.out]
            obtain ⟨F, hF⟩ : ∃ F, F = plF P.data.toList B.data.toList ts (t.data.toList.take k ++ [c]) := ⟨_, rfl⟩
            have hsum : (Q m : Int) + (F : Int) ≤ 208827064576 := by have h1 := HQN.out; have h2 := HQB.out (m + 1) (by omega); omega
            have hF0 : (0 : Int) ≤ (F : Int) := by omega
            have hQ0' : (0 : Int) ≤ (Q m : Int) := by omega
            have HCL : Hid (∀ W, Below w.heap.size w W → Calls Tryd.prog 46 #[.agg #[.string P, .string B, .slice a n cap], .string (t.extract 0 k ++ (⟨#[c]⟩ : ByteArray))] W fun e w' => e = .returned (.int .i64 (F : Nat)) ∧ Below W.heap.size W w') := fun W hW => by
              have h1 := HN.out (t.extract 0 k ++ (⟨#[c]⟩ : ByteArray)) W hx2 hW
              rw [HX2.out, ← hF] at h1
              exact h1
            have HFQ : Hid (Q (m + 1) = Q m + F) := by show _ = _; rw [HQN.out, hF]
            clear hF
            obtain ⟨X, hX⟩ : ∃ X, X = t.extract 0 k ++ (⟨#[c]⟩ : ByteArray) := ⟨_, rfl⟩
            rw [← hX] at hx2 HCL
            have hct : t.extract 0 k ++ (⟨#[c]⟩ : ByteArray) = X := hX.symm
            clear hX HX2
            have hkn1 : k ≤ t.size := by omega
            have hkn2 : k ≤ P.size := by omega
            have hmx9 : ¬ 9223372036854775807 < k + 1 := by omega
            have hw32 : IntKind.i32.wrap (x : Int) = (x : Int) := IntWalk.i32_in _ (by omega)
            go_region_with (go_at_call 46; (with_reducible refine (HCL.out _ (by first | exact HBB.out | exact HBB.out.trans ((show Below wr.heap.size wr _ by go_grown).mono HBB.out.size))).mono ?_); rintro e w4 ⟨rfl, b4⟩; have B4 : Below wr.heap.size wr w4 := chain (w := wr) (by go_grown) b4)
            all_goals go_wp2
            all_goals
              go_roundw
              case rel => exact ⟨m + 1, x + 1, by omega, by have := HXX.out; omega, by go_num, val_int (by have := HFQ.out; omega), HB.out.trans (B4.mono HB.out.size)⟩
              case measure => have := HXX.out; simp [intOf]; omega
          · have hme : m = mb := by omega
            subst hme
            have hlss : ¬ (x : Int) < ((t[k]'hlt).toNat : Int) := by have := HTK.out; omega
            clear hx
            go_wp2
            have hgg : W.grownBy wr (some r) := gb_trans HG1.out ⟨HB.out.os, HB.out.tape, HB.out.output, HB.out.size, fun i hi _ => HB.out.block i hi⟩
            go_roundg (gk - 1)
            case measure => omega
            case rel => exact ⟨k + 1, Q m, by omega, rfl, (HB.out.block r (by have := HG1.out.size; omega)).trans HI1.out, hgg, HQK.out⟩
    · go_wp2_with (at_next; refine wpList_next_end _ rfl _ rfl r t k rfl HI.out hlt ?_)
      go_ret
      refine ⟨?_, HBLK.out.trans (gb_to HG.out (by have := HB0.out; omega) HBLK.out.size)⟩
      have h1 := HS.out
      rw [show t.data.toList.drop k = [] from List.drop_of_length_le (by rw [HTL.out]; omega)] at h1
      have h2 : rkU ts (rowsF P.data.toList B.data.toList k) (t.data.toList.take k) [] = 0 := by cases rowsF P.data.toList B.data.toList k <;> rfl
      rw [h2] at h1
      rw [← h1]; rfl
end Go.Proofs.YtaomcimmhlpflaaDoor

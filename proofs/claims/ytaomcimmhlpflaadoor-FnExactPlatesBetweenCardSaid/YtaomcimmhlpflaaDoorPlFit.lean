/-
  Plates of a scheme: signs that fit, both sides.
-/
import Derived.Test.YtaomcimmhlpflaaDoorPlWi
import Derived.Test.YtaomcimmhlpflaaDoorPlBld
namespace Go.Proofs.YtaomcimmhlpflaaDoor
open Go.RowKit

/-- The signs that may stand for a letter of a pattern. -/
def sgRow (p : UInt8) (B : List UInt8) : List UInt8 := (if p = 68 then dgS else ltS).filter (fun c => !B.contains c)
theorem row_iff (p : UInt8) (B : List UInt8) (c : UInt8) : (sgRow p B).contains c = ((if p = 68 then dgB c else ltB c) && !B.contains c) := by
  unfold sgRow
  rw [Bool.eq_iff_iff, List.contains_iff_mem, List.mem_filter, Bool.and_eq_true]
  by_cases h : p = 68
  · rw [if_pos h, if_pos h, ← dgS_iff, List.contains_iff_mem]
  · rw [if_neg h, if_neg h, ← ltS_iff, List.contains_iff_mem]
/-- Signs fit the beginning of a pattern. -/
def fitsB (P B t : List UInt8) : Bool := decide (t.length ≤ P.length) && decide (∀ i, i < t.length → (sgRow (P.getD i 0) B).contains (t.getD i 0) = true)
/-- A text is a plate. -/
def isP (P B : List UInt8) (ts : List (List UInt8)) (t : List UInt8) : Bool := decide (t.length = P.length) && fitsB P B t && decide (Free ts t)
theorem one_infix (c : UInt8) (l : List UInt8) : decide ([c] <:+: l) = l.contains c := by
  rw [Bool.eq_iff_iff, decide_eq_true_iff, List.contains_iff_mem]
  constructor
  · rintro ⟨a, b, rfl⟩; simp
  · intro h
    obtain ⟨a, b, rfl⟩ := List.append_of_mem h
    exact ⟨a, b, by simp⟩
theorem exta (s : ByteArray) (k : Nat) (h : k < s.size) : (s.extract k (k + 1)).data.toList = [s[k]] := by
  rw [Lib.extract_data, show k + 1 - k = 1 by omega, List.drop_eq_getElem_cons (by simpa using h)]
  rfl
theorem fits_no {P B t : List UInt8} (k : Nat) (hk : k < t.length) (h : (sgRow (P.getD k 0) B).contains (t.getD k 0) = false) : fitsB P B t = false := by
  unfold fitsB
  rw [decide_eq_false (p := ∀ i, i < t.length → (sgRow (P.getD i 0) B).contains (t.getD i 0) = true)]
  · simp
  · intro h2
    rw [h2 k hk] at h; cases h
theorem fits_yes {P B t : List UInt8} (hl : t.length ≤ P.length) (h : ∀ i, i < t.length → (sgRow (P.getD i 0) B).contains (t.getD i 0) = true) : fitsB P B t = true := by
  unfold fitsB
  rw [decide_eq_true hl, decide_eq_true h]; rfl
theorem patC_get (P : ByteArray) (k : Nat) (hk : k < P.size) (h : P.data.toList.all patC = true) : (P[k].toNat : Int) = 76 ∨ (P[k].toNat : Int) = 68 := by
  rw [List.all_eq_true] at h
  exact (patC_iff _).1 (h _ (List.getElem_mem (show k < P.data.toList.length by simpa using hk)))
theorem p68 (p : UInt8) : p = 68 ↔ (p.toNat : Int) = 68 := c_eq p 68 68 rfl
theorem row_at (P t : ByteArray) (B : List UInt8) (k : Nat) (hp : k < P.size) (ht : k < t.size) : (sgRow (P.data.toList.getD k 0) B).contains (t.data.toList.getD k 0) = ((if (P[k].toNat : Int) = 68 then dgB t[k] else ltB t[k]) && !B.contains t[k]) := by
  rw [getD_at P k hp, getD_at t k ht, row_iff]
  by_cases h : P[k] = 68
  · rw [if_pos h, if_pos ((p68 _).1 h)]
  · rw [if_neg h, if_neg (fun e => h ((p68 _).2 e))]
theorem plSign_b (c : UInt8) (b : Bool) (w : World) (h : psB c = b) :
    Calls Tryd.prog 58 #[.int .u8 (c.toNat : Int)] w fun e w' => e = .returned (.bool b) ∧ w = w' := by subst h; exact plSign_any c w
set_option maxRecDepth 100000 in
set_option maxHeartbeats 4000000 in
theorem plFits_any (P B t : ByteArray) (v : Value) (w : World) (hPs : P.size ≤ 1048576) (hBs : B.size ≤ 1048576) (_ht0 : t.size ≤ 1048576) (hpat : P.data.toList.all patC = true) :
    Calls Tryd.prog 69 #[.agg #[.string P, .string B, v], .string t] w fun e w' => e = .returned (.bool (fitsB P.data.toList B.data.toList t.data.toList)) ∧ Below w.heap.size w w' := by
  have HPAT := Lib.hid hpat
  have htl : t.data.toList.length = t.size := by simp
  have hpl : P.data.toList.length = P.size := by simp
  have HTL := Lib.hid htl
  have HPL := Lib.hid hpl
  clear hpat htl hpl
  by_cases hsz : t.size ≤ P.size
  rotate_left
  · have hszI : (P.size : Int) < (t.size : Int) := by omega
    have HNO : Hid (fitsB P.data.toList B.data.toList t.data.toList = false) := by
      show _ = _
      unfold fitsB
      rw [decide_eq_false (by rw [HTL.out, HPL.out]; exact hsz)]; rfl
    go_enter Tryd.func69, Tryd.ntmps69
    go_wp2
    go_ret
    exact ⟨ret_bool HNO.out.symm, by go_grown⟩
  · have hszI : ¬ (P.size : Int) < (t.size : Int) := by omega
    go_enter Tryd.func69, Tryd.ntmps69
    go_wp2
    obtain ⟨b0, hb00⟩ : ∃ b0, b0 = w.heap.size := ⟨_, rfl⟩
    obtain ⟨W, hW⟩ : ∃ W, W = w.alloc (.cells #[.string P, .string B, v] 26) := ⟨_, rfl⟩
    have HBLK : Hid (Below w.heap.size w W) := by show Below _ _ _; rw [hW]; exact (Below.refl _ _).alloc (Nat.le_refl _) _
    have hc0 : W.cell? ⟨b0, 0, none⟩ = some (.string P) := by rw [hW, hb00]; simp
    have hc1 : W.cell? ⟨b0, 1, none⟩ = some (.string B) := by rw [hW, hb00]; simp
    rw [← hW, ← hb00]
    clear hW hb00
    go_loopw [5] (fun i wr => ∃ k q : Nat, wr = W.drewN q ∧ k ≤ t.size ∧ i = .int .i64 k ∧ Hid (∀ j, j < k → (sgRow (P.data.toList.getD j 0) B.data.toList).contains (t.data.toList.getD j 0) = true)) (fun i _ => t.size - (intOf i).toNat)
    case atStart => exact ⟨0, 0, rfl, Nat.zero_le _, rfl, fun j hj => by omega⟩
    case round =>
      obtain ⟨k, q, rfl, hk, rfl, HJ⟩ := hrel
      have HBQ : Hid (Below w.heap.size w (W.drewN q)) := below_drewN HBLK.out q
      by_cases hlt : k < t.size
      · have hltp : k < P.size := by omega
        have hr := row_at P t B.data.toList k hltp hlt
        have hpp := patC_get P k hltp HPAT.out
        have hps := psB_iff t[k]
        have hpn := psB_no t[k]
        have hi1 : (0 : Int) ≤ (k : Int) := by omega
        have hi2 : (k : Int) < (t.size : Int) := by omega
        have hi3 : (k : Int) < (P.size : Int) := by omega
        have hw1 : IntKind.i64.wrap ((k : Int) + 1) = (k : Int) + 1 := IntWalk.i64_in _ (by omega)
        have hex := exta t k hlt
        have hes : (t.extract k (k + 1)).size ≤ 1048576 := by simp; omega
        cases hs : psB t[k] with
        | false =>
          have hno := hpn.1 hs
          have HNO : Hid (fitsB P.data.toList B.data.toList t.data.toList = false) := by
            refine fits_no k (by rw [HTL.out]; exact hlt) ?_
            rw [hr]
            have e1 : dgB t[k] = false := by simp only [dgB, decide_eq_false_iff_not]; exact hno.2
            have e2 : ltB t[k] = false := by simp only [ltB, decide_eq_false_iff_not]; exact hno.1
            rw [e1, e2]; simp
          have HS := Lib.hid hs
          clear hs hr hps hpn hno hpp hex hes
          by_cases h1 : 65 ≤ (t[k].toNat : Int)
          all_goals
            go_wp2
            go_quiet (first | (go_at_call 58; refine (plSign_b _ false _ HS.out).mono ?_; rintro e w' ⟨rfl, rfl⟩; exact ⟨rfl, _, rfl⟩))
            go_wp2
            go_ret
            exact ⟨ret_bool HNO.out.symm, below_drewN HBQ.out _⟩
        | true =>
          have hyes := hps.1 hs
          have HS := Lib.hid hs
          by_cases h1 : 65 ≤ (t[k].toNat : Int)
          · have h2 : (t[k].toNat : Int) ≤ 90 := by omega
            have e1 : dgB t[k] = false := by simp only [dgB, decide_eq_false_iff_not]; omega
            have e2 : ltB t[k] = true := by simp only [ltB, decide_eq_true_eq]; omega
            by_cases hp : (P[k].toNat : Int) = 76
            · rw [if_neg (by omega), e2, Bool.true_and] at hr
              cases hb : B.data.toList.contains t[k] with
              | true =>
                rw [hb] at hr
                have HNO : Hid (fitsB P.data.toList B.data.toList t.data.toList = false) := fits_no k (by rw [HTL.out]; exact hlt) hr
                have HH : Hid (decide ((t.extract k (k + 1)).data.toList <:+: B.data.toList) = true) := by show _ = _; rw [hex, one_infix]; exact hb
                have HES := Lib.hid hes
                clear hs hr hps hpn hpp hex hes hyes e1 e2 hb
                go_wp2
                clear h1
                go_quiet (first | (go_at_call 58; refine (plSign_b _ true _ HS.out).mono ?_; rintro e w' ⟨rfl, rfl⟩; exact ⟨rfl, _, rfl⟩) | (go_at_call 35; refine (plHas_b _ _ true _ hBs HES.out HH.out).mono ?_; rintro e w' ⟨rfl, rfl⟩; exact ⟨rfl, _, rfl⟩))
                go_wp2
                go_ret
                exact ⟨ret_bool HNO.out.symm, below_drewN HBQ.out _⟩
              | false =>
                rw [hb] at hr
                have HJ2 : Hid (∀ j, j < k + 1 → (sgRow (P.data.toList.getD j 0) B.data.toList).contains (t.data.toList.getD j 0) = true) := by
                  intro j hj
                  by_cases e : j = k
                  · subst e; exact hr
                  · exact HJ.out j (by omega)
                have HH : Hid (decide ((t.extract k (k + 1)).data.toList <:+: B.data.toList) = false) := by show _ = _; rw [hex, one_infix]; exact hb
                have HES := Lib.hid hes
                clear hs hr hps hpn hpp hex hes hyes e1 e2 hb
                go_wp2
                clear h1
                go_quiet (first | (go_at_call 58; refine (plSign_b _ true _ HS.out).mono ?_; rintro e w' ⟨rfl, rfl⟩; exact ⟨rfl, _, rfl⟩) | (go_at_call 35; refine (plHas_b _ _ false _ hBs HES.out HH.out).mono ?_; rintro e w' ⟨rfl, rfl⟩; exact ⟨rfl, _, rfl⟩))
                go_wp2
                go_roundw
                case rel => exact ⟨k + 1, q + nq, rfl, by omega, by go_num, HJ2⟩
                case measure => simp [intOf]; omega
            · rw [if_pos (by omega), e1, Bool.false_and] at hr
              have HNO : Hid (fitsB P.data.toList B.data.toList t.data.toList = false) := fits_no k (by rw [HTL.out]; exact hlt) hr
              clear hs hr hps hpn hpp hex hes hyes e1 e2
              go_wp2
              go_quiet (first | (go_at_call 58; refine (plSign_b _ true _ HS.out).mono ?_; rintro e w' ⟨rfl, rfl⟩; exact ⟨rfl, _, rfl⟩))
              go_wp2
              go_ret
              exact ⟨ret_bool HNO.out.symm, below_drewN HBQ.out _⟩
          · have e1 : dgB t[k] = true := by simp only [dgB, decide_eq_true_eq]; omega
            have e2 : ltB t[k] = false := by simp only [ltB, decide_eq_false_iff_not]; omega
            by_cases hp : (P[k].toNat : Int) = 76
            · rw [if_neg (by omega), e2, Bool.false_and] at hr
              have HNO : Hid (fitsB P.data.toList B.data.toList t.data.toList = false) := fits_no k (by rw [HTL.out]; exact hlt) hr
              clear hs hr hps hpn hpp hex hes hyes e1 e2
              go_wp2
              go_quiet (first | (go_at_call 58; refine (plSign_b _ true _ HS.out).mono ?_; rintro e w' ⟨rfl, rfl⟩; exact ⟨rfl, _, rfl⟩))
              go_wp2
              go_ret
              exact ⟨ret_bool HNO.out.symm, below_drewN HBQ.out _⟩
            · rw [if_pos (by omega), e1, Bool.true_and] at hr
              have hq : ((P[k].toNat : Int) == 76) = false := by simpa using hp
              cases hb : B.data.toList.contains t[k] with
              | true =>
                rw [hb] at hr
                have HNO : Hid (fitsB P.data.toList B.data.toList t.data.toList = false) := fits_no k (by rw [HTL.out]; exact hlt) hr
                have HH : Hid (decide ((t.extract k (k + 1)).data.toList <:+: B.data.toList) = true) := by show _ = _; rw [hex, one_infix]; exact hb
                have HES := Lib.hid hes
                clear hs hr hps hpn hpp hex hes hyes e1 e2 hb
                go_wp2
                clear h1
                go_quiet (first | (go_at_call 58; refine (plSign_b _ true _ HS.out).mono ?_; rintro e w' ⟨rfl, rfl⟩; exact ⟨rfl, _, rfl⟩) | (go_at_call 35; refine (plHas_b _ _ true _ hBs HES.out HH.out).mono ?_; rintro e w' ⟨rfl, rfl⟩; exact ⟨rfl, _, rfl⟩))
                go_wp2
                go_ret
                exact ⟨ret_bool HNO.out.symm, below_drewN HBQ.out _⟩
              | false =>
                rw [hb] at hr
                have HJ2 : Hid (∀ j, j < k + 1 → (sgRow (P.data.toList.getD j 0) B.data.toList).contains (t.data.toList.getD j 0) = true) := by
                  intro j hj
                  by_cases e : j = k
                  · subst e; exact hr
                  · exact HJ.out j (by omega)
                have HH : Hid (decide ((t.extract k (k + 1)).data.toList <:+: B.data.toList) = false) := by show _ = _; rw [hex, one_infix]; exact hb
                have HES := Lib.hid hes
                clear hs hr hps hpn hpp hex hes hyes e1 e2 hb
                go_wp2
                clear h1
                go_quiet (first | (go_at_call 58; refine (plSign_b _ true _ HS.out).mono ?_; rintro e w' ⟨rfl, rfl⟩; exact ⟨rfl, _, rfl⟩) | (go_at_call 35; refine (plHas_b _ _ false _ hBs HES.out HH.out).mono ?_; rintro e w' ⟨rfl, rfl⟩; exact ⟨rfl, _, rfl⟩))
                go_wp2
                go_roundw
                case rel => exact ⟨k + 1, q + nq, rfl, by omega, by go_num, HJ2⟩
                case measure => simp [intOf]; omega
      · have HY : Hid (fitsB P.data.toList B.data.toList t.data.toList = true) := fits_yes (by rw [HTL.out, HPL.out]; exact hsz) (fun i hi => HJ.out i (by rw [HTL.out] at hi; omega))
        have hi2 : ¬ (k : Int) < (t.size : Int) := by omega
        go_wp2
        go_ret
        exact ⟨ret_bool HY.out.symm, HBQ.out⟩
end Go.Proofs.YtaomcimmhlpflaaDoor

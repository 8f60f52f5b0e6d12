/-
  Whether there is a scheme, as the model says.
-/
import Derived.Test.YtaomcimmhlpflaaDoorPlTo
namespace Go.Proofs.YtaomcimmhlpflaaDoor
open Go.RowKit

theorem plSigns_b (s : ByteArray) (lo hi : Int) (b : Bool) (w : World) (hs : s.size ≤ 1048576) (h : szsB s.data.toList lo hi = b) :
    Calls Tryd.prog 34 #[.string s, .int .i64 lo, .int .i64 hi] w fun e w' => e = .returned (.bool b) ∧ w = w' := by subst h; exact plSigns_any s lo hi w (by unfold maxLen; omega)
theorem in_b (n lo hi : Int) (b : Bool) (w : World) (h : decide (lo ≤ n ∧ n ≤ hi) = b) :
    Calls Tryd.prog 57 #[.int .i64 n, .int .i64 lo, .int .i64 hi] w fun e w' => e = .returned (.bool b) ∧ w = w' := by subst h; exact in_any n lo hi w
theorem patC_no {c : UInt8} (h1 : ¬ (c.toNat : Int) = 76) (h2 : ¬ (c.toNat : Int) = 68) : patC c = false := by
  cases e : patC c with
  | false => rfl
  | true => rcases (patC_iff c).1 e with h | h <;> contradiction
theorem sch_p {P B : List UInt8} {Ws : List (List UInt8)} (h : patB P = false) : schB P B Ws = false := by unfold schB; rw [h]; rfl
theorem sch_z {P B : List UInt8} {Ws : List (List UInt8)} (h : szsB B 0 36 = false) : schB P B Ws = false := by unfold schB; rw [h]; simp
theorem sch_i {P B : List UInt8} {Ws : List (List UInt8)} (h : incB B = false) : schB P B Ws = false := by unfold schB; rw [h]; simp
theorem sch_n {P B : List UInt8} {Ws : List (List UInt8)} (h : ¬ Ws.length ≤ 3) : schB P B Ws = false := by unfold schB; rw [decide_eq_false h]; simp
theorem sch_w {P B : List UInt8} {Ws : List (List UInt8)} (k : Nat) (hk : k < Ws.length) (h : wordB (Ws.getD k []) = false) : schB P B Ws = false := by
  have : Ws.all wordB = false := by
    rw [List.all_eq_false]
    refine ⟨Ws[k], List.getElem_mem hk, ?_⟩
    rw [List.getD_eq_getElem?_getD, List.getElem?_eq_getElem hk] at h
    simp only [Option.getD_some] at h
    rw [h]; simp
  unfold schB; rw [this]; simp
theorem sch_yes {P B : List UInt8} {Ws : List (List UInt8)} (h1 : patB P = true) (h2 : szsB B 0 36 = true) (h3 : ∀ j, j < B.length → 1 ≤ j → ¬ B.getD j 0 ≤ B.getD (j - 1) 0) (h4 : Ws.length ≤ 3) (h5 : ∀ k, k < Ws.length → wordB (Ws.getD k []) = true) : schB P B Ws = true := by
  have e5 : Ws.all wordB = true := by
    rw [List.all_eq_true]
    intro x hx
    obtain ⟨k, hk, rfl⟩ := List.mem_iff_getElem.1 hx
    have := h5 k hk
    rwa [List.getD_eq_getElem?_getD, List.getElem?_eq_getElem hk] at this
  unfold schB incB
  rw [h1, h2, e5, decide_eq_true h3, decide_eq_true h4]; rfl
theorem u8_le (a b : UInt8) : a ≤ b ↔ (a.toNat : Int) ≤ (b.toNat : Int) := by rw [UInt8.le_iff_toNat_le]; omega
set_option maxRecDepth 100000 in
set_option maxHeartbeats 4000000 in
theorem plGood_any (P B : ByteArray) (ts : List (List UInt8)) (v : Value) (w : World) (hf : Fit P B ts) (h : Rd ts v w) :
    Calls Tryd.prog 33 #[.agg #[.string P, .string B, v]] w fun e w' => e = .returned (.bool (schB P.data.toList B.data.toList ts)) ∧ Below w.heap.size w w' := by
  obtain ⟨hfp, hfb, hfn, hft⟩ := hf
  have HV := Lib.hid h
  obtain ⟨a, cap, rfl, _⟩ := h
  have HT := Lib.hid hft
  have hPl : P.data.toList.length = P.size := by simp
  have hBl : B.data.toList.length = B.size := by simp
  have HPL := Lib.hid hPl
  have HBL := Lib.hid hBl
  obtain ⟨n, hnn⟩ : ∃ n, n = ts.length := ⟨_, rfl⟩
  have HN := Lib.hid hnn
  rw [← hnn] at hfn
  rw [← hnn]
  clear hft hPl hBl hnn
  have hblk : Below w.heap.size w (w.alloc (.cells #[.string P, .string B, .slice a n cap] 26)) := (Below.refl _ _).alloc (Nat.le_refl _) _
  by_cases hz : 1 ≤ (P.size : Int) ∧ (P.size : Int) ≤ 8
  · have hdz : decide (1 ≤ (P.size : Int) ∧ (P.size : Int) ≤ 8) = true := decide_eq_true hz
    have HDZ := Lib.hid hdz
    cases hb : szsB B.data.toList 0 36 with
    | false =>
      have HB := Lib.hid (sch_z (P := P.data.toList) (Ws := ts) hb)
      have HC := Lib.hid hb
      clear hb hdz
      go_enter Tryd.func33, Tryd.ntmps33
      go_wp2_with (first | (go_at_call 57; refine (in_b _ _ _ true _ HDZ.out).mono ?_; rintro e w' ⟨rfl, rfl⟩) | (go_at_call 34; refine (plSigns_b B 0 36 false _ hfb HC.out).mono ?_; rintro e w' ⟨rfl, rfl⟩))
      go_ret
      exact ⟨ret_bool HB.out.symm, hblk⟩
    | true =>
      have HC := Lib.hid hb
      clear hb hdz
      by_cases hn3 : n ≤ 3
      · have hn3' : ¬ (3 : Int) < (n : Int) := by omega
        go_enter Tryd.func33, Tryd.ntmps33
        go_wp2_with (first | (go_at_call 57; refine (in_b _ _ _ true _ HDZ.out).mono ?_; rintro e w' ⟨rfl, rfl⟩) | (go_at_call 34; refine (plSigns_b B 0 36 true _ hfb HC.out).mono ?_; rintro e w' ⟨rfl, rfl⟩))
        obtain ⟨b0, hb0⟩ : ∃ b0, b0 = w.heap.size := ⟨_, rfl⟩
        obtain ⟨W, hW⟩ : ∃ W, W = w.alloc (.cells #[.string P, .string B, .slice a n cap] 26) := ⟨_, rfl⟩
        have HV2 : Hid (Rd ts (.slice a ts.length cap) W) := by show Rd _ _ _; rw [hW]; exact HV.out.below hblk
        have HBLK : Hid (Below w.heap.size w W) := by rw [hW]; exact hblk
        have hc0 : W.cell? ⟨b0, 0, none⟩ = some (.string P) := by rw [hW, hb0]; simp
        have hc1 : W.cell? ⟨b0, 1, none⟩ = some (.string B) := by rw [hW, hb0]; simp
        have hc2 : W.cell? ⟨b0, 2, none⟩ = some (.slice a n cap) := by rw [hW, hb0]; simp
        rw [← hW, ← hb0]
        clear hblk hW hb0
        go_loop [3] (fun i => ∃ k : Nat, k ≤ P.size ∧ i = .int .i64 k ∧ Hid ((P.data.toList.take k).all patC = true)) (fun i => P.size - (intOf i).toNat)
        case atStart => exact ⟨0, Nat.zero_le _, rfl, by show _ = _; simp⟩
        case round =>
          obtain ⟨k, hk, rfl, HA⟩ := hrel
          by_cases hlt : k < P.size
          · by_cases hc : (P[k].toNat : Int) = 76 ∨ (P[k].toNat : Int) = 68
            · have HA2 : Hid ((P.data.toList.take (k + 1)).all patC = true) := by
                show _ = _
                rw [take_snoc P k hlt, List.all_append, HA.out]; simp [(patC_iff _).2 hc]
              by_cases h76 : (P[k].toNat : Int) = 76
              · go_wp2
                go_round
                case rel => exact ⟨k + 1, by omega, by go_num, HA2⟩
                case measure => simp [intOf]; omega
              · have h68 : (P[k].toNat : Int) = 68 := by omega
                go_wp2
                go_round
                case rel => exact ⟨k + 1, by omega, by go_num, HA2⟩
                case measure => simp [intOf]; omega
            · have hx1 : ¬ (P[k].toNat : Int) = 76 := fun h => hc (.inl h)
              have hx2 : ¬ (P[k].toNat : Int) = 68 := fun h => hc (.inr h)
              have HNO : Hid (schB P.data.toList B.data.toList ts = false) := by
                show _ = _
                refine sch_p ?_
                unfold patB
                rw [all_no _ patC k (by rw [HPL.out]; exact hlt) (patC_no hx1 hx2)]; simp
              clear hc
              have hy1 : ((P[k].toNat : Int) != 76) = true := by simpa using hx1
              have hy2 : ((P[k].toNat : Int) != 68) = true := by simpa using hx2
              go_wp2
              go_ret
              exact ⟨ret_bool HNO.out.symm, HBLK.out⟩
          · have HPAT : Hid (patB P.data.toList = true) := by
              show _ = _
              have e : (P.data.toList.take k) = P.data.toList := by rw [show k = P.size by omega]; exact take_all P
              unfold patB
              rw [HPL.out, HDZ.out, ← e, HA.out]; rfl
            go_wp2
            go_loopw [4] (fun i wr => ∃ k q : Nat, wr = W.drewN q ∧ 1 ≤ k ∧ (k ≤ B.size ∨ k = 1) ∧ i = .int .i64 k ∧ Hid (∀ j, j < k → 1 ≤ j → ¬ B.data.toList.getD j 0 ≤ B.data.toList.getD (j - 1) 0)) (fun i _ => B.size - (intOf i).toNat)
            case atStart => exact ⟨1, 0, rfl, Nat.le_refl _, .inr rfl, rfl, fun j h1 h2 => by omega⟩
            case round =>
              obtain ⟨k, q, rfl, hk1, hk2, rfl, HI⟩ := hrel
              have HBQ : Hid (Below w.heap.size w (W.drewN q)) := below_drewN HBLK.out q
              by_cases hlt : k < B.size
              · obtain ⟨m, hm⟩ : ∃ m, k = m + 1 := ⟨k - 1, by omega⟩
                have hm1 : m < B.size := by omega
                have e1 := getD_at B k hlt
                have e2 := getD_at B m hm1
                have HM := Lib.hid hm
                have hsub : (k : Int) - 1 = (m : Int) := by omega
                have hwr : IntKind.i64.wrap ((k : Int) - 1) = (m : Int) := (IntWalk.i64_in _ (by omega)).trans hsub
                have hi1 : (0 : Int) ≤ (m : Int) := by omega
                have hi2 : (m : Int) < (B.size : Int) := by omega
                have hi3 : (0 : Int) ≤ (k : Int) := by omega
                have hi4 : (k : Int) < (B.size : Int) := by omega
                by_cases hc : (B[k].toNat : Int) ≤ (B[m].toNat : Int)
                · have HNO : Hid (schB P.data.toList B.data.toList ts = false) := by
                    show _ = _
                    refine sch_i (inc_no B k hlt hk1 ?_)
                    refine (u8_le _ _).2 ?_
                    have : k - 1 = m := by omega
                    simp only [this]; exact hc
                  clear e1 e2 hm
                  go_wp2
                  go_quiet (fail)
                  go_wp2
                  go_ret
                  exact ⟨ret_bool HNO.out.symm, below_drewN HBQ.out _⟩
                · have HI2 : Hid (∀ j, j < k + 1 → 1 ≤ j → ¬ B.data.toList.getD j 0 ≤ B.data.toList.getD (j - 1) 0) := by
                    intro j h1 h2
                    by_cases e : j = k
                    · subst e
                      rw [show j - 1 = m by omega, e1, e2, u8_le]; exact hc
                    · exact HI.out j (by omega) h2
                  clear e1 e2 hm
                  go_wp2
                  go_quiet (fail)
                  go_wp2
                  go_roundw
                  case rel => exact ⟨k + 1, q + nq, rfl, by omega, by omega, by go_num, HI2⟩
                  case measure => simp [intOf]; omega
              · have HINC : Hid (∀ j, j < B.data.toList.length → 1 ≤ j → ¬ B.data.toList.getD j 0 ≤ B.data.toList.getD (j - 1) 0) := by
                  intro j h1 h2
                  rw [HBL.out] at h1
                  exact HI.out j (by omega) h2
                go_wp2
                go_loop [63] (fun i => ∃ k : Nat, k ≤ n ∧ i = .int .i64 k ∧ Hid (∀ j, j < k → wordB (ts.getD j []) = true)) (fun i => n - (intOf i).toNat)
                case atStart => exact ⟨0, Nat.zero_le _, rfl, fun j hj => by omega⟩
                case round =>
                  obtain ⟨k, hk, rfl, HW⟩ := hrel
                  by_cases hlt : k < n
                  · have hlt2 : k < ts.length := by rw [← HN.out]; exact hlt
                    obtain ⟨a', cap', hv', hcs⟩ := HV2.out
                    have ha' : a = a' := by simp only [Value.slice.injEq] at hv'; exact hv'.1
                    obtain ⟨g, o, hgo, hg, hcell⟩ := hcs k hlt2
                    rw [← ha'] at hgo
                    clear hv' ha'
                    subst hgo
                    obtain ⟨bb, hbb⟩ : ∃ bb : ByteArray, bb = ⟨(ts.getD k []).toArray⟩ := ⟨_, rfl⟩
                    have hbs : bb.size ≤ 1048576 := by have := HT.out k hlt2; rw [hbb]; simpa [ByteArray.size] using this
                    have hbd : bb.data.toList = ts.getD k [] := by rw [hbb]
                    unfold strV at hcell
                    rw [← hbb] at hcell
                    clear hcs hbb
                    cases hwd : wordB (ts.getD k []) with
                    | true =>
                      have HWD : Hid (szsB bb.data.toList 1 4 = true) := by show _ = _; rw [hbd]; exact hwd
                      have HW2 : Hid (∀ j, j < k + 1 → wordB (ts.getD j []) = true) := by
                        intro j hj
                        by_cases e : j = k
                        · subst e; exact hwd
                        · exact HW.out j (by omega)
                      clear hwd hbd
                      go_wp2_with (go_at_call 34; refine (plSigns_b bb 1 4 true _ hbs HWD.out).mono ?_; rintro e w' ⟨rfl, rfl⟩)
                      go_round
                      case rel => exact ⟨k + 1, by omega, by go_num, HW2⟩
                      case measure => simp [intOf]; omega
                    | false =>
                      have HWD : Hid (szsB bb.data.toList 1 4 = false) := by show _ = _; rw [hbd]; exact hwd
                      have HNO : Hid (schB P.data.toList B.data.toList ts = false) := sch_w k hlt2 hwd
                      clear hwd hbd
                      go_wp2_with (go_at_call 34; refine (plSigns_b bb 1 4 false _ hbs HWD.out).mono ?_; rintro e w' ⟨rfl, rfl⟩)
                      go_ret
                      exact ⟨ret_bool HNO.out.symm, HBQ.out⟩
                  · have HYES : Hid (schB P.data.toList B.data.toList ts = true) := sch_yes HPAT.out HC.out HINC.out (by rw [← HN.out]; exact hn3) (fun j hj => HW.out j (by have := HN.out; omega))
                    go_wp2
                    go_ret
                    exact ⟨ret_bool HYES.out.symm, HBQ.out⟩
      · have hn3' : (3 : Int) < (n : Int) := by omega
        have HB := Lib.hid (sch_n (P := P.data.toList) (B := B.data.toList) (Ws := ts) (by rw [← HN.out]; exact hn3))
        go_enter Tryd.func33, Tryd.ntmps33
        go_wp2_with (first | (go_at_call 57; refine (in_b _ _ _ true _ HDZ.out).mono ?_; rintro e w' ⟨rfl, rfl⟩) | (go_at_call 34; refine (plSigns_b B 0 36 true _ hfb HC.out).mono ?_; rintro e w' ⟨rfl, rfl⟩))
        go_ret
        exact ⟨ret_bool HB.out.symm, hblk⟩
  · have hdz : decide (1 ≤ (P.size : Int) ∧ (P.size : Int) ≤ 8) = false := decide_eq_false hz
    have HDZ := Lib.hid hdz
    have HB : Hid (schB P.data.toList B.data.toList ts = false) := by
      show _ = _
      refine sch_p ?_
      unfold patB; rw [HPL.out, hdz]; rfl
    clear hdz
    go_enter Tryd.func33, Tryd.ntmps33
    go_wp2_with (go_at_call 57; refine (in_b _ _ _ false _ HDZ.out).mono ?_; rintro e w' ⟨rfl, rfl⟩)
    go_ret
    exact ⟨ret_bool HB.out.symm, hblk⟩
end Go.Proofs.YtaomcimmhlpflaaDoor

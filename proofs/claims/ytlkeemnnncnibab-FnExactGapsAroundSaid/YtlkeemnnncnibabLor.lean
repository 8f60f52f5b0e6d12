/-
  Contract of LuckyOfRank.
-/
import Derived.Test.YtlkeemnnncnibabEnv
import Derived.Test.YtlkeemnnncnibabRankLaw
namespace Go.Proofs.Ytlkeemnnncnibab
open Go.RowKit
set_option maxRecDepth 100000

theorem Env.start (w w1 : World) (z g cap : Nat) (hb : Below (w.alloc (.cells #[.pointer none, .slice none 0 0] 70)).heap.size (w.alloc (.cells #[.pointer none, .slice none 0 0] 70)) w1) :
    Env w w1 w.heap.size z g cap [] 0 0 (w1.alloc (.cells #[.slice (some ⟨g, 0, none⟩) (2 * z + 1) cap, .int .i64 (2 * (z : Int)), .int .i64 0, .int .i64 0] 90)) := by
  have hs : w.heap.size + 1 ≤ w1.heap.size := by simpa using hb.size
  have h0 : (w.alloc (.cells #[.pointer none, .slice none 0 0] 70)).heap[w.heap.size]? = some (.cells #[.pointer none, .slice none 0 0] 70 (0, 0)) := by
    show (w.heap.push _)[w.heap.size]? = _
    simp
  have h1 : w1.heap[w.heap.size]? = some (.cells #[.pointer none, .slice none 0 0] 70 (0, 0)) := by rw [hb.block _ (by simp)]; exact h0
  have hB := (Below.refl w1.heap.size w1).alloc (Nat.le_refl _) (.cells #[.slice (some ⟨g, 0, none⟩) (2 * z + 1) cap, .int .i64 (2 * (z : Int)), .int .i64 0, .int .i64 0] 90)
  refine ⟨bld_below (bld_below (Lib.fresh_isBuilder 70 5 w) hb) hB, .inl ?_, Blk.new w1 _ _, fun i _ h2 => hB.block i h2, ?_, by omega⟩
  · rw [rowOf_same (hB.block _ (by omega)), rowOf_at h1]; rfl
  · exact ((((Below.refl w.heap.size w).alloc (Nat.le_refl _) _).trans (hb.mono (by simp))).trans (hB.mono (by omega)))

set_option maxHeartbeats 1600000 in
theorem lor_yes (z : Nat) (r0 : Int) (w : World) (hz : szB (2 * (z : Int)) = true) (h6 : z ≤ 6) (hr0 : 0 ≤ r0) (hr1 : r0 < comp z []) :
    Calls Try.prog 75 #[.int .i64 (2 * (z : Int)), .int .i64 r0] w fun e w' => e = .returned (.tuple #[.string ⟨(ranked z (2 * z) [] r0).toArray⟩, .bool true]) ∧ Below w.heap.size w w' := by
  obtain ⟨T, hT⟩ : ∃ T, ranked z (2 * z) [] r0 = T := ⟨_, rfl⟩
  rw [hT]
  have HT := Lib.hid hT
  clear hT
  have hd1 : decide (r0 < 0) = false := by simpa using hr0
  have hc0 : r0 < cmp z 0 0 := by rw [← comp_nil]; exact hr1
  have hd2 : decide (cmp z 0 0 ≤ r0) = false := by simpa using hc0
  have hdg0 : digB [] = true := rfl
  have HDG := Lib.hid hdg0
  clear hdg0
  go_enter Try.func75, Try.ntmps75
  go_wp2_with (first | (go_at_call 92; go_must ((with_reducible refine (iCount_yes z _ hz h6).mono ?_); rintro e w2 ⟨rfl, hb0⟩)) | (go_at_call 89; go_must ((with_reducible refine (newWalk_any z h6 _).mono ?_); rintro e w1 ⟨v, rfl, hcn, hb1⟩; obtain ⟨g, cap, rfl⟩ := hcn.form)))
  have hz0 := hb0.size
  have hcn' : Cnts w1 (.slice (some ⟨g, 0, none⟩) (2 * z + 1) cap) (2 * z) (w2.heap.size + 1) := hcn.mono (by simp)
  have HCN := Lib.hid hcn'
  have HB1 := Lib.hid hb1
  have HB0 := Lib.hid hb0
  clear hcn hcn' hb1 hb0
  go_loopw [1, 30] (fun rv' iv wr => ∃ (l : List UInt8) (n i : Nat) (r : Int), Hid (l.length + n = 2 * z) ∧ Hid (l.length = i) ∧ i ≤ 2 * z ∧ iv = .int .i64 i ∧ rv' = .int .i64 r ∧ Hid (digB l = true) ∧ 0 ≤ r ∧ r < comp z l ∧ Hid (ranked z n l r = T) ∧ Hid (Env w2 w1 w2.heap.size z g cap l i (bal z l) wr)) (fun _ iv _ => 2 * z - (intOf iv).toNat)
  case atStart => exact ⟨[], 2 * z, 0, r0, by show _ = _; simp, rfl, by omega, rfl, rfl, HDG, hr0, hr1, HT, by
    have := Env.start w2 w1 z g cap HB1.out
    show Env _ _ _ _ _ _ _ _ _ _
    rw [show bal z [] = 0 by simp [bal, dsum]]; exact this⟩
  case round =>
    obtain ⟨l, n, i, r, hln, hli, hi, rfl, rfl, hdg, hrr0, hrr1, htt, henv⟩ := hrel
    obtain ⟨wo, rfl⟩ : ∃ wo : World, wo = wr := ⟨_, rfl⟩
    have hcb := comp_bd h6 l
    obtain ⟨hcb1, hcb2⟩ := hcb
    have HBB : Hid (-108 ≤ bal z l ∧ bal z l ≤ 108) := bal_bd z l (by have := hli.out; omega) hdg.out
    have HBC : Hid (-1000 ≤ bal z l ∧ bal z l ≤ 1000) := by have := HBB.out; show _ ∧ _; omega
    by_cases hlt : i < 2 * z
    · have hll : l.length < 2 * z := by rw [hli.out]; exact hlt
      have HLL := Lib.hid hll
      clear hll
      have hdl : decide ((i : Int) < 2 * (z : Int)) = true := by simp; omega
      go_wp2_with fail
      go_loopw [1, 10] (fun rv' dv' wq => ∃ d : Nat, d ≤ 9 ∧ dv' = .int .i64 d ∧ rv' = .int .i64 (r - inner z l d) ∧ inner z l d ≤ r ∧ Hid (Env w2 w1 w2.heap.size z g cap l i (bal z l) wq)) (fun _ dv' _ => 9 - (intOf dv').toNat)
      case atStart => exact ⟨0, by omega, rfl, val_int (by simp [inner, sumTo]), by simpa [inner, sumTo] using hrr0, henv⟩
      case round =>
        obtain ⟨d, hd9, rfl, rfl, hin, heq⟩ := hrel
        obtain ⟨wp, rfl⟩ : ∃ wp : World, wp = wr := ⟨_, rfl⟩
        have hI := inner_bd z h6 l d
        obtain ⟨hI1, hI2⟩ := hI
        have hcd := cmp_bd h6 (p := i + 1) (stp z i (bal z l) (d : Int))
        obtain ⟨hcd1, hcd2⟩ := hcd
        have HIS : Hid (inner z l (d + 1) = inner z l d + cmp z (i + 1) (stp z i (bal z l) (d : Int))) := by show _ = _; rw [inner_succ, hli.out]
        have HBS : Hid (-1000 ≤ stp z i (bal z l) (d : Int) ∧ stp z i (bal z l) (d : Int) ≤ 1000) := stp_bd z i _ _ HBB.out (by omega)
        have c0 := heq.out.blk.cell 0
        have c1 := heq.out.blk.cell 1
        have c2 := heq.out.blk.cell 2
        have c3 := heq.out.blk.cell 3
        simp at c0 c1 c2 c3
        by_cases hge : cmp z (i + 1) (stp z i (bal z l) (d : Int)) ≤ r - inner z l d
        · have hd10 : d + 1 ≤ 9 := le_nine z h6 l HLL.out r (d + 1) hrr1 (by rw [HIS.out]; omega)
          go_wp2_with fail
          refine (step_any z i _ _ _ _ h6 (by omega) HBC.out (by omega) ⟨g, _, cap, rfl⟩).mono ?_
          rintro e w3 ⟨rfl, hb3⟩
          have e3 := Lib.hid (heq.out.call hb3)
          clear hb3
          go_wp2_with fail
          refine (completions_at z (i + 1) _ _ _ _ _ (by omega) h6 (by omega) HBS.out (e3.out.cnts HCN.out)).mono ?_
          rintro e w4 ⟨rfl, hb4⟩
          have e4 := Lib.hid (e3.out.call hb4)
          clear hb4
          have d0 := e4.out.blk.cell 0
          have d1 := e4.out.blk.cell 1
          have d2 := e4.out.blk.cell 2
          have d3 := e4.out.blk.cell 3
          simp at d0 d1 d2 d3
          go_wp2_with fail
          refine (step_any z i _ _ _ _ h6 (by omega) HBC.out (by omega) ⟨g, _, cap, rfl⟩).mono ?_
          rintro e w5 ⟨rfl, hb5⟩
          have e5 := Lib.hid (e4.out.call hb5)
          clear hb5
          go_wp2_with fail
          refine (completions_at z (i + 1) _ _ _ _ _ (by omega) h6 (by omega) HBS.out (e5.out.cnts HCN.out)).mono ?_
          rintro e w6 ⟨rfl, hb6⟩
          have e6 := Lib.hid (e5.out.call hb6)
          clear hb6
          go_wp2_with fail
          go_roundw
          case rel => exact ⟨d + 1, hd10, by go_num, val_int (by rw [HIS.out]; omega), by rw [HIS.out]; omega, e6⟩
          case measure => simp [intOf]; omega
        · have hgt : r - inner z l d < cmp z (i + 1) (stp z i (bal z l) (d : Int)) := by omega
          clear hge
          go_wp2_with fail
          refine (step_any z i _ _ _ _ h6 (by omega) HBC.out (by omega) ⟨g, _, cap, rfl⟩).mono ?_
          rintro e w3 ⟨rfl, hb3⟩
          have e3 := Lib.hid (heq.out.call hb3)
          clear hb3
          go_wp2_with fail
          refine (completions_at z (i + 1) _ _ _ _ _ (by omega) h6 (by omega) HBS.out (e3.out.cnts HCN.out)).mono ?_
          rintro e w4 ⟨rfl, hb4⟩
          have e4 := Lib.hid (e3.out.call hb4)
          clear hb4
          go_wp2_with fail
          refine (wb_any w2.heap.size w2.heap.size _ _ _ e4.out.bld (by simp [Lib.byteCells]; have := hli.out; omega) (by have := e4.out.size; have := e4.out.hb; omega)).mono ?_
          rintro e w5 ⟨rfl, q1, q2, q3⟩
          have hdn : ((dch d).toNat : Int) = 48 + (d : Int) := by rw [dch_nat d hd9]; omega
          rw [← hdn] at q1
          have e5 := Lib.hid (e4.out.write q1 q2 q3)
          clear q1 q2 q3 hdn
          have d0 := e5.out.blk.cell 0
          have d1 := e5.out.blk.cell 1
          have d2 := e5.out.blk.cell 2
          have d3 := e5.out.blk.cell 3
          simp at d0 d1 d2 d3
          go_wp2_with fail
          refine (step_any z i _ _ _ _ h6 (by omega) HBC.out (by omega) ⟨g, _, cap, rfl⟩).mono ?_
          rintro e w6 ⟨rfl, hb6⟩
          have e6 := e5.out.call hb6
          clear hb6
          have f0 := e6.blk.cell 0
          have f1 := e6.blk.cell 1
          have f2 := e6.blk.cell 2
          have f3 := e6.blk.cell 3
          simp at f0 f1 f2 f3
          have f4 := e6.blk.frozen
          have E6 := Lib.hid e6
          clear e6
          go_wp2_with fail
          obtain ⟨m, rfl⟩ : ∃ m, n = m + 1 := ⟨n - 1, by have := hln.out; have := hli.out; omega⟩
          have hlen : (l ++ [dch d]).length = i + 1 := by have := hli.out; simp; omega
          have hbal : stp z i (bal z l) (d : Int) = bal z (l ++ [dch d]) := by rw [bal_snoc, hli.out, dch_dv d hd9]
          have hS := E6.out.setK (i + 1) (stp z i (bal z l) (d : Int))
          go_roundw
          case rel =>
            refine ⟨l ++ [dch d], m, i + 1, r - inner z l d, ?_, hlen, by omega, by go_num, rfl, ?_, by omega, ?_, ?_, ?_⟩
            · show _ = _; have := hln.out; simp; omega
            · show _ = _; rw [digB_append, hdg.out]; simp [digB, dch_dg d hd9]
            · rw [comp_dch z l d hd9, hli.out]; exact hgt
            · show _ = _; rw [← htt.out, ranked_step z h6 m l r d hd9 hin (by rw [HIS.out]; omega)]
            · rw [hbal] at hS ⊢; exact hS
          case measure => simp [intOf]; omega
    · have hdl : decide ((i : Int) < 2 * (z : Int)) = false := by simp; omega
      have HE : Hid (l = T) := by
        have h1 := hln.out
        have h2 := htt.out
        rw [show n = 0 by have := hli.out; omega] at h2
        exact h2
      have hbd := henv.out.bld
      have hlow := henv.out.low
      have HBD := Lib.hid hbd
      clear hbd
      go_wp2_with (go_at_call 64; go_must ((refine (bstr_any w2.heap.size _ l _ HBD.out (by have := henv.out.size; have := henv.out.hb; omega)).mono ?_); rintro e w3 ⟨rfl, hb3⟩))
      go_ret2
      exact ⟨by rw [HE.out]; rfl, chain' HB0.out (hlow.trans hb3)⟩
end Go.Proofs.Ytlkeemnnncnibab

/-
  Contract of tkRanked: the lucky ticket with a rank.
-/
import Derived.Test.YtlkeemnnncnibabFrom2
import Derived.Test.YtlkeemnnncnibabPick
namespace Go.Proofs.Ytlkeemnnncnibab
open Go.RowKit
set_option maxRecDepth 100000

theorem l1Num_d9 (d : Nat) (w : World) (h9 : d ≤ 9) :
    Calls Try.prog 51 #[.int .i64 d] w fun e w' => e = .returned (.string ⟨#[dch d]⟩) ∧ Below w.heap.size w w' := by
  have hcv : (convert 68 9 (.slice (some ⟨w.heap.size, 0, none⟩) 1 1)).run Try.prog (w.alloc (.cells #[.int .u8 (48 + (d : Int))] 5)) = .ok (.string ⟨[dch d].toArray⟩) (w.alloc (.cells #[.int .u8 (48 + (d : Int))] 5)) :=
    run_convert_bytes_back (P := Try.prog) (w.alloc (.cells #[.int .u8 (48 + (d : Int))] 5)) 68 9 5 ⟨w.heap.size, 0, none⟩ 1 [dch d] Try.underlying68 Try.underlying5 Try.underlying9 (by
      intro j hj
      match j, hj with
      | 0, _ => simp [Addr.add, dch_nat d h9])
  go_enter Try.func51, Try.ntmps51
  go_wp2
  go_ret
  exact ⟨rfl, by go_grown⟩
theorem l1Num_at (x : Int) (d : Nat) (w : World) (hx : x = (d : Int)) (h9 : d ≤ 9) :
    Calls Try.prog 51 #[.int .i64 x] w fun e w' => e = .returned (.string ⟨#[dch d]⟩) ∧ Below w.heap.size w w' := by
  subst hx; exact l1Num_d9 d w h9
theorem cat_one (l : List UInt8) (c : UInt8) : (⟨l.toArray⟩ : ByteArray) ++ ⟨#[c]⟩ = ⟨(l ++ [c]).toArray⟩ := by
  apply ByteArray.ext
  simp [ByteArray.data_append]
theorem from_list (z : Nat) (x : Int) (l : List UInt8) (d : Nat) (w : World) (hx : x = 2 * (z : Int)) (hz : z ≤ 6) (hl : l.length < 2 * z) (h9 : d ≤ 9) (hd : digB l = true) :
    Calls Try.prog 72 #[.int .i64 x, .string (⟨l.toArray⟩ ++ ⟨#[dch d]⟩)] w fun e w' => e = .returned (.int .i64 (comp z (l ++ [dch d]))) ∧ Below w.heap.size w w' := by
  rw [cat_one]
  refine from_any z x _ w hx hz ?_ ?_
  · show (l ++ [dch d]).toArray.size ≤ 2 * z
    simp; omega
  · rw [digB_append, hd]; simp [digB, dch_dg d h9]

set_option maxHeartbeats 1000000 in
theorem tkRanked_any (z : Nat) (x r0 : Int) (w : World) (hx : x = 2 * (z : Int)) (hz : z ≤ 6) (hr0 : 0 ≤ r0) (hr1 : r0 < comp z []) :
    Calls Try.prog 73 #[.int .i64 x, .int .i64 r0] w fun e w' => e = .returned (.string ⟨(ranked z (2 * z) [] r0).toArray⟩) ∧ Below w.heap.size w w' := by
  subst hx
  obtain ⟨T, hT⟩ : ∃ T, ranked z (2 * z) [] r0 = T := ⟨_, rfl⟩
  rw [hT]
  have HT := Lib.hid hT
  clear hT
  go_enter Try.func73, Try.ntmps73
  go_wp2
  go_loopw [1, 5] (fun rv' ov wr => ∃ (l : List UInt8) (n : Nat) (r : Int), Hid (l.length + n = 2 * z) ∧ rv' = .int .i64 r ∧ ov = .string ⟨l.toArray⟩ ∧ Hid (digB l = true) ∧ 0 ≤ r ∧ r < comp z l ∧ Hid (ranked z n l r = T) ∧ Below w.heap.size w wr) (fun _ ov _ => 2 * z - (match ov with | .string s => s.size | _ => 0))
  case atStart => exact ⟨[], 2 * z, r0, by show _ = _; simp, rfl, rfl, rfl, hr0, hr1, HT, Below.refl _ _⟩
  case round =>
    obtain ⟨l, n, r, hln, rfl, rfl, hdg, hr0', hr1', htt, hbl⟩ := hrel
    obtain ⟨wo, rfl⟩ : ∃ wo : World, wo = wr := ⟨_, rfl⟩
    have hcb := comp_bd hz l
    obtain ⟨hcb1, hcb2⟩ := hcb
    by_cases hlt : l.length < 2 * z
    · have hdl : decide ((l.length : Int) < 2 * (z : Int)) = true := by simp; omega
      go_wp2_with fail
      go_loopw [1, 5, 6] (fun rv' ov cv wq => ∃ d : Nat, d ≤ 10 ∧ cv = .int .i64 d ∧ rv' = .int .i64 (r - inner z l d) ∧ ov = .string ⟨l.toArray⟩ ∧ inner z l d ≤ r ∧ Below w.heap.size w wq) (fun _ _ cv _ => 10 - (intOf cv).toNat)
      case atStart => exact ⟨0, Nat.zero_le _, rfl, val_int (by simp [inner, sumTo]), rfl, by simpa [inner, sumTo] using hr0', hbl⟩
      case round =>
        obtain ⟨d, hd, rfl, rfl, rfl, hin, hbq⟩ := hrel
        obtain ⟨wp, rfl⟩ : ∃ wp : World, wp = wr := ⟨_, rfl⟩
        have hd9 := le_nine z hz l hlt r d hr1' hin
        have hI := inner_bd z hz l d
        obtain ⟨hI1, hI2⟩ := hI
        have hcd := comp_bd hz (l ++ [dch d])
        obtain ⟨hcd1, hcd2⟩ := hcd
        have HIS : Hid (inner z l (d + 1) = inner z l d + comp z (l ++ [dch d])) := by show _ = _; rw [inner_succ, comp_dch z l d hd9]
        by_cases hbr : r - inner z l d < comp z (l ++ [dch d])
        · go_wp2_with (first | (go_at_call 51; go_must ((with_reducible refine (l1Num_at _ d _ (by omega) hd9).mono ?_); rintro e w2 ⟨rfl, hb2⟩; have H2 := chain' hbq hb2; clear hb2)) | (go_at_call 72; go_must ((with_reducible refine (from_list z _ l d _ (by omega) hz hlt hd9 hdg.out).mono ?_); rintro e w3 ⟨rfl, hb3⟩; have H3 := chain' H2 hb3; clear hb3)))
          have hn1 : ∃ m, n = m + 1 := ⟨n - 1, by have := hln.out; omega⟩
          obtain ⟨m, rfl⟩ := hn1
          have h2 : r < inner z l (d + 1) := by rw [HIS.out]; omega
          refine ⟨⟨l ++ [dch d], m, r - inner z l d, ?_, rfl, by rw [cat_one], ?_, by omega, hbr, ?_, H3⟩, ?_⟩
          · show _ = _; have := hln.out; simp; omega
          · show _ = _; rw [digB_append, hdg.out]; simp [digB, dch_dg d hd9]
          · show _ = _; rw [← htt.out, ranked_step z hz m l r d hd9 hin h2]
          · rw [cat_one]
            show 2 * z - (l ++ [dch d]).toArray.size < 2 * z - l.toArray.size
            simp; omega
        · go_wp2_with (first | (go_at_call 51; go_must ((with_reducible refine (l1Num_at _ d _ (by omega) hd9).mono ?_); rintro e w2 ⟨rfl, hb2⟩; have H2 := chain' hbq hb2; clear hb2)) | (go_at_call 72; go_must ((with_reducible refine (from_list z _ l d _ (by omega) hz hlt hd9 hdg.out).mono ?_); rintro e w3 ⟨rfl, hb3⟩; have H3 := chain' H2 hb3; clear hb3)))
          go_roundw
          case rel => exact ⟨d + 1, by omega, by go_num, val_int (by rw [HIS.out]; omega), rfl, by rw [HIS.out]; omega, H3⟩
          case measure => simp [intOf]; omega
    · have hdl : decide ((l.length : Int) < 2 * (z : Int)) = false := by simp; omega
      have HE : Hid (l = T) := by
        have h1 := hln.out
        have h2 := htt.out
        rw [show n = 0 by omega] at h2
        exact h2
      go_wp2_with fail
      go_ret
      exact ⟨by rw [← HE.out]; rfl, hbl⟩
end Go.Proofs.Ytlkeemnnncnibab

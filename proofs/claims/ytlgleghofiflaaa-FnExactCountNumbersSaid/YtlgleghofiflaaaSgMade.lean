/-
  The model: which signed digits make a number, and the first of them.
-/
import Derived.Test.YtlgleghofiflaaaSgAll
namespace Go.Proofs.Ytlgleghofiflaaa
open Go.RowKit

/-- All that make a number, in order. -/
def madeL (plain : Bool) (ds : List UInt8) (x : Int) : List (List UInt8) := (allK plain ds (ds.length - 1)).filter (fun t => sval t == x)
/-- There are digits and a number. -/
def askB (s : ByteArray) (x : Int) : Bool := dgsB s.data.toList && decide (-100000000 ≤ x ∧ x ≤ 100000000)
theorem nice_sig {k : Nat} {t : List UInt8} (h : Nice k t) (hk : k ≤ 7) : sigB t = true := by
  unfold sigB; rw [h.1, h.2]; simp [hk]
theorem dgs_len {l : List UInt8} (h : dgsB l = true) : 1 ≤ l.length ∧ l.length ≤ 7 ∧ digB l = true := by
  unfold dgsB at h
  simp only [Bool.and_eq_true, decide_eq_true_eq] at h
  exact ⟨by omega, by omega, h.2⟩
theorem allK_sig {plain : Bool} {ds : List UInt8} (h : dgsB ds = true) : ∀ t ∈ allK plain ds (ds.length - 1), Nice ds.length t := by
  obtain ⟨h1, h2, h3⟩ := dgs_len h
  intro t ht
  have := allK_nice plain ds h3 (ds.length - 1) (by omega) t ht
  rwa [Nat.sub_add_cancel h1] at this
theorem sval_t (t : List UInt8) (w : World) (h : sigB t = true) :
    Calls Try.prog 45 #[.string ⟨t.toArray⟩] w fun e w' => e = .returned (.int .i64 (sval t)) ∧ w = w' := by
  have hl := sigB_len h
  have e1 : (⟨t.toArray⟩ : ByteArray).size = t.length := by show t.toArray.size = _; simp
  exact sval_any ⟨t.toArray⟩ w (by rw [e1]; unfold maxLen; omega) h
theorem filter_snoc {α : Type} (p : α → Bool) (ts : List α) (k : Nat) (h : k < ts.length) : (ts.take (k + 1)).filter p = (ts.take k).filter p ++ if p ts[k] then [ts[k]] else [] := by
  rw [List.take_succ_eq_append_getElem h, List.filter_append]
  congr 1
  cases e : p ts[k] <;> simp [e]
set_option maxHeartbeats 1000000 in
theorem made_any (s : ByteArray) (x : Int) (plain : Bool) (w : World) (hg : dgsB s.data.toList = true) :
    Calls Try.prog 51 #[.string s, .int .i64 x, .bool plain] w fun e w' => ∃ v, e = .returned v ∧ Strs w.heap.size (madeL plain s.data.toList x) v w' ∧ Below w.heap.size w w' := by
  have HG := Lib.hid hg
  have hsl : s.data.toList.length = s.size := by simp
  have HSL := Lib.hid hsl
  obtain ⟨hl1, hl2, _⟩ := dgs_len hg
  rw [hsl] at hl1 hl2
  clear hg hsl
  go_enter Try.func51, Try.ntmps51
  go_wp2_with (go_at_call 70; go_must ((with_reducible refine (sAll_any _ _ _ HG.out).mono ?_); rintro e w1 ⟨v, rfl, hst, hb1⟩; rcases hst.form with ⟨_, h0⟩ | ⟨g, cap, rfl, _, hgl, hc, _⟩; (exfalso; rw [allK_len] at h0; have := Nat.pow_pos (n := s.size - 1) (sgsN_pos plain); omega)))
  obtain ⟨ts, hts⟩ : ∃ ts, ts = allK plain s.data.toList (s.size - 1) := ⟨_, rfl⟩
  have HT := Lib.hid hts
  rw [← hts] at hc
  rw [← hts]
  have hn : ts.length ≤ 4096 := by rw [hts]; exact allK_len_le _ _ _ (by omega)
  obtain ⟨n, hnn⟩ : ∃ n, n = ts.length := ⟨_, rfl⟩
  have HN := Lib.hid hnn
  rw [← hnn]
  rw [← hnn] at hn hc
  have HC := Lib.hid hc
  have hz1 := hb1.size
  clear hst hc hts hnn
  go_loopw [7, 14] (fun u i wr => ∃ (k : Nat) (us : List (List UInt8)), k ≤ n ∧ i = .int .i64 k ∧ Hid (us = (ts.take k).filter (fun t => sval t == x)) ∧ Strs w1.heap.size us u wr ∧ Below w1.heap.size w1 wr) (fun _ i _ => n - (intOf i).toNat)
  case atStart => exact ⟨0, [], Nat.zero_le _, rfl, by show _ = _; simp, Strs.nil _ _, Below.refl _ _⟩
  case round =>
    obtain ⟨k, us, hk, rfl, HU, hus, hbq⟩ := hrel
    have HUS := Lib.hid hus
    clear hus
    have hqs := hbq.size
    by_cases hlt : k < n
    · obtain ⟨t, ht⟩ : ∃ t, t = ts.getD k [] := ⟨_, rfl⟩
      have hck : wr.cell? ⟨g, k, none⟩ = some (.string ⟨t.toArray⟩) := by
        rw [(hbq.cell (p := ⟨g, k, none⟩) hgl), HC.out k hlt, ht]; rfl
      have HTT : Hid (t = ts[k]'(by rw [← HN.out]; exact hlt)) := by
        show _ = _
        rw [ht, List.getD_eq_getElem?_getD, List.getElem?_eq_getElem (by rw [← HN.out]; exact hlt)]; rfl
      have HNI : Hid (sigB t = true) := by
        have hm : t ∈ ts := by rw [HTT.out]; exact List.getElem_mem _
        rw [HT.out, ← HSL.out] at hm
        exact nice_sig (allK_sig HG.out t hm) (by rw [HSL.out]; exact hl2)
      have HE := Lib.hid (filter_snoc (fun t => sval t == x) ts k (by rw [← HN.out]; exact hlt))
      have hul : us.length ≤ 4096 := by
        rw [HU.out]
        exact Nat.le_trans (List.length_filter_le _ _) (Nat.le_trans (List.length_take_le _ _) (by omega))
      clear ht
      by_cases hv : sval t = x
      · have HE2 : Hid (us ++ [t] = (ts.take (k + 1)).filter (fun t => sval t == x)) := by
          show _ = _
          rw [HE.out, HU.out, ← HTT.out]; simp [hv]
        have HV := Lib.hid hv
        clear hv
        go_wp2_with (first | (go_at_call 45; go_must ((with_reducible refine (sval_t _ _ HNI.out).mono ?_); rintro e w' ⟨rfl, rfl⟩; have hvv := HV.out)) | (at_builtin; refine append_strs _ rfl _ _ rfl w1.heap.size us _ rfl (HUS.out.below (by go_grown)) _ [t] rfl (news1 _ _ rfl) (by simp; omega) (by simp; omega) ?_; intro v1 w2 hus1 hb2))
        have HU2 := Lib.hid hus1
        have hb3 : Below w1.heap.size w1 w2 := (hbq.trans (by go_grown)).trans hb2
        clear hus1 hb2
        go_wp2
        go_roundw
        case rel => exact ⟨k + 1, _, by omega, by go_num, HE2, HU2.out, hb3⟩
        case measure => simp [intOf]; omega
      · have HE2 : Hid (us = (ts.take (k + 1)).filter (fun t => sval t == x)) := by
          show _ = _
          rw [HE.out, HU.out, ← HTT.out]; simp [hv]
        have HV := Lib.hid hv
        clear hv
        go_wp2_with (first | (go_at_call 45; go_must ((with_reducible refine (sval_t _ _ HNI.out).mono ?_); rintro e w' ⟨rfl, rfl⟩; have hvv := HV.out)))
        go_roundw
        case rel => exact ⟨k + 1, _, by omega, by go_num, HE2, HUS.out, hbq⟩
        case measure => simp [intOf]; omega
    · have HK : Hid (ts.take k = ts) := by show _ = _; rw [show k = n by omega, HN.out, List.take_length]
      go_wp2
      go_ret
      refine ⟨_, rfl, ?_, hb1.trans (hbq.mono hz1)⟩
      have e : us = madeL plain s.data.toList x := by rw [HU.out, HK.out, HT.out]; unfold madeL; rw [HSL.out]
      rw [← e]; exact HUS.out.mono hz1
end Go.Proofs.Ytlgleghofiflaaa

/-
  The tallies of all numbers that digits make.
-/
import Derived.Test.YtlgleghofiflaabSgTal
import Derived.WalkSmall
namespace Go.Proofs.Ytlgleghofiflaab
open Go.RowKit

/-- All reckonings of digits. -/
def rsAll (plain : Bool) (s : ByteArray) : List Sr := (allK plain s.data.toList (s.size - 1)).map sr
theorem rk_wf {t : List UInt8} (h : (rk t).Fine) : (Lit.int .i64 (sval t)).wf = true := by
  have hv := h.v
  have e : sval t = (rk t).S + (rk t).P * (rk t).N := rfl
  rw [e]
  exact WalkArith.wf_i64 (by omega)
theorem cl_value2 (q : Sr) (t : List UInt8) (x : Int) (w : World) (hq : q = sr t) (hn : (rk t).Fine) (hx : sval t = x) :
    Calls Try.prog 45 #[.agg #[.int .i64 q.1.S, .int .i64 q.1.P, .int .i64 q.1.N, .int .i64 q.2]] w fun e w' => e = .returned (.int .i64 x) ∧ w' = w.alloc (.cells #[.int .i64 q.1.S, .int .i64 q.1.P, .int .i64 q.1.N, .int .i64 q.2] 56) := by
  subst hq; subst hx
  have a3 := hn.s
  have a5 := hn.pn
  exact value_at (rk t).S (rk t).P (rk t).N (nSg t) ((rk t).P * (rk t).N) w rfl ⟨by omega, by omega⟩ ⟨by omega, by omega⟩
theorem Rat.grown {w w' : World} {g i : Nat} {q : Sr} (h : Rat w g i q) {row : Option Nat} (k : w.grownBy w' row) (hg : g < w.heap.size) (hr : some g ≠ row) : Rat w' g i q := by
  have e : w'.heap[g]? = w.heap[g]? := k.block g hg hr
  have ce : ∀ o, w'.cell? ⟨g, o, none⟩ = w.cell? ⟨g, o, none⟩ := fun o => by unfold World.cell?; rw [e]
  exact ⟨(ce _).trans h.1, (ce _).trans h.2.1, (ce _).trans h.2.2.1, (ce _).trans h.2.2.2⟩
theorem tly_cnt (x : Int) (rs : List Sr) (h : ∀ q ∈ rs, 0 ≤ q.2 ∧ q.2 ≤ 1000) : ∀ c m, tly x rs = some (c, m) → 1 ≤ c ∧ c ≤ rs.length ∧ 0 ≤ m ∧ m ≤ 1000 := by
  induction rs using rs_ind with
  | h0 => intro c m e; cases e
  | h1 l q ih =>
    intro c m e
    have hq := h q (by simp)
    have ih := ih (fun q hq => h q (by simp [hq]))
    rw [tly_snoc] at e
    unfold tlyS at e
    rw [List.length_append, List.length_singleton]
    split at e
    · cases e2 : tly x l with
      | none =>
        rw [e2] at e; simp only [Option.some.injEq, Prod.mk.injEq] at e
        obtain ⟨rfl, rfl⟩ := e
        omega
      | some p =>
        obtain ⟨c', m'⟩ := p
        rw [e2] at e; simp only [Option.some.injEq, Prod.mk.injEq] at e
        obtain ⟨rfl, rfl⟩ := e
        have := ih c' m' e2
        refine ⟨by omega, by omega, ?_, ?_⟩ <;> split <;> omega
    · have := ih c m e
      omega
theorem round_end {wr X w3 : World} {bm : Nat} (hg : X.grownBy w3 (some bm)) (hX : Below wr.heap.size wr X) :
    (∀ ga i q, ga < wr.heap.size → ga ≠ bm → Rat wr ga i q → Rat w3 ga i q) ∧ wr.heap.size ≤ w3.heap.size ∧ (∀ (w0 : World), w0.heap.size ≤ bm → w0.heap.size ≤ wr.heap.size → Below w0.heap.size w0 wr → Below w0.heap.size w0 w3) := by
  have hs := hX.size
  have hs2 := hg.size
  refine ⟨fun ga i q h1 h2 h3 => (h3.below hX h1).grown hg (by omega) (by intro e; exact h2 (Option.some.inj e)), by omega, fun w0 h1 h2 h3 => ?_⟩
  exact (h3.trans (hX.mono h2)).grown hg (by omega) (fun p hp => by cases hp; exact h1)
set_option maxRecDepth 100000 in
set_option maxHeartbeats 4000000 in
theorem tal_any (s g : ByteArray) (plain : Bool) (w : World) (hg : dgsB s.data.toList = true) (hgs : g = sbs plain) :
    Calls Try.prog 27 #[.string s, .string g] w fun e w' => ∃ b n, e = .returned (.map (some b)) ∧ Tal w' b n (rsAll plain s) ∧ n ≤ 5000 ∧ w.heap.size ≤ b ∧ Below w.heap.size w w' := by
  have hsl : s.data.toList.length = s.size := by simp
  have HSL := Lib.hid hsl
  have HG := Lib.hid hg
  have HGS := Lib.hid hgs
  obtain ⟨hl1, hl2, _⟩ := dgs_len hg
  rw [hsl] at hl1 hl2
  clear hg hsl hgs
  have hmm := @run_makeMap Try.prog
  obtain ⟨rs, hrs⟩ : ∃ rs, rs = (allK plain s.data.toList (s.size - 1)).map sr := ⟨_, rfl⟩
  have HRS0 := Lib.hid hrs
  have HPOS : Hid (0 < rs.length) := by show 0 < _; rw [hrs, List.length_map, allK_len]; exact Nat.pow_pos (sgsN_pos plain)
  clear hrs
  go_enter Try.func27, Try.ntmps27
  go_wp2_with (go_at_call 44; go_must ((with_reducible refine (rec_any s g plain _ HG.out HGS.out).mono ?_); rintro e w1 ⟨v, rfl, hrk, b1⟩; rw [← HRS0.out] at hrk; obtain ⟨ga, capa, rfl, hga, hgl, hc⟩ := hrk.form HPOS.out))
  have hrs := HRS0.out
  have HRS : Hid (rs = rsAll plain s) := hrs
  have HEL : Hid (∀ q ∈ rs, ∃ t, q = sr t ∧ (rk t).Fine ∧ 0 ≤ q.2 ∧ q.2 ≤ 1000) := by
    intro q hq
    rw [hrs, List.mem_map] at hq
    obtain ⟨t, ht, rfl⟩ := hq
    rw [← HSL.out] at ht
    have hni := allK_sig HG.out t ht
    have hle := nSg_le t
    have hlen := hni.len
    rw [HSL.out] at hni hlen
    exact ⟨t, rfl, hni.fine hl2, by simp [sr], by simp only [sr]; omega⟩
  have hn : rs.length ≤ 4096 := by rw [hrs, List.length_map]; exact allK_len_le _ _ _ (by omega)
  obtain ⟨n, hnn⟩ : ∃ n, n = rs.length := ⟨_, rfl⟩
  have HN := Lib.hid hnn
  rw [← hnn] at hn
  rw [← hnn]
  have HC := Lib.hid hc
  have hz1 := b1.size
  simp only [World.size_alloc] at hz1 hga
  obtain ⟨bm, hbm⟩ : ∃ bm, bm = w.heap.size := ⟨_, rfl⟩
  have HBM := Lib.hid hbm
  have hgb : ga ≠ bm := by omega
  have hbml : bm < w1.heap.size := by omega
  have hb1 : Below w.heap.size w w1 := chain (w := w) (by go_grown) b1
  have HT0 : Hid (Tal w1 bm 0 []) := by rw [hbm]; exact (Tal.made w).below b1
  rw [← hbm]
  clear hrk hc hrs hnn b1 hbm
  go_loopw [16] (fun i wr => ∃ (k : Nat), k ≤ n ∧ i = .int .i64 k ∧ Hid (Tal wr bm k (rs.take k)) ∧ Hid (∀ i (hi : i < rs.length), Rat wr ga i rs[i]) ∧ ga < wr.heap.size ∧ bm < wr.heap.size ∧ Below w.heap.size w wr) (fun i _ => n - (intOf i).toNat)
  case atStart => exact ⟨0, Nat.zero_le _, rfl, by show Tal _ _ _ _; simpa using HT0.out, HC.out, hgl, hbml, hb1⟩
  case round =>
    obtain ⟨k, hk, rfl, HT, HA, hgl2, hbl2, hbl⟩ := hrel
    have hws := hbl.size
    by_cases hlt : k < n
    · have hlr : k < rs.length := by rw [← HN.out]; exact hlt
      obtain ⟨q, hq⟩ : ∃ q, q = rs[k] := ⟨_, rfl⟩
      have hat := HA.out k hlr
      rw [← hq] at hat
      obtain ⟨ha0, ha1, ha2, ha3⟩ := hat
      obtain ⟨t, ht, hf, _, _⟩ := HEL.out q (by rw [hq]; exact List.getElem_mem _)
      obtain ⟨x, hx⟩ : ∃ x, sval t = x := ⟨_, rfl⟩
      have HQT := Lib.hid ht
      have HF := Lib.hid hf
      have HX := Lib.hid hx
      have HW : Hid ((Lit.int .i64 x).wf = true) := by show _ = _; rw [← hx]; exact rk_wf hf
      have HQV : Hid (q.1.val = x) := by show _ = _; rw [ht, ← hx]; rfl
      have HTK : Hid (rs.take (k + 1) = rs.take k ++ [q]) := by show _ = _; rw [List.take_succ_eq_append_getElem hlr, ← hq]
      have HCN : Hid (∀ c m, tly x (rs.take k) = some (c, m) → 1 ≤ c ∧ c ≤ 5000) := by
        intro c m e
        have := tly_cnt x (rs.take k) (fun q' hq' => by obtain ⟨_, _, _, h3⟩ := HEL.out q' (List.mem_of_mem_take hq'); exact h3) c m e
        have h2 := List.length_take_le k rs
        omega
      clear hq ht hf hx
      cases ho : tly x (rs.take k) with
      | none =>
        have HO := Lib.hid ho
        have HV : Hid ((tly x (rs.take k ++ [q])).getD (0, 0) = (1, q.2)) := by
          show _ = _
          rw [tly_snoc, ho]; unfold tlyS; rw [if_pos HQV.out]; rfl
        clear ho
        go_wp2_with (first | (go_at_call 45; go_must ((with_reducible refine (cl_value2 q t x _ HQT.out HF.out HX.out).mono ?_); rintro e w2 ⟨rfl, rfl⟩)) | (at_lookup; refine look_none _ rfl _ _ rfl bm k (rs.take k) rfl (HT.out.below (by go_grown)) x HO.out rfl HW.out ?_) | (at_mapUpdate; refine put_tal _ rfl _ _ _ rfl bm k (rs.take k) rfl (HT.out.below (by go_grown)) (by omega) q x HQV.out rfl HW.out 1 q.2 rfl HV.out ?_; intro w3 ht3 hg3; have RE := round_end hg3 (show Below wr.heap.size wr _ by go_grown)))
        obtain ⟨re1, re2, re3⟩ := RE
        have HT3 : Hid (Tal w3 bm (k + 1) (rs.take (k + 1))) := by show Tal _ _ _ _; rw [HTK.out]; exact ht3
        have hb3 := re3 w (by rw [HBM.out]; exact Nat.le_refl _) hws hbl
        refine ⟨⟨k + 1, by omega, by go_num, HT3, fun i hi => re1 ga i _ hgl2 hgb (HA.out i hi), by omega, by omega, hb3⟩, by simp [intOf]; omega⟩
      | some p =>
        obtain ⟨c, m⟩ := p
        have HO := Lib.hid ho
        have hcb := HCN.out c m ho
        obtain ⟨hcb1, hcb2⟩ := hcb
        by_cases hqm : q.2 < m
        · have HV : Hid ((tly x (rs.take k ++ [q])).getD (0, 0) = (c + 1, q.2)) := by
            show _ = _
            rw [tly_snoc, ho]; unfold tlyS; rw [if_pos HQV.out]; simp [hqm]
          clear ho
          go_wp2_with (first | (go_at_call 45; go_must ((with_reducible refine (cl_value2 q t x _ HQT.out HF.out HX.out).mono ?_); rintro e w2 ⟨rfl, rfl⟩)) | (at_lookup; refine look_some _ rfl _ _ rfl bm k (rs.take k) rfl (HT.out.below (by go_grown)) x c m HO.out rfl HW.out ?_) | (at_mapUpdate; refine put_tal _ rfl _ _ _ rfl bm k (rs.take k) rfl (HT.out.below (by go_grown)) (by omega) q x HQV.out rfl HW.out (c + 1) q.2 rfl HV.out ?_; intro w3 ht3 hg3; have RE := round_end hg3 (show Below wr.heap.size wr _ by go_grown)))
          obtain ⟨re1, re2, re3⟩ := RE
          have HT3 : Hid (Tal w3 bm (k + 1) (rs.take (k + 1))) := by show Tal _ _ _ _; rw [HTK.out]; exact ht3
          have hb3 := re3 w (by rw [HBM.out]; exact Nat.le_refl _) hws hbl
          refine ⟨⟨k + 1, by omega, by go_num, HT3, fun i hi => re1 ga i _ hgl2 hgb (HA.out i hi), by omega, by omega, hb3⟩, by simp [intOf]; omega⟩
        · have HV : Hid ((tly x (rs.take k ++ [q])).getD (0, 0) = (c + 1, m)) := by
            show _ = _
            rw [tly_snoc, ho]; unfold tlyS; rw [if_pos HQV.out]; simp [hqm]
          clear ho
          go_wp2_with (first | (go_at_call 45; go_must ((with_reducible refine (cl_value2 q t x _ HQT.out HF.out HX.out).mono ?_); rintro e w2 ⟨rfl, rfl⟩)) | (at_lookup; refine look_some _ rfl _ _ rfl bm k (rs.take k) rfl (HT.out.below (by go_grown)) x c m HO.out rfl HW.out ?_) | (at_mapUpdate; refine put_tal _ rfl _ _ _ rfl bm k (rs.take k) rfl (HT.out.below (by go_grown)) (by omega) q x HQV.out rfl HW.out (c + 1) m rfl HV.out ?_; intro w3 ht3 hg3; have RE := round_end hg3 (show Below wr.heap.size wr _ by go_grown)))
          obtain ⟨re1, re2, re3⟩ := RE
          have HT3 : Hid (Tal w3 bm (k + 1) (rs.take (k + 1))) := by show Tal _ _ _ _; rw [HTK.out]; exact ht3
          have hb3 := re3 w (by rw [HBM.out]; exact Nat.le_refl _) hws hbl
          refine ⟨⟨k + 1, by omega, by go_num, HT3, fun i hi => re1 ga i _ hgl2 hgb (HA.out i hi), by omega, by omega, hb3⟩, by simp [intOf]; omega⟩
    · have HK : Hid (rs.take k = rs) := by show _ = _; rw [show k = n by omega, HN.out, List.take_length]
      go_wp2
      go_ret
      exact ⟨bm, k, rfl, by rw [← HRS.out, ← HK.out]; exact HT.out, by omega, by rw [HBM.out]; exact Nat.le_refl _, hbl⟩
end Go.Proofs.Ytlgleghofiflaab

/-
  The laws of FewestSigns and FirstFewestSigns, as the program answers.
-/
import Derived.Test.YtlgleghofiflaaaSgFew
namespace Go.Proofs.Ytlgleghofiflaaa
open Go.RowKit

theorem fw_tly (s : ByteArray) (x : Int) (h : (dgsB s.data.toList && numB x) = true) : ((tly x (rsAll false s)).getD (0, 0)).2 = fwN s x ∧ (tly x (rsAll false s)).isSome = oB (fwO s x) := by
  rw [tly_all]
  unfold fwN fwO
  rw [h]
  simp only [if_true]
  cases few (madeL false s.data.toList x) with
  | none => exact ⟨rfl, rfl⟩
  | some b => exact ⟨rfl, rfl⟩
set_option maxHeartbeats 1000000 in
theorem iFewest_any (s : ByteArray) (x : Int) (w : World) (hs : s.size ≤ maxLen) :
    Calls Try.prog 37 #[.string s, .int .i64 x] w fun e w' => e = .returned (.tuple #[.int .i64 (fwN s x), .bool (oB (fwO s x))]) ∧ Below w.heap.size w w' := by
  cases hd : dgsB s.data.toList with
  | false =>
    have HF : Hid (fwO s x = none) := by show _ = _; unfold fwO; rw [hd]; rfl
    have HD := Lib.hid hd
    clear hd
    go_enter Try.func37, Try.ntmps37
    go_wp2_with (first | (go_at_call 59; go_must ((with_reducible refine (digs_b _ false _ hs HD.out).mono ?_); rintro e w' ⟨rfl, rfl⟩)))
    go_ret2
    exact ⟨ret_ib (by unfold fwN; rw [HF.out]) (by rw [HF.out]; rfl), Below.refl _ _⟩
  | true =>
    cases hn : numB x with
    | false =>
      have HF : Hid (fwO s x = none) := by show _ = _; unfold fwO; rw [hn, Bool.and_false]; rfl
      have HD := Lib.hid hd
      have HN := Lib.hid hn
      clear hd hn
      go_enter Try.func37, Try.ntmps37
      go_wp2_with (first | (go_at_call 59; go_must ((with_reducible refine (digs_b _ true _ hs HD.out).mono ?_); rintro e w' ⟨rfl, rfl⟩)) | (go_at_call 60; go_must ((with_reducible refine (num_b _ false _ HN.out).mono ?_); rintro e w' ⟨rfl, rfl⟩)))
      go_ret2
      exact ⟨ret_ib (by unfold fwN; rw [HF.out]) (by rw [HF.out]; rfl), Below.refl _ _⟩
    | true =>
      have HF := Lib.hid (fw_tly s x (by rw [hd, hn]; rfl))
      have HW := Lib.hid (num_wf hn)
      have HD := Lib.hid hd
      have HN := Lib.hid hn
      have HS : Hid (⟨#[42, 43, 45, 32]⟩ = sbs false) := rfl
      clear hd hn
      go_enter Try.func37, Try.ntmps37
      go_wp2_with (first | (go_at_call 59; go_must ((with_reducible refine (digs_b _ true _ hs HD.out).mono ?_); rintro e w' ⟨rfl, rfl⟩)) | (go_at_call 60; go_must ((with_reducible refine (num_b _ true _ HN.out).mono ?_); rintro e w' ⟨rfl, rfl⟩)) | (go_at_call 61; go_must ((with_reducible refine (tal_any s _ false _ HD.out HS.out).mono ?_); rintro e w1 ⟨b, n, rfl, htal, hn5, hbw, b1⟩; have HTL := Lib.hid htal; clear htal)) | (at_lookup; refine look_ok _ rfl _ _ rfl b n (rsAll false s) rfl HTL.out x rfl HW.out ?_))
      go_ret2
      exact ⟨ret_ib HF.out.1 HF.out.2, chain b1 (by go_grown)⟩
theorem FnExactFewestSigns_law (s : ByteArray) (x : Int) (hs : s.size ≤ maxLen) (_hx : (Lit.int .i64 x).wf = true) (w : World) :
    Calls Try.prog 12 #[.string s, .int .i64 x] w fun e w' => e = .returned (.bool true) ∧ Below w.heap.size w w' := by
  have hm := hs
  unfold maxLen at hs
  by_cases hb : s.size ≤ 1048576
  · go_enter Try.func12, Try.ntmps12
    go_wp2_with (first | (go_at_call 36; go_must ((with_reducible refine (sFewest_any _ _ _ hm).mono ?_); rintro e w1 ⟨rfl, b1⟩)) | (go_at_call 37; go_must ((with_reducible refine (iFewest_any _ _ _ hm).mono ?_); rintro e w2 ⟨rfl, b2⟩)))
    go_ret
    exact ⟨rfl, chain b1 b2⟩
  · go_enter Try.func12, Try.ntmps12
    go_wp2_with fail
    go_ret
    exact ⟨rfl, Below.refl _ _⟩
/-- The first with so few. -/
def ffL (s : ByteArray) (x m : Int) : Option (List UInt8) := (allK false s.data.toList (s.data.toList.length - 1)).find? (fun t => sval t == x && ((nSg t : Int) == m))
theorem ff_eq (s : ByteArray) (x : Int) (b : List UInt8) (h : few (madeL false s.data.toList x) = some b) : ffL s x (nSg b) = some b := by
  have := (few_min _ b h).1
  unfold madeL at this
  rw [List.find?_filter] at this
  unfold ffL
  rw [← this]
  congr 1
  funext t
  by_cases h1 : sval t = x <;> by_cases h2 : nSg t = nSg b <;> simp [h1, h2] <;> omega
set_option maxHeartbeats 1000000 in
theorem few_cl (t : List UInt8) (b c : Nat) (x m : Int) (w : World) (hn : (rk t).Fine) (hc : w.cell? ⟨b, 0, none⟩ = some (.int .i64 x)) (hb : b < w.heap.size) (hc2 : w.cell? ⟨c, 0, none⟩ = some (.int .i64 m)) (hb2 : c < w.heap.size) :
    Calls Try.prog 63 #[srV (sr t), .pointer (some ⟨b, 0, none⟩), .pointer (some ⟨c, 0, none⟩)] w fun e w' => e = .returned (.bool (sval t == x && ((nSg t : Int) == m))) ∧ Below w.heap.size w w' := by
  obtain ⟨q, hq⟩ : ∃ q, q = sr t := ⟨_, rfl⟩
  have hq2 : q.2 = (nSg t : Int) := by rw [hq]; rfl
  rw [← hq2]
  rw [← hq]
  have HQ := Lib.hid hq
  have HN := Lib.hid hn
  unfold srV
  clear hq hn hq2
  have hbne : ¬ b = w.heap.size := by omega
  have hbne2 : ¬ b = w.heap.size + 1 := by omega
  have hcne : ¬ c = w.heap.size := by omega
  have hcne2 : ¬ c = w.heap.size + 1 := by omega
  have mixed : Try.prog.follows .mixedOrders = true := by kernel_rfl
  by_cases hv : sval t = x
  · have HV := Lib.hid hv
    have hvb : (sval t == x) = true := by simpa using hv
    rw [hvb]
    clear hv hvb
    go_enter Try.func63, Try.ntmps63
    go_wp2
    go_region_with (go_at_call 47; go_must ((with_reducible refine (cl_value2 q t x _ HQ.out HN.out HV.out).mono ?_); rintro e w' ⟨rfl, rfl⟩))
    all_goals go_wp2
    all_goals
      go_ret
      exact ⟨rfl, by go_grown⟩
  · have HV := Lib.hid hv
    have hvb : (sval t == x) = false := by simpa using hv
    obtain ⟨y, hy⟩ : ∃ y, sval t = y := ⟨_, rfl⟩
    have hyx : (y == x) = false := by rw [← hy]; exact hvb
    have hyd : decide (y = x) = false := by simpa using hyx
    have HY := Lib.hid hy
    rw [hvb]
    clear hv hvb hy
    go_enter Try.func63, Try.ntmps63
    go_wp2
    first | (go_region_with (go_at_call 47; ((with_reducible refine (cl_value2 q t y _ HQ.out HN.out HY.out).mono ?_); rintro e w' ⟨rfl, rfl⟩))) | fail
    all_goals go_wp2
    all_goals
      go_ret
      exact ⟨rfl, by go_grown⟩
set_option maxHeartbeats 1000000 in
theorem that_few (s : ByteArray) (b c : Nat) (x m : Int) (w : World) (hg : dgsB s.data.toList = true) (hc : w.cell? ⟨b, 0, none⟩ = some (.int .i64 x)) (hb : b < w.heap.size) (hc2 : w.cell? ⟨c, 0, none⟩ = some (.int .i64 m)) (hb2 : c < w.heap.size) :
    Calls Try.prog 62 #[.string s, .string ⟨#[42, 43, 45, 32]⟩, .func (.func 63) #[] #[.pointer (some ⟨b, 0, none⟩), .pointer (some ⟨c, 0, none⟩)]] w fun e w' => e = .returned (.tuple #[.string (oT (ffL s x m)), .bool (oB (ffL s x m))]) ∧ Below w.heap.size w w' := by
  have hsl : s.data.toList.length = s.size := by simp
  have HG := Lib.hid hg
  have HGS : Hid ((⟨#[42, 43, 45, 32]⟩ : ByteArray) = sbs false) := rfl
  obtain ⟨hl1, hl2, _⟩ := dgs_len hg
  rw [hsl] at hl1 hl2
  obtain ⟨P, hP⟩ : ∃ P : Sr → Bool, P = fun q : Sr => q.1.val == x && (q.2 == m) := ⟨_, rfl⟩
  have HP : Hid (∀ (W1 : World), Below w.heap.size w W1 → ∀ W (k : Nat) (hk : k < ((allK false s.data.toList (s.size - 1)).map sr).length), Below W1.heap.size W1 W → Calls Try.prog 63 #[srV ((allK false s.data.toList (s.size - 1)).map sr)[k], .pointer (some ⟨b, 0, none⟩), .pointer (some ⟨c, 0, none⟩)] W fun e w' => e = .returned (.bool (P (((allK false s.data.toList (s.size - 1)).map sr)[k]))) ∧ Below W.heap.size W w') := by
    intro W1 h1 W k hk hW
    have h2 : Below w.heap.size w W := h1.trans (hW.mono h1.size)
    have hk2 : k < ((allK false s.data.toList (s.data.toList.length - 1)).map sr).length := by rw [hsl]; exact hk
    obtain ⟨t, ht, hf, _⟩ := fine_at (plain := false) hg k hk2
    have ht2 : ((allK false s.data.toList (s.size - 1)).map sr)[k] = sr t := by rw [← ht]; congr 3
    rw [ht2, hP]
    exact few_cl t b c x m W hf (by rw [h2.cell (p := ⟨b, 0, none⟩) hb]; exact hc) (by have := h2.size; omega) (by rw [h2.cell (p := ⟨c, 0, none⟩) hb2]; exact hc2) (by have := h2.size; omega)
  obtain ⟨ts, hts⟩ : ∃ ts, ts = allK false s.data.toList (s.size - 1) := ⟨_, rfl⟩
  have HT := Lib.hid hts
  rw [← hts] at HP
  have hn : ts.length ≤ 4096 := by rw [hts]; exact allK_len_le _ _ _ (by omega)
  have hn0 : 0 < ts.length := by rw [hts, allK_len]; exact Nat.pow_pos (sgsN_pos false)
  have HMP : Hid ((ts.map sr).length = ts.length) := List.length_map _
  have HL : Hid (ffL s x m = ts.find? (fun t => P (sr t))) := by
    show _ = _
    unfold ffL; rw [hsl, hts, hP]; rfl
  rw [HL.out]
  clear hg hsl hc hc2 hts hP
  rcases find_fst P ts with ⟨h1, h2⟩ | ⟨k, hk, h1, h2⟩
  · rw [h2]
    clear h2
    go_enter Try.func62, Try.ntmps62
    go_wp2_with (first | (go_at_call 55; go_must ((with_reducible refine (rec_any s _ false _ HG.out HGS.out).mono ?_); rintro e w1 ⟨v, rfl, hrk, b1⟩; rw [← HT.out] at hrk; have HRK := Lib.hid hrk; clear hrk)) | (go_at_call 72; go_must ((with_reducible refine (idx_few _ (ts.map sr) _ P b c _ HRK.out (by rw [HMP.out]; omega) (by rw [HMP.out]; omega) (HP.out w1 b1)).mono ?_); rintro e w2 ⟨rfl, b2⟩)))
    go_ret2
    exact ⟨rfl, chain b1 b2⟩
  · rw [h2]
    have HK : Hid (k < sgsN false ^ (s.size - 1)) := by show _ < _; rw [← allK_len false s.data.toList, ← HT.out]; exact hk
    clear h2
    go_enter Try.func62, Try.ntmps62
    go_wp2_with (first | (go_at_call 55; go_must ((with_reducible refine (rec_any s _ false _ HG.out HGS.out).mono ?_); rintro e w1 ⟨v, rfl, hrk, b1⟩; rw [← HT.out] at hrk; have HRK := Lib.hid hrk; clear hrk)) | (go_at_call 72; go_must ((with_reducible refine (idx_few _ (ts.map sr) _ P b c _ HRK.out (by rw [HMP.out]; omega) (by rw [HMP.out]; omega) (HP.out w1 b1)).mono ?_); rintro e w2 ⟨rfl, b2⟩; rw [h1])) | (go_at_call 56; go_must ((with_reducible refine (at_any s _ false k _ HG.out HGS.out HK.out).mono ?_); rintro e w3 ⟨rfl, b3⟩)))
    go_ret2
    exact ⟨ret_sb2 (by rw [HT.out]; rfl) rfl, chain (chain b1 b2) b3⟩
set_option maxHeartbeats 1000000 in
theorem iFirstFewest_any (s : ByteArray) (x : Int) (w : World) (hs : s.size ≤ maxLen) :
    Calls Try.prog 39 #[.string s, .int .i64 x] w fun e w' => e = .returned (.tuple #[.string (oT (fwO s x)), .bool (oB (fwO s x))]) ∧ Below w.heap.size w w' := by
  obtain ⟨o, ho⟩ : ∃ o, fwO s x = o := ⟨_, rfl⟩
  obtain ⟨m, hm⟩ : ∃ m, fwN s x = m := ⟨_, rfl⟩
  rw [ho]
  have HO := Lib.hid ho
  have HM := Lib.hid hm
  have HB0 : Hid (oB (fwO s x) = oB o) := by show _ = _; rw [ho]
  cases o with
  | none =>
    clear ho hm
    go_enter Try.func39, Try.ntmps39
    go_wp2_with (first | (go_at_call 37; go_must ((with_reducible refine (iFewest_any s x _ hs).mono ?_); rw [HM.out, HB0.out]; rintro e w1 ⟨rfl, b1⟩; have hz1 : w.heap.size + 1 ≤ w1.heap.size := (by have h := b1.size; rw [World.size_alloc] at h; exact h); have hz2 : w.heap.size ≤ w1.heap.size := (by omega); simp only [oB, Option.isSome_none])))
    go_ret2
    exact ⟨rfl, (chain (w := w) (by go_grown) b1).trans (by go_grown)⟩
  | some b =>
    have HFM : Hid (ffL s x m = some b ∧ dgsB s.data.toList = true) := by
      show _ ∧ _
      unfold fwO at ho
      cases hd : (dgsB s.data.toList && numB x) with
      | false => rw [hd] at ho; cases ho
      | true =>
        rw [hd] at ho
        have h1 : few (madeL false s.data.toList x) = some b := ho
        have h2 : m = (nSg b : Int) := by rw [← hm]; unfold fwN; rw [HO.out]
        refine ⟨by rw [h2]; exact ff_eq s x b h1, ?_⟩
        simp only [Bool.and_eq_true] at hd
        exact hd.1
    clear ho hm
    go_enter Try.func39, Try.ntmps39
    go_wp2_with (first | (go_at_call 37; go_must ((with_reducible refine (iFewest_any s x _ hs).mono ?_); rw [HM.out, HB0.out]; rintro e w1 ⟨rfl, b1⟩; have hcx : w1.cell? ⟨w.heap.size, 0, none⟩ = some (.int .i64 x) := (b1.cell (p := ⟨w.heap.size, 0, none⟩) (by simp)).trans (by simp); have hz1 : w.heap.size + 1 ≤ w1.heap.size := (by have h := b1.size; rw [World.size_alloc] at h; exact h); have hz2 : w.heap.size ≤ w1.heap.size := (by omega); simp only [oB, Option.isSome_some])) | (go_at_call 62; go_must ((with_reducible refine (that_few s _ _ x m _ HFM.out.2 ((((Below.refl w1.heap.size w1).alloc (Nat.le_refl _) _).cell (p := ⟨w.heap.size, 0, none⟩) (show w.heap.size < w1.heap.size by omega)).trans hcx) (by simp; omega) (by simp) (by simp)).mono ?_); rw [HFM.out.1]; rintro e w3 ⟨rfl, b3⟩)))
    go_ret2
    exact ⟨rfl, (((chain (w := w) (by go_grown) b1).alloc hz2 _).trans (b3.mono (by simp; omega)))⟩
set_option maxHeartbeats 400000 in
theorem sFirstFewest_any (s : ByteArray) (x : Int) (w : World) (hs : s.size ≤ maxLen) :
    Calls Try.prog 38 #[.string s, .int .i64 x] w fun e w' => e = .returned (.tuple #[.string (oT (fwO s x)), .bool (oB (fwO s x))]) ∧ Below w.heap.size w w' := by
  cases hd : (dgsB s.data.toList && numB x) with
  | false =>
    have HF : Hid (fwO s x = none) := by show _ = _; unfold fwO; rw [hd]; rfl
    have HD := Lib.hid hd
    clear hd
    go_enter Try.func38, Try.ntmps38
    go_wp2_with (first | (go_at_call 50; go_must ((with_reducible refine (asked_b _ _ false _ hs HD.out).mono ?_); rintro e w' ⟨rfl, rfl⟩)))
    go_ret2
    exact ⟨ret_sb2 (by rw [HF.out]; rfl) (by rw [HF.out]; rfl), Below.refl _ _⟩
  | true =>
    have HF : Hid (fwO s x = few (madeL false s.data.toList x)) := by show _ = _; unfold fwO; rw [hd]; rfl
    have HD := Lib.hid hd
    have HG : Hid (dgsB s.data.toList = true) := by show _ = _; simp only [Bool.and_eq_true] at hd; exact hd.1
    clear hd
    go_enter Try.func38, Try.ntmps38
    go_wp2_with (first | (go_at_call 50; go_must ((with_reducible refine (asked_b _ _ true _ hs HD.out).mono ?_); rintro e w' ⟨rfl, rfl⟩)) | (go_at_call 51; go_must ((with_reducible refine (made_any _ _ _ _ HG.out).mono ?_); rintro e w1 ⟨v, rfl, hst, b1⟩; have HST := Lib.hid hst; clear hst)) | (go_at_call 58; go_must ((with_reducible refine (few_any _ _ _ _ HST.out (made_few HG.out) (made_short HG.out)).mono ?_); rintro e w2 ⟨rfl, rfl⟩)))
    go_ret2
    exact ⟨ret_sb2 (by rw [HF.out]) (by rw [HF.out]), b1⟩
theorem FnExactFirstFewestSigns_law (s : ByteArray) (x : Int) (hs : s.size ≤ maxLen) (_hx : (Lit.int .i64 x).wf = true) (w : World) :
    Calls Try.prog 13 #[.string s, .int .i64 x] w fun e w' => e = .returned (.bool true) ∧ Below w.heap.size w w' := by
  have hm := hs
  unfold maxLen at hs
  by_cases hb : s.size ≤ 1048576
  · go_enter Try.func13, Try.ntmps13
    go_wp2_with (first | (go_at_call 38; go_must ((with_reducible refine (sFirstFewest_any _ _ _ hm).mono ?_); rintro e w1 ⟨rfl, b1⟩)) | (go_at_call 39; go_must ((with_reducible refine (iFirstFewest_any _ _ _ hm).mono ?_); rintro e w2 ⟨rfl, b2⟩)))
    go_ret
    exact ⟨rfl, chain b1 b2⟩
  · go_enter Try.func13, Try.ntmps13
    go_wp2_with fail
    go_ret
    exact ⟨rfl, Below.refl _ _⟩
end Go.Proofs.Ytlgleghofiflaaa

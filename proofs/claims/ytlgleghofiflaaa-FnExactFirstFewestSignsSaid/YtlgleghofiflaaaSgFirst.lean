/-
  The laws of FirstMade and FirstPlain.
-/
import Derived.Test.YtlgleghofiflaaaSgCl
namespace Go.Proofs.Ytlgleghofiflaaa
open Go.RowKit

/-- The first that makes a number. -/
def fstL (plain : Bool) (ds : List UInt8) (x : Int) : Option (List UInt8) := (allK plain ds (ds.length - 1)).find? (fun t => sval t == x)
theorem made_head (plain : Bool) (ds : List UInt8) (x : Int) : (madeL plain ds x).head? = fstL plain ds x := by
  unfold madeL fstL
  rw [List.head?_filter]
/-- What both answer. -/
def fmO (plain : Bool) (s : ByteArray) (x : Int) : Option (List UInt8) := if dgsB s.data.toList && numB x then fstL plain s.data.toList x else none
theorem fine_at {plain : Bool} {ds : List UInt8} (h : dgsB ds = true) (k : Nat) (hk : k < ((allK plain ds (ds.length - 1)).map sr).length) : ∃ t, ((allK plain ds (ds.length - 1)).map sr)[k] = sr t ∧ (rk t).Fine ∧ t ∈ allK plain ds (ds.length - 1) := by
  rw [List.length_map] at hk
  refine ⟨(allK plain ds (ds.length - 1))[k], by simp, ?_, List.getElem_mem _⟩
  exact (allK_sig h _ (List.getElem_mem _)).fine (dgs_len h).2.1
set_option maxHeartbeats 1000000 in
theorem that_way (s g : ByteArray) (plain : Bool) (b : Nat) (x : Int) (w : World) (hg : dgsB s.data.toList = true) (hgs : g = sbs plain) (hc : w.cell? ⟨b, 0, none⟩ = some (.int .i64 x)) (hb : b < w.heap.size) :
    Calls Try.prog 62 #[.string s, .string g, .func (.func 71) #[] #[.pointer (some ⟨b, 0, none⟩)]] w fun e w' => e = .returned (.tuple #[.string (oT (fstL plain s.data.toList x)), .bool (oB (fstL plain s.data.toList x))]) ∧ Below w.heap.size w w' := by
  have hsl : s.data.toList.length = s.size := by simp
  have HSL := Lib.hid hsl
  have HG := Lib.hid hg
  have HGS := Lib.hid hgs
  obtain ⟨hl1, hl2, _⟩ := dgs_len hg
  rw [hsl] at hl1 hl2
  have HC := Lib.hid hc
  have HP : Hid (∀ (W1 : World), Below w.heap.size w W1 → ∀ W (k : Nat) (hk : k < ((allK plain s.data.toList (s.size - 1)).map sr).length), Below W1.heap.size W1 W → Calls Try.prog 71 #[srV ((allK plain s.data.toList (s.size - 1)).map sr)[k], .pointer (some ⟨b, 0, none⟩)] W fun e w' => e = .returned (.bool ((fun q : Sr => q.1.val == x) (((allK plain s.data.toList (s.size - 1)).map sr)[k]))) ∧ Below W.heap.size W w') := by
    intro W1 h1 W k hk hW
    have h2 : Below w.heap.size w W := h1.trans (hW.mono h1.size)
    have hk2 : k < ((allK plain s.data.toList (s.data.toList.length - 1)).map sr).length := by rw [hsl]; exact hk
    obtain ⟨t, ht, hf, _⟩ := fine_at (plain := plain) hg k hk2
    have ht2 : ((allK plain s.data.toList (s.size - 1)).map sr)[k] = sr t := by rw [← ht]; congr 3
    rw [ht2]
    exact way_cl t b x W hf (by rw [h2.cell (p := ⟨b, 0, none⟩) hb]; exact hc) (by have := h2.size; omega)
  obtain ⟨ts, hts⟩ : ∃ ts, ts = allK plain s.data.toList (s.size - 1) := ⟨_, rfl⟩
  have HT := Lib.hid hts
  rw [← hts] at HP
  have hn : ts.length ≤ 4096 := by rw [hts]; exact allK_len_le _ _ _ (by omega)
  have hn0 : 0 < ts.length := by rw [hts, allK_len]; exact Nat.pow_pos (sgsN_pos plain)
  have hmap : (ts.map sr).length = ts.length := List.length_map _
  have HMP := Lib.hid hmap
  have HL : Hid (fstL plain s.data.toList x = ts.find? (fun t => (fun q : Sr => q.1.val == x) (sr t))) := by
    show _ = _
    unfold fstL; rw [hsl, hts]; rfl
  rw [HL.out]
  clear hg hsl hgs hc hts hmap
  rcases find_fst (fun q : Sr => q.1.val == x) ts with ⟨h1, h2⟩ | ⟨k, hk, h1, h2⟩
  · rw [h2]
    clear h2
    go_enter Try.func62, Try.ntmps62
    go_wp2_with (first | (go_at_call 55; go_must ((with_reducible refine (rec_any s g plain _ HG.out HGS.out).mono ?_); rintro e w1 ⟨v, rfl, hrk, b1⟩; rw [← HT.out] at hrk; have HRK := Lib.hid hrk; clear hrk)) | (go_at_call 72; go_must ((with_reducible refine (idx_way _ (ts.map sr) _ (fun q : Sr => q.1.val == x) b _ HRK.out (by rw [HMP.out]; omega) (by rw [HMP.out]; omega) (HP.out w1 b1)).mono ?_); rintro e w2 ⟨rfl, b2⟩)))
    go_ret2
    exact ⟨rfl, chain b1 b2⟩
  · rw [h2]
    have HK : Hid (k < sgsN plain ^ (s.size - 1)) := by show _ < _; rw [← allK_len plain s.data.toList, ← HT.out]; exact hk
    clear h2
    go_enter Try.func62, Try.ntmps62
    go_wp2_with (first | (go_at_call 55; go_must ((with_reducible refine (rec_any s g plain _ HG.out HGS.out).mono ?_); rintro e w1 ⟨v, rfl, hrk, b1⟩; rw [← HT.out] at hrk; have HRK := Lib.hid hrk; clear hrk)) | (go_at_call 72; go_must ((with_reducible refine (idx_way _ (ts.map sr) _ (fun q : Sr => q.1.val == x) b _ HRK.out (by rw [HMP.out]; omega) (by rw [HMP.out]; omega) (HP.out w1 b1)).mono ?_); rintro e w2 ⟨rfl, b2⟩; rw [h1])) | (go_at_call 56; go_must ((with_reducible refine (at_any s g plain k _ HG.out HGS.out HK.out).mono ?_); rintro e w3 ⟨rfl, b3⟩)))
    go_ret2
    exact ⟨ret_sb2 (by rw [HT.out]; rfl) rfl, chain (chain b1 b2) b3⟩
theorem way_any (s g : ByteArray) (plain : Bool) (x : Int) (w : World) (hs : s.size ≤ maxLen) (hgs : g = sbs plain) :
    Calls Try.prog 54 #[.string s, .string g, .int .i64 x] w fun e w' => e = .returned (.tuple #[.string (oT (fmO plain s x)), .bool (oB (fmO plain s x))]) ∧ Below w.heap.size w w' := by
  have HGS := Lib.hid hgs
  clear hgs
  cases hd : dgsB s.data.toList with
  | false =>
    have HF : Hid (fmO plain s x = none) := by show _ = _; unfold fmO; rw [hd]; rfl
    have HD := Lib.hid hd
    clear hd
    go_enter Try.func54, Try.ntmps54
    go_wp2_with (first | (go_at_call 59; go_must ((with_reducible refine (digs_b _ false _ hs HD.out).mono ?_); rintro e w' ⟨rfl, rfl⟩)))
    go_ret2
    exact ⟨ret_sb2 (by rw [HF.out]; rfl) (by rw [HF.out]; rfl), by go_grown⟩
  | true =>
    cases hn : numB x with
    | false =>
      have HF : Hid (fmO plain s x = none) := by show _ = _; unfold fmO; rw [hn, Bool.and_false]; rfl
      have HD := Lib.hid hd
      have HN := Lib.hid hn
      clear hd hn
      go_enter Try.func54, Try.ntmps54
      go_wp2_with (first | (go_at_call 59; go_must ((with_reducible refine (digs_b _ true _ hs HD.out).mono ?_); rintro e w' ⟨rfl, rfl⟩)) | (go_at_call 60; go_must ((with_reducible refine (num_b _ false _ HN.out).mono ?_); rintro e w' ⟨rfl, rfl⟩)))
      go_ret2
      exact ⟨ret_sb2 (by rw [HF.out]; rfl) (by rw [HF.out]; rfl), by go_grown⟩
    | true =>
      have HF : Hid (fmO plain s x = fstL plain s.data.toList x) := by show _ = _; unfold fmO; rw [hd, hn]; rfl
      have HD := Lib.hid hd
      have HN := Lib.hid hn
      clear hd hn
      go_enter Try.func54, Try.ntmps54
      go_wp2_with (first | (go_at_call 59; go_must ((with_reducible refine (digs_b _ true _ hs HD.out).mono ?_); rintro e w' ⟨rfl, rfl⟩)) | (go_at_call 60; go_must ((with_reducible refine (num_b _ true _ HN.out).mono ?_); rintro e w' ⟨rfl, rfl⟩)) | (go_at_call 62; go_must ((with_reducible refine (that_way s g plain _ x _ HD.out HGS.out (by simp) (by simp)).mono ?_); rintro e w1 ⟨rfl, b1⟩)))
      go_ret2
      exact ⟨ret_sb2 (by rw [HF.out]) (by rw [HF.out]), chain (by go_grown) b1⟩
theorem iFirstMade_any (s : ByteArray) (x : Int) (w : World) (hs : s.size ≤ maxLen) :
    Calls Try.prog 28 #[.string s, .int .i64 x] w fun e w' => e = .returned (.tuple #[.string (oT (fmO false s x)), .bool (oB (fmO false s x))]) ∧ Below w.heap.size w w' := by
  go_enter Try.func28, Try.ntmps28
  go_wp2_with (first | (go_at_call 54; go_must ((with_reducible refine (way_any s ⟨#[42, 43, 45, 32]⟩ false x _ hs (by decide)).mono ?_); rintro e w1 ⟨rfl, b1⟩)))
  go_ret2
  exact ⟨rfl, b1⟩
set_option maxHeartbeats 400000 in
theorem sFirstMade_any (s : ByteArray) (x : Int) (w : World) (hs : s.size ≤ maxLen) :
    Calls Try.prog 27 #[.string s, .int .i64 x] w fun e w' => e = .returned (.tuple #[.string (oT (fmO false s x)), .bool (oB (fmO false s x))]) ∧ Below w.heap.size w w' := by
  cases hd : (dgsB s.data.toList && numB x) with
  | false =>
    have HF : Hid (fmO false s x = none) := by show _ = _; unfold fmO; rw [hd]; rfl
    have HD := Lib.hid hd
    clear hd
    go_enter Try.func27, Try.ntmps27
    go_wp2_with (first | (go_at_call 50; go_must ((with_reducible refine (asked_b _ _ false _ hs HD.out).mono ?_); rintro e w' ⟨rfl, rfl⟩)))
    go_ret2
    exact ⟨ret_sb2 (by rw [HF.out]; rfl) (by rw [HF.out]; rfl), Below.refl _ _⟩
  | true =>
    have HF : Hid (fmO false s x = (madeL false s.data.toList x).head?) := by show _ = _; unfold fmO; rw [hd, made_head]; rfl
    have HD := Lib.hid hd
    have HG : Hid (dgsB s.data.toList = true) := by show _ = _; simp only [Bool.and_eq_true] at hd; exact hd.1
    have HL : Hid ((madeL false s.data.toList x).length ≤ 1000000) := by
      show _ ≤ _
      obtain ⟨h1, h2, _⟩ := dgs_len HG.out
      exact Nat.le_trans (List.length_filter_le _ _) (Nat.le_trans (allK_len_le _ _ _ (by omega)) (by decide))
    clear hd
    go_enter Try.func27, Try.ntmps27
    go_wp2_with (first | (go_at_call 50; go_must ((with_reducible refine (asked_b _ _ true _ hs HD.out).mono ?_); rintro e w' ⟨rfl, rfl⟩)) | (go_at_call 51; go_must ((with_reducible refine (made_any _ _ _ _ HG.out).mono ?_); rintro e w1 ⟨v, rfl, hst, b1⟩; have HST := Lib.hid hst; clear hst)) | (go_at_call 53; go_must ((with_reducible refine (sgFirst_any _ _ _ _ HST.out HL.out).mono ?_); rintro e w2 ⟨rfl, rfl⟩)))
    go_ret2
    exact ⟨ret_sb2 (by rw [HF.out]) (by rw [HF.out]), b1⟩
theorem FnExactFirstMade_law (s : ByteArray) (x : Int) (hs : s.size ≤ maxLen) (_hx : (Lit.int .i64 x).wf = true) (w : World) :
    Calls Try.prog 9 #[.string s, .int .i64 x] w fun e w' => e = .returned (.bool true) ∧ Below w.heap.size w w' := by
  have hm := hs
  unfold maxLen at hs
  by_cases hb : s.size ≤ 1048576
  · go_enter Try.func9, Try.ntmps9
    go_wp2_with (first | (go_at_call 27; go_must ((with_reducible refine (sFirstMade_any _ _ _ hm).mono ?_); rintro e w1 ⟨rfl, b1⟩)) | (go_at_call 28; go_must ((with_reducible refine (iFirstMade_any _ _ _ hm).mono ?_); rintro e w2 ⟨rfl, b2⟩)))
    go_ret
    exact ⟨rfl, chain b1 b2⟩
  · go_enter Try.func9, Try.ntmps9
    go_wp2_with fail
    go_ret
    exact ⟨rfl, Below.refl _ _⟩
theorem iFirstPlain_any (s : ByteArray) (x : Int) (w : World) (hs : s.size ≤ maxLen) :
    Calls Try.prog 30 #[.string s, .int .i64 x] w fun e w' => e = .returned (.tuple #[.string (oT (fmO true s x)), .bool (oB (fmO true s x))]) ∧ Below w.heap.size w w' := by
  go_enter Try.func30, Try.ntmps30
  go_wp2_with (first | (go_at_call 54; go_must ((with_reducible refine (way_any s ⟨#[43, 45, 32]⟩ true x _ hs (by decide)).mono ?_); rintro e w1 ⟨rfl, b1⟩)))
  go_ret2
  exact ⟨rfl, b1⟩
set_option maxHeartbeats 400000 in
theorem sFirstPlain_any (s : ByteArray) (x : Int) (w : World) (hs : s.size ≤ maxLen) :
    Calls Try.prog 29 #[.string s, .int .i64 x] w fun e w' => e = .returned (.tuple #[.string (oT (fmO true s x)), .bool (oB (fmO true s x))]) ∧ Below w.heap.size w w' := by
  cases hd : (dgsB s.data.toList && numB x) with
  | false =>
    have HF : Hid (fmO true s x = none) := by show _ = _; unfold fmO; rw [hd]; rfl
    have HD := Lib.hid hd
    clear hd
    go_enter Try.func29, Try.ntmps29
    go_wp2_with (first | (go_at_call 50; go_must ((with_reducible refine (asked_b _ _ false _ hs HD.out).mono ?_); rintro e w' ⟨rfl, rfl⟩)))
    go_ret2
    exact ⟨ret_sb2 (by rw [HF.out]; rfl) (by rw [HF.out]; rfl), Below.refl _ _⟩
  | true =>
    have HF : Hid (fmO true s x = (madeL true s.data.toList x).head?) := by show _ = _; unfold fmO; rw [hd, made_head]; rfl
    have HD := Lib.hid hd
    have HG : Hid (dgsB s.data.toList = true) := by show _ = _; simp only [Bool.and_eq_true] at hd; exact hd.1
    have HL : Hid ((madeL true s.data.toList x).length ≤ 1000000) := by
      show _ ≤ _
      obtain ⟨h1, h2, _⟩ := dgs_len HG.out
      exact Nat.le_trans (List.length_filter_le _ _) (Nat.le_trans (allK_len_le _ _ _ (by omega)) (by decide))
    clear hd
    go_enter Try.func29, Try.ntmps29
    go_wp2_with (first | (go_at_call 50; go_must ((with_reducible refine (asked_b _ _ true _ hs HD.out).mono ?_); rintro e w' ⟨rfl, rfl⟩)) | (go_at_call 51; go_must ((with_reducible refine (made_any _ _ _ _ HG.out).mono ?_); rintro e w1 ⟨v, rfl, hst, b1⟩; have HST := Lib.hid hst; clear hst)) | (go_at_call 53; go_must ((with_reducible refine (sgFirst_any _ _ _ _ HST.out HL.out).mono ?_); rintro e w2 ⟨rfl, rfl⟩)))
    go_ret2
    exact ⟨ret_sb2 (by rw [HF.out]) (by rw [HF.out]), b1⟩
theorem FnExactFirstPlain_law (s : ByteArray) (x : Int) (hs : s.size ≤ maxLen) (_hx : (Lit.int .i64 x).wf = true) (w : World) :
    Calls Try.prog 10 #[.string s, .int .i64 x] w fun e w' => e = .returned (.bool true) ∧ Below w.heap.size w w' := by
  have hm := hs
  unfold maxLen at hs
  by_cases hb : s.size ≤ 1048576
  · go_enter Try.func10, Try.ntmps10
    go_wp2_with (first | (go_at_call 29; go_must ((with_reducible refine (sFirstPlain_any _ _ _ hm).mono ?_); rintro e w1 ⟨rfl, b1⟩)) | (go_at_call 30; go_must ((with_reducible refine (iFirstPlain_any _ _ _ hm).mono ?_); rintro e w2 ⟨rfl, b2⟩)))
    go_ret
    exact ⟨rfl, chain b1 b2⟩
  · go_enter Try.func10, Try.ntmps10
    go_wp2_with fail
    go_ret
    exact ⟨rfl, Below.refl _ _⟩
end Go.Proofs.Ytlgleghofiflaaa

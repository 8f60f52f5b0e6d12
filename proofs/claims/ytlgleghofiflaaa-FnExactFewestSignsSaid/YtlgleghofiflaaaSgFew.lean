/-
  The laws of FewestSigns and FirstFewestSigns.
-/
import Derived.Test.YtlgleghofiflaaaSgCnt
import Derived.Test.YtlgleghofiflaaaSgFirst
namespace Go.Proofs.Ytlgleghofiflaaa
open Go.RowKit

theorem cnt_t (t : List UInt8) (w : World) (h : t.length ≤ 1000) :
    Calls Try.prog 48 #[.string ⟨t.toArray⟩] w fun e w' => e = .returned (.int .i64 (nSg t)) ∧ w = w' := by
  have e1 : (⟨t.toArray⟩ : ByteArray).size = t.length := by show t.toArray.size = _; simp
  exact cnt_any ⟨t.toArray⟩ w (by rw [e1]; unfold maxLen; omega)
/-- The best behind k texts. -/
def bst (ts : List (List UInt8)) (k : Nat) : List UInt8 := (few (ts.take k)).getD (ts.getD 0 [])
theorem bst_zero (ts : List (List UInt8)) : bst ts 0 = ts.getD 0 [] := by simp [bst, few]
theorem bst_succ (ts : List (List UInt8)) (k : Nat) (h : k < ts.length) : bst ts (k + 1) = if nSg ts[k] < nSg (bst ts k) then ts[k] else bst ts k := by
  unfold bst
  rw [List.take_succ_eq_append_getElem h, few_snoc]
  cases k with
  | zero =>
    have : ts.getD 0 [] = ts[0] := by rw [List.getD_eq_getElem?_getD, List.getElem?_eq_getElem h]; rfl
    rw [List.take_zero]
    show ts[0] = if nSg ts[0] < nSg (ts.getD 0 []) then ts[0] else ts.getD 0 []
    rw [this]; split <;> rfl
  | succ k =>
    cases e : few (ts.take (k + 1)) with
    | none =>
      exfalso
      cases e2 : ts.take (k + 1) with
      | nil =>
        have h3 : (ts.take (k + 1)).length = k + 1 := by rw [List.length_take]; omega
        rw [e2] at h3; simp at h3
      | cons a l => rw [e2] at e; cases e
    | some b => simp
set_option maxHeartbeats 1000000 in
theorem few_any (B : Nat) (ts : List (List UInt8)) (v : Value) (w : World) (h : Strs B ts v w) (hn : ts.length ≤ 1000000) (hl : ∀ t ∈ ts, t.length ≤ 1000) :
    Calls Try.prog 58 #[v] w fun e w' => e = .returned (.tuple #[.string (oT (few ts)), .bool (oB (few ts))]) ∧ w = w' := by
  rcases h.form with ⟨rfl, h0⟩ | ⟨g, cap, rfl, _, _, hc, _⟩
  · have : ts = [] := List.eq_nil_of_length_eq_zero h0
    subst this
    clear h hl
    go_enter Try.func58, Try.ntmps58
    go_wp2
    go_ret2
    exact ⟨rfl, rfl⟩
  · cases hts : ts with
    | nil =>
      subst hts
      clear h hc hl
      go_enter Try.func58, Try.ntmps58
      go_wp2
      go_ret2
      exact ⟨rfl, rfl⟩
    | cons t0 tl =>
      rw [← hts]
      have HTS := Lib.hid hts
      have hpos : 0 < ts.length := by rw [hts]; simp
      have hc0 : w.cell? ⟨g, 0, none⟩ = some (.string ⟨t0.toArray⟩) := by
        have := hc 0 hpos
        rw [hts] at this; simpa [strV] using this
      have HC := Lib.hid hc
      have HLL := Lib.hid hl
      obtain ⟨n, hnn⟩ : ∃ n, n = ts.length := ⟨_, rfl⟩
      have HN := Lib.hid hnn
      rw [← hnn] at hn hpos
      rw [← hnn]
      have hb : ((n : Int) == 0) = false := by simp; omega
      have hb2 : (0 : Int) < (n : Int) := by omega
      clear h hc hnn hts hl
      go_enter Try.func58, Try.ntmps58
      go_wp2
      go_loop [4, 15] (fun b i => ∃ (k : Nat) (u : List UInt8), k ≤ n ∧ i = .int .i64 k ∧ b = .string ⟨u.toArray⟩ ∧ u.length ≤ 1000 ∧ Hid (u = bst ts k)) (fun _ i => n - (intOf i).toNat)
      case atStart => exact ⟨0, t0, Nat.zero_le _, rfl, rfl, HLL.out t0 (by rw [HTS.out]; simp), by show _ = _; rw [bst_zero, HTS.out]; rfl⟩
      case round =>
        obtain ⟨k, u, hk, rfl, rfl, hul, HU⟩ := hrel
        by_cases hlt : k < n
        · have hlr : k < ts.length := by rw [← HN.out]; exact hlt
          obtain ⟨t, ht⟩ : ∃ t, t = ts[k] := ⟨_, rfl⟩
          have hck : w.cell? ⟨g, k, none⟩ = some (.string ⟨t.toArray⟩) := by
            rw [HC.out k hlr, ht, List.getD_eq_getElem?_getD, List.getElem?_eq_getElem hlr]; rfl
          have htl : t.length ≤ 1000 := HLL.out t (by rw [ht]; exact List.getElem_mem _)
          have HB := Lib.hid (bst_succ ts k hlr)
          have HTT := Lib.hid ht
          clear ht
          by_cases hcmp : nSg t < nSg u
          · have HX : Hid (t = bst ts (k + 1)) := by show _ = _; rw [HB.out, ← HTT.out, ← HU.out, if_pos hcmp]
            have hcmp' : (nSg t : Int) < (nSg u : Int) := by omega
            go_wp2_with (first | (go_at_call 48; ((with_reducible refine (cnt_t t _ htl).mono ?_); rintro e w' ⟨rfl, rfl⟩)) | (go_at_call 48; go_must ((with_reducible refine (cnt_t u _ hul).mono ?_); rintro e w' ⟨rfl, rfl⟩)))
            go_round
            case rel => exact ⟨k + 1, t, by omega, by go_num, rfl, htl, HX⟩
            case measure => simp [intOf]; omega
          · have HX : Hid (u = bst ts (k + 1)) := by show _ = _; rw [HB.out, ← HTT.out, ← HU.out, if_neg hcmp]
            have hcmp' : ¬ (nSg t : Int) < (nSg u : Int) := by omega
            go_wp2_with (first | (go_at_call 48; ((with_reducible refine (cnt_t t _ htl).mono ?_); rintro e w' ⟨rfl, rfl⟩)) | (go_at_call 48; go_must ((with_reducible refine (cnt_t u _ hul).mono ?_); rintro e w' ⟨rfl, rfl⟩)))
            go_round
            case rel => exact ⟨k + 1, u, by omega, by go_num, rfl, hul, HX⟩
            case measure => simp [intOf]; omega
        · have HF : Hid (few ts = some u) := by
            show _ = _
            have h1 := HU.out
            unfold bst at h1
            rw [List.take_of_length_le (by rw [← HN.out]; omega), HTS.out] at h1
            rw [HTS.out, h1]
            rfl
          go_wp2
          go_ret2
          exact ⟨ret_sb2 (by rw [HF.out]; rfl) (by rw [HF.out]; rfl), rfl⟩
/-- What both answer. -/
def fwO (s : ByteArray) (x : Int) : Option (List UInt8) := if dgsB s.data.toList && numB x then few (madeL false s.data.toList x) else none
def fwN (s : ByteArray) (x : Int) : Int := match fwO s x with | some t => (nSg t : Int) | none => 0
theorem made_short {plain : Bool} {s : ByteArray} {x : Int} (h : dgsB s.data.toList = true) : ∀ t ∈ madeL plain s.data.toList x, t.length ≤ 1000 := by
  intro t ht
  have := (allK_sig h t (List.mem_filter.1 ht).1).len
  have h2 := (dgs_len h).2.1
  omega
theorem made_few {plain : Bool} {s : ByteArray} {x : Int} (h : dgsB s.data.toList = true) : (madeL plain s.data.toList x).length ≤ 1000000 := by
  obtain ⟨h1, h2, _⟩ := dgs_len h
  exact Nat.le_trans (List.length_filter_le _ _) (Nat.le_trans (allK_len_le _ _ _ (by omega)) (by decide))
theorem few_mem (l : List (List UInt8)) (b : List UInt8) (h : few l = some b) : b ∈ l := List.mem_of_find?_eq_some (few_min l b h).1
set_option maxHeartbeats 1000000 in
theorem sFewest_any (s : ByteArray) (x : Int) (w : World) (hs : s.size ≤ maxLen) :
    Calls Try.prog 36 #[.string s, .int .i64 x] w fun e w' => e = .returned (.tuple #[.int .i64 (fwN s x), .bool (oB (fwO s x))]) ∧ Below w.heap.size w w' := by
  cases hd : (dgsB s.data.toList && numB x) with
  | false =>
    have HF : Hid (fwO s x = none) := by show _ = _; unfold fwO; rw [hd]; rfl
    have HD := Lib.hid hd
    clear hd
    go_enter Try.func36, Try.ntmps36
    go_wp2_with (first | (go_at_call 50; go_must ((with_reducible refine (asked_b _ _ false _ hs HD.out).mono ?_); rintro e w' ⟨rfl, rfl⟩)))
    go_ret2
    exact ⟨ret_ib (by unfold fwN; rw [HF.out]) (by rw [HF.out]; rfl), Below.refl _ _⟩
  | true =>
    have HF : Hid (fwO s x = few (madeL false s.data.toList x)) := by show _ = _; unfold fwO; rw [hd]; rfl
    have HD := Lib.hid hd
    have HG : Hid (dgsB s.data.toList = true) := by show _ = _; simp only [Bool.and_eq_true] at hd; exact hd.1
    clear hd
    obtain ⟨o, ho⟩ : ∃ o, few (madeL false s.data.toList x) = o := ⟨_, rfl⟩
    have HO := Lib.hid ho
    have HL : Hid ((oT o).size ≤ 1000) := by
      show _ ≤ _
      cases o with
      | none => decide
      | some b =>
        have := made_short (plain := false) HG.out b (few_mem _ b ho)
        show b.toArray.size ≤ 1000
        simpa using this
    have HM : Hid ((oT o).size ≤ maxLen) := by show _ ≤ _; have := HL.out; unfold maxLen; omega
    have HNN : Hid ((nSg (oT o).data.toList : Int) = fwN s x) := by
      show _ = _
      unfold fwN; rw [HF.out, ho]
      cases o with
      | none => rfl
      | some b => rfl
    clear ho
    go_enter Try.func36, Try.ntmps36
    go_wp2_with (first | (go_at_call 50; go_must ((with_reducible refine (asked_b _ _ true _ hs HD.out).mono ?_); rintro e w' ⟨rfl, rfl⟩)) | (go_at_call 51; go_must ((with_reducible refine (made_any _ _ _ _ HG.out).mono ?_); rintro e w1 ⟨v, rfl, hst, b1⟩; have HST := Lib.hid hst; clear hst)) | (go_at_call 58; go_must ((with_reducible refine (few_any _ _ _ _ HST.out (made_few HG.out) (made_short HG.out)).mono ?_); rw [HO.out]; rintro e w2 ⟨rfl, rfl⟩)) | (go_at_call 48; go_must ((with_reducible refine (cnt_any (oT o) _ HM.out).mono ?_); rintro e w3 ⟨rfl, rfl⟩)))
    go_ret2
    exact ⟨ret_ib HNN.out (by rw [HF.out, HO.out]), b1⟩
end Go.Proofs.Ytlgleghofiflaaa

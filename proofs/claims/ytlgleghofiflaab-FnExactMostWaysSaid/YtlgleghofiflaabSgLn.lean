/-
  The least number that can't be made: the law of LeastNotMade.
-/
import Derived.Test.YtlgleghofiflaabSgOnce
namespace Go.Proofs.Ytlgleghofiflaab
open Go.RowKit

theorem tly_count (x : Int) (rs : List Sr) : ((tly x rs).getD (0, 0)).1 = (((rs.map (fun q => q.1.val)).count x : Nat) : Int) := by
  induction rs using rs_ind with
  | h0 => rfl
  | h1 l q ih =>
    rw [tly_snoc, List.map_append, List.count_append, List.map_cons, List.map_nil, List.count_singleton]
    unfold tlyS
    by_cases h : q.1.val = x
    · rw [if_pos h]
      have hb : (q.1.val == x) = true := by simp [h]
      rw [hb]
      cases e : tly x l with
      | none => rw [e] at ih; simp at ih; simp [← ih]
      | some p =>
        obtain ⟨c, m⟩ := p
        rw [e] at ih
        simp at ih
        simp [ih]
    · rw [if_neg h]
      have hb : (q.1.val == x) = false := by simp [h]
      rw [hb, ih]; simp
theorem rs_vals (plain : Bool) (s : ByteArray) : (rsAll plain s).map (fun q => q.1.val) = vals plain s := by
  unfold rsAll vals
  rw [List.map_map]; rfl
theorem tly_pos (x : Int) (plain : Bool) (s : ByteArray) : decide (((tly x (rsAll plain s)).getD (0, 0)).1 > 0) = decide (x ∈ vals plain s) := by
  rw [tly_count, rs_vals]
  have := @List.count_pos_iff Int _ _ x (vals plain s)
  by_cases h : x ∈ vals plain s
  · have := this.2 h
    rw [decide_eq_true h]; simp; omega
  · have h2 : ¬ 0 < (vals plain s).count x := fun h2 => h (this.1 h2)
    rw [decide_eq_false h]; simp; exact h
/-- One more number, in order. -/
def mexS (m n : Int) : Int := if n = m then m + 1 else m
def mex (l : List Int) : Int := l.foldl mexS 0
theorem mex_snoc (l : List Int) (n : Int) : mex (l ++ [n]) = mexS (mex l) n := by simp [mex, List.foldl_append]
theorem mex_props (l : List Int) : l.Pairwise (fun a b => a ≤ b) → 0 ≤ mex l ∧ mex l ≤ l.length ∧ (∀ j, 0 ≤ j → j < mex l → j ∈ l) ∧ mex l ∉ l := by
  induction l using is_ind with
  | h0 => intro _; exact ⟨Int.le_refl _, Int.le_refl _, fun j h1 h2 => by have : mex [] = 0 := rfl; omega, by simp⟩
  | h1 l n ih =>
    intro h
    rw [List.pairwise_append] at h
    obtain ⟨h1, _, h3⟩ := h
    obtain ⟨i1, i2, i3, i4⟩ := ih h1
    have hn : ∀ u ∈ l, u ≤ n := fun u hu => h3 u hu n (by simp)
    rw [mex_snoc, List.length_append, List.length_singleton]
    unfold mexS
    by_cases hm : n = mex l
    · rw [if_pos hm]
      refine ⟨by omega, by omega, fun j hj1 hj2 => ?_, fun hmem => ?_⟩
      · by_cases hj : j = mex l
        · rw [hj, ← hm]; simp
        · exact List.mem_append.2 (.inl (i3 j hj1 (by omega)))
      · rcases List.mem_append.1 hmem with h | h
        · have := hn _ h; omega
        · simp at h; omega
    · rw [if_neg hm]
      refine ⟨i1, by omega, fun j hj1 hj2 => List.mem_append.2 (.inl (i3 j hj1 hj2)), fun hmem => ?_⟩
      rcases List.mem_append.1 hmem with h | h
      · exact i4 h
      · simp at h; exact hm h.symm
/-- The least number that isn't there. -/
def IsMex (l : List Int) (m : Nat) : Prop := m ≤ 4096 ∧ (∀ j : Nat, j < m → (j : Int) ∈ l) ∧ (m : Int) ∉ l
theorem tidxL (a b : Int) (w : World) : (Instr.index 40 (.agg #[.int .i64 a, .int .i64 b]) (.int .i64 0)).run Try.prog w = .ok (.int .i64 a) w := by kernel_rfl
attribute [local go_sem] tidxL
theorem vals_lenL (plain : Bool) (s : ByteArray) (h : dgsB s.data.toList = true) : 0 < (vals plain s).length ∧ (vals plain s).length ≤ 4096 := by
  obtain ⟨h1, h2, _⟩ := dgs_len h
  have hsl : s.data.toList.length = s.size := by simp
  unfold vals
  rw [List.length_map]
  refine ⟨?_, allK_len_le _ _ _ (by omega)⟩
  rw [allK_len]; exact Nat.pow_pos (sgsN_pos plain)
theorem mex_bd (l : List Int) : 0 ≤ mex l ∧ mex l ≤ l.length := by
  induction l using is_ind with
  | h0 => exact ⟨Int.le_refl _, Int.le_refl _⟩
  | h1 l n ih =>
    rw [mex_snoc, List.length_append, List.length_singleton]
    unfold mexS
    split <;> omega
/-- What both answer. -/
def LnA (s : ByteArray) (m : Nat) : Prop := (dgsB s.data.toList = false → m = 0) ∧ (dgsB s.data.toList = true → IsMex (vals false s) m)
theorem sortedMex {zs : List Int} {s : ByteArray} (h1 : zs.Perm (vals false s)) (h2 : zs.Pairwise (fun a b => a ≤ b)) (h3 : (vals false s).length ≤ 4096) : ∃ m : Nat, mex zs = (m : Int) ∧ IsMex (vals false s) m := by
  obtain ⟨a, b, c, d⟩ := mex_props zs h2
  refine ⟨(mex zs).toNat, by omega, ?_, fun j hj => h1.mem_iff.1 (c j (by omega) (by omega)), ?_⟩
  · have := h1.length_eq; omega
  · rw [Int.toNat_of_nonneg a, ← h1.mem_iff]; exact d
set_option maxRecDepth 100000 in
set_option maxHeartbeats 1000000 in
theorem sLn_any (s : ByteArray) (w : World) (hs : s.size ≤ maxLen) :
    Calls Try.prog 9 #[.string s] w fun e w' => ∃ m : Nat, e = .returned (.tuple #[.int .i64 (m : Int), .bool (dgsB s.data.toList)]) ∧ LnA s m ∧ Below w.heap.size w w' := by
  cases hd : dgsB s.data.toList with
  | false =>
    have HF : Hid (LnA s 0) := by show LnA s 0; exact ⟨fun _ => rfl, fun h => by rw [hd] at h; cases h⟩
    have HD := Lib.hid hd
    clear hd
    go_enter Try.func9, Try.ntmps9
    go_wp2_with (first | (go_at_call 24; go_must ((with_reducible refine (sgDigits_b _ false _ hs HD.out).mono ?_); rintro e w' ⟨rfl, rfl⟩)))
    go_ret2
    exact ⟨0, rfl, HF.out, Below.refl _ _⟩
  | true =>
    have HL := Lib.hid (vals_lenL false s hd)
    have HD := Lib.hid hd
    clear hd
    go_enter Try.func9, Try.ntmps9
    go_wp2_with (first | (go_at_call 24; go_must ((with_reducible refine (sgDigits_b _ true _ hs HD.out).mono ?_); rintro e w' ⟨rfl, rfl⟩)) | (go_at_call 25; go_must ((with_reducible refine (nums_any s false _ HD.out).mono ?_); rintro e w1 ⟨v, rfl, zs, hz, hp, hso, b1⟩; have HM := Lib.hid (sortedMex hp hso HL.out.2); have hle := hp.length_eq; obtain ⟨n, hnn⟩ : ∃ n, n = zs.length := ⟨_, rfl⟩; have HN := Lib.hid hnn; have hn : n ≤ 4096 := (by rw [hnn, hle]; exact HL.out.2); rcases hz.form with ⟨ao, cap, rfl, h0⟩ | ⟨g, cap, rfl, _, hg, hc, _⟩; (exfalso; rw [hle] at h0; have := HL.out.1; omega); rw [← HN.out]; have HC := Lib.hid hc; clear hz hp hso hc hnn hle)))
    go_loop [4, 13] (fun l i => ∃ (k : Nat) (m : Int), k ≤ n ∧ i = .int .i64 k ∧ l = .int .i64 m ∧ Hid (m = mex (zs.take k)) ∧ 0 ≤ m ∧ m ≤ 4096) (fun _ i => n - (intOf i).toNat)
    case atStart => exact ⟨0, 0, Nat.zero_le _, rfl, rfl, by show _ = _; simp [mex], by omega, by omega⟩
    case round =>
      obtain ⟨k, m, hk, rfl, rfl, HM2, hm0, hm1⟩ := hrel
      by_cases hlt : k < n
      · have hlr : k < zs.length := by rw [← HN.out]; exact hlt
        obtain ⟨x, hx⟩ : ∃ x, x = zs[k] := ⟨_, rfl⟩
        have hck : w1.cell? ⟨g, k, none⟩ = some (.int .i64 x) := by
          rw [HC.out k hlr, hx, List.getD_eq_getElem?_getD, List.getElem?_eq_getElem hlr]; rfl
        have HE : Hid (mex (zs.take (k + 1)) = mexS m x) := by
          show _ = _
          rw [List.take_succ_eq_append_getElem hlr, mex_snoc, HM2.out, hx]
        have HB : Hid (0 ≤ mexS m x ∧ mexS m x ≤ 4096) := by
          show _ ∧ _
          rw [← HE.out]
          have := mex_bd (zs.take (k + 1))
          have h2 := List.length_take_le (k + 1) zs
          omega
        clear hx
        by_cases hxm : x = m
        · have HE2 : Hid (mexS m x = m + 1) := by show _ = _; unfold mexS; rw [if_pos hxm]
          subst hxm
          go_wp2
          go_round
          case rel => exact ⟨k + 1, x + 1, by omega, by go_num, rfl, by show _ = _; rw [HE.out, HE2.out], by omega, by have := HB.out.2; rw [HE2.out] at this; exact this⟩
          case measure => simp [intOf]; omega
        · have HE2 : Hid (mexS m x = m) := by show _ = _; unfold mexS; rw [if_neg hxm]
          go_wp2
          go_round
          case rel => exact ⟨k + 1, m, by omega, by go_num, rfl, by show _ = _; rw [HE.out, HE2.out], hm0, hm1⟩
          case measure => simp [intOf]; omega
      · have HK : Hid (m = mex zs) := by show _ = _; rw [HM2.out, List.take_of_length_le (by rw [← HN.out]; omega)]
        obtain ⟨m', hm', hI⟩ := HM.out
        have HI := Lib.hid hI
        obtain rfl : m = (m' : Int) := HK.out.trans hm'
        clear hm' hI
        go_wp2
        go_ret2
        exact ⟨m', rfl, ⟨(fun h => by rw [HD.out] at h; cases h), fun _ => HI.out⟩, b1⟩
set_option maxRecDepth 100000 in
set_option maxHeartbeats 1000000 in
theorem iLn_any (s : ByteArray) (M : Nat) (w : World) (hs : s.size ≤ maxLen) (hM : LnA s M) :
    Calls Try.prog 10 #[.string s] w fun e w' => e = .returned (.tuple #[.int .i64 (M : Int), .bool (dgsB s.data.toList)]) ∧ Below w.heap.size w w' := by
  cases hd : dgsB s.data.toList with
  | false =>
    have h0 : M = 0 := hM.1 hd
    subst h0
    have HD := Lib.hid hd
    clear hd hM
    go_enter Try.func10, Try.ntmps10
    go_wp2_with (first | (go_at_call 26; go_must ((with_reducible refine (digs_b _ false _ hs HD.out).mono ?_); rintro e w' ⟨rfl, rfl⟩)))
    go_ret2
    exact ⟨rfl, Below.refl _ _⟩
  | true =>
    have HI := Lib.hid (hM.2 hd)
    have hM4 : M ≤ 4096 := HI.out.1
    have HD := Lib.hid hd
    have HS : Hid ((⟨#[42, 43, 45, 32]⟩ : ByteArray) = sbs false) := rfl
    clear hd hM
    go_enter Try.func10, Try.ntmps10
    go_wp2_with (first | (go_at_call 26; go_must ((with_reducible refine (digs_b _ true _ hs HD.out).mono ?_); rintro e w' ⟨rfl, rfl⟩)) | (go_at_call 27; go_must ((with_reducible refine (tal_any s _ false _ HD.out HS.out).mono ?_); rintro e w1 ⟨b, n, rfl, htal, hn5, hbw, b1⟩; have HTL := Lib.hid htal; clear htal)))
    go_loop [5] (fun i => ∃ k : Nat, k ≤ M ∧ i = .int .i64 k) (fun i => M - (intOf i).toNat)
    case atStart => exact ⟨0, Nat.zero_le _, rfl⟩
    case round =>
      obtain ⟨k, hk, rfl⟩ := hrel
      have HW : Hid ((Lit.int .i64 (k : Int)).wf = true) := by show _ = _; exact WalkArith.wf_i64 (by omega)
      obtain ⟨c, hc⟩ : ∃ c, c = ((tly (k : Int) (rsAll false s)).getD (0, 0)).1 := ⟨_, rfl⟩
      obtain ⟨f, hf⟩ : ∃ f, f = ((tly (k : Int) (rsAll false s)).getD (0, 0)).2 := ⟨_, rfl⟩
      have HCF := Lib.hid (And.intro hc hf)
      by_cases hlt : k < M
      · have hp : c > 0 := by
          have := tly_pos (k : Int) false s
          rw [← hc, decide_eq_true (HI.out.2.1 k hlt)] at this
          simpa using this
        clear hc hf
        go_wp2_with (at_lookup; refine look_no _ rfl _ _ rfl b n (rsAll false s) rfl HTL.out (k : Int) rfl HW.out ?_; rw [← HCF.out.1, ← HCF.out.2])
        go_round
        case rel => exact ⟨k + 1, by omega, by go_num⟩
        case measure => simp [intOf]; omega
      · have hkM : k = M := by omega
        subst hkM
        have hp : ¬ c > 0 := by
          have := tly_pos (k : Int) false s
          rw [← hc, decide_eq_false HI.out.2.2] at this
          simpa using this
        clear hc hf
        go_wp2_with (at_lookup; refine look_no _ rfl _ _ rfl b n (rsAll false s) rfl HTL.out (k : Int) rfl HW.out ?_; rw [← HCF.out.1, ← HCF.out.2])
        go_ret2
        exact ⟨rfl, b1⟩
theorem FnExactLeastNotMade_law (s : ByteArray) (hs : s.size ≤ maxLen) (w : World) :
    Calls Try.prog 3 #[.string s] w fun e w' => e = .returned (.bool true) ∧ Below w.heap.size w w' := by
  have hm := hs
  unfold maxLen at hs
  by_cases hb : s.size ≤ 1048576
  · go_enter Try.func3, Try.ntmps3
    go_wp2_with (first | (go_at_call 9; go_must ((with_reducible refine (sLn_any _ _ hm).mono ?_); rintro e w1 ⟨M, rfl, hM, b1⟩; have HM := Lib.hid hM; clear hM)) | (go_at_call 10; go_must ((with_reducible refine (iLn_any _ M _ hm HM.out).mono ?_); rintro e w2 ⟨rfl, b2⟩)))
    go_ret
    exact ⟨rfl, chain b1 b2⟩
  · go_enter Try.func3, Try.ntmps3
    go_wp2_with fail
    go_ret
    exact ⟨rfl, Below.refl _ _⟩
end Go.Proofs.Ytlgleghofiflaab

/-
  Whether there is a scheme, as the program says.
-/
import Derived.Test.YtaomcimmhlpflaaDoorPlGood
import Derived.Test.YtaomcimmhlpflaaDoorShelf
import Derived.Shelf.Strings.SlTrimAscii
namespace Go.Proofs.YtaomcimmhlpflaaDoor
open Go.RowKit

theorem trimA_any (s : ByteArray) (w : World) (hs : s.size ≤ 9223372036854775807) :
    Calls Tryd.prog 63 #[.string s, .string ⟨#[48, 49, 50, 51, 52, 53, 54, 55, 56, 57, 65, 66, 67, 68, 69, 70, 71, 72, 73, 74, 75, 76, 77, 78, 79, 80, 81, 82, 83, 84, 85, 86, 87, 88, 89, 90]⟩] w fun e w' => e = .returned (.string ⟨(Lib.trimS s.data.toList allS).toArray⟩) ∧ Below w.heap.size w w' :=
  Any.strings_Trim_laid Tryd.lays160 (by kernel_rfl) s ⟨#[48, 49, 50, 51, 52, 53, 54, 55, 56, 57, 65, 66, 67, 68, 69, 70, 71, 72, 73, 74, 75, 76, 77, 78, 79, 80, 81, 82, 83, 84, 85, 86, 87, 88, 89, 90]⟩ w hs (by decide) (ascii_of_all (by decide +kernel))
theorem trimL_any (s : ByteArray) (w : World) (hs : s.size ≤ 9223372036854775807) :
    Calls Tryd.prog 63 #[.string s, .string ⟨#[76, 68]⟩] w fun e w' => e = .returned (.string ⟨(Lib.trimS s.data.toList [76, 68]).toArray⟩) ∧ Below w.heap.size w w' :=
  Any.strings_Trim_laid Tryd.lays160 (by kernel_rfl) s ⟨#[76, 68]⟩ w hs (by decide) (ascii_of_all (by decide +kernel))
theorem str_empty (l : List UInt8) : ((⟨l.toArray⟩ : ByteArray).toList == (⟨#[]⟩ : ByteArray).toList) = decide (l = []) := by
  rw [Lib.toList_data, Lib.toList_data]
  cases l <;> simp
theorem arePl_any (s : ByteArray) (lo hi : Int) (w : World) (hs : s.size ≤ maxLen) :
    Calls Tryd.prog 39 #[.string s, .int .i64 lo, .int .i64 hi] w fun e w' => e = .returned (.bool (szsB s.data.toList lo hi)) ∧ Below w.heap.size w w' := by
  unfold maxLen at hs
  have hl : s.data.toList.length = s.size := by simp
  have HE : Hid (∀ b, (pssB s.data.toList && decide (lo ≤ (s.size : Int) ∧ (s.size : Int) ≤ hi)) = b → szsB s.data.toList lo hi = b) := by
    intro b h; subst h; unfold szsB; rw [hl, Bool.and_comm]
  have HT := Lib.hid (trim_pss s.data.toList)
  clear hl
  by_cases h1 : lo ≤ (s.size : Int)
  · by_cases h2 : (s.size : Int) ≤ hi
    · go_enter Tryd.func39, Tryd.ntmps39
      go_wp2_with (go_at_call 63; refine (trimA_any s _ hs).mono ?_; rintro e w1 ⟨rfl, b1⟩)
      go_ret
      exact ⟨ret_bool (by rw [HE.out _ rfl, decide_eq_true (show _ ∧ _ from ⟨h1, h2⟩), Bool.and_true, ← HT.out, ← str_empty]; simp), b1⟩
    · go_enter Tryd.func39, Tryd.ntmps39
      go_wp2
      go_ret
      exact ⟨ret_bool (by rw [HE.out _ rfl, decide_eq_false (fun h => by omega), Bool.and_false]), Below.refl _ _⟩
  · go_enter Tryd.func39, Tryd.ntmps39
    go_wp2
    go_ret
    exact ⟨ret_bool (by rw [HE.out _ rfl, decide_eq_false (fun h => by omega), Bool.and_false]), Below.refl _ _⟩
theorem isPat_any (s : ByteArray) (w : World) (hs : s.size ≤ maxLen) :
    Calls Tryd.prog 60 #[.string s] w fun e w' => e = .returned (.bool (patB s.data.toList)) ∧ Below w.heap.size w w' := by
  unfold maxLen at hs
  have hl : s.data.toList.length = s.size := by simp
  have HE : Hid (∀ b, (s.data.toList.all patC && decide (1 ≤ (s.size : Int) ∧ (s.size : Int) ≤ 8)) = b → patB s.data.toList = b) := by
    intro b h; subst h; unfold patB; rw [hl, Bool.and_comm]
  have HT := Lib.hid (trim_LD s.data.toList)
  clear hl
  by_cases h1 : 1 ≤ (s.size : Int)
  · by_cases h2 : (s.size : Int) ≤ 8
    · go_enter Tryd.func60, Tryd.ntmps60
      go_wp2_with (go_at_call 63; refine (trimL_any s _ hs).mono ?_; rintro e w1 ⟨rfl, b1⟩)
      go_ret
      exact ⟨ret_bool (by rw [HE.out _ rfl, decide_eq_true (show _ ∧ _ from ⟨h1, h2⟩), Bool.and_true, ← HT.out, ← str_empty]; simp), b1⟩
    · go_enter Tryd.func60, Tryd.ntmps60
      go_wp2
      go_ret
      exact ⟨ret_bool (by rw [HE.out _ rfl, decide_eq_false (fun h => by omega), Bool.and_false]), Below.refl _ _⟩
  · go_enter Tryd.func60, Tryd.ntmps60
    go_wp2
    go_ret
    exact ⟨ret_bool (by rw [HE.out _ rfl, decide_eq_false (fun h => by omega), Bool.and_false]), Below.refl _ _⟩
theorem isWord_any (s : ByteArray) (w : World) (hs : s.size ≤ maxLen) :
    Calls Tryd.prog 84 #[.string s] w fun e w' => e = .returned (.bool (wordB s.data.toList)) ∧ Below w.heap.size w w' := by
  go_enter Tryd.func84, Tryd.ntmps84
  go_wp2_with (go_at_call 39; refine (arePl_any s _ _ _ hs).mono ?_; rintro e w1 ⟨rfl, b1⟩)
  go_ret
  exact ⟨rfl, b1⟩
theorem arePl_b (s : ByteArray) (lo hi : Int) (b : Bool) (w : World) (hs : s.size ≤ 1048576) (h : szsB s.data.toList lo hi = b) :
    Calls Tryd.prog 39 #[.string s, .int .i64 lo, .int .i64 hi] w fun e w' => e = .returned (.bool b) ∧ Below w.heap.size w w' := by subst h; exact arePl_any s lo hi w (by unfold maxLen; omega)
theorem inc_yes {l : List UInt8} (h : ∀ j, j < l.length → 1 ≤ j → ¬ l.getD j 0 ≤ l.getD (j - 1) 0) : incB l = true := by unfold incB; rw [decide_eq_true h]
set_option maxHeartbeats 1000000 in
theorem isBar_any (B : ByteArray) (W : World) (hfb : B.size ≤ 1048576) :
    Calls Tryd.prog 61 #[.string B] W fun e w' => e = .returned (.bool (incB B.data.toList && szsB B.data.toList 0 36)) ∧ Below W.heap.size W w' := by
  have hBl : B.data.toList.length = B.size := by simp
  have HBL := Lib.hid hBl
  clear hBl
  go_enter Tryd.func61, Tryd.ntmps61
  go_wp2
  go_loopw [3] (fun i wr => ∃ k q : Nat, wr = W.drewN q ∧ 1 ≤ k ∧ (k ≤ B.size ∨ k = 1) ∧ i = .int .i64 k ∧ Hid (∀ j, j < k → 1 ≤ j → ¬ B.data.toList.getD j 0 ≤ B.data.toList.getD (j - 1) 0)) (fun i _ => B.size - (intOf i).toNat)
  case atStart => exact ⟨1, 0, rfl, Nat.le_refl _, .inr rfl, rfl, fun j h1 h2 => by omega⟩
  case round =>
    obtain ⟨k, q, rfl, hk1, hk2, rfl, HI⟩ := hrel
    have HBQ : Hid (Below W.heap.size W (W.drewN q)) := below_drewN (Below.refl _ _) q
    by_cases hlt : k < B.size
    · obtain ⟨m, hm⟩ : ∃ m, k = m + 1 := ⟨k - 1, by omega⟩
      have hm1 : m < B.size := by omega
      have e1 := getD_at B k hlt
      have e2 := getD_at B m hm1
      have hsub : (k : Int) - 1 = (m : Int) := by omega
      have hwr : IntKind.i64.wrap ((k : Int) - 1) = (m : Int) := (IntWalk.i64_in _ (by omega)).trans hsub
      have hi1 : (0 : Int) ≤ (m : Int) := by omega
      have hi2 : (m : Int) < (B.size : Int) := by omega
      have hi3 : (0 : Int) ≤ (k : Int) := by omega
      have hi4 : (k : Int) < (B.size : Int) := by omega
      by_cases hc : (B[k].toNat : Int) ≤ (B[m].toNat : Int)
      · have HNO : Hid (incB B.data.toList = false) := by
          show _ = _
          refine inc_no B k hlt hk1 ?_
          refine (u8_le _ _).2 ?_
          have : k - 1 = m := by omega
          simp only [this]; exact hc
        clear e1 e2 hm
        go_wp2
        go_quiet (fail)
        go_wp2
        go_ret
        exact ⟨ret_bool (by rw [HNO.out]; rfl), below_drewN HBQ.out _⟩
      · have HI2 : Hid (∀ j, j < k + 1 → 1 ≤ j → ¬ B.data.toList.getD j 0 ≤ B.data.toList.getD (j - 1) 0) := by
          intro j h1 h2
          by_cases e : j = k
          · subst e
            rw [show j - 1 = m by omega, e1, e2, u8_le]; exact hc
          · exact HI.out j (by omega) h2
        clear e1 e2 hm
        go_wp2
        go_quiet (fail)
        go_wp2
        go_roundw
        case rel => exact ⟨k + 1, q + nq, rfl, by omega, by omega, by go_num, HI2⟩
        case measure => simp [intOf]; omega
    · have HINC : Hid (incB B.data.toList = true) := inc_yes (fun j h1 h2 => by
        rw [HBL.out] at h1
        exact HI.out j (by omega) h2)
      go_wp2_with (go_at_call 39; refine (arePl_any B 0 36 _ (by unfold maxLen; omega)).mono ?_; rintro e w1 ⟨rfl, b1⟩)
      go_ret
      exact ⟨ret_bool (by rw [HINC.out]; rfl), HBQ.out.trans (b1.mono HBQ.out.size)⟩
theorem notW_b (s : ByteArray) (b : Bool) (w : World) (hs : s.size ≤ 1048576) (h : wordB s.data.toList = b) :
    Calls Tryd.prog 83 #[.string s] w fun e w' => e = .returned (.bool (!b)) ∧ Below w.heap.size w w' := by
  subst h
  go_enter Tryd.func83, Tryd.ntmps83
  go_wp2_with (go_at_call 84; refine (isWord_any s _ (by unfold maxLen; omega)).mono ?_; rintro e w1 ⟨rfl, b1⟩)
  go_ret
  exact ⟨rfl, b1⟩
theorem all_word_no {ts : List (List UInt8)} (k : Nat) (hk : k < ts.length) (h : wordB (ts.getD k []) = false) : ts.all wordB = false := by
  rw [List.all_eq_false]
  refine ⟨ts[k], List.getElem_mem hk, ?_⟩
  rw [List.getD_eq_getElem?_getD, List.getElem?_eq_getElem hk] at h
  simp only [Option.getD_some] at h
  rw [h]; simp
theorem all_word_yes {ts : List (List UInt8)} (h : ∀ k, k < ts.length → wordB (ts.getD k []) = true) : ts.all wordB = true := by
  rw [List.all_eq_true]
  intro x hx
  obtain ⟨k, hk, rfl⟩ := List.mem_iff_getElem.1 hx
  have := h k hk
  rwa [List.getD_eq_getElem?_getD, List.getElem?_eq_getElem hk] at this
set_option maxHeartbeats 1000000 in
theorem idxF_any (ts : List (List UInt8)) (v : Value) (w : World) (hn : ts.length ≤ 3) (ht : ∀ i, i < ts.length → (ts.getD i []).length ≤ 1048576) (h : Rd ts v w) :
    Calls Tryd.prog 111 #[v, .func (.func 83) #[] #[]] w fun e w' => (∃ r : Int, e = .returned (.int .i64 r) ∧ decide (0 ≤ r) = !(ts.all wordB)) ∧ Below w.heap.size w w' := by
  obtain ⟨a, cap, rfl, hc⟩ := h
  have HT := Lib.hid ht
  have HC := Lib.hid hc
  obtain ⟨n, hnn⟩ : ∃ n, n = ts.length := ⟨_, rfl⟩
  have HN := Lib.hid hnn
  rw [← hnn] at hn
  rw [← hnn]
  clear ht hc hnn
  go_enter Tryd.func111, Tryd.ntmps111
  go_wp2
  go_loopw [8] (fun i wr => ∃ k : Nat, k ≤ n ∧ i = .int .i64 k ∧ Below w.heap.size w wr ∧ Hid (∀ j, j < k → wordB (ts.getD j []) = true)) (fun i _ => n - (intOf i).toNat)
  case atStart => exact ⟨0, Nat.zero_le _, rfl, Below.refl _ _, fun j hj => by omega⟩
  case round =>
    obtain ⟨k, hk, rfl, hb, HW⟩ := hrel
    by_cases hlt : k < n
    · have hlt2 : k < ts.length := by rw [← HN.out]; exact hlt
      obtain ⟨g, o, rfl, hg, hcell⟩ := HC.out k hlt2
      have hcell := (hb.cell (p := ⟨g, o + k, none⟩) hg).trans hcell
      obtain ⟨bb, hbb⟩ : ∃ bb : ByteArray, bb = ⟨(ts.getD k []).toArray⟩ := ⟨_, rfl⟩
      have hbs : bb.size ≤ 1048576 := by have := HT.out k hlt2; rw [hbb]; simpa [ByteArray.size] using this
      have hbd : bb.data.toList = ts.getD k [] := by rw [hbb]
      unfold strV at hcell
      rw [← hbb] at hcell
      have hltI : (k : Int) < (n : Int) := by omega
      clear hbb
      cases hwd : wordB (ts.getD k []) with
      | true =>
        have HWD : Hid (wordB bb.data.toList = true) := by show _ = _; rw [hbd]; exact hwd
        have HW2 : Hid (∀ j, j < k + 1 → wordB (ts.getD j []) = true) := by
          intro j hj
          by_cases e : j = k
          · subst e; exact hwd
          · exact HW.out j (by omega)
        clear hwd hbd
        go_wp2_with (go_at_call 83; refine (notW_b bb true _ hbs HWD.out).mono ?_; rintro e w1 ⟨rfl, b1⟩)
        go_roundw
        case rel => exact ⟨k + 1, by omega, by go_num, hb.trans (b1.mono hb.size), HW2⟩
        case measure => simp [intOf]; omega
      | false =>
        have HWD : Hid (wordB bb.data.toList = false) := by show _ = _; rw [hbd]; exact hwd
        have HNO : Hid (ts.all wordB = false) := all_word_no k hlt2 hwd
        clear hwd hbd
        go_wp2_with (go_at_call 83; refine (notW_b bb false _ hbs HWD.out).mono ?_; rintro e w1 ⟨rfl, b1⟩)
        go_ret
        exact ⟨⟨_, rfl, by rw [HNO.out]; simp⟩, hb.trans (b1.mono hb.size)⟩
    · have hltI : ¬ (k : Int) < (n : Int) := by omega
      have HYES : Hid (ts.all wordB = true) := all_word_yes (fun j hj => HW.out j (by have := HN.out; omega))
      go_wp2
      go_ret
      exact ⟨⟨_, rfl, by rw [HYES.out]; rfl⟩, hb⟩
theorem contF_any (ts : List (List UInt8)) (v : Value) (w : World) (hn : ts.length ≤ 3) (ht : ∀ i, i < ts.length → (ts.getD i []).length ≤ 1048576) (h : Rd ts v w) :
    Calls Tryd.prog 82 #[v, .func (.func 83) #[] #[]] w fun e w' => e = .returned (.bool (!(ts.all wordB))) ∧ Below w.heap.size w w' := by
  go_enter Tryd.func82, Tryd.ntmps82
  go_wp2_with (go_at_call 111; refine (idxF_any ts v _ hn ht h).mono ?_; rintro e w1 ⟨⟨r, rfl, hr⟩, b1⟩)
  go_ret
  exact ⟨ret_bool (by rw [← hr]), b1⟩
theorem areW_any (ts : List (List UInt8)) (v : Value) (w : World) (hn : ts.length ≤ 1048576) (ht : ∀ i, i < ts.length → (ts.getD i []).length ≤ 1048576) (h : Rd ts v w) :
    Calls Tryd.prog 62 #[v] w fun e w' => e = .returned (.bool (decide (ts.length ≤ 3) && ts.all wordB)) ∧ Below w.heap.size w w' := by
  have h' := h
  obtain ⟨a, cap, rfl, hc⟩ := h
  have HT := Lib.hid ht
  have HV := Lib.hid h'
  obtain ⟨n, hnn⟩ : ∃ n, n = ts.length := ⟨_, rfl⟩
  have HN := Lib.hid hnn
  clear ht hc h'
  rw [← hnn] at HV hn
  rw [← hnn]
  clear hnn
  by_cases h3 : n ≤ 3
  · have h3i : (n : Int) ≤ 3 := by omega
    have HD : Hid (decide (n ≤ 3) = true) := decide_eq_true h3
    go_enter Tryd.func62, Tryd.ntmps62
    go_wp2_with (go_at_call 82; refine (contF_any ts _ _ (by rw [← HN.out]; exact h3) HT.out HV.out).mono ?_; rintro e w1 ⟨rfl, b1⟩)
    go_ret
    exact ⟨ret_bool (by rw [HD.out]; simp), b1⟩
  · have h3i : ¬ (n : Int) ≤ 3 := by omega
    have HD : Hid (decide (n ≤ 3) = false) := decide_eq_false h3
    go_enter Tryd.func62, Tryd.ntmps62
    go_wp2
    go_ret
    exact ⟨ret_bool (by simp), Below.refl _ _⟩
end Go.Proofs.YtaomcimmhlpflaaDoor

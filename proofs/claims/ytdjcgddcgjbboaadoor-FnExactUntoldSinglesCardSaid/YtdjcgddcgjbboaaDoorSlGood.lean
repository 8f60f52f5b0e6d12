/-
  Whether there is a check: the model's and the program's word.
-/
import Derived.Test.YtdjcgddcgjbboaaDoorSlTo
namespace Go.Proofs.YtdjcgddcgjbboaaDoor
open Go.RowKit

theorem in_any (n lo hi : Int) (w : World) :
    Calls Tryd.prog 48 #[.int .i64 n, .int .i64 lo, .int .i64 hi] w fun e w' => e = .returned (.bool (decide (lo ≤ n ∧ n ≤ hi))) ∧ w = w' := by
  by_cases h1 : lo ≤ n <;> by_cases h2 : n ≤ hi
  all_goals
    go_enter Tryd.func48, Tryd.ntmps48
    go_wp2
    go_ret
    exact ⟨by simp [h1, h2], rfl⟩
theorem in_b (n lo hi : Int) (b : Bool) (w : World) (h : decide (lo ≤ n ∧ n ≤ hi) = b) :
    Calls Tryd.prog 48 #[.int .i64 n, .int .i64 lo, .int .i64 hi] w fun e w' => e = .returned (.bool b) ∧ w = w' := by subst h; exact in_any n lo hi w
theorem isMod_any (n : Int) (w : World) :
    Calls Tryd.prog 50 #[.int .i64 n] w fun e w' => e = .returned (.bool (decide (2 ≤ n ∧ n ≤ 11))) ∧ w = w' := by
  by_cases h1 : 2 ≤ n <;> by_cases h2 : n ≤ 11
  all_goals
    go_enter Tryd.func50, Tryd.ntmps50
    go_wp2
    go_ret
    exact ⟨by simp [h1, h2], rfl⟩
/-- All numbers lie between two. -/
def allB (xs : List Int) (lo hi : Int) : Bool := xs.all (fun x => decide (lo ≤ x ∧ x ≤ hi))
theorem allB_no {xs : List Int} {lo hi : Int} {k : Nat} (hk : k < xs.length) (h : decide (lo ≤ xs.getD k 0 ∧ xs.getD k 0 ≤ hi) = false) : allB xs lo hi = false := by
  cases e : allB xs lo hi with
  | false => rfl
  | true => have := (all_getD xs 0 _).1 e k hk; rw [h] at this; cases this
theorem allB_yes {xs : List Int} {lo hi : Int} (h : ∀ k, k < xs.length → decide (lo ≤ xs.getD k 0 ∧ xs.getD k 0 ≤ hi) = true) : allB xs lo hi = true := (all_getD xs 0 _).2 h
set_option maxHeartbeats 1000000 in
theorem l1All_any (xs : List Int) (lo hi : Int) (v : Value) (w : World) (hn : xs.length ≤ 1048576) (h : RdI xs v w) :
    Calls Tryd.prog 60 #[v, .int .i64 lo, .int .i64 hi] w fun e w' => e = .returned (.bool (allB xs lo hi)) ∧ w = w' := by
  obtain ⟨a, cap, rfl, hc⟩ := h
  have HC := Lib.hid hc
  obtain ⟨n, hnn⟩ : ∃ n, n = xs.length := ⟨_, rfl⟩
  have HN := Lib.hid hnn
  rw [← hnn] at hn
  rw [← hnn]
  clear hc hnn
  go_enter Tryd.func60, Tryd.ntmps60
  go_wp2
  go_loop [11] (fun i => ∃ k : Nat, k ≤ n ∧ i = .int .i64 k ∧ Hid (∀ j, j < k → decide (lo ≤ xs.getD j 0 ∧ xs.getD j 0 ≤ hi) = true)) (fun i => n - (intOf i).toNat)
  case atStart => exact ⟨0, Nat.zero_le _, rfl, fun j hj => by omega⟩
  case round =>
    obtain ⟨k, hk, rfl, HI⟩ := hrel
    by_cases hlt : k < n
    · have hlt2 : k < xs.length := by rw [← HN.out]; exact hlt
      obtain ⟨g, o, rfl, hg, hcell⟩ := HC.out k hlt2
      cases hb : decide (lo ≤ xs.getD k 0 ∧ xs.getD k 0 ≤ hi) with
      | true =>
        have HI2 : Hid (∀ j, j < k + 1 → decide (lo ≤ xs.getD j 0 ∧ xs.getD j 0 ≤ hi) = true) := by
          intro j hj
          by_cases e : j = k
          · subst e; exact hb
          · exact HI.out j (by omega)
        have HB := Lib.hid hb
        obtain ⟨x, hx⟩ : ∃ x, x = xs.getD k 0 := ⟨_, rfl⟩
        rw [← hx] at hcell HB
        clear hb hx
        go_wp2_with (go_at_call 48; refine (in_b _ _ _ true _ HB.out).mono ?_; rintro e w' ⟨rfl, rfl⟩)
        go_round
        case rel => exact ⟨k + 1, by omega, by go_num, HI2⟩
        case measure => simp [intOf]; omega
      | false =>
        have HNO := Lib.hid (allB_no hlt2 hb)
        have HB := Lib.hid hb
        obtain ⟨x, hx⟩ : ∃ x, x = xs.getD k 0 := ⟨_, rfl⟩
        rw [← hx] at hcell HB
        clear hb hx
        go_wp2_with (go_at_call 48; refine (in_b _ _ _ false _ HB.out).mono ?_; rintro e w' ⟨rfl, rfl⟩)
        go_ret
        exact ⟨ret_bool HNO.out.symm, rfl⟩
    · have HYES : Hid (allB xs lo hi = true) := allB_yes (fun j hj => HI.out j (by have := HN.out; omega))
      go_wp2
      go_ret
      exact ⟨ret_bool HYES.out.symm, rfl⟩
theorem chk_all (xs : List Int) (m : Int) : xs.all (fun x => decide (0 ≤ x ∧ x < m)) = allB xs 0 (m - 1) := by
  unfold allB
  congr 1; funext x
  rw [Bool.eq_iff_iff, decide_eq_true_eq, decide_eq_true_eq]; omega
theorem chk_len {xs : List Int} {m : Int} (h : ¬ (2 ≤ xs.length ∧ xs.length ≤ 12)) : chkB xs m = false := by unfold chkB; rw [decide_eq_false h]; rfl
theorem chk_mod {xs : List Int} {m : Int} (h : ¬ (2 ≤ m ∧ m ≤ 11)) : chkB xs m = false := by unfold chkB; rw [decide_eq_false h]; simp
theorem chk_yes {xs : List Int} {m : Int} {b : Bool} (h1 : 2 ≤ xs.length ∧ xs.length ≤ 12) (h2 : 2 ≤ m ∧ m ≤ 11) (h3 : allB xs 0 (m - 1) = b) : chkB xs m = b := by unfold chkB; rw [decide_eq_true h1, decide_eq_true h2, chk_all, h3]; rfl
theorem l1All_b (xs : List Int) (lo hi : Int) (b : Bool) (v : Value) (w : World) (hn : xs.length ≤ 1048576) (h : RdI xs v w) (hb : allB xs lo hi = b) :
    Calls Tryd.prog 60 #[v, .int .i64 lo, .int .i64 hi] w fun e w' => e = .returned (.bool b) ∧ w = w' := by subst hb; exact l1All_any xs lo hi v w hn h
set_option maxHeartbeats 1000000 in
theorem slGood_any (xs : List Int) (m : Int) (v : Value) (w : World) (hn : xs.length ≤ 1048576) (h : RdI xs v w) :
    Calls Tryd.prog 33 #[.agg #[v, .int .i64 m]] w fun e w' => e = .returned (.bool (chkB xs m)) ∧ Below w.heap.size w w' := by
  have HV := Lib.hid h
  obtain ⟨a, cap, rfl, _⟩ := h
  obtain ⟨n, hnn⟩ : ∃ n, n = xs.length := ⟨_, rfl⟩
  have HN := Lib.hid hnn
  rw [← hnn] at hn HV
  rw [← hnn]
  clear hnn
  have hblk : Below w.heap.size w (w.alloc (.cells #[.slice a n cap, .int .i64 m] 29)) := (Below.refl _ _).alloc (Nat.le_refl _) _
  have HBLK := Lib.hid hblk
  clear hblk
  by_cases hz : 2 ≤ (n : Int) ∧ (n : Int) ≤ 12
  · have HZ : Hid (decide (2 ≤ (n : Int) ∧ (n : Int) ≤ 12) = true) := decide_eq_true hz
    have HL : Hid (2 ≤ xs.length ∧ xs.length ≤ 12) := by show _ ∧ _; rw [← HN.out]; omega
    by_cases hm : 2 ≤ m ∧ m ≤ 11
    · have HM : Hid (decide (2 ≤ m ∧ m ≤ 11) = true) := decide_eq_true hm
      obtain ⟨bb, hbb⟩ : ∃ bb, allB xs 0 (m - 1) = bb := ⟨_, rfl⟩
      have HR := Lib.hid (chk_yes HL.out hm hbb)
      have HA := Lib.hid hbb
      obtain ⟨hm1, hm2⟩ := hm
      clear hz hbb
      go_enter Tryd.func33, Tryd.ntmps33
      go_wp2_with (first | (go_at_call 48; first | ((with_reducible refine (in_b _ _ _ true _ HZ.out).mono ?_); rintro e w' ⟨rfl, rfl⟩) | ((with_reducible refine (in_b _ _ _ true _ HM.out).mono ?_); rintro e w' ⟨rfl, rfl⟩)) | (go_at_call 60; refine (l1All_b xs 0 (m - 1) bb _ _ (by rw [← HN.out]; exact hn) (HV.out.below HBLK.out) HA.out).mono ?_; rintro e w' ⟨rfl, rfl⟩))
      go_ret
      exact ⟨ret_bool HR.out.symm, HBLK.out⟩
    · have HM : Hid (decide (2 ≤ m ∧ m ≤ 11) = false) := decide_eq_false hm
      have HR := Lib.hid (chk_mod (xs := xs) hm)
      clear hm hz
      go_enter Tryd.func33, Tryd.ntmps33
      go_wp2_with (first | (go_at_call 48; first | ((with_reducible refine (in_b _ _ _ true _ HZ.out).mono ?_); rintro e w' ⟨rfl, rfl⟩) | ((with_reducible refine (in_b _ _ _ false _ HM.out).mono ?_); rintro e w' ⟨rfl, rfl⟩)))
      go_ret
      exact ⟨ret_bool HR.out.symm, HBLK.out⟩
  · have HZ : Hid (decide (2 ≤ (n : Int) ∧ (n : Int) ≤ 12) = false) := decide_eq_false hz
    have HR := Lib.hid (chk_len (xs := xs) (m := m) (by rw [← HN.out]; omega))
    clear hz
    go_enter Tryd.func33, Tryd.ntmps33
    go_wp2_with (first | (go_at_call 48; first | ((with_reducible refine (in_b _ _ _ false _ HZ.out).mono ?_); rintro e w' ⟨rfl, rfl⟩)))
    go_ret
    exact ⟨ret_bool HR.out.symm, HBLK.out⟩
/-- The program's test of a weight. -/
theorem noW_any (x m : Int) (b : Nat) (u : Value) (w : World) (F : Blk w b #[u, .int .i64 m] 29) :
    Calls Tryd.prog 76 #[.int .i64 x, .pointer (some ⟨b, 0, none⟩)] w fun e w' => e = .returned (.bool (!decide (0 ≤ x ∧ x < m))) ∧ w = w' := by
  have c1 := F.cell 1
  simp at c1
  clear F
  by_cases h1 : x < 0
  · go_enter Tryd.func76, Tryd.ntmps76
    go_wp2
    go_ret
    exact ⟨by first | (simp; done) | (simp; omega), rfl⟩
  · by_cases h2 : m ≤ x
    all_goals
      go_enter Tryd.func76, Tryd.ntmps76
      go_wp2
      go_ret
      exact ⟨by first | (simp; done) | (simp; omega), rfl⟩
set_option maxHeartbeats 1000000 in
theorem idxI_any (xs : List Int) (m : Int) (b : Nat) (u v : Value) (w : World) (hn : xs.length ≤ 1048576) (h : RdI xs v w) (F : Blk w b #[u, .int .i64 m] 29) :
    Calls Tryd.prog 105 #[v, .func (.func 76) #[] #[.pointer (some ⟨b, 0, none⟩)]] w fun e w' => (∃ r : Int, e = .returned (.int .i64 r) ∧ decide (0 ≤ r) = !(allB xs 0 (m - 1))) ∧ w = w' := by
  obtain ⟨a, cap, rfl, hc⟩ := h
  have HC := Lib.hid hc
  have HF := Lib.hid F
  obtain ⟨n, hnn⟩ : ∃ n, n = xs.length := ⟨_, rfl⟩
  have HN := Lib.hid hnn
  rw [← hnn] at hn
  rw [← hnn]
  clear hc hnn F
  go_enter Tryd.func105, Tryd.ntmps105
  go_wp2
  go_loop [8] (fun i => ∃ k : Nat, k ≤ n ∧ i = .int .i64 k ∧ Hid (∀ j, j < k → decide (0 ≤ xs.getD j 0 ∧ xs.getD j 0 ≤ m - 1) = true)) (fun i => n - (intOf i).toNat)
  case atStart => exact ⟨0, Nat.zero_le _, rfl, fun j hj => by omega⟩
  case round =>
    obtain ⟨k, hk, rfl, HI⟩ := hrel
    by_cases hlt : k < n
    · have hlt2 : k < xs.length := by rw [← HN.out]; exact hlt
      obtain ⟨g, o, rfl, hg, hcell⟩ := HC.out k hlt2
      cases hb : decide (0 ≤ xs.getD k 0 ∧ xs.getD k 0 ≤ m - 1) with
      | true =>
        have HI2 : Hid (∀ j, j < k + 1 → decide (0 ≤ xs.getD j 0 ∧ xs.getD j 0 ≤ m - 1) = true) := by
          intro j hj
          by_cases e : j = k
          · subst e; exact hb
          · exact HI.out j (by omega)
        obtain ⟨x, hx⟩ : ∃ x, x = xs.getD k 0 := ⟨_, rfl⟩
        rw [← hx] at hcell hb
        have HB : Hid ((!decide (0 ≤ x ∧ x < m)) = false) := by simp at hb; show _ = _; simp; omega
        clear hb hx
        go_wp2_with (go_at_call 76; refine (noW_any x m b u _ HF.out).mono ?_; rintro e w' ⟨rfl, rfl⟩; rw [HB.out])
        go_round
        case rel => exact ⟨k + 1, by omega, by go_num, HI2⟩
        case measure => simp [intOf]; omega
      | false =>
        have HNO := Lib.hid (allB_no hlt2 hb)
        obtain ⟨x, hx⟩ : ∃ x, x = xs.getD k 0 := ⟨_, rfl⟩
        rw [← hx] at hcell hb
        have HB : Hid ((!decide (0 ≤ x ∧ x < m)) = true) := by simp at hb; show _ = _; simp; omega
        clear hb hx
        go_wp2_with (go_at_call 76; refine (noW_any x m b u _ HF.out).mono ?_; rintro e w' ⟨rfl, rfl⟩; rw [HB.out])
        go_ret
        exact ⟨⟨_, rfl, by rw [HNO.out]; simp⟩, rfl⟩
    · have HYES : Hid (allB xs 0 (m - 1) = true) := allB_yes (fun j hj => HI.out j (by have := HN.out; omega))
      go_wp2
      go_ret
      exact ⟨⟨_, rfl, by rw [HYES.out]; rfl⟩, rfl⟩
theorem contI_any (xs : List Int) (m : Int) (b : Nat) (u v : Value) (w : World) (hn : xs.length ≤ 1048576) (h : RdI xs v w) (F : Blk w b #[u, .int .i64 m] 29) :
    Calls Tryd.prog 77 #[v, .func (.func 76) #[] #[.pointer (some ⟨b, 0, none⟩)]] w fun e w' => e = .returned (.bool (!(allB xs 0 (m - 1)))) ∧ w = w' := by
  go_enter Tryd.func77, Tryd.ntmps77
  go_wp2_with (go_at_call 105; refine (idxI_any xs m b u v _ hn h F).mono ?_; rintro e w1 ⟨⟨r, rfl, hr⟩, rfl⟩)
  go_ret
  exact ⟨ret_bool (by rw [← hr]), rfl⟩
set_option maxHeartbeats 1000000 in
theorem isCheck_any (xs : List Int) (m : Int) (v : Value) (w : World) (hn : xs.length ≤ 1048576) (h : RdI xs v w) :
    Calls Tryd.prog 53 #[.agg #[v, .int .i64 m]] w fun e w' => e = .returned (.bool (chkB xs m)) ∧ Below w.heap.size w w' := by
  have HV := Lib.hid h
  obtain ⟨a, cap, rfl, _⟩ := h
  obtain ⟨n, hnn⟩ : ∃ n, n = xs.length := ⟨_, rfl⟩
  have HN := Lib.hid hnn
  rw [← hnn] at hn HV
  rw [← hnn]
  clear hnn
  have hblk : Below w.heap.size w (w.alloc (.cells #[.slice a n cap, .int .i64 m] 29)) := (Below.refl _ _).alloc (Nat.le_refl _) _
  have HBLK := Lib.hid hblk
  clear hblk
  by_cases h2 : 2 ≤ (n : Int)
  · by_cases h12 : (n : Int) ≤ 12
    · have HL : Hid (2 ≤ xs.length ∧ xs.length ≤ 12) := by show _ ∧ _; rw [← HN.out]; omega
      by_cases hm : 2 ≤ m ∧ m ≤ 11
      · have HM : Hid (decide (2 ≤ m ∧ m ≤ 11) = true) := decide_eq_true hm
        have HR := Lib.hid (chk_yes HL.out hm (b := allB xs 0 (m - 1)) rfl)
        clear hm
        go_enter Tryd.func53, Tryd.ntmps53
        go_wp2_with (first | (go_at_call 50; (refine (isMod_any _ _).mono ?_); rintro e w' ⟨rfl, rfl⟩; rw [HM.out]) | (go_at_call 77; refine (contI_any xs m w.heap.size (.slice a n cap) _ _ (by rw [← HN.out]; exact hn) (HV.out.below HBLK.out) (Blk.new _ _ _)).mono ?_; rintro e w' ⟨rfl, rfl⟩))
        go_ret
        exact ⟨ret_bool (by first | (rw [HR.out]; done) | (rw [HR.out]; simp)), HBLK.out⟩
      · have HM : Hid (decide (2 ≤ m ∧ m ≤ 11) = false) := decide_eq_false hm
        have HR := Lib.hid (chk_mod (xs := xs) hm)
        clear hm
        go_enter Tryd.func53, Tryd.ntmps53
        go_wp2_with (first | (go_at_call 50; (refine (isMod_any _ _).mono ?_); rintro e w' ⟨rfl, rfl⟩; rw [HM.out]))
        go_ret
        exact ⟨ret_bool HR.out.symm, HBLK.out⟩
    · have HR := Lib.hid (chk_len (xs := xs) (m := m) (by rw [← HN.out]; omega))
      go_enter Tryd.func53, Tryd.ntmps53
      go_wp2
      go_ret
      exact ⟨ret_bool HR.out.symm, HBLK.out⟩
  · have HR := Lib.hid (chk_len (xs := xs) (m := m) (by rw [← HN.out]; omega))
    go_enter Tryd.func53, Tryd.ntmps53
    go_wp2
    go_ret
    exact ⟨ret_bool HR.out.symm, HBLK.out⟩
end Go.Proofs.YtdjcgddcgjbboaaDoor

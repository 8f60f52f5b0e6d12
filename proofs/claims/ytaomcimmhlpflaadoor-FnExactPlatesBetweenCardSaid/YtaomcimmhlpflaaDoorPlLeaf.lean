/-
  Contracts of the model's leaves of chapter 3, and of the law's helpers over schemes.
-/
import Derived.Test.YtaomcimmhlpflaaDoorPlSl
namespace Go.Proofs.YtaomcimmhlpflaaDoor
open Go.RowKit

theorem in_any (n lo hi : Int) (w : World) :
    Calls Tryd.prog 57 #[.int .i64 n, .int .i64 lo, .int .i64 hi] w fun e w' => e = .returned (.bool (decide (lo ≤ n ∧ n ≤ hi))) ∧ w = w' := by
  by_cases h1 : lo ≤ n <;> by_cases h2 : n ≤ hi
  all_goals
    go_enter Tryd.func57, Tryd.ntmps57
    go_wp2
    go_ret
    exact ⟨by simp [h1, h2], rfl⟩
theorem plSign_any (c : UInt8) (w : World) :
    Calls Tryd.prog 58 #[.int .u8 (c.toNat : Int)] w fun e w' => e = .returned (.bool (psB c)) ∧ w = w' := by
  have HB : Hid (∀ b, (psB c = true ↔ b = true) → psB c = b) := fun b h => Bool.eq_iff_iff.2 h
  have HP := Lib.hid (psB_iff c)
  by_cases h1 : 65 ≤ (c.toNat : Int) <;> by_cases h2 : (c.toNat : Int) ≤ 90 <;> by_cases h3 : 48 ≤ (c.toNat : Int) <;> by_cases h4 : (c.toNat : Int) ≤ 57
  all_goals
    go_enter Tryd.func58, Tryd.ntmps58
    go_wp2
    go_ret
    exact ⟨ret_bool (HB.out _ (by rw [HP.out]; simp [h1, h2, h3, h4])).symm, rfl⟩
theorem plSigns_any (s : ByteArray) (lo hi : Int) (w : World) (hs : s.size ≤ maxLen) :
    Calls Tryd.prog 34 #[.string s, .int .i64 lo, .int .i64 hi] w fun e w' => e = .returned (.bool (szsB s.data.toList lo hi)) ∧ w = w' := by
  unfold maxLen at hs
  have hl : s.data.toList.length = s.size := by simp
  by_cases hz : lo ≤ (s.size : Int) ∧ (s.size : Int) ≤ hi
  · have hgd : szsB s.data.toList lo hi = pssB s.data.toList := by unfold szsB; rw [hl, decide_eq_true hz]; rfl
    have HG := Lib.hid hgd; clear hgd hl
    have hdz : decide (lo ≤ (s.size : Int) ∧ (s.size : Int) ≤ hi) = true := decide_eq_true hz
    clear hz
    go_enter Tryd.func34, Tryd.ntmps34
    go_wp2_with (go_at_call 57; refine (in_any _ _ _ _).mono ?_; rintro e w' ⟨rfl, rfl⟩)
    go_loop [7] (fun i => ∃ k : Nat, k ≤ s.size ∧ i = .int .i64 k ∧ pssB (s.data.toList.take k) = true) (fun i => s.size - (intOf i).toNat)
    case atStart => exact ⟨0, Nat.zero_le _, rfl, by simp [pssB]⟩
    case round =>
      obtain ⟨k, hk, rfl, hd⟩ := hrel
      have HD := Lib.hid hd; clear hd
      by_cases hlt : k < s.size
      · cases hc : psB s[k] with
        | true =>
          have HC := Lib.hid hc
          have hb : ∀ w, Calls Tryd.prog 58 #[.int .u8 (s[k].toNat : Int)] w fun e w' => e = .returned (.bool true) ∧ w = w' := fun w => by rw [← hc]; exact plSign_any _ w
          clear hc
          go_wp2_with (go_at_call 58; refine (hb _).mono ?_; rintro e w' ⟨rfl, rfl⟩)
          go_round
          case rel => exact ⟨k + 1, by omega, by go_num, pss_take s k hlt HD.out HC.out⟩
          case measure => simp [intOf]; omega
        | false =>
          have HN := Lib.hid (pss_no s k hlt hc)
          have hb : ∀ w, Calls Tryd.prog 58 #[.int .u8 (s[k].toNat : Int)] w fun e w' => e = .returned (.bool false) ∧ w = w' := fun w => by rw [← hc]; exact plSign_any _ w
          clear hc
          go_wp2_with (go_at_call 58; refine (hb _).mono ?_; rintro e w' ⟨rfl, rfl⟩)
          go_ret
          exact ⟨ret_bool (by rw [HG.out, HN.out]), rfl⟩
      · go_wp2
        go_ret
        exact ⟨ret_bool (by rw [HG.out, ← take_all, ← HD.out, show k = s.size by omega]), rfl⟩
  · have hgd : szsB s.data.toList lo hi = false := by unfold szsB; rw [hl, decide_eq_false hz]; rfl
    have HG := Lib.hid hgd; clear hgd hl
    have hdz : decide (lo ≤ (s.size : Int) ∧ (s.size : Int) ≤ hi) = false := decide_eq_false hz
    clear hz
    go_enter Tryd.func34, Tryd.ntmps34
    go_wp2_with (go_at_call 57; refine (in_any _ _ _ _).mono ?_; rintro e w' ⟨rfl, rfl⟩)
    go_ret
    exact ⟨ret_bool HG.out.symm, rfl⟩
/-- How long the texts are together is told, at most so much. -/
theorem szS_any (ts : List (List UInt8)) (v : Value) (left : Int) (w : World) (h0 : 0 ≤ left) (h1 : left ≤ 1048576) (hn : ts.length ≤ 9223372036854775807) (ht : ∀ i, i < ts.length → (ts.getD i []).length ≤ 9223372036854775807) (h : Rd ts v w) :
    Calls Tryd.prog 32 #[v, .int .i64 left] w fun e w' => (∃ r : Int, e = .returned (.int .i64 r) ∧ r ≤ 1048576 ∧ (0 ≤ r → ts.length ≤ 1048576 ∧ ∀ i, i < ts.length → (ts.getD i []).length ≤ 1048576)) ∧ w = w' := by
  obtain ⟨a, cap, rfl, hc⟩ := h
  have HT := Lib.hid ht
  have HC := Lib.hid hc
  obtain ⟨n, hnn⟩ : ∃ n, n = ts.length := ⟨_, rfl⟩
  have HN := Lib.hid hnn
  rw [← hnn] at hn
  rw [← hnn]
  clear ht hc hnn
  by_cases hl : left - (n : Int) < 0
  · go_enter Tryd.func32, Tryd.ntmps32
    go_wp2
    go_ret
    exact ⟨⟨_, rfl, by omega, fun h => by omega⟩, rfl⟩
  · go_enter Tryd.func32, Tryd.ntmps32
    go_wp2
    go_loop [1, 5] (fun l i => ∃ (k : Nat) (m : Int), k ≤ n ∧ i = .int .i64 k ∧ l = .int .i64 m ∧ 0 ≤ m ∧ m ≤ 1048576 ∧ Hid (∀ j, j < k → (ts.getD j []).length ≤ 1048576)) (fun _ i => n - (intOf i).toNat)
    case atStart => exact ⟨0, _, Nat.zero_le _, rfl, rfl, by omega, by omega, fun j hj => by omega⟩
    case round =>
      obtain ⟨k, m, hk, rfl, rfl, hm0, hm1, HJ⟩ := hrel
      by_cases hlt : k < n
      · obtain ⟨g, o, rfl, hg, hcell⟩ := HC.out k (by rw [← HN.out]; exact hlt)
        obtain ⟨b, hb⟩ : ∃ b : ByteArray, b = ⟨(ts.getD k []).toArray⟩ := ⟨_, rfl⟩
        have hbs : b.size = (ts.getD k []).length := by rw [hb]; simp [ByteArray.size]
        have hbm : b.size ≤ 9223372036854775807 := by rw [hbs]; exact HT.out k (by rw [← HN.out]; exact hlt)
        unfold strV at hcell
        rw [← hb] at hcell
        have HBS := Lib.hid hbs
        clear hb hbs
        by_cases hx : m - (b.size : Int) < 0
        · go_wp2
          go_ret
          exact ⟨⟨_, rfl, by omega, fun h => by omega⟩, rfl⟩
        · go_wp2
          go_round
          case rel =>
            refine ⟨k + 1, _, by omega, by go_num, by go_num, by omega, by omega, fun j hj => ?_⟩
            by_cases e : j = k
            · subst e; have := HBS.out; omega
            · exact HJ.out j (by omega)
          case measure => simp [intOf]; omega
      · go_wp2
        go_ret
        exact ⟨⟨m, rfl, hm1, fun _ => ⟨by omega, fun i hi => HJ.out i (by omega)⟩⟩, rfl⟩
end Go.Proofs.YtaomcimmhlpflaaDoor

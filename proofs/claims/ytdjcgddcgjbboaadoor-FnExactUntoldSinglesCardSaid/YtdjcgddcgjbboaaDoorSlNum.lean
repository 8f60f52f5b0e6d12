/-
  Numbers of checks: their digits, sums, and whether they are sound.
-/
import Derived.Test.YtdjcgddcgjbboaaDoorSlGood
namespace Go.Proofs.YtdjcgddcgjbboaaDoor
open Go.RowKit

theorem dgt_get (s : ByteArray) (k : Nat) (h : k < s.size) : dgt s.data.toList k = (s[k].toNat : Int) - 48 := by
  unfold dgt dv
  rw [List.getD_eq_getElem?_getD, List.getElem?_eq_getElem (by simpa using h)]
  rfl
theorem wrap_u8 (d : Nat) (h : d < 256) : IntKind.u8.wrap (d : Int) = (d : Int) := by
  unfold IntKind.wrap IntKind.bits IntKind.signed
  simp
  omega
theorem isDigits_any (s : ByteArray) (w : World) (hs : s.size ≤ maxLen) :
    Calls Tryd.prog 91 #[.string s] w fun e w' => e = .returned (.bool (digB s.data.toList)) ∧ w = w' := by
  unfold maxLen at hs
  go_enter Tryd.func91, Tryd.ntmps91
  go_wp2
  go_loop [6] (fun i => ∃ k : Nat, k ≤ s.size ∧ i = .int .i64 k ∧ digB (s.data.toList.take k) = true) (fun i => s.size - (intOf i).toNat)
  case atStart => exact ⟨0, Nat.zero_le _, rfl, by simp [digB]⟩
  case round =>
    obtain ⟨k, hk, rfl, hd⟩ := hrel
    have HD := Lib.hid hd; clear hd
    by_cases hlt : k < s.size
    · by_cases hc : 48 ≤ (s[k].toNat : Int) ∧ (s[k].toNat : Int) ≤ 57
      · obtain ⟨hc1, hc2⟩ := hc
        go_wp2
        go_round
        case rel => exact ⟨k + 1, by omega, by go_num, by rw [take_snoc s k hlt, digB_snoc, HD.out, (dgB_iff _).2 ⟨hc1, hc2⟩]; rfl⟩
        case measure => simp [intOf]; omega
      · have hno : digB s.data.toList = false := digB_no s k hlt (by simp [dgB]; omega)
        have HN := Lib.hid hno; clear hno
        by_cases hc1 : (s[k].toNat : Int) < 48
        all_goals
          go_wp2
          go_ret
          exact ⟨ret_bool HN.out.symm, rfl⟩
    · go_wp2
      go_ret
      exact ⟨ret_bool (by rw [← take_all, ← HD.out, show k = s.size by omega]), rfl⟩
/-- So many digits. -/
def ardB (s : ByteArray) (lo hi : Int) : Bool := decide (lo ≤ (s.size : Int) ∧ (s.size : Int) ≤ hi) && digB s.data.toList
theorem ard_no {s : ByteArray} {lo hi : Int} (h : ¬ (lo ≤ (s.size : Int) ∧ (s.size : Int) ≤ hi)) : ardB s lo hi = false := by unfold ardB; rw [decide_eq_false h]; rfl
theorem ard_yes {s : ByteArray} {lo hi : Int} (h : lo ≤ (s.size : Int) ∧ (s.size : Int) ≤ hi) : ardB s lo hi = digB s.data.toList := by unfold ardB; rw [decide_eq_true h]; rfl
theorem areDigits_any (s : ByteArray) (lo hi : Int) (w : World) (hs : s.size ≤ maxLen) :
    Calls Tryd.prog 68 #[.string s, .int .i64 lo, .int .i64 hi] w fun e w' => e = .returned (.bool (ardB s lo hi)) ∧ w = w' := by
  by_cases h1 : lo ≤ (s.size : Int)
  · by_cases h2 : (s.size : Int) ≤ hi
    · have HR := Lib.hid (ard_yes (s := s) (lo := lo) (hi := hi) ⟨h1, h2⟩)
      go_enter Tryd.func68, Tryd.ntmps68
      go_wp2_with (go_at_call 91; refine (isDigits_any s _ hs).mono ?_; rintro e w' ⟨rfl, rfl⟩)
      go_ret
      exact ⟨ret_bool HR.out.symm, rfl⟩
    · have HR := Lib.hid (ard_no (s := s) (lo := lo) (hi := hi) (fun h => h2 h.2))
      go_enter Tryd.func68, Tryd.ntmps68
      go_wp2
      go_ret
      exact ⟨ret_bool HR.out.symm, rfl⟩
  · have HR := Lib.hid (ard_no (s := s) (lo := lo) (hi := hi) (fun h => h1 h.1))
    go_enter Tryd.func68, Tryd.ntmps68
    go_wp2
    go_ret
    exact ⟨ret_bool HR.out.symm, rfl⟩
theorem slDigits_any (s : ByteArray) (w : World) (hs : s.size ≤ maxLen) :
    Calls Tryd.prog 65 #[.string s] w fun e w' => e = .returned (.bool (ardB s 1 12)) ∧ w = w' := by
  unfold maxLen at hs
  by_cases hz : 1 ≤ (s.size : Int) ∧ (s.size : Int) ≤ 12
  · have HZ : Hid (decide (1 ≤ (s.size : Int) ∧ (s.size : Int) ≤ 12) = true) := decide_eq_true hz
    have HR := Lib.hid (ard_yes (s := s) (lo := 1) (hi := 12) hz)
    clear hz
    go_enter Tryd.func65, Tryd.ntmps65
    go_wp2_with (go_at_call 48; refine (in_b _ _ _ true _ HZ.out).mono ?_; rintro e w' ⟨rfl, rfl⟩)
    go_loop [3] (fun i => ∃ k : Nat, k ≤ s.size ∧ i = .int .i64 k ∧ digB (s.data.toList.take k) = true) (fun i => s.size - (intOf i).toNat)
    case atStart => exact ⟨0, Nat.zero_le _, rfl, by simp [digB]⟩
    case round =>
      obtain ⟨k, hk, rfl, hd⟩ := hrel
      have HD := Lib.hid hd; clear hd
      by_cases hlt : k < s.size
      · by_cases hc : 48 ≤ (s[k].toNat : Int) ∧ (s[k].toNat : Int) ≤ 57
        · obtain ⟨hc1, hc2⟩ := hc
          go_wp2
          go_round
          case rel => exact ⟨k + 1, by omega, by go_num, by rw [take_snoc s k hlt, digB_snoc, HD.out, (dgB_iff _).2 ⟨hc1, hc2⟩]; rfl⟩
          case measure => simp [intOf]; omega
        · have hno : digB s.data.toList = false := digB_no s k hlt (by simp [dgB]; omega)
          have HN := Lib.hid hno; clear hno
          by_cases hc1 : (s[k].toNat : Int) < 48
          all_goals
            go_wp2
            go_ret
            exact ⟨ret_bool (by rw [HR.out, HN.out]), rfl⟩
      · go_wp2
        go_ret
        exact ⟨ret_bool (by rw [HR.out, ← take_all, ← HD.out, show k = s.size by omega]), rfl⟩
  · have HZ : Hid (decide (1 ≤ (s.size : Int) ∧ (s.size : Int) ≤ 12) = false) := decide_eq_false hz
    have HR := Lib.hid (ard_no (s := s) (lo := 1) (hi := 12) hz)
    clear hz
    go_enter Tryd.func65, Tryd.ntmps65
    go_wp2_with (go_at_call 48; refine (in_b _ _ _ false _ HZ.out).mono ?_; rintro e w' ⟨rfl, rfl⟩)
    go_ret
    exact ⟨ret_bool HR.out.symm, rfl⟩
theorem num_no {xs : List Int} {m : Int} {t : List UInt8} (h : chkB xs m = false) : numB xs m t = false := by unfold numB; rw [h]; rfl
theorem num_len {xs : List Int} {m : Int} {t : List UInt8} (h : ¬ t.length = xs.length) : numB xs m t = false := by unfold numB; rw [decide_eq_false h]; simp
theorem num_yes {xs : List Int} {m : Int} {t : List UInt8} {b : Bool} (h : chkB xs m = true) (h2 : t.length = xs.length) (h3 : digB t = b) : numB xs m t = b := by unfold numB; rw [h, decide_eq_true h2, h3]; rfl
set_option maxHeartbeats 1000000 in
theorem slBoth_any (xs : List Int) (m : Int) (s : ByteArray) (v : Value) (w : World) (hn : xs.length ≤ 1048576) (hs : s.size ≤ maxLen) (h : RdI xs v w) :
    Calls Tryd.prog 38 #[.agg #[v, .int .i64 m], .string s] w fun e w' => e = .returned (.bool (numB xs m s.data.toList)) ∧ Below w.heap.size w w' := by
  have HV := Lib.hid h
  have hsl : s.data.toList.length = s.size := by simp
  have HSL := Lib.hid hsl
  obtain ⟨a, cap, rfl, hc0⟩ := h
  have HG := Lib.hid (fun W hr => slGood_any xs m _ W hn hr : ∀ W, RdI xs (.slice a xs.length cap) W → _)
  obtain ⟨n, hnn⟩ : ∃ n, n = xs.length := ⟨_, rfl⟩
  have HN := Lib.hid hnn
  rw [← hnn] at HV HG hn
  rw [← hnn]
  clear hnn hc0 hsl
  cases hck : chkB xs m with
  | false =>
    have HR := Lib.hid (num_no (t := s.data.toList) hck)
    rw [hck] at HG
    clear hck
    go_enter Tryd.func38, Tryd.ntmps38
    go_wp2_with (go_at_call 33; (with_reducible refine (HG.out _ (HV.out.below (by go_grown))).mono ?_); rintro e w1 ⟨rfl, b1⟩)
    go_ret
    exact ⟨ret_bool HR.out.symm, chain (w := w) (by go_grown) b1⟩
  | true =>
    have hz : 2 ≤ xs.length ∧ xs.length ≤ 12 := by have := (chkB_iff xs m).1 hck; exact ⟨this.1, this.2.len⟩
    rw [← HN.out] at hz
    rw [hck] at HG
    by_cases hl : s.size = n
    · have HD : Hid (ardB s 1 12 = digB s.data.toList) := by show _ = _; exact ard_yes (by omega)
      have HR := Lib.hid (num_yes (t := s.data.toList) hck (by rw [HSL.out, hl]; exact HN.out) rfl)
      have hq : ((s.size : Int) == (n : Int)) = true := by rw [hl]; simp
      clear hck hl hz
      go_enter Tryd.func38, Tryd.ntmps38
      go_wp2_with (first | (go_at_call 33; (with_reducible refine (HG.out _ (HV.out.below (by go_grown))).mono ?_); rintro e w1 ⟨rfl, b1⟩; have B1 : Below w.heap.size w w1 := chain (w := w) (by go_grown) b1; have hk := b1.block w.heap.size (by simp); rw [(MapKept.heap_alloc w _).1] at hk; obtain ⟨c0, c1, cf, cs⟩ := blk2 hk; clear hk) | (go_at_call 65; (refine (slDigits_any s _ hs).mono ?_); rintro e w' ⟨rfl, rfl⟩; rw [HD.out]))
      go_ret
      exact ⟨ret_bool HR.out.symm, B1⟩
    · have HR := Lib.hid (num_len (t := s.data.toList) (xs := xs) (m := m) (by rw [HSL.out, ← HN.out]; exact hl))
      have hq : ((s.size : Int) == (n : Int)) = false := beq_false_of_ne (by omega)
      clear hck hz
      go_enter Tryd.func38, Tryd.ntmps38
      go_wp2_with (first | (go_at_call 33; (with_reducible refine (HG.out _ (HV.out.below (by go_grown))).mono ?_); rintro e w1 ⟨rfl, b1⟩; have B1 : Below w.heap.size w w1 := chain (w := w) (by go_grown) b1; have hk := b1.block w.heap.size (by simp); rw [(MapKept.heap_alloc w _).1] at hk; obtain ⟨c0, c1, cf, cs⟩ := blk2 hk; clear hk))
      go_ret
      exact ⟨ret_bool HR.out.symm, B1⟩
set_option maxHeartbeats 1000000 in
theorem isNum_any (xs : List Int) (m : Int) (s : ByteArray) (v : Value) (w : World) (hn : xs.length ≤ 1048576) (hs : s.size ≤ maxLen) (h : RdI xs v w) :
    Calls Tryd.prog 42 #[.agg #[v, .int .i64 m], .string s] w fun e w' => e = .returned (.bool (numB xs m s.data.toList)) ∧ Below w.heap.size w w' := by
  have HV := Lib.hid h
  have hsl : s.data.toList.length = s.size := by simp
  have HSL := Lib.hid hsl
  obtain ⟨a, cap, rfl, hc0⟩ := h
  have HG := Lib.hid (fun W hr => isCheck_any xs m _ W hn hr : ∀ W, RdI xs (.slice a xs.length cap) W → _)
  obtain ⟨n, hnn⟩ : ∃ n, n = xs.length := ⟨_, rfl⟩
  have HN := Lib.hid hnn
  rw [← hnn] at HV HG hn
  rw [← hnn]
  clear hnn hc0 hsl
  cases hck : chkB xs m with
  | false =>
    have HR := Lib.hid (num_no (t := s.data.toList) hck)
    rw [hck] at HG
    clear hck
    go_enter Tryd.func42, Tryd.ntmps42
    go_wp2_with (go_at_call 53; (with_reducible refine (HG.out _ (HV.out.below (by go_grown))).mono ?_); rintro e w1 ⟨rfl, b1⟩)
    go_ret
    exact ⟨ret_bool HR.out.symm, chain (w := w) (by go_grown) b1⟩
  | true =>
    rw [hck] at HG
    have HR : Hid (ardB s n n = numB xs m s.data.toList) := by
      show _ = _
      by_cases hl : s.size = n
      · rw [ard_yes (by omega), num_yes (t := s.data.toList) hck (by rw [HSL.out, hl]; exact HN.out) rfl]
      · rw [ard_no (by omega), num_len (t := s.data.toList) (xs := xs) (m := m) (by rw [HSL.out, ← HN.out]; exact hl)]
    clear hck
    go_enter Tryd.func42, Tryd.ntmps42
    go_wp2_with (first | (go_at_call 53; (with_reducible refine (HG.out _ (HV.out.below (by go_grown))).mono ?_); rintro e w1 ⟨rfl, b1⟩; have B1 : Below w.heap.size w w1 := chain (w := w) (by go_grown) b1; have hk := b1.block w.heap.size (by simp); rw [(MapKept.heap_alloc w _).1] at hk; obtain ⟨c0, c1, cf, cs⟩ := blk2 hk; clear hk) | (go_at_call 68; (refine (areDigits_any s _ _ _ hs).mono ?_); rintro e w' ⟨rfl, rfl⟩))
    go_ret
    exact ⟨ret_bool HR.out, B1⟩
set_option maxHeartbeats 1000000 in
theorem slSum_any (xs : List Int) (m : Int) (s : ByteArray) (v : Value) (w : World) (ho : CkOk xs m) (hl : s.size = xs.length) (hd : digB s.data.toList = true) (h : RdI xs v w) :
    Calls Tryd.prog 67 #[.agg #[v, .int .i64 m], .string s] w fun e w' => e = .returned (.int .i64 (wsum xs s.data.toList)) ∧ Below w.heap.size w w' := by
  obtain ⟨a, cap, rfl, hc⟩ := h
  have HC := Lib.hid hc
  have HD := Lib.hid hd
  have HO := Lib.hid ho
  have hn12 := ho.len
  obtain ⟨n, hnn⟩ : ∃ n, n = xs.length := ⟨_, rfl⟩
  have HN := Lib.hid hnn
  rw [← hnn] at hl hn12
  rw [← hnn]
  clear hc hd ho hnn
  go_enter Tryd.func67, Tryd.ntmps67
  go_wp2
  obtain ⟨W, hW⟩ : ∃ W, W = w.alloc (.cells #[.slice a n cap, .int .i64 m] 29) := ⟨_, rfl⟩
  have HB : Hid (Below w.heap.size w W) := by show Below _ _ _; rw [hW]; exact (Below.refl _ _).alloc (Nat.le_refl _) _
  rw [← hW]
  clear hW
  go_loop [5, 11] (fun sv i => ∃ (k : Nat) (S : Int), k ≤ n ∧ i = .int .i64 k ∧ sv = .int .i64 S ∧ 0 ≤ S ∧ S ≤ 90 * (k : Int) ∧ Hid (S = wsk xs s.data.toList k)) (fun _ i => n - (intOf i).toNat)
  case atStart => exact ⟨0, 0, Nat.zero_le _, rfl, rfl, by omega, by omega, rfl⟩
  case round =>
    obtain ⟨k, S, hk, rfl, rfl, hS0, hS1, HS⟩ := hrel
    by_cases hlt : k < n
    · have hlt2 : k < xs.length := by rw [← HN.out]; exact hlt
      have hls : k < s.size := by omega
      obtain ⟨g, o, rfl, hg, hcell0⟩ := HC.out k hlt2
      have hcell := (HB.out.cell (p := ⟨g, o + k, none⟩) hg).trans hcell0
      have hx := HO.out.x k hlt2
      have hm11 := HO.out.m11
      have hc := digB_get s k hls HD.out
      have hd2 : dgt s.data.toList k = (s[k].toNat : Int) - 48 := dgt_get s k hls
      obtain ⟨x, hxx⟩ : ∃ x, x = xs.getD k 0 := ⟨_, rfl⟩
      obtain ⟨d, hdd⟩ : ∃ d : Nat, (s[k].toNat : Int) = 48 + (d : Int) := ⟨s[k].toNat - 48, by omega⟩
      have hd9 : d ≤ 9 := by omega
      have HS2 : Hid (S + x * (48 + (d : Int) - 48) = wsk xs s.data.toList (k + 1)) := by
        show _ = _
        rw [wsk, ← HS.out, hd2, ← hxx, hdd]
      rw [← hxx] at hcell hx
      have hp0 : 0 ≤ x * (48 + (d : Int) - 48) := Int.mul_nonneg hx.1 (by omega)
      have hp1 : x * (48 + (d : Int) - 48) ≤ 10 * 9 := Int.mul_le_mul (by omega) (by omega) (by omega) (by omega)
      obtain ⟨hx0, hx1⟩ := hx
      have hx10 : x ≤ 10 := by omega
      have hsub : IntKind.u8.wrap ((s[k].toNat : Int) - 48) = (d : Int) := by rw [hdd, show (48 : Int) + (d : Int) - 48 = (d : Int) by omega]; exact wrap_u8 d (by omega)
      clear hd2 hxx hcell0 hx1 hc
      go_wp2
      go_round
      case rel => exact ⟨k + 1, _, by omega, by go_num, rfl, by omega, by omega, HS2⟩
      case measure => simp [intOf]; omega
    · have HR : Hid (S = wsum xs s.data.toList) := by show _ = _; rw [HS.out, wsum, ← HN.out]; congr 1; omega
      go_wp2
      go_ret
      exact ⟨ret_int HR.out, HB.out⟩
set_option maxHeartbeats 1000000 in
theorem wSum_any (xs : List Int) (m : Int) (s : ByteArray) (v : Value) (w : World) (ho : CkOk xs m) (hl : s.size = xs.length) (hd : digB s.data.toList = true) (h : RdI xs v w) :
    Calls Tryd.prog 92 #[.agg #[v, .int .i64 m], .string s] w fun e w' => e = .returned (.int .i64 (wsum xs s.data.toList)) ∧ Below w.heap.size w w' := by
  obtain ⟨a, cap, rfl, hc⟩ := h
  have HC := Lib.hid hc
  have HD := Lib.hid hd
  have HO := Lib.hid ho
  have hn12 := ho.len
  obtain ⟨n, hnn⟩ : ∃ n, n = xs.length := ⟨_, rfl⟩
  have HN := Lib.hid hnn
  rw [← hnn] at hl hn12
  rw [← hnn]
  clear hc hd ho hnn
  go_enter Tryd.func92, Tryd.ntmps92
  go_wp2
  obtain ⟨W, hW⟩ : ∃ W, W = w.alloc (.cells #[.slice a n cap, .int .i64 m] 29) := ⟨_, rfl⟩
  have HB : Hid (Below w.heap.size w W) := by show Below _ _ _; rw [hW]; exact (Below.refl _ _).alloc (Nat.le_refl _) _
  rw [← hW]
  clear hW
  go_loop [5, 11] (fun sv i => ∃ (k : Nat) (S : Int), k ≤ n ∧ i = .int .i64 k ∧ sv = .int .i64 S ∧ 0 ≤ S ∧ S ≤ 90 * (k : Int) ∧ Hid (S = wsk xs s.data.toList k)) (fun _ i => n - (intOf i).toNat)
  case atStart => exact ⟨0, 0, Nat.zero_le _, rfl, rfl, by omega, by omega, rfl⟩
  case round =>
    obtain ⟨k, S, hk, rfl, rfl, hS0, hS1, HS⟩ := hrel
    by_cases hlt : k < n
    · have hlt2 : k < xs.length := by rw [← HN.out]; exact hlt
      have hls : k < s.size := by omega
      obtain ⟨g, o, rfl, hg, hcell0⟩ := HC.out k hlt2
      have hcell := (HB.out.cell (p := ⟨g, o + k, none⟩) hg).trans hcell0
      have hx := HO.out.x k hlt2
      have hm11 := HO.out.m11
      have hc := digB_get s k hls HD.out
      have hd2 : dgt s.data.toList k = (s[k].toNat : Int) - 48 := dgt_get s k hls
      obtain ⟨x, hxx⟩ : ∃ x, x = xs.getD k 0 := ⟨_, rfl⟩
      obtain ⟨d, hdd⟩ : ∃ d : Nat, (s[k].toNat : Int) = 48 + (d : Int) := ⟨s[k].toNat - 48, by omega⟩
      have hd9 : d ≤ 9 := by omega
      have HS2 : Hid (S + x * (48 + (d : Int) - 48) = wsk xs s.data.toList (k + 1)) := by
        show _ = _
        rw [wsk, ← HS.out, hd2, ← hxx, hdd]
      rw [← hxx] at hcell hx
      have hp0 : 0 ≤ x * (48 + (d : Int) - 48) := Int.mul_nonneg hx.1 (by omega)
      have hp1 : x * (48 + (d : Int) - 48) ≤ 10 * 9 := Int.mul_le_mul (by omega) (by omega) (by omega) (by omega)
      obtain ⟨hx0, hx1⟩ := hx
      have hx10 : x ≤ 10 := by omega
      have hsub : IntKind.u8.wrap ((s[k].toNat : Int) - 48) = (d : Int) := by rw [hdd, show (48 : Int) + (d : Int) - 48 = (d : Int) by omega]; exact wrap_u8 d (by omega)
      clear hd2 hxx hcell0 hx1 hc
      go_wp2
      go_round
      case rel => exact ⟨k + 1, _, by omega, by go_num, rfl, by omega, by omega, HS2⟩
      case measure => simp [intOf]; omega
    · have HR : Hid (S = wsum xs s.data.toList) := by show _ = _; rw [HS.out, wsum, ← HN.out]; congr 1; omega
      go_wp2
      go_ret
      exact ⟨ret_int HR.out, HB.out⟩
set_option maxHeartbeats 1000000 in
theorem slSound_any (xs : List Int) (m : Int) (s : ByteArray) (v : Value) (w : World) (ho : CkOk xs m) (hl : s.size = xs.length) (hd : digB s.data.toList = true) (h : RdI xs v w) :
    Calls Tryd.prog 40 #[.agg #[v, .int .i64 m], .string s] w fun e w' => e = .returned (.bool (sndB xs m s.data.toList)) ∧ Below w.heap.size w w' := by
  have HV := Lib.hid h
  have hb := wsk_bd xs m s.data.toList ho hd xs.length (Nat.le_refl _)
  have hn12 := ho.len
  have hm2 := ho.m2
  have hm11 := ho.m11
  have HC := Lib.hid (fun W hr => slSum_any xs m s v W ho hl hd hr)
  obtain ⟨S, hS⟩ : ∃ S, S = wsum xs s.data.toList := ⟨_, rfl⟩
  have HZ : Hid (sndB xs m s.data.toList = decide (S % m = 0)) := by show _ = _; rw [hS]; rfl
  rw [← hS] at HC
  have hb0 : 0 ≤ S := by rw [hS]; exact hb.1
  have hb1 : S ≤ 1080 := by rw [hS]; have := hb.2; unfold wsum; omega
  have htm : ∀ r, S.tmod m = r ↔ S % m = r := by intro r; rw [Int.tmod_eq_emod_of_nonneg hb0]
  have h0 : 0 ≤ S % m := Int.emod_nonneg _ (by omega)
  have h1 : S % m < m := Int.emod_lt_of_pos _ (by omega)
  clear h hb ho hl hd hS
  go_enter Tryd.func40, Tryd.ntmps40
  go_wp2
  go_region_with (go_at_call 67; (with_reducible refine (HC.out _ (HV.out.below (by go_grown))).mono ?_); rintro e w1 ⟨rfl, b1⟩; have B1 : Below w.heap.size w w1 := chain (w := w) (by go_grown) b1; have hk := b1.block w.heap.size (by simp); rw [show ((w.alloc (.cells #[v, .int .i64 m] 29)).drew).heap[w.heap.size]? = some (.cells #[v, .int .i64 m] 29 (0, 0)) from (MapKept.heap_alloc w _).1] at hk; obtain ⟨c0, c1, cf, cs⟩ := blk2 hk; clear hk)
  all_goals go_wp2
  all_goals
    go_ret
    exact ⟨ret_bool (by rw [HZ.out]; rfl), by first | exact B1 | exact below_drw B1⟩
set_option maxHeartbeats 1000000 in
theorem iSound_any (xs : List Int) (m : Int) (s : ByteArray) (v : Value) (w : World) (ho : CkOk xs m) (hl : s.size = xs.length) (hd : digB s.data.toList = true) (h : RdI xs v w) :
    Calls Tryd.prog 69 #[.agg #[v, .int .i64 m], .string s] w fun e w' => e = .returned (.bool (sndB xs m s.data.toList)) ∧ Below w.heap.size w w' := by
  have HV := Lib.hid h
  have hb := wsk_bd xs m s.data.toList ho hd xs.length (Nat.le_refl _)
  have hn12 := ho.len
  have hm2 := ho.m2
  have hm11 := ho.m11
  have HC := Lib.hid (fun W hr => wSum_any xs m s v W ho hl hd hr)
  obtain ⟨S, hS⟩ : ∃ S, S = wsum xs s.data.toList := ⟨_, rfl⟩
  have HZ : Hid (sndB xs m s.data.toList = decide (S % m = 0)) := by show _ = _; rw [hS]; rfl
  rw [← hS] at HC
  have hb0 : 0 ≤ S := by rw [hS]; exact hb.1
  have hb1 : S ≤ 1080 := by rw [hS]; have := hb.2; unfold wsum; omega
  have htm : ∀ r, S.tmod m = r ↔ S % m = r := by intro r; rw [Int.tmod_eq_emod_of_nonneg hb0]
  have h0 : 0 ≤ S % m := Int.emod_nonneg _ (by omega)
  have h1 : S % m < m := Int.emod_lt_of_pos _ (by omega)
  clear h hb ho hl hd hS
  go_enter Tryd.func69, Tryd.ntmps69
  go_wp2
  go_region_with (go_at_call 92; (with_reducible refine (HC.out _ (HV.out.below (by go_grown))).mono ?_); rintro e w1 ⟨rfl, b1⟩; have B1 : Below w.heap.size w w1 := chain (w := w) (by go_grown) b1; have hk := b1.block w.heap.size (by simp); rw [show ((w.alloc (.cells #[v, .int .i64 m] 29)).drew).heap[w.heap.size]? = some (.cells #[v, .int .i64 m] 29 (0, 0)) from (MapKept.heap_alloc w _).1] at hk; obtain ⟨c0, c1, cf, cs⟩ := blk2 hk; clear hk)
  all_goals go_wp2
  all_goals
    go_ret
    exact ⟨ret_bool (by rw [HZ.out]; rfl), by first | exact B1 | exact below_drw B1⟩
end Go.Proofs.YtdjcgddcgjbboaaDoor

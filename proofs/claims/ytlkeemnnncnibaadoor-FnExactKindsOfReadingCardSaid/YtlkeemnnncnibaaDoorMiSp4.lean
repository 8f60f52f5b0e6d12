/-
  Readings: what the model says of a reading and of a letter.
-/
import Derived.Test.YtlkeemnnncnibaaDoorMiSp3
import Derived.Test.YtlkeemnnncnibaaDoorMiKd
namespace Go.Proofs.YtlkeemnnncnibaaDoor
open Go.RowKit

theorem bl_of {l m : List UInt8} {b : Bool} (h : (l == m) = b) : ((⟨l.toArray⟩ : ByteArray).toList == (⟨m.toArray⟩ : ByteArray).toList) = b := by rw [toL, toL]; exact h
theorem isA_any (s : ByteArray) (w : World) (hs : s.size ≤ 1000) (hd : digB s.data.toList = true) :
    Calls Tryd.prog 16 #[.string s, .string ⟨#[97]⟩] w fun e w' => e = .returned (.bool (Id 1 s.data.toList)) ∧ Below w.heap.size w w' := by
  have H1 := Lib.hid (fun W => miDigits_any s W hs hd)
  have HR : Hid (Id 1 s.data.toList = ((df s.data.toList : Int) == 1)) := by
    show _ = _
    unfold Id
    by_cases h : df s.data.toList = 1
    · rw [h]; rfl
    · rw [decide_eq_false h]; symm; rw [beq_eq_false_iff_ne]; omega
  obtain ⟨D, hD⟩ : ∃ D, D = df s.data.toList := ⟨_, rfl⟩
  rw [← hD] at H1 HR
  clear hd hD
  go_enter Tryd.func16, Tryd.ntmps16
  go_wp2_with (go_at_call 25; (with_reducible refine (H1.out _).mono ?_); rintro e w1 ⟨rfl, b1⟩)
  go_ret
  exact ⟨ret_bool (by rw [HR.out]), b1⟩
theorem isD_any (s : ByteArray) (w : World) (hs : s.size ≤ 1000) (hd : digB s.data.toList = true) :
    Calls Tryd.prog 16 #[.string s, .string ⟨#[100]⟩] w fun e w' => e = .returned (.bool (Id s.size s.data.toList)) ∧ Below w.heap.size w w' := by
  have H1 := Lib.hid (fun W => miDigits_any s W hs hd)
  have HR : Hid (Id s.size s.data.toList = ((df s.data.toList : Int) == (s.size : Int))) := by
    show _ = _
    unfold Id
    by_cases h : df s.data.toList = s.size
    · rw [h]; simp
    · rw [decide_eq_false h]; symm; rw [beq_eq_false_iff_ne]; omega
  obtain ⟨D, hD⟩ : ∃ D, D = df s.data.toList := ⟨_, rfl⟩
  rw [← hD] at H1 HR
  clear hd hD
  go_enter Tryd.func16, Tryd.ntmps16
  go_wp2_with (go_at_call 25; (with_reducible refine (H1.out _).mono ?_); rintro e w1 ⟨rfl, b1⟩)
  go_ret
  exact ⟨ret_bool (by rw [HR.out]), b1⟩
theorem isM_any (s : ByteArray) (w : World) (hs : s.size ≤ 1000) (hd : digB s.data.toList = true) :
    Calls Tryd.prog 16 #[.string s, .string ⟨#[109]⟩] w fun e w' => e = .returned (.bool (Io mir s.data.toList)) ∧ Below w.heap.size w w' := by
  have H1 := Lib.hid (fun W => miTurn_any s W hs)
  have HR : Hid (Io mir s.data.toList = ((⟨(s.data.toList.reverse).toArray⟩ : ByteArray).toList == s.toList)) := by
    show _ = _
    rw [Io_mir _ hd, toL, Go.ByteArray.toList_eq]
  obtain ⟨D, hD⟩ : ∃ D : ByteArray, D = ⟨(s.data.toList.reverse).toArray⟩ := ⟨_, rfl⟩
  rw [← hD] at H1 HR
  clear hd hD
  go_enter Tryd.func16, Tryd.ntmps16
  go_wp2_with (go_at_call 26; (with_reducible refine (H1.out _).mono ?_); rintro e w1 ⟨rfl, rfl⟩)
  go_ret
  exact ⟨ret_bool HR.out.symm, Below.refl _ _⟩
theorem isU_any (s : ByteArray) (w : World) (hs : s.size ≤ 1000) (hd : digB s.data.toList = true) :
    Calls Tryd.prog 16 #[.string s, .string ⟨#[117]⟩] w fun e w' => e = .returned (.bool (Io ups s.data.toList)) ∧ Below w.heap.size w w' := by
  have H1 := fun W => miUpside_any s W hs hd
  have hR : Io ups s.data.toList = (upB s.data.toList && ((upA s).toList == s.toList)) := by
    rw [Io_ups _ hd]
    unfold upA
    cases h : upB s.data.toList with
    | false => rfl
    | true => rw [if_pos rfl, toL, Go.ByteArray.toList_eq]
  obtain ⟨D, hD⟩ : ∃ D : ByteArray, D = upA s := ⟨_, rfl⟩
  obtain ⟨u, hu⟩ : ∃ u, u = upB s.data.toList := ⟨_, rfl⟩
  rw [← hD, ← hu] at H1 hR
  cases u with
  | true =>
    have HR : Hid (Io ups s.data.toList = (D.toList == s.toList)) := by show _ = _; rw [hR]; rfl
    have HH := Lib.hid H1
    clear hd hD hu H1 hR
    go_enter Tryd.func16, Tryd.ntmps16
    go_wp2_with (go_at_call 27; (with_reducible refine (HH.out _).mono ?_); rintro e w1 ⟨rfl, rfl⟩)
    go_ret
    exact ⟨ret_bool HR.out.symm, Below.refl _ _⟩
  | false =>
    have HR : Hid (Io ups s.data.toList = false) := by show _ = _; rw [hR]; rfl
    have HH := Lib.hid H1
    clear hd hD hu H1 hR
    go_enter Tryd.func16, Tryd.ntmps16
    go_wp2_with (go_at_call 27; (with_reducible refine (HH.out _).mono ?_); rintro e w1 ⟨rfl, rfl⟩)
    go_ret
    exact ⟨ret_bool HR.out.symm, Below.refl _ _⟩
theorem take_two' (s : ByteArray) (j k : Nat) (hk : k = j + 1) (h : k < s.size) (hj : j < s.size) : s.data.toList.take (k + 1) = s.data.toList.take j ++ [s[j]] ++ [s[k]] ∧ s.data.toList.take k = s.data.toList.take j ++ [s[j]] := by
  subst hk
  rw [take_snoc s (j + 1) h, take_snoc s j hj]; exact ⟨rfl, rfl⟩
theorem u8_lt' (a b : UInt8) : decide (a < b) = decide ((a.toNat : Int) < (b.toNat : Int)) := by
  rw [decide_eq_decide, UInt8.lt_iff_toNat_lt]; omega
theorem ris_mono' (l : List UInt8) : ∀ r, ris l = false → ris (l ++ r) = false := by
  intro r
  obtain ⟨q, rfl⟩ : ∃ q : List UInt8, r = q.reverse := ⟨r.reverse, by simp⟩
  intro h
  induction q with
  | nil => simpa using h
  | cons c q ih =>
    rw [List.reverse_cons, ← List.append_assoc]
    unfold ris at ih ⊢
    rw [List.reverse_append]
    simp only [List.reverse_cons, List.reverse_nil, List.nil_append, List.singleton_append, risr]
    rw [ih]; rfl
theorem ris_take' (l : List UInt8) (k : Nat) (h : ris (l.take k) = false) : ris l = false := by
  have := ris_mono' _ (l.drop k) h
  rwa [List.take_append_drop] at this
theorem fal_take' (l : List UInt8) (k : Nat) (h : fal (l.take k) = false) : fal l = false := by
  unfold fal at h ⊢
  rw [List.map_take] at h
  exact ris_take' _ k h
theorem ris_small (s : ByteArray) (h : ¬ 1 < s.size) : ris s.data.toList = true := by
  have hl : s.data.toList.length ≤ 1 := by simp; omega
  match hx : s.data.toList, hl with
  | [], _ => rfl
  | [c], _ => rfl
theorem ris_tk1 (s : ByteArray) : ris (s.data.toList.take 1) = true := by
  match s.data.toList with
  | [] => rfl
  | c :: l => rfl
theorem fal_tk1 (s : ByteArray) : fal (s.data.toList.take 1) = true := by
  match s.data.toList with
  | [] => rfl
  | c :: l => rfl
theorem nn_lt (a b : UInt8) (ha : (a.toNat : Int) ≤ 57) (hb : (b.toNat : Int) ≤ 57) : decide (nn a < nn b) = decide ((b.toNat : Int) < (a.toNat : Int)) := by
  rw [u8_lt', decide_eq_decide, nn_nat a ha, nn_nat b hb]; omega
set_option maxRecDepth 100000 in
set_option maxHeartbeats 2000000 in
theorem isR_any (s : ByteArray) (w : World) (hs : s.size ≤ 1000) (hd : digB s.data.toList = true) :
    Calls Tryd.prog 16 #[.string s, .string ⟨#[114]⟩] w fun e w' => e = .returned (.bool (ris s.data.toList)) ∧ Below w.heap.size w w' := by
  have HD := Lib.hid hd
  clear hd
  go_enter Tryd.func16, Tryd.ntmps16
  go_wp2
  go_loopw [7] (fun i wr => ∃ k : Nat, 1 ≤ k ∧ k ≤ s.size + 1 ∧ i = .int .i64 k ∧ Hid (ris (s.data.toList.take k) = true) ∧ Below w.heap.size w wr) (fun i _ => s.size - (intOf i).toNat)
  case atStart => exact ⟨1, Nat.le_refl _, by omega, rfl, ris_tk1 s, Below.refl _ _⟩
  case round =>
    obtain ⟨k, hk1, hk, rfl, HI, hbl⟩ := hrel
    by_cases hlt : k < s.size
    · obtain ⟨j, hj⟩ : ∃ j, k = j + 1 := ⟨k - 1, by omega⟩
      have hjs : j < s.size := by omega
      have HT := Lib.hid (take_two' s j k hj hlt hjs)
      have hij : (k : Int) - 1 = (j : Int) := by omega
      obtain ⟨hj1, hj2⟩ := digB_get s j hjs HD.out
      obtain ⟨hc1, hc2⟩ := digB_get s k hlt HD.out
      have hk0 : 0 < k := by omega
      clear hj
      by_cases hlt2 : (s[j].toNat : Int) < (s[k].toNat : Int)
      · have HG : Hid (ris (s.data.toList.take (k + 1)) = true) := by
          show _ = _
          have h1 := HI.out
          rw [HT.out.2] at h1
          rw [HT.out.1, ris_snoc, h1, u8_lt', decide_eq_true hlt2]; rfl
        have hle2 : ((s[k].toNat : Int) ≤ (s[j].toNat : Int)) = False := by simp; omega
        clear hlt2
        go_wp2
        go_quiet (fail)
        go_wp2
        go_roundw
        case rel => exact ⟨k + 1, by omega, by omega, by go_num, HG, below_drewN hbl _⟩
        case measure => simp [intOf]; omega
      · have HR : Hid (ris s.data.toList = false) := by
          refine ris_take' _ (k + 1) ?_
          have h1 := HI.out
          rw [HT.out.2] at h1
          rw [HT.out.1, ris_snoc, h1, u8_lt', decide_eq_false hlt2]; rfl
        have hle : (s[k].toNat : Int) ≤ (s[j].toNat : Int) := by omega
        go_wp2
        go_quiet (fail)
        go_wp2
        go_ret
        exact ⟨ret_bool HR.out.symm, below_drewN hbl _⟩
    · have HR : Hid (ris s.data.toList = true) := by
        show _ = _
        rw [← HI.out, List.take_of_length_le (by simp; omega)]
      go_wp2
      go_ret
      exact ⟨ret_bool HR.out.symm, hbl⟩
set_option maxRecDepth 100000 in
set_option maxHeartbeats 2000000 in
theorem isF_any (s : ByteArray) (w : World) (hs : s.size ≤ 1000) (hd : digB s.data.toList = true) :
    Calls Tryd.prog 16 #[.string s, .string ⟨#[102]⟩] w fun e w' => e = .returned (.bool (fal s.data.toList)) ∧ Below w.heap.size w w' := by
  have HD := Lib.hid hd
  clear hd
  go_enter Tryd.func16, Tryd.ntmps16
  go_wp2
  go_loopw [7] (fun i wr => ∃ k : Nat, 1 ≤ k ∧ k ≤ s.size + 1 ∧ i = .int .i64 k ∧ Hid (fal (s.data.toList.take k) = true) ∧ Below w.heap.size w wr) (fun i _ => s.size - (intOf i).toNat)
  case atStart => exact ⟨1, Nat.le_refl _, by omega, rfl, fal_tk1 s, Below.refl _ _⟩
  case round =>
    obtain ⟨k, hk1, hk, rfl, HI, hbl⟩ := hrel
    by_cases hlt : k < s.size
    · obtain ⟨j, hj⟩ : ∃ j, k = j + 1 := ⟨k - 1, by omega⟩
      have hjs : j < s.size := by omega
      have HT := Lib.hid (take_two' s j k hj hlt hjs)
      have hij : (k : Int) - 1 = (j : Int) := by omega
      have HN := Lib.hid (nn_lt s[j] s[k] (digB_get s j hjs HD.out).2 (digB_get s k hlt HD.out).2)
      have HF : Hid (∀ b, decide ((s[k].toNat : Int) < (s[j].toNat : Int)) = b → fal (s.data.toList.take (k + 1)) = b) := by
        intro b hb
        have h1 := HI.out
        unfold fal at h1 ⊢
        rw [HT.out.2, List.map_append, List.map_singleton] at h1
        rw [HT.out.1, List.map_append, List.map_append, List.map_singleton, List.map_singleton, ris_snoc, h1, HN.out, hb]; rfl
      clear hj
      by_cases hlt2 : (s[k].toNat : Int) < (s[j].toNat : Int)
      · have HG : Hid (fal (s.data.toList.take (k + 1)) = true) := HF.out true (decide_eq_true hlt2)
        have hle : ¬ (s[j].toNat : Int) ≤ (s[k].toNat : Int) := by omega
        go_wp2
        go_quiet (fail)
        go_wp2
        go_roundw
        case rel => exact ⟨k + 1, by omega, by omega, by go_num, HG, below_drewN hbl _⟩
        case measure => simp [intOf]; omega
      · have HR : Hid (fal s.data.toList = false) := fal_take' _ (k + 1) (HF.out false (decide_eq_false hlt2))
        have hle : (s[j].toNat : Int) ≤ (s[k].toNat : Int) := by omega
        go_wp2
        go_quiet (fail)
        go_wp2
        go_ret
        exact ⟨ret_bool HR.out.symm, below_drewN hbl _⟩
    · have HR : Hid (fal s.data.toList = true) := by
        show _ = _
        rw [← HI.out, List.take_of_length_le (by simp; omega)]
      go_wp2
      go_ret
      exact ⟨ret_bool HR.out.symm, hbl⟩
theorem kB_of {s : ByteArray} (h : kB s = true) : s = ⟨#[97]⟩ ∨ s = ⟨#[109]⟩ ∨ s = ⟨#[117]⟩ ∨ s = ⟨#[114]⟩ ∨ s = ⟨#[102]⟩ ∨ s = ⟨#[100]⟩ := by
  unfold kB at h
  simp only [Bool.or_eq_true, beq_iff_eq] at h
  rcases h with ((((h | h) | h) | h) | h) | h
  · exact .inl (of_toList h)
  · exact .inr (.inl (of_toList h))
  · exact .inr (.inr (.inl (of_toList h)))
  · exact .inr (.inr (.inr (.inl (of_toList h))))
  · exact .inr (.inr (.inr (.inr (.inl (of_toList h)))))
  · exact .inr (.inr (.inr (.inr (.inr (of_toList h)))))
theorem t1 (c : UInt8) : (⟨#[c]⟩ : ByteArray).toList = [c] := toL [c]
theorem KI_a (n : Nat) : KI n ⟨#[97]⟩ = Id 1 := by unfold KI; rw [t1]; rw [if_pos (by decide)]
theorem KI_m (n : Nat) : KI n ⟨#[109]⟩ = Io mir := by unfold KI; rw [t1]; rw [if_neg (by decide), if_pos (by decide)]
theorem KI_u (n : Nat) : KI n ⟨#[117]⟩ = Io ups := by unfold KI; rw [t1]; rw [if_neg (by decide), if_neg (by decide), if_pos (by decide)]
theorem KI_r (n : Nat) : KI n ⟨#[114]⟩ = ris := by unfold KI; rw [t1]; rw [if_neg (by decide), if_neg (by decide), if_neg (by decide), if_pos (by decide)]
theorem KI_f (n : Nat) : KI n ⟨#[102]⟩ = fal := by unfold KI; rw [t1]; rw [if_neg (by decide), if_neg (by decide), if_neg (by decide), if_neg (by decide), if_pos (by decide)]
theorem KI_d (n : Nat) : KI n ⟨#[100]⟩ = Id n := by unfold KI; rw [t1]; rw [if_neg (by decide), if_neg (by decide), if_neg (by decide), if_neg (by decide), if_neg (by decide)]
theorem miIs_any (t k : ByteArray) (w : World) (hs : t.size ≤ 1000) (hd : digB t.data.toList = true) (hk : kB k = true) :
    Calls Tryd.prog 16 #[.string t, .string k] w fun e w' => e = .returned (.bool (KI t.size k t.data.toList)) ∧ Below w.heap.size w w' := by
  rcases kB_of hk with h | h | h | h | h | h <;> subst h
  · rw [KI_a]; exact isA_any t w hs hd
  · rw [KI_m]; exact isM_any t w hs hd
  · rw [KI_u]; exact isU_any t w hs hd
  · rw [KI_r]; exact isR_any t w hs hd
  · rw [KI_f]; exact isF_any t w hs hd
  · rw [KI_d]; exact isD_any t w hs hd
end Go.Proofs.YtlkeemnnncnibaaDoor

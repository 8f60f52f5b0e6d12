/-
  Readings: what the model takes to be the beginning of a reading of a kind; the first one behind another.
-/
import Derived.Test.YtlkeemnnncnibaaMiSp5
namespace Go.Proofs.Ytlkeemnnncnibaa
open Go.RowKit

/-- What is said of a beginning. -/
def Can (n : Nat) (k : ByteArray) (b : List UInt8) (v : Bool) : Prop := (b.length = n → v = KI n k b) ∧ (v = false → cK (KI n k) (n - b.length) b = 0)
def CanE (n : Nat) (k : ByteArray) (b : List UInt8) (e : Ending) : Prop := ∃ v, e = .returned (.bool v) ∧ Can n k b v
theorem canLeaf_any (b : List UInt8) (k : ByteArray) (w : World) (hb : b.length ≤ 9) (hd : digB b = true) (hk : kB k = true) :
    Calls Try.prog 69 #[.int .i64 b.length, .string ⟨b.toArray⟩, .string k] w fun e w' => CanE b.length k b e ∧ Below w.heap.size w w' := by
  obtain ⟨s, hs⟩ : ∃ s : ByteArray, s = ⟨b.toArray⟩ := ⟨_, rfl⟩
  have hsz : s.size = b.length := by rw [hs, sz_of]
  have H1 := fun W => miIs_any s k W (by omega) (by rw [hs]; exact hd) hk
  have HX : Hid (Can b.length k b (KI s.size k s.data.toList)) := by
    have e : s.data.toList = b := by rw [hs]
    rw [hsz, e]
    refine ⟨fun _ => rfl, fun hv => ?_⟩
    rw [Nat.sub_self]
    unfold cK
    rw [LK, hv]; rfl
  have HH := Lib.hid H1
  obtain ⟨V, hV⟩ : ∃ V, V = KI s.size k s.data.toList := ⟨_, rfl⟩
  rw [← hV] at HH HX
  have hlen : ((b.length : Nat) : Int) = (s.size : Int) := by omega
  rw [← hs, hlen]
  clear hs H1 hV hsz hlen hd hb
  go_enter Try.func69, Try.ntmps69
  go_wp2_with (go_at_call 83; (with_reducible refine (HH.out _).mono ?_); rintro e w1 ⟨rfl, b1⟩)
  go_ret
  exact ⟨⟨_, rfl, HX.out⟩, b1⟩
theorem dec_le1 (D : Nat) : decide ((D : Int) ≤ 1) = decide (D ≤ 1) := by rw [decide_eq_decide]; omega
theorem canA_any (n : Nat) (b : List UInt8) (w : World) (hn : n ≤ 9) (hb : b.length < n) (hd : digB b = true) :
    Calls Try.prog 69 #[.int .i64 n, .string ⟨b.toArray⟩, .string ⟨#[97]⟩] w fun e w' => CanE n ⟨#[97]⟩ b e ∧ Below w.heap.size w w' := by
  obtain ⟨s, hs⟩ : ∃ s : ByteArray, s = ⟨b.toArray⟩ := ⟨_, rfl⟩
  have hsz : s.size = b.length := by rw [hs, sz_of]
  have H1 := fun W => miDigits_any s W (by omega) (by rw [hs]; exact hd)
  have e : s.data.toList = b := by rw [hs]
  rw [e] at H1
  have HX : Hid (∀ v, v = decide ((df b : Int) ≤ 1) → Can n ⟨#[97]⟩ b v) := by
    intro v hv
    refine ⟨fun h => by omega, fun h => ?_⟩
    rw [KI_a, cK_dif 1 _ b hd]
    refine wd_no _ _ _ (.inl ?_)
    rw [h] at hv
    have := of_decide_eq_false hv.symm
    omega
  obtain ⟨D, hD⟩ : ∃ D, D = df b := ⟨_, rfl⟩
  rw [← hD] at H1 HX
  have HH := Lib.hid H1
  have hlt : s.size < n := by omega
  rw [← hs]
  clear hs H1 hD hsz hd hb e
  go_enter Try.func69, Try.ntmps69
  go_wp2_with (go_at_call 84; (with_reducible refine (HH.out _).mono ?_); rintro e w1 ⟨rfl, b1⟩)
  go_ret
  exact ⟨⟨_, rfl, HX.out _ (by first | rfl | simp [dec_le1])⟩, b1⟩
theorem canD_any (n : Nat) (b : List UInt8) (w : World) (hn : n ≤ 9) (hb : b.length < n) (hd : digB b = true) :
    Calls Try.prog 69 #[.int .i64 n, .string ⟨b.toArray⟩, .string ⟨#[100]⟩] w fun e w' => CanE n ⟨#[100]⟩ b e ∧ Below w.heap.size w w' := by
  obtain ⟨s, hs⟩ : ∃ s : ByteArray, s = ⟨b.toArray⟩ := ⟨_, rfl⟩
  have hsz : s.size = b.length := by rw [hs, sz_of]
  have H1 := fun W => miDigits_any s W (by omega) (by rw [hs]; exact hd)
  have e : s.data.toList = b := by rw [hs]
  rw [e] at H1
  have hdl := df_le' b
  have HX : Hid (∀ v, v = ((df b : Int) == (s.size : Int)) → Can n ⟨#[100]⟩ b v) := by
    intro v hv
    refine ⟨fun h => by omega, fun h => ?_⟩
    rw [KI_d, cK_dif n _ b hd]
    refine wd_no _ _ _ (.inr ?_)
    rw [h] at hv
    have := beq_eq_false_iff_ne.1 hv.symm
    omega
  obtain ⟨D, hD⟩ : ∃ D, D = df b := ⟨_, rfl⟩
  rw [← hD] at H1 HX
  have HH := Lib.hid H1
  have hlt : s.size < n := by omega
  rw [← hs]
  clear hs H1 hD hsz hd hb e hdl
  go_enter Try.func69, Try.ntmps69
  go_wp2_with (go_at_call 84; (with_reducible refine (HH.out _).mono ?_); rintro e w1 ⟨rfl, b1⟩)
  go_ret
  exact ⟨⟨_, rfl, HX.out _ (by first | rfl | simp)⟩, b1⟩
theorem gr_last (s : ByteArray) (j : Nat) (hj : j + 1 = s.size) (hjs : j < s.size) : gr s.data.toList = 57 - s[j].toNat := by
  have := take_snoc s j hjs
  rw [hj, take_all] at this
  rw [this, gr_snoc]
theorem grn_last (s : ByteArray) (j : Nat) (hj : j + 1 = s.size) (hjs : j < s.size) (h : (s[j].toNat : Int) ≤ 57) : gr (s.data.toList.map nn) = s[j].toNat - 48 := by
  have := take_snoc s j hjs
  rw [hj, take_all] at this
  rw [this, List.map_append, List.map_singleton, gr_snoc]
  have := nn_nat s[j] h
  omega
theorem cr_no (l : Nat) (b : List UInt8) (h : ris b = false ∨ gr b < l) : cr l b = 0 := by
  unfold cr
  rcases h with h | h
  · rw [h]; rfl
  · rw [ch_up _ _ h]; split <;> rfl
set_option maxHeartbeats 1000000 in
theorem canR_any (n : Nat) (b : List UInt8) (w : World) (hn : n ≤ 9) (hb : b.length < n) (hd : digB b = true) :
    Calls Try.prog 69 #[.int .i64 n, .string ⟨b.toArray⟩, .string ⟨#[114]⟩] w fun e w' => CanE n ⟨#[114]⟩ b e ∧ Below w.heap.size w w' := by
  obtain ⟨s, hs⟩ : ∃ s : ByteArray, s = ⟨b.toArray⟩ := ⟨_, rfl⟩
  have hsz : s.size = b.length := by rw [hs, sz_of]
  have e : s.data.toList = b := by rw [hs]
  have H1 := fun W => isR_any s W (by omega) (by rw [hs]; exact hd)
  rw [e] at H1
  have HX : Hid (∀ v, (v = false → ris b = false ∨ gr b < n - s.size) → Can n ⟨#[114]⟩ b v) := by
    intro v hv
    refine ⟨fun h => by omega, fun h => ?_⟩
    rw [KI_r, cK_ris _ (by omega) b hd, ← hsz]
    exact cr_no _ _ (hv h)
  have HG : Hid (∀ (j : Nat) (hj : j + 1 = s.size) (hjs : j < s.size), gr b = 57 - s[j].toNat) := by intro j hj hjs; rw [← e]; exact gr_last s j hj hjs
  have HDG : Hid (∀ (j : Nat) (hjs : j < s.size), 48 ≤ (s[j].toNat : Int) ∧ (s[j].toNat : Int) ≤ 57) := fun j hjs => digB_get s j hjs (by rw [e]; exact hd)
  obtain ⟨V, hV⟩ : ∃ V, V = ris b := ⟨_, rfl⟩
  rw [← hV] at H1 HX
  have HH := Lib.hid H1
  have hlt : s.size < n := by omega
  rw [← hs]
  clear hs H1 hV hsz hd hb e
  cases V with
  | false =>
    go_enter Try.func69, Try.ntmps69
    go_wp2_with (go_at_call 83; (with_reducible refine (HH.out _).mono ?_); rintro e w1 ⟨rfl, b1⟩)
    go_ret
    exact ⟨⟨_, rfl, HX.out _ (fun _ => by simp)⟩, b1⟩
  | true =>
    by_cases h0 : s.size = 0
    · have h0' : ((s.size : Int) == 0) = true := by simp [h0]
      clear h0
      go_enter Try.func69, Try.ntmps69
      go_wp2_with (go_at_call 83; (with_reducible refine (HH.out _).mono ?_); rintro e w1 ⟨rfl, b1⟩)
      go_ret
      exact ⟨⟨_, rfl, HX.out _ (fun h => by cases h)⟩, b1⟩
    · have h0' : ((s.size : Int) == 0) = false := beq_eq_false_iff_ne.2 (by omega)
      obtain ⟨j, hj⟩ : ∃ j, j + 1 = s.size := ⟨s.size - 1, by omega⟩
      have hjs : j < s.size := by omega
      have hji : (s.size : Int) - 1 = (j : Int) := by omega
      have HGJ := Lib.hid (HG.out j hj hjs)
      obtain ⟨hd1, hd2⟩ := HDG.out j hjs
      clear h0 hj
      by_cases hge : (n : Int) - (s.size : Int) ≤ 57 - (s[j].toNat : Int)
      · go_enter Try.func69, Try.ntmps69
        go_wp2_with (go_at_call 83; (with_reducible refine (HH.out _).mono ?_); rintro e w1 ⟨rfl, b1⟩)
        go_ret
        exact ⟨⟨_, rfl, HX.out _ (fun h => by first | (cases h; done) | (simp at h; omega))⟩, b1⟩
      · have HV : Hid (gr b < n - s.size) := by show _ < _; rw [HGJ.out]; omega
        go_enter Try.func69, Try.ntmps69
        go_wp2_with (go_at_call 83; (with_reducible refine (HH.out _).mono ?_); rintro e w1 ⟨rfl, b1⟩)
        go_ret
        exact ⟨⟨_, rfl, HX.out _ (fun _ => .inr HV.out)⟩, b1⟩
set_option maxHeartbeats 1000000 in
theorem canF_any (n : Nat) (b : List UInt8) (w : World) (hn : n ≤ 9) (hb : b.length < n) (hd : digB b = true) :
    Calls Try.prog 69 #[.int .i64 n, .string ⟨b.toArray⟩, .string ⟨#[102]⟩] w fun e w' => CanE n ⟨#[102]⟩ b e ∧ Below w.heap.size w w' := by
  obtain ⟨s, hs⟩ : ∃ s : ByteArray, s = ⟨b.toArray⟩ := ⟨_, rfl⟩
  have hsz : s.size = b.length := by rw [hs, sz_of]
  have e : s.data.toList = b := by rw [hs]
  have H1 := fun W => isF_any s W (by omega) (by rw [hs]; exact hd)
  rw [e] at H1
  have HX : Hid (∀ v, (v = false → fal b = false ∨ gr (b.map nn) < n - s.size) → Can n ⟨#[102]⟩ b v) := by
    intro v hv
    refine ⟨fun h => by omega, fun h => ?_⟩
    rw [KI_f, cK_fal _ (by omega) b hd, ← hsz]
    exact cr_no _ _ (hv h)
  have HDG : Hid (∀ (j : Nat) (hjs : j < s.size), 48 ≤ (s[j].toNat : Int) ∧ (s[j].toNat : Int) ≤ 57) := fun j hjs => digB_get s j hjs (by rw [e]; exact hd)
  have HG : Hid (∀ (j : Nat) (hj : j + 1 = s.size) (hjs : j < s.size), gr (b.map nn) = s[j].toNat - 48) := by intro j hj hjs; rw [← e]; exact grn_last s j hj hjs (HDG.out j hjs).2
  obtain ⟨V, hV⟩ : ∃ V, V = fal b := ⟨_, rfl⟩
  rw [← hV] at H1 HX
  have HH := Lib.hid H1
  have hlt : s.size < n := by omega
  rw [← hs]
  clear hs H1 hV hsz hd hb e
  cases V with
  | false =>
    go_enter Try.func69, Try.ntmps69
    go_wp2_with (go_at_call 83; (with_reducible refine (HH.out _).mono ?_); rintro e w1 ⟨rfl, b1⟩)
    go_ret
    exact ⟨⟨_, rfl, HX.out _ (fun _ => by simp)⟩, b1⟩
  | true =>
    by_cases h0 : s.size = 0
    · have h0' : ((s.size : Int) == 0) = true := by simp [h0]
      clear h0
      go_enter Try.func69, Try.ntmps69
      go_wp2_with (go_at_call 83; (with_reducible refine (HH.out _).mono ?_); rintro e w1 ⟨rfl, b1⟩)
      go_ret
      exact ⟨⟨_, rfl, HX.out _ (fun h => by cases h)⟩, b1⟩
    · have h0' : ((s.size : Int) == 0) = false := beq_eq_false_iff_ne.2 (by omega)
      obtain ⟨j, hj⟩ : ∃ j, j + 1 = s.size := ⟨s.size - 1, by omega⟩
      have hjs : j < s.size := by omega
      have hji : (s.size : Int) - 1 = (j : Int) := by omega
      have HGJ := Lib.hid (HG.out j hj hjs)
      obtain ⟨hd1, hd2⟩ := HDG.out j hjs
      clear h0 hj
      by_cases hge : (n : Int) - (s.size : Int) ≤ (s[j].toNat : Int) - 48
      · go_enter Try.func69, Try.ntmps69
        go_wp2_with (go_at_call 83; (with_reducible refine (HH.out _).mono ?_); rintro e w1 ⟨rfl, b1⟩)
        go_ret
        exact ⟨⟨_, rfl, HX.out _ (fun h => by first | (cases h; done) | (simp at h; omega))⟩, b1⟩
      · have HV : Hid (gr (b.map nn) < n - s.size) := by show _ < _; rw [HGJ.out]; omega
        go_enter Try.func69, Try.ntmps69
        go_wp2_with (go_at_call 83; (with_reducible refine (HH.out _).mono ?_); rintro e w1 ⟨rfl, b1⟩)
        go_ret
        exact ⟨⟨_, rfl, HX.out _ (fun _ => .inr HV.out)⟩, b1⟩
end Go.Proofs.Ytlkeemnnncnibaa

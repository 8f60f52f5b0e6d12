/-
  Readings: the counters of all kinds, each with what it counts.
-/
import Derived.Test.YtlkeemnnncnibaaDoorMiIm4
namespace Go.Proofs.YtlkeemnnncnibaaDoor
open Go.RowKit

theorem cK_le (I : List UInt8 → Bool) (l : Nat) : ∀ b, cK I l b ≤ 10 ^ l := by
  induction l with
  | zero => intro b; unfold cK; rw [LK]; split <;> simp
  | succ l ih =>
    intro b
    rw [cK_succ, Nat.pow_succ, Nat.mul_comm]
    have : ∀ k, sm (fun d => cK I l (b ++ [dc d])) k ≤ k * 10 ^ l := by
      intro k
      induction k with
      | zero => exact Nat.zero_le _
      | succ k ihk => simp only [sm]; have := ih (b ++ [dc k]); rw [Nat.add_mul, Nat.one_mul]; omega
    exact this 10
theorem cK_bd (I : List UInt8 → Bool) (l : Nat) (b : List UInt8) (h : l ≤ 9) : cK I l b ≤ 1000000000 :=
  Nat.le_trans (cK_le I l b) (Nat.le_trans (Nat.pow_le_pow_right (by omega) h) (by decide))
/-- A function counts the readings of so many digits that are of a kind and begin so, from a world on. -/
def Cnts (g : Nat) (pre cb : Array Value) (n : Nat) (I : List UInt8 → Bool) (w : World) : Prop :=
  ∀ (b : List UInt8) (W : World), digB b = true → b.length ≤ n → Below w.heap.size w W → Calls Tryd.prog g (pre ++ (#[.string ⟨b.toArray⟩, .int .i64 n] ++ cb)) W fun e w' => e = .returned (.int .i64 ((cK I (n - b.length) b : Nat) : Int)) ∧ Below W.heap.size W w'
/-- It is entered as it is. -/
def Ent (g : Nat) : Prop := ∀ args w, (callFunc g args).run Tryd.prog w = .ok (.enter g args) w
theorem Cnts.below {g : Nat} {pre cb : Array Value} {n : Nat} {I : List UInt8 → Bool} {w w' : World} (h : Cnts g pre cb n I w) (hb : Below w.heap.size w w') : Cnts g pre cb n I w' :=
  fun b W hd hl hW => h b W hd hl (chain hb hW)
theorem pa_10 (o : Nat → Nat) (b : List UInt8) (p q : Nat) : pa o b p q ≤ 10 := pa_le o b p q 10
theorem pr_bd (f : Nat → Nat) (k : Nat) (h : ∀ p, f p ≤ 10) : pr f k ≤ 10 ^ k := by
  induction k with
  | zero => exact Nat.le_refl _
  | succ k ih => simp only [pr]; rw [Nat.pow_succ]; exact Nat.mul_le_mul ih (h k)
set_option maxHeartbeats 1000000 in
theorem count_any (o : Nat → Nat) (t : ByteArray) (b : List UInt8) (n : Nat) (w : World) (ht : Tbl o t) (hb : b.length ≤ n) (hn : n ≤ 9) :
    Calls Tryd.prog 30 #[.string t, .string ⟨b.toArray⟩, .int .i64 n] w fun e w' => e = .returned (.int .i64 ((co o n b : Nat) : Int)) ∧ Below w.heap.size w w' := by
  obtain ⟨h, hh⟩ : ∃ h, h = (n + 1) / 2 := ⟨_, rfl⟩
  have HHn : h ≤ 5 := by omega
  have HH := Lib.hid hh
  obtain ⟨f, hf⟩ : ∃ f : Nat → Nat, f = (fun p => pa o b p (n - 1 - p)) := ⟨_, rfl⟩
  have HF : Hid (∀ p, f p = pa o b p (n - 1 - p)) := by intro p; rw [hf]
  have HR0 : Hid (co o n b = pr f h) := by show _ = _; rw [hf, hh]; rfl
  have HB : Hid (∀ k, pr f k ≤ 10 ^ k) := fun k => pr_bd f k (fun p => by rw [hf]; exact pa_10 _ _ _ _)
  have HB2 : Hid (∀ p, f p ≤ 10) := fun p => by rw [hf]; exact pa_10 _ _ _ _
  have hpa := fun (p : Nat) (hp : p ≤ 100) (x : Int) (hx : x = ((n - 1 - p : Nat) : Int)) W => pairsAt_any o t b p (n - 1 - p) x W ht (by omega) (by omega) (by omega) hx
  have HPA := Lib.hid hpa
  have hhn : 2 * h ≤ n + 1 := by omega
  clear hf hpa hh ht hb
  go_enter Tryd.func30, Tryd.ntmps30
  go_wp2
  go_loopw [7, 12] (fun s i wr => ∃ (k S : Nat), k ≤ h ∧ i = .int .i64 k ∧ s = .int .i64 S ∧ Hid (S = pr f k) ∧ Below w.heap.size w wr) (fun _ i _ => h - (intOf i).toNat)
  case atStart => exact ⟨0, 1, Nat.zero_le _, rfl, rfl, rfl, Below.refl _ _⟩
  case round =>
    obtain ⟨k, S, hk, rfl, rfl, HS, hbl⟩ := hrel
    by_cases hlt : (k : Int) < ((n : Int) + 1) / 2
    · have hSb : S ≤ 100000 := by
        rw [HS.out]
        exact Nat.le_trans (HB.out k) (Nat.le_trans (Nat.pow_le_pow_right (by omega) (show k ≤ 5 by omega)) (by decide))
      have hkh : k < h := by have := HH.out; omega
      have hfb := HB2.out k
      have hc := HPA.out k (by omega) ((n : Int) - 1 - (k : Int)) (by omega)
      rw [← HF.out k] at hc
      have HC := Lib.hid hc
      obtain ⟨x, hx⟩ : ∃ x, x = f k := ⟨_, rfl⟩
      rw [← hx] at HC hfb
      have q1 : 0 ≤ (S : Int) * (x : Int) := Int.mul_nonneg (by omega) (by omega)
      have q2 : (S : Int) * (x : Int) ≤ 100000 * 10 := Int.mul_le_mul (by omega) (by omega) (by omega) (by omega)
      have HN : Hid (S * x = pr f (k + 1)) := by show _ = _; rw [HS.out, hx]; rfl
      have HNI : Hid ((S : Int) * (x : Int) = ((S * x : Nat) : Int)) := by show _ = _; push_cast; rfl
      clear hc hx
      go_wp2_with (go_at_call 43; (with_reducible refine (HC.out _).mono ?_); rintro e w1 ⟨rfl, b1⟩)
      go_roundw
      case rel => exact ⟨k + 1, S * x, by omega, by go_num, val_int HNI.out, HN, chain hbl b1⟩
      case measure => simp [intOf]; omega
    · have HR : Hid ((S : Int) = ((co o n b : Nat) : Int)) := by show _ = _; rw [HR0.out, HS.out, show k = h by have := HH.out; omega]
      go_wp2
      go_ret
      exact ⟨ret_int HR.out, hbl⟩
theorem tbl_mir : Tbl mir ⟨#[48, 49, 50, 51, 52, 53, 54, 55, 56, 57]⟩ := by
  refine ⟨rfl, ?_⟩
  intro i h
  have hi : i < 10 := h
  have : i = 0 ∨ i = 1 ∨ i = 2 ∨ i = 3 ∨ i = 4 ∨ i = 5 ∨ i = 6 ∨ i = 7 ∨ i = 8 ∨ i = 9 := by omega
  rcases this with h | h | h | h | h | h | h | h | h | h <;> subst h <;> rfl
theorem tbl_ups : Tbl ups ⟨#[48, 49, 32, 32, 32, 32, 57, 32, 56, 54]⟩ := by
  refine ⟨rfl, ?_⟩
  intro i h
  have hi : i < 10 := h
  have : i = 0 ∨ i = 1 ∨ i = 2 ∨ i = 3 ∨ i = 4 ∨ i = 5 ∨ i = 6 ∨ i = 7 ∨ i = 8 ∨ i = 9 := by omega
  rcases this with h | h | h | h | h | h | h | h | h | h <;> subst h <;> rfl
theorem ent_count : Ent 30 := enters_of Tryd.func30 (by kernel_rfl) rfl
theorem cnts_opp (o : Nat → Nat) (t : ByteArray) (n : Nat) (w : World) (ht : Tbl o t) (hn : n ≤ 9) : Cnts 30 #[.string t] #[] n (Io o) w := by
  intro b W hd hl _
  rw [cK_opp o _ b hd, show b.length + (n - b.length) = n by omega]
  exact count_any o t b n W ht hl hn
theorem ent_rising : Ent 31 := enters_of Tryd.func31 (by kernel_rfl) rfl
theorem ent_falling : Ent 32 := enters_of Tryd.func32 (by kernel_rfl) rfl
theorem cnts_rising (n : Nat) (w : World) (hn : n ≤ 9) : Cnts 31 #[] #[] n ris w := by
  intro b W hd hl _
  rw [cK_ris _ (by omega) b hd]
  have := countRising_any ⟨b.toArray⟩ n W (by rw [sz_of]; exact hl) hn hd
  rw [sz_of] at this
  exact this
theorem cnts_falling (n : Nat) (w : World) (hn : n ≤ 9) : Cnts 32 #[] #[] n fal w := by
  intro b W hd hl _
  rw [cK_fal _ (by omega) b hd]
  have := countFalling_any ⟨b.toArray⟩ n W (by rw [sz_of]; exact hl) hn hd
  rw [sz_of] at this
  exact this
theorem ent_dif : Ent 40 := enters_of Tryd.func40 (by kernel_rfl) rfl
set_option maxHeartbeats 1000000 in
theorem cnts_dif (m n : Nat) (w : World) (g : Nat) (hg : g < w.heap.size) (hc : w.cell? ⟨g, 0, none⟩ = some (.int .i64 (m : Int))) (hm : m ≤ 10) (hn : n ≤ 9) : Cnts 40 #[] #[.pointer (some ⟨g, 0, none⟩)] n (Id m) w := by
  intro b W hd hl hW
  have hcW : W.cell? ⟨g, 0, none⟩ = some (.int .i64 (m : Int)) := (hW.cell (p := ⟨g, 0, none⟩) hg).trans hc
  rw [cK_dif m _ b hd]
  have h1 := fun W => differentDigits_any ⟨b.toArray⟩ W (by rw [sz_of]; unfold maxLen; omega)
  have hdf := df_le b
  have h2 := fun W => waysToDiffer_any (n - b.length) (df b) m ((n : Int) - (b.length : Int)) ((df b : Nat) : Int) W (by omega) (by omega) hm (by omega) rfl
  obtain ⟨D, hD⟩ : ∃ D, D = df b := ⟨_, rfl⟩
  have h1' : ∀ W, Calls Tryd.prog 42 #[.string ⟨b.toArray⟩] W fun e w' => e = .returned (.int .i64 (D : Int)) ∧ W = w' := by rw [hD]; exact h1
  rw [← hD] at h2 hdf ⊢
  obtain ⟨Z, hZ⟩ : ∃ Z, Z = wd (n - b.length) D m := ⟨_, rfl⟩
  rw [← hZ] at h2 ⊢
  have hsz : ((⟨b.toArray⟩ : ByteArray).size : Int) = (b.length : Int) := by rw [sz_of]
  obtain ⟨s, hs⟩ : ∃ s : ByteArray, s = ⟨b.toArray⟩ := ⟨_, rfl⟩
  rw [← hs] at h1' hsz ⊢
  rw [← hsz] at h2
  have hl' : s.size ≤ n := by omega
  have H1 := Lib.hid h1'
  have H2 := Lib.hid h2
  clear h1 h1' h2 hD hZ hs hsz hd hl hW hc hdf
  have hwr : IntKind.i64.wrap ((n : Int) - (s.size : Int)) = (n : Int) - (s.size : Int) := by rw [IntWalk.i64_in] <;> omega
  show Calls Tryd.prog 40 #[.string s, .int .i64 n, .pointer (some ⟨g, 0, none⟩)] W _
  go_enter Tryd.func40, Tryd.ntmps40
  go_wp2
  go_region_with (first | (go_at_call 42; (with_reducible refine (H1.out _).mono ?_); rintro e w1 ⟨rfl, rfl⟩) | (go_at_call 41; (with_reducible refine (H2.out _).mono ?_); rintro e w1 ⟨rfl, rfl⟩))
  all_goals go_wp2
  all_goals
    go_ret
    exact ⟨rfl, by go_grown⟩
end Go.Proofs.YtlkeemnnncnibaaDoor

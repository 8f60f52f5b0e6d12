/-
  Readings: rising and falling ones, and those with opposites, as the program counts them.
-/
import Derived.Test.YtlkeemnnncnibaaDoorMiIm2
namespace Go.Proofs.YtlkeemnnncnibaaDoor
open Go.RowKit

theorem byteCells_snoc (l : List UInt8) (c : UInt8) : Lib.byteCells (l ++ [c]) = Lib.byteCells l ++ [.int .u8 c.toNat] := by simp [Lib.byteCells]
theorem bytes_len (l : List UInt8) (k : Nat) : (Lib.byteCells (l.take k)).length ≤ k := by simp [Lib.byteCells]; omega
def nines (s : ByteArray) : List UInt8 := s.data.toList.map nn
theorem nines_snoc (s : ByteArray) (k : Nat) (h : k < s.size) : (nines s).take (k + 1) = (nines s).take k ++ [nn s[k]] := by
  unfold nines
  rw [← List.map_take, ← List.map_take, take_snoc s k h, List.map_append]; rfl
theorem nines_all (s : ByteArray) : (nines s).take s.size = nines s := List.take_of_length_le (by simp [nines])
set_option maxHeartbeats 400000 in
theorem nines_any (s : ByteArray) (w : World) (hs : s.size ≤ 12) (hd : digB s.data.toList = true) :
    Calls Tryd.prog 45 #[.string s] w fun e w' => e = .returned (.string ⟨(nines s).toArray⟩) ∧ Below w.heap.size w w' := by
  have HD := Lib.hid hd; clear hd
  go_enter Tryd.func45, Tryd.ntmps45
  go_wp2
  go_loopw [7] (fun i wr => ∃ k : Nat, k ≤ s.size ∧ i = .int .i64 k ∧ Lib.IsBuilder 57 5 w.heap.size w.heap.size (Lib.byteCells ((nines s).take k)) wr ∧ Below w.heap.size w wr ∧ w.heap.size ≤ wr.heap.size) (fun i _ => s.size - (intOf i).toNat)
  case atStart => exact ⟨0, Nat.zero_le _, rfl, Lib.fresh_isBuilder 57 5 w, by go_grown, by simp⟩
  case round =>
    obtain ⟨k, hk, rfl, hbld, hbl, hsz⟩ := hrel
    have HB := Lib.hid hbld
    clear hbld
    by_cases hlt : k < s.size
    · have hc := digB_get s k hlt HD.out
      obtain ⟨hx1, hx2⟩ := hc
      have HN := Lib.hid (nn_nat s[k] hx2)
      go_wp2_with (go_at_call 59; go_must (refine (wb_any w.heap.size _ _ _ _ HB.out (by have := bytes_len (nines s) k; omega) hsz).mono ?_); rintro e w1 ⟨rfl, h1, b1, _⟩; have H1 := Lib.hid h1; have hz := b1.size; have hb := hbl.trans (b1.mono (by omega)); clear b1 h1)
      go_roundw
      case rel => exact ⟨k + 1, by omega, by go_num, by rw [nines_snoc s k hlt, byteCells_snoc, HN.out]; exact .inr H1.out, hb, by omega⟩
      case measure => simp [intOf]; omega
    · have he : (nines s).take k = nines s := by rw [show k = s.size by omega]; exact nines_all s
      have HE := Lib.hid he; clear he
      go_wp2_with (go_at_call 52; go_must (refine (bstr_any w.heap.size _ _ _ HB.out hsz).mono ?_); rintro e w1 ⟨rfl, b1⟩)
      go_ret
      exact ⟨by rw [HE.out]; rfl, hbl.trans (b1.mono (by omega))⟩
theorem take_two (s : ByteArray) (j : Nat) (h : j + 1 < s.size) : s.data.toList.take (j + 1 + 1) = s.data.toList.take j ++ [s[j]] ++ [s[j + 1]] := by
  rw [take_snoc s (j + 1) h, take_snoc s j (by omega)]
theorem u8_lt (a b : UInt8) : decide (a < b) = decide ((a.toNat : Int) < (b.toNat : Int)) := by
  rw [decide_eq_decide, UInt8.lt_iff_toNat_lt]; omega
theorem ris_mono (l : List UInt8) : ∀ r, ris l = false → ris (l ++ r) = false := by
  intro r
  obtain ⟨q, rfl⟩ : ∃ q : List UInt8, r = q.reverse := ⟨r.reverse, by simp⟩
  intro h
  induction q with
  | nil => simpa using h
  | cons c q ih =>
    rw [List.reverse_cons, ← List.append_assoc]
    unfold ris at ih ⊢
    rw [List.reverse_append]
    simp only [List.reverse_cons, List.reverse_nil, List.nil_append, List.singleton_append, risr]
    rw [ih]; rfl
theorem ris_take (l : List UInt8) (k : Nat) (h : ris (l.take k) = false) : ris l = false := by
  have := ris_mono _ (l.drop k) h
  rwa [List.take_append_drop] at this
set_option maxHeartbeats 1000000 in
theorem countRising_any (s : ByteArray) (n : Nat) (w : World) (hs : s.size ≤ n) (hn : n ≤ 9) (hd : digB s.data.toList = true) :
    Calls Tryd.prog 31 #[.string s, .int .i64 n] w fun e w' => e = .returned (.int .i64 ((cr (n - s.size) s.data.toList : Nat) : Int)) ∧ Below w.heap.size w w' := by
  have HD := Lib.hid hd; clear hd
  go_enter Tryd.func31, Tryd.ntmps31
  go_wp2
  go_loopw [5, 9] (fun g i wr => ∃ (k G : Nat), k ≤ s.size ∧ i = .int .i64 k ∧ g = .int .i64 G ∧ G ≤ 10 ∧ Hid (ris (s.data.toList.take k) = true ∧ G = gr (s.data.toList.take k)) ∧ Below w.heap.size w wr) (fun _ i _ => s.size - (intOf i).toNat)
  case atStart => exact ⟨0, 10, Nat.zero_le _, rfl, rfl, by omega, ⟨rfl, rfl⟩, Below.refl _ _⟩
  case round =>
    obtain ⟨k, G, hk, rfl, rfl, hG, HI, hbl⟩ := hrel
    by_cases hlt : k < s.size
    · have hc := digB_get s k hlt HD.out
      obtain ⟨hc1, hc2⟩ := hc
      by_cases h0 : k = 0
      · subst h0
        have HG : Hid (ris (s.data.toList.take (0 + 1)) = true ∧ 57 - s[0].toNat = gr (s.data.toList.take (0 + 1))) := by
          show _ ∧ _
          rw [take_snoc s 0 hlt, gr_snoc]; exact ⟨rfl, rfl⟩
        have HV : Hid ((57 : Int) - (s[0].toNat : Int) = ((57 - s[0].toNat : Nat) : Int)) := by show _ = _; omega
        go_wp2
        go_quiet (fail)
        go_wp2
        go_roundw
        case rel => exact ⟨0 + 1, 57 - s[0].toNat, by omega, by go_num, val_int HV.out, by omega, HG, below_drewN hbl _⟩
        case measure => simp [intOf]; omega
      · obtain ⟨j, hj⟩ : ∃ j, k = j + 1 := ⟨k - 1, by omega⟩
        have hjs : j < s.size := by omega
        have hcj := digB_get s j hjs HD.out
        obtain ⟨hj1, hj2⟩ := hcj
        have hij : (k : Int) - 1 = (j : Int) := by omega
        have hk0 : 0 < k := by omega
        have HJ := Lib.hid hj
        have ht2 : s.data.toList.take (k + 1) = s.data.toList.take j ++ [s[j]] ++ [s[k]] := by subst hj; exact take_two s j hlt
        have ht1 : s.data.toList.take k = s.data.toList.take j ++ [s[j]] := by subst hj; exact take_snoc s j hjs
        have HT := Lib.hid (And.intro ht1 ht2)
        clear hj ht1 ht2 h0
        by_cases hlt2 : (s[j].toNat : Int) < (s[k].toNat : Int)
        · have HG : Hid (ris (s.data.toList.take (k + 1)) = true ∧ 57 - s[k].toNat = gr (s.data.toList.take (k + 1))) := by
            show _ ∧ _
            have h1 := HI.out.1
            rw [HT.out.1] at h1
            rw [HT.out.2, gr_snoc, ris_snoc, h1, u8_lt, decide_eq_true hlt2]; exact ⟨rfl, rfl⟩
          have HV : Hid ((57 : Int) - (s[k].toNat : Int) = ((57 - s[k].toNat : Nat) : Int)) := by show _ = _; omega
          have hle : ¬ (s[k].toNat : Int) ≤ (s[j].toNat : Int) := by omega
          go_wp2
          go_quiet (fail)
          go_wp2
          go_roundw
          case rel => exact ⟨k + 1, 57 - s[k].toNat, by omega, by go_num, val_int HV.out, by omega, HG, below_drewN hbl _⟩
          case measure => simp [intOf]; omega
        · have HR : Hid ((cr (n - s.size) s.data.toList : Nat) = 0) := by
            show _ = _
            unfold cr
            have h1 := HI.out.1
            rw [HT.out.1] at h1
            rw [ris_take s.data.toList (k + 1) (by rw [HT.out.2, ris_snoc, h1, u8_lt, decide_eq_false hlt2]; rfl)]; rfl
          have hle : (s[k].toNat : Int) ≤ (s[j].toNat : Int) := by omega
          go_wp2
          go_quiet (fail)
          go_wp2
          go_ret
          exact ⟨ret_int (by rw [HR.out]; rfl), below_drewN hbl _⟩
    · have HR : Hid (((ch G (n - s.size) : Nat) : Int) = ((cr (n - s.size) s.data.toList : Nat) : Int)) := by
        show _ = _
        obtain ⟨h1, h2⟩ := HI.out
        rw [show k = s.size by omega, take_all] at h1 h2
        unfold cr; rw [h1, ← h2]; rfl
      have hch : ∀ W, Calls Tryd.prog 44 #[.int .i64 G, .int .i64 ((n : Int) - (s.size : Int))] W fun e w' => e = .returned (.int .i64 ((ch G (n - s.size) : Nat) : Int)) ∧ W = w' := by
        intro W
        rw [show (n : Int) - (s.size : Int) = ((n - s.size : Nat) : Int) by omega]
        exact chooseFrom_any G (n - s.size) W hG (by omega)
      have HC := Lib.hid hch
      clear hch
      go_wp2_with (go_at_call 44; refine (HC.out _).mono ?_; rintro e w1 ⟨rfl, rfl⟩)
      go_ret
      exact ⟨ret_int HR.out, hbl⟩
theorem countFalling_any (s : ByteArray) (n : Nat) (w : World) (hs : s.size ≤ n) (hn : n ≤ 9) (hd : digB s.data.toList = true) :
    Calls Tryd.prog 32 #[.string s, .int .i64 n] w fun e w' => e = .returned (.int .i64 ((cr (n - s.size) (s.data.toList.map nn) : Nat) : Int)) ∧ Below w.heap.size w w' := by
  have h1 := fun W => nines_any s W (by omega) hd
  have h2 := fun W => countRising_any ⟨(nines s).toArray⟩ n W (by rw [sz_of]; simp [nines]; exact hs) hn (digB_nn hd)
  have e1 : (⟨(nines s).toArray⟩ : ByteArray).size = s.size := by rw [sz_of]; simp [nines]
  have e2 : (⟨(nines s).toArray⟩ : ByteArray).data.toList = s.data.toList.map nn := rfl
  rw [e1, e2] at h2
  have H1 := Lib.hid h1
  have H2 := Lib.hid h2
  clear h1 h2 e1 e2
  go_enter Tryd.func32, Tryd.ntmps32
  go_wp2_with (first | (go_at_call 45; refine (H1.out _).mono ?_; rintro e w1 ⟨rfl, b1⟩) | (go_at_call 31; refine (H2.out _).mono ?_; rintro e w2 ⟨rfl, b2⟩))
  go_ret
  exact ⟨rfl, chain b1 b2⟩
end Go.Proofs.YtlkeemnnncnibaaDoor

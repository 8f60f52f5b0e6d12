/-
  Readings: the model's small functions.
-/
import Derived.Test.YtlkeemnnncnibabMiLeaf
namespace Go.Proofs.Ytlkeemnnncnibab
open Go.RowKit

set_option maxRecDepth 100000 in
theorem num_d (u : Nat) (x : Int) (w : World) (h9 : u ≤ 9) (hx : x = (u : Int)) :
    Calls Try.prog 51 #[.int .i64 x] w fun e w' => e = .returned (.string ⟨[dc u].toArray⟩) ∧ Below w.heap.size w w' := by
  subst hx
  have hcv : (convert 68 9 (.slice (some ⟨w.heap.size, 0, none⟩) 1 1)).run Try.prog (w.alloc (.cells #[.int .u8 (48 + (u : Int))] 5)) = .ok (.string ⟨[dc u].toArray⟩) (w.alloc (.cells #[.int .u8 (48 + (u : Int))] 5)) :=
    run_convert_bytes_back (P := Try.prog) (w.alloc (.cells #[.int .u8 (48 + (u : Int))] 5)) 68 9 5 ⟨w.heap.size, 0, none⟩ 1 [dc u] Try.underlying68 Try.underlying5 Try.underlying9 (by
      intro j hj
      match j, hj with
      | 0, _ => simp [Addr.add, dc]; omega)
  go_enter Try.func51, Try.ntmps51
  go_wp2
  go_ret
  exact ⟨rfl, by go_grown⟩
set_option maxHeartbeats 1000000 in
theorem miText_any (d m : Nat) (x : Int) (w : World) (hd : d ≤ 12) (hm : m ≤ 10000000000) (hx : x = (m : Int)) :
    Calls Try.prog 33 #[.int .i64 d, .int .i64 x] w fun e w' => e = .returned (.string ⟨(dg d m).toArray⟩) ∧ Below w.heap.size w w' := by
  subst hx
  go_enter Try.func33, Try.ntmps33
  go_wp2
  go_loopw [1, 5, 6] (fun xv ov i wr => ∃ (k q : Nat) (l : List UInt8) (B : ByteArray), k ≤ d ∧ i = .int .i64 k ∧ xv = .int .i64 q ∧ ov = .string B ∧ q ≤ 10000000000 ∧ Hid (B = ⟨l.toArray⟩ ∧ dg d m = dg (d - k) q ++ l) ∧ B.size = k ∧ Below w.heap.size w wr) (fun _ _ i _ => d - (intOf i).toNat)
  case atStart => exact ⟨0, m, [], ⟨#[]⟩, Nat.zero_le _, rfl, rfl, rfl, hm, ⟨rfl, by simp⟩, rfl, Below.refl _ _⟩
  case round =>
    obtain ⟨k, q, l, B, hk, rfl, rfl, rfl, hq, HB, hBz, hbl⟩ := hrel
    by_cases hlt : k < d
    · have HN : ∀ W, Calls Try.prog 51 #[.int .i64 ((q : Int) % 10)] W fun e w' => e = .returned (.string ⟨[dc (q % 10)].toArray⟩) ∧ Below W.heap.size W w' := fun W => num_d (q % 10) _ W (by omega) (by omega)
      have HNN := Lib.hid HN
      obtain ⟨D, hD⟩ : ∃ D : ByteArray, D = ⟨[dc (q % 10)].toArray⟩ := ⟨_, rfl⟩
      rw [← hD] at HNN
      have hDz : D.size = 1 := by rw [hD, sz_of]; rfl
      have HX : Hid (D ++ B = ⟨(dc (q % 10) :: l).toArray⟩ ∧ dg d m = dg (d - (k + 1)) (q / 10) ++ (dc (q % 10) :: l)) := by
        refine ⟨by rw [hD, HB.out.1, str_two]; rfl, ?_⟩
        rw [HB.out.2]
        obtain ⟨j, hj⟩ : ∃ j, d - k = j + 1 := ⟨d - k - 1, by omega⟩
        rw [hj, show d - (k + 1) = j by omega, dg, List.append_assoc]; rfl
      have hz : (D ++ B).size = k + 1 := by rw [ByteArray.size_append]; omega
      have hsz : D.size + B.size ≤ 20 := by omega
      obtain ⟨z, hzz⟩ : ∃ z, z = q / 10 := ⟨_, rfl⟩
      have hqz : (q : Int) / 10 = (z : Int) := by omega
      have hzb : z ≤ 10000000000 := by omega
      rw [← hzz] at HX
      clear hD HN hzz
      go_wp2_with (go_at_call 51; (with_reducible refine (HNN.out _).mono ?_); rintro e w1 ⟨rfl, b1⟩)
      go_roundw
      case rel => exact ⟨k + 1, z, _, D ++ B, by omega, by go_num, val_int (by omega), rfl, hzb, HX, hz, chain hbl b1⟩
      case measure => simp [intOf]; omega
    · have HX : Hid (B = ⟨(dg d m).toArray⟩) := by
        show _ = _
        rw [HB.out.1, HB.out.2, show d - k = 0 by omega]; rfl
      go_wp2
      go_ret
      exact ⟨ret_str HX.out, hbl⟩
def rv (s : ByteArray) : List UInt8 := s.data.toList.reverse
theorem rv_snoc (s : ByteArray) (k : Nat) (h : k < s.size) : (rv s).take (k + 1) = (rv s).take k ++ [s[s.size - 1 - k]'(by omega)] := by
  have hl : k < (rv s).length := by simpa [rv] using h
  rw [List.take_succ_eq_append_getElem hl]
  congr 2
  simp only [rv, List.getElem_reverse]
  rfl
theorem rv_all (s : ByteArray) : (rv s).take s.size = rv s := List.take_of_length_le (by simp [rv])
theorem str_snoc (l : List UInt8) (s : ByteArray) (k : Nat) (h : k < s.size) : (⟨l.toArray⟩ : ByteArray) ++ s.extract k (k + 1) = ⟨(l ++ [s[k]]).toArray⟩ := by
  apply ByteArray.ext
  simp [ByteArray.data_append, ByteArray.data_extract]
  have hk : k < s.data.toList.length := by simpa using h
  rw [List.drop_eq_getElem_cons hk]
  simp; rfl
theorem miTurn_any (s : ByteArray) (w : World) (hs : s.size ≤ 1000) :
    Calls Try.prog 43 #[.string s] w fun e w' => e = .returned (.string ⟨(s.data.toList.reverse).toArray⟩) ∧ w = w' := by
  go_enter Try.func43, Try.ntmps43
  go_wp2
  go_loop [3, 4] (fun t i => ∃ k : Nat, k ≤ s.size ∧ i = .int .i64 ((s.size : Int) - 1 - k) ∧ t = .string ⟨((rv s).take k).toArray⟩) (fun _ i => (intOf i + 1).toNat)
  case atStart => exact ⟨0, Nat.zero_le _, by simp, rfl⟩
  case round =>
    obtain ⟨k, hk, rfl, rfl⟩ := hrel
    by_cases hlt : k < s.size
    · go_wp2
      refine ⟨⟨k + 1, by omega, val_int (by omega), ?_⟩, by simp [intOf]; omega⟩
      rw [str_snoc _ _ _ (by omega), rv_snoc s k hlt]
    · have he : (rv s).take k = rv s := by rw [show k = s.size by omega]; exact rv_all s
      have HE := Lib.hid he; clear he
      go_wp2
      go_ret
      exact ⟨by rw [HE.out]; rfl, rfl⟩
theorem miMirrored_any (n : Nat) (h : List UInt8) (w : World) (hn : n ≤ 1000) (hh : h.length = (n + 1) / 2) :
    Calls Try.prog 40 #[.int .i64 n, .string ⟨h.toArray⟩] w fun e w' => e = .returned (.string ⟨(mirL n h).toArray⟩) ∧ Below w.heap.size w w' := by
  obtain ⟨s, hs⟩ : ∃ s : ByteArray, s = ⟨h.toArray⟩ := ⟨_, rfl⟩
  have hsz : s.size = (n + 1) / 2 := by rw [hs, sz_of, hh]
  have hx : s.extract 0 (n / 2) = ⟨(h.take (n / 2)).toArray⟩ := by
    rw [hs]
    apply ByteArray.ext
    simp [ByteArray.data_extract]
  have ht := fun W => miTurn_any ⟨(h.take (n / 2)).toArray⟩ W (by rw [sz_of, List.length_take]; omega)
  have ht2 : ∀ W, Calls Try.prog 43 #[.string (s.extract 0 (n / 2))] W fun e w' => e = .returned (.string ⟨((h.take (n / 2)).reverse).toArray⟩) ∧ W = w' := by intro W; rw [hx]; exact ht W
  have HT := Lib.hid ht2
  have HR : Hid (s ++ (⟨((h.take (n / 2)).reverse).toArray⟩ : ByteArray) = ⟨(mirL n h).toArray⟩) := by show _ = _; rw [hs, str_two]; rfl
  obtain ⟨D, hD⟩ : ∃ D : ByteArray, D = ⟨((h.take (n / 2)).reverse).toArray⟩ := ⟨_, rfl⟩
  rw [← hD] at HT HR
  have hDz : D.size ≤ 1000 := by rw [hD, sz_of, List.length_reverse, List.length_take]; omega
  have hm1 : ((n : Int) / 2) ≤ (s.size : Int) := by omega
  have hm2 : (0 : Int) ≤ (n : Int) / 2 := by omega
  have hss : s.size ≤ 1000 := by omega
  have htn : ((n : Int) / 2).toNat = n / 2 := by omega
  rw [← hs]
  clear hs hsz hx ht ht2 hD hh
  go_enter Try.func40, Try.ntmps40
  go_wp2_with (go_at_call 43; (with_reducible refine (HT.out _).mono ?_); rintro e w1 ⟨rfl, rfl⟩)
  go_ret
  exact ⟨ret_str HR.out, Below.refl _ _⟩
/-- How many miles it is. -/
def mto (f t : List UInt8) : Nat := (nu t + 10 ^ f.length - nu f) % 10 ^ f.length
theorem pow_bd' (n : Nat) (h9 : n ≤ 9) : 1 ≤ 10 ^ n ∧ 10 ^ n ≤ 1000000000 :=
  ⟨Nat.pos_of_ne_zero (by simp), Nat.le_trans (Nat.pow_le_pow_right (by omega) h9) (by decide)⟩
theorem miTo_any (f t : List UInt8) (w : World) (h9 : f.length ≤ 9) (hl : t.length = f.length) (hf : digB f = true) (ht : digB t = true) :
    Calls Try.prog 34 #[.string ⟨f.toArray⟩, .string ⟨t.toArray⟩] w fun e w' => e = .returned (.int .i64 ((mto f t : Nat) : Int)) ∧ w = w' := by
  obtain ⟨n, hn⟩ : ∃ n, n = f.length := ⟨_, rfl⟩
  have hrd := fun W => miAll_any n W (by omega)
  have hb := pow_bd' n (by omega)
  have hfb := nu_lt n f hn.symm hf
  have htb := nu_lt n t (by omega) ht
  obtain ⟨R, hR⟩ : ∃ R, R = 10 ^ n := ⟨_, rfl⟩
  obtain ⟨x, hx⟩ : ∃ x, x = nu f := ⟨_, rfl⟩
  obtain ⟨y, hy⟩ : ∃ y, y = nu t := ⟨_, rfl⟩
  have hml : mto f t = (y + R - x) % R := by rw [mto, hx, hy, hR, hn]
  have hnf : ∀ W, Calls Try.prog 46 #[.string ⟨f.toArray⟩] W fun e w' => e = .returned (.int .i64 (x : Int)) ∧ W = w' := by
    intro W; rw [hx]; exact tkNumber_any ⟨f.toArray⟩ W (by rw [sz_of]; omega) hf
  have hnt : ∀ W, Calls Try.prog 46 #[.string ⟨t.toArray⟩] W fun e w' => e = .returned (.int .i64 (y : Int)) ∧ W = w' := by
    intro W; rw [hy]; exact tkNumber_any ⟨t.toArray⟩ W (by rw [sz_of]; omega) ht
  rw [← hR] at hrd hb hfb htb
  rw [← hx] at hfb
  rw [← hy] at htb
  have HRd := Lib.hid hrd
  have HF := Lib.hid hnf
  have HT := Lib.hid hnt
  have hsz : ((⟨f.toArray⟩ : ByteArray).size : Int) = (n : Int) := by rw [sz_of, hn]
  have HM : Hid (((y : Int) - x + R) % (R : Int) = ((mto f t : Nat) : Int)) := by
    show _ = _
    rw [hml, show (y : Int) - x + R = ((y + R - x : Nat) : Int) by omega]; omega
  obtain ⟨M, hM⟩ : ∃ M, M = mto f t := ⟨_, rfl⟩
  rw [← hM] at HM ⊢
  have hm0 : 0 ≤ ((y : Int) - x + R) % (R : Int) := Int.emod_nonneg _ (by omega)
  have hm1 : ((y : Int) - x + R) % (R : Int) < (R : Int) := Int.emod_lt_of_pos _ (by omega)
  have hR0 : (R : Int) ≠ 0 := by omega
  have hgt : ∀ W, Calls Try.prog 39 #[.int .i64 ((⟨f.toArray⟩ : ByteArray).size : Int)] W fun e w' => e = .returned (.int .i64 (R : Int)) ∧ W = w' := by intro W; rw [hsz]; exact HRd.out W
  have HG := Lib.hid hgt
  obtain ⟨F, hF⟩ : ∃ F : ByteArray, F = ⟨f.toArray⟩ := ⟨_, rfl⟩
  obtain ⟨T, hT⟩ : ∃ T : ByteArray, T = ⟨t.toArray⟩ := ⟨_, rfl⟩
  rw [← hF] at HG HF
  rw [← hT] at HT
  rw [← hF, ← hT]
  clear hgt hsz hM hml hrd hnf hnt hR hx hy hF hT hf ht hl h9 hn
  go_enter Try.func34, Try.ntmps34
  go_wp2_with (first | (go_at_call 39; (with_reducible refine (HG.out _).mono ?_); rintro e w1 ⟨rfl, rfl⟩) | (go_at_call 46; (first | (with_reducible refine (HF.out _).mono ?_) | (with_reducible refine (HT.out _).mono ?_)); rintro e w1 ⟨rfl, rfl⟩))
  go_ret
  exact ⟨ret_int HM.out, rfl⟩
end Go.Proofs.Ytlkeemnnncnibab

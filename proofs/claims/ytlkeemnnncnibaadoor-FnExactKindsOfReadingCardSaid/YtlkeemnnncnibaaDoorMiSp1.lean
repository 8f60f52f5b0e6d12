/-
  Readings: the model's small functions.
-/
import Derived.Test.YtlkeemnnncnibaaDoorMiLeaf
namespace Go.Proofs.YtlkeemnnncnibaaDoor
open Go.RowKit

set_option maxRecDepth 100000 in
theorem num_d (u : Nat) (x : Int) (w : World) (h9 : u ≤ 9) (hx : x = (u : Int)) :
    Calls Tryd.prog 20 #[.int .i64 x] w fun e w' => e = .returned (.string ⟨[dc u].toArray⟩) ∧ Below w.heap.size w w' := by
  subst hx
  have hcv : (convert 46 9 (.slice (some ⟨w.heap.size, 0, none⟩) 1 1)).run Tryd.prog (w.alloc (.cells #[.int .u8 (48 + (u : Int))] 5)) = .ok (.string ⟨[dc u].toArray⟩) (w.alloc (.cells #[.int .u8 (48 + (u : Int))] 5)) :=
    run_convert_bytes_back (P := Tryd.prog) (w.alloc (.cells #[.int .u8 (48 + (u : Int))] 5)) 46 9 5 ⟨w.heap.size, 0, none⟩ 1 [dc u] Tryd.underlying46 Tryd.underlying5 Tryd.underlying9 (by
      intro j hj
      match j, hj with
      | 0, _ => simp [Addr.add, dc]; omega)
  go_enter Tryd.func20, Tryd.ntmps20
  go_wp2
  go_ret
  exact ⟨rfl, by go_grown⟩
set_option maxHeartbeats 1000000 in
theorem miText_any (d m : Nat) (x : Int) (w : World) (hd : d ≤ 12) (hm : m ≤ 10000000000) (hx : x = (m : Int)) :
    Calls Tryd.prog 11 #[.int .i64 d, .int .i64 x] w fun e w' => e = .returned (.string ⟨(dg d m).toArray⟩) ∧ Below w.heap.size w w' := by
  subst hx
  go_enter Tryd.func11, Tryd.ntmps11
  go_wp2
  go_loopw [1, 5, 6] (fun xv ov i wr => ∃ (k q : Nat) (l : List UInt8) (B : ByteArray), k ≤ d ∧ i = .int .i64 k ∧ xv = .int .i64 q ∧ ov = .string B ∧ q ≤ 10000000000 ∧ Hid (B = ⟨l.toArray⟩ ∧ dg d m = dg (d - k) q ++ l) ∧ B.size = k ∧ Below w.heap.size w wr) (fun _ _ i _ => d - (intOf i).toNat)
  case atStart => exact ⟨0, m, [], ⟨#[]⟩, Nat.zero_le _, rfl, rfl, rfl, hm, ⟨rfl, by simp⟩, rfl, Below.refl _ _⟩
  case round =>
    obtain ⟨k, q, l, B, hk, rfl, rfl, rfl, hq, HB, hBz, hbl⟩ := hrel
    by_cases hlt : k < d
    · have HN : ∀ W, Calls Tryd.prog 20 #[.int .i64 ((q : Int) % 10)] W fun e w' => e = .returned (.string ⟨[dc (q % 10)].toArray⟩) ∧ Below W.heap.size W w' := fun W => num_d (q % 10) _ W (by omega) (by omega)
      have HNN := Lib.hid HN
      obtain ⟨D, hD⟩ : ∃ D : ByteArray, D = ⟨[dc (q % 10)].toArray⟩ := ⟨_, rfl⟩
      rw [← hD] at HNN
      have hDz : D.size = 1 := by rw [hD, sz_of]; rfl
      have HX : Hid (D ++ B = ⟨(dc (q % 10) :: l).toArray⟩ ∧ dg d m = dg (d - (k + 1)) (q / 10) ++ (dc (q % 10) :: l)) := by
        refine ⟨by rw [hD, HB.out.1, str_two]; rfl, ?_⟩
        rw [HB.out.2]
        obtain ⟨j, hj⟩ : ∃ j, d - k = j + 1 := ⟨d - k - 1, by omega⟩
        rw [hj, show d - (k + 1) = j by omega, dg, List.append_assoc]; rfl
      have hz : (D ++ B).size = k + 1 := by rw [ByteArray.size_append]; omega
      have hsz : D.size + B.size ≤ 20 := by omega
      obtain ⟨z, hzz⟩ : ∃ z, z = q / 10 := ⟨_, rfl⟩
      have hqz : (q : Int) / 10 = (z : Int) := by omega
      have hzb : z ≤ 10000000000 := by omega
      rw [← hzz] at HX
      clear hD HN hzz
      go_wp2_with (go_at_call 20; (with_reducible refine (HNN.out _).mono ?_); rintro e w1 ⟨rfl, b1⟩)
      go_roundw
      case rel => exact ⟨k + 1, z, _, D ++ B, by omega, by go_num, val_int (by omega), rfl, hzb, HX, hz, chain hbl b1⟩
      case measure => simp [intOf]; omega
    · have HX : Hid (B = ⟨(dg d m).toArray⟩) := by
        show _ = _
        rw [HB.out.1, HB.out.2, show d - k = 0 by omega]; rfl
      go_wp2
      go_ret
      exact ⟨ret_str HX.out, hbl⟩
def rv (s : ByteArray) : List UInt8 := s.data.toList.reverse
theorem rv_snoc (s : ByteArray) (k : Nat) (h : k < s.size) : (rv s).take (k + 1) = (rv s).take k ++ [s[s.size - 1 - k]'(by omega)] := by
  have hl : k < (rv s).length := by simpa [rv] using h
  rw [List.take_succ_eq_append_getElem hl]
  congr 2
  simp only [rv, List.getElem_reverse]
  rfl
theorem rv_all (s : ByteArray) : (rv s).take s.size = rv s := List.take_of_length_le (by simp [rv])
theorem str_snoc (l : List UInt8) (s : ByteArray) (k : Nat) (h : k < s.size) : (⟨l.toArray⟩ : ByteArray) ++ s.extract k (k + 1) = ⟨(l ++ [s[k]]).toArray⟩ := by
  apply ByteArray.ext
  simp [ByteArray.data_append, ByteArray.data_extract]
  have hk : k < s.data.toList.length := by simpa using h
  rw [List.drop_eq_getElem_cons hk]
  simp; rfl
theorem miTurn_any (s : ByteArray) (w : World) (hs : s.size ≤ 1000) :
    Calls Tryd.prog 26 #[.string s] w fun e w' => e = .returned (.string ⟨(s.data.toList.reverse).toArray⟩) ∧ w = w' := by
  go_enter Tryd.func26, Tryd.ntmps26
  go_wp2
  go_loop [3, 4] (fun t i => ∃ k : Nat, k ≤ s.size ∧ i = .int .i64 ((s.size : Int) - 1 - k) ∧ t = .string ⟨((rv s).take k).toArray⟩) (fun _ i => (intOf i + 1).toNat)
  case atStart => exact ⟨0, Nat.zero_le _, by simp, rfl⟩
  case round =>
    obtain ⟨k, hk, rfl, rfl⟩ := hrel
    by_cases hlt : k < s.size
    · go_wp2
      refine ⟨⟨k + 1, by omega, val_int (by omega), ?_⟩, by simp [intOf]; omega⟩
      rw [str_snoc _ _ _ (by omega), rv_snoc s k hlt]
    · have he : (rv s).take k = rv s := by rw [show k = s.size by omega]; exact rv_all s
      have HE := Lib.hid he; clear he
      go_wp2
      go_ret
      exact ⟨by rw [HE.out]; rfl, rfl⟩
end Go.Proofs.YtlkeemnnncnibaaDoor

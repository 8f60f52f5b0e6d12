/-
  Readings: rising and falling ones, and those with opposites, as the program counts them.
-/
import Derived.Test.YtlkeemnnncnibabMiIm2
namespace Go.Proofs.Ytlkeemnnncnibab
open Go.RowKit

theorem byteCells_snoc (l : List UInt8) (c : UInt8) : Lib.byteCells (l ++ [c]) = Lib.byteCells l ++ [.int .u8 c.toNat] := by simp [Lib.byteCells]
theorem bytes_len (l : List UInt8) (k : Nat) : (Lib.byteCells (l.take k)).length ≤ k := by simp [Lib.byteCells]; omega
def nines (s : ByteArray) : List UInt8 := s.data.toList.map nn
theorem nines_snoc (s : ByteArray) (k : Nat) (h : k < s.size) : (nines s).take (k + 1) = (nines s).take k ++ [nn s[k]] := by
  unfold nines
  rw [← List.map_take, ← List.map_take, take_snoc s k h, List.map_append]; rfl
theorem nines_all (s : ByteArray) : (nines s).take s.size = nines s := List.take_of_length_le (by simp [nines])
set_option maxHeartbeats 400000 in
theorem nines_any (s : ByteArray) (w : World) (hs : s.size ≤ 12) (hd : digB s.data.toList = true) :
    Calls Try.prog 69 #[.string s] w fun e w' => e = .returned (.string ⟨(nines s).toArray⟩) ∧ Below w.heap.size w w' := by
  have HD := Lib.hid hd; clear hd
  go_enter Try.func69, Try.ntmps69
  go_wp2
  go_loopw [7] (fun i wr => ∃ k : Nat, k ≤ s.size ∧ i = .int .i64 k ∧ Lib.IsBuilder 70 5 w.heap.size w.heap.size (Lib.byteCells ((nines s).take k)) wr ∧ Below w.heap.size w wr ∧ w.heap.size ≤ wr.heap.size) (fun i _ => s.size - (intOf i).toNat)
  case atStart => exact ⟨0, Nat.zero_le _, rfl, Lib.fresh_isBuilder 70 5 w, by go_grown, by simp⟩
  case round =>
    obtain ⟨k, hk, rfl, hbld, hbl, hsz⟩ := hrel
    have HB := Lib.hid hbld
    clear hbld
    by_cases hlt : k < s.size
    · have hc := digB_get s k hlt HD.out
      obtain ⟨hx1, hx2⟩ := hc
      have HN := Lib.hid (nn_nat s[k] hx2)
      go_wp2_with (go_at_call 63; go_must (refine (wb_any w.heap.size _ _ _ _ HB.out (by have := bytes_len (nines s) k; omega) hsz).mono ?_); rintro e w1 ⟨rfl, h1, b1, _⟩; have H1 := Lib.hid h1; have hz := b1.size; have hb := hbl.trans (b1.mono (by omega)); clear b1 h1)
      go_roundw
      case rel => exact ⟨k + 1, by omega, by go_num, by rw [nines_snoc s k hlt, byteCells_snoc, HN.out]; exact .inr H1.out, hb, by omega⟩
      case measure => simp [intOf]; omega
    · have he : (nines s).take k = nines s := by rw [show k = s.size by omega]; exact nines_all s
      have HE := Lib.hid he; clear he
      go_wp2_with (go_at_call 64; go_must (refine (bstr_any w.heap.size _ _ _ HB.out hsz).mono ?_); rintro e w1 ⟨rfl, b1⟩)
      go_ret
      exact ⟨by rw [HE.out]; rfl, hbl.trans (b1.mono (by omega))⟩
end Go.Proofs.Ytlkeemnnncnibab

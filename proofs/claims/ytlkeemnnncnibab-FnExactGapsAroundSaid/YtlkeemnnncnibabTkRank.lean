/-
  Contract of tkRank.
-/
import Derived.Test.YtlkeemnnncnibabFrom2
import Derived.Test.YtlkeemnnncnibabRank
import Derived.Lib.OthersKept
namespace Go.Proofs.Ytlkeemnnncnibab
open Go.RowKit
set_option maxRecDepth 100000

/-- The byte of a digit. -/
def dchar (d : Nat) : UInt8 := UInt8.ofNat (48 + d)
theorem encode_digit (d : Nat) (h : d ≤ 9) : Utf8.encode (48 + (d : Int)) = ⟨#[dchar d]⟩ := by
  have hv : Utf8.valid (48 + (d : Int)) = true := by
    unfold Utf8.valid
    simp; omega
  have hn : (48 + (d : Int)).toNat = 48 + d := by omega
  unfold Utf8.encode dchar
  simp only [hv, if_true, hn]
  rw [if_pos (by omega)]
theorem dchar_nat (d : Nat) (h : d ≤ 9) : (dchar d).toNat = 48 + d := by unfold dchar; rw [UInt8.toNat_ofNat']; omega
theorem dchar_dv (d : Nat) (h : d ≤ 9) : dv (dchar d) = (d : Int) := by unfold dv; rw [dchar_nat d h]; omega
theorem dchar_dg (d : Nat) (h : d ≤ 9) : dgB (dchar d) = true := by unfold dgB; rw [dchar_nat d h]; simp; omega
theorem pre_list (s : ByteArray) (i d : Nat) : (s.extract 0 i ++ ⟨#[dchar d]⟩).data.toList = s.data.toList.take i ++ [dchar d] := by
  simp [ByteArray.data_append, ByteArray.data_extract]
theorem from_pre (z : Nat) (s : ByteArray) (i d : Nat) (x : Int) (w : World) (hx : x = 2 * (z : Int)) (hz : z ≤ 6) (hi : i < 2 * z ∧ i < s.size) (h9 : d ≤ 9) (hd : digB s.data.toList = true) :
    Calls Try.prog 72 #[.int .i64 x, .string (s.extract 0 i ++ ⟨#[dchar d]⟩)] w fun e w' => e = .returned (.int .i64 (cmp z (i + 1) (stp z i (bal z (s.data.toList.take i)) (d : Int)))) ∧ Below w.heap.size w w' := by
  have hlen : (s.data.toList.take i).length = i := by simp; omega
  refine (from_any z x _ w hx hz ?_ ?_).mono fun e w' ⟨he, hb⟩ => ⟨?_, hb⟩
  · simp [ByteArray.size_append, ByteArray.size_extract]
    show min i s.size + 1 ≤ 2 * z
    omega
  · rw [pre_list, digB_append, digB_take _ _ hd]; simp [digB, dchar_dg d h9]
  · rw [he, pre_list, comp_snoc, hlen, dchar_dv d h9]
set_option maxHeartbeats 1000000 in
set_option maxRecDepth 100000 in
theorem tkRank_any (z : Nat) (s : ByteArray) (w : World) (hz : z ≤ 6) (hs : s.size = 2 * z) (hd : digB s.data.toList = true) :
    Calls Try.prog 70 #[.string s] w fun e w' => e = .returned (.int .i64 (rank z s)) ∧ Below w.heap.size w w' := by
  have HD := Lib.hid hd; clear hd
  have HS := Lib.hid hs
  have hs12 : s.size ≤ 12 ∧ s.size ≤ 2 * z ∧ 2 * z ≤ s.size := by omega
  clear hs
  obtain ⟨hs1, hs2, hs3⟩ := hs12
  go_enter Try.func70, Try.ntmps70
  go_wp2
  go_loopw [3] (fun rv' wr => ∃ i : Nat, i ≤ s.size ∧ rv' = .int .i64 (rkTo z s.data.toList i) ∧ wr.heap[w.heap.size]? = some (.stringIter s i) ∧ Below w.heap.size w wr) (fun _ wr => s.size - wr.iterPos w.heap.size)
  case atStart =>
    refine ⟨0, Nat.zero_le _, rfl, ?_, (Below.refl _ _).alloc (Nat.le_refl _) _⟩
    have := World.iter_heap w s 0
    simpa using this
  case round =>
    obtain ⟨i, hi, rfl, hit, hbl⟩ := hrel
    obtain ⟨wo, rfl⟩ : ∃ wo : World, wo = wr := ⟨_, rfl⟩
    have hsz : w.heap.size < wo.heap.size := (Array.getElem?_eq_some_iff.1 hit).1
    have hR := rkTo_bd z hz s HD.out i hi
    obtain ⟨hR1, hR2⟩ := hR
    by_cases hlt : i < s.size
    · have hc := digB_get s i hlt HD.out
      obtain ⟨hc1, hc2⟩ := hc
      have hnx : ∀ ty, (Instr.next (.pointer (some ⟨w.heap.size, 0, none⟩)) true ty).run Try.prog wo = _ := fun ty => Lib.run_next_ascii_at wo w.heap.size s i ty hit hlt (by omega)
      go_wp2_with fail
      obtain ⟨o, ho⟩ : ∃ o : Nat, o = (dv s[i]).toNat := ⟨_, rfl⟩
      have ho2 : (s[i].toNat : Int) - 48 ≤ (o : Int) ∧ (o : Int) ≤ (s[i].toNat : Int) - 48 := by rw [ho]; unfold dv; omega
      have HO := Lib.hid ho
      clear ho
      obtain ⟨ho1, ho2⟩ := ho2
      have hbl2 := Lib.below_iterAt hbl (k := w.heap.size) (Nat.le_refl _) s (i + 1)
      have hit2 := Lib.iterAt_heap wo w.heap.size s i (i + 1) hit
      have HL : Hid ((s.data.toList.take i).length = i) := by show _ = _; simp; omega
      go_loopw [3, 5] (fun bv cv wq => ∃ d : Nat, d ≤ o ∧ cv = .int .u8 (48 + (d : Int)) ∧ bv = .int .i64 (rkTo z s.data.toList i + inner z (s.data.toList.take i) d) ∧ wq.heap[w.heap.size]? = some (.stringIter s (i + 1)) ∧ Below w.heap.size w wq) (fun _ cv _ => o + 48 - (intOf cv).toNat)
      case atStart => exact ⟨0, Nat.zero_le _, rfl, val_int (by simp [inner, sumTo]), hit2, hbl2⟩
      case round =>
        obtain ⟨d, hdo, rfl, rfl, hiq, hbq⟩ := hrel
        obtain ⟨wp, rfl⟩ : ∃ wp : World, wp = wr := ⟨_, rfl⟩
        have HIQ := Lib.hid hiq
        have HIT := Lib.hid hit
        clear hiq hnx hit2 hbl2 hit
        have ho9 : o ≤ 9 := by omega
        have hso : ((s[i]'hlt).toNat : Int) = 48 + (o : Int) := by omega
        have HSO := Lib.hid hso
        clear hc1 hc2 ho1 ho2 hso
        have HO9 := Lib.hid ho9
        have henc : Utf8.encode (wrap32 (48 + (d : Int))) = ⟨#[dchar d]⟩ := by
          rw [IntWalk.wrap32_in _ ⟨by omega, by omega⟩]; exact encode_digit d (by omega)
        clear ho9
        have hI := inner_bd z hz (s.data.toList.take i) d
        obtain ⟨hI1, hI2⟩ := hI
        by_cases hlt2 : d < o
        · have hI' := cmp_bd hz (p := i + 1) (stp z i (bal z (s.data.toList.take i)) (d : Int))
          obtain ⟨hI3, hI4⟩ := hI'
          go_wp2_with fail
          all_goals first | (exfalso; have := HSO.out; omega) | skip
          refine (from_pre z s i d _ _ (by omega) hz (by omega) (by have := HO9.out; omega) HD.out).mono ?_
          rintro e w2 ⟨rfl, hb2⟩
          have ho9 := HO9.out
          have hq1 := hbq.size
          have hB2 := hbq.trans (hb2.mono hq1)
          have hiq2 : w2.heap[w.heap.size]? = some (.stringIter s (i + 1)) := by
            rw [hb2.block _ (Array.getElem?_eq_some_iff.1 HIQ.out).1]; exact HIQ.out
          have HIQ2 := Lib.hid hiq2
          clear hiq2 henc hb2
          go_wp2
          go_roundw
          case rel => exact ⟨d + 1, by omega, by go_num, val_int (by rw [inner_succ, HL.out]; omega), HIQ2.out, hB2⟩
          case measure => simp [intOf]; omega
        · have HK : Hid (rkTo z s.data.toList i + inner z (s.data.toList.take i) d = rkTo z s.data.toList (i + 1)) := by
            show _ = _; rw [rkTo_succ z s i hlt, ← HO.out, show d = o by omega]
          go_wp2_with fail
          all_goals first | (exfalso; have := HSO.out; omega) | skip
          go_roundw
          case rel => exact ⟨i + 1, by omega, val_int HK.out, HIQ.out, hbq⟩
          case measure => simp only [World.iterPos, HIQ.out, HIT.out]; omega
    · have hnx : ∀ ty, (Instr.next (.pointer (some ⟨w.heap.size, 0, none⟩)) true ty).run Try.prog wo = _ := fun ty => Lib.run_next_end_at wo w.heap.size s i ty hit hlt
      have HR : Hid (rkTo z s.data.toList i = rank z s) := by show _ = _; rw [show i = s.size by omega]; rfl
      go_wp2
      go_ret
      exact ⟨ret_int HR.out, hbl⟩
end Go.Proofs.Ytlkeemnnncnibab

/-
  Contract of luckyUpTo: ranks along the walk.
-/
import Derived.Test.YtlkeemnnncnibabWalk
import Derived.Test.YtlkeemnnncnibabRank
import Derived.Deep.QuietTactic
import Derived.BigQuiet
import Derived.Deep.RegionWith
import Derived.Deep.DrawnRows
namespace Go.Proofs.Ytlkeemnnncnibab
open Go.RowKit
set_option maxRecDepth 100000

theorem tup_ints' {k : IntKind} {a b c d : Int} (h : a = b) (g : c = d) : Ending.returned (.tuple #[.int k a, .int k c]) = .returned (.tuple #[.int k b, .int k d]) := by rw [h, g]
theorem Blk.set {w : World} {b : Nat} {cs : Array Value} {T : TypeId} (h : Blk w b cs T) (j : Nat) (u : Value) : Blk (w.setCell ⟨b, j, none⟩ u) b (cs.setIfInBounds j u) T := by
  unfold Blk at h ⊢; simp [World.setCell, Array.getElem?_modify, h]
theorem completions_at (z p B : Nat) (v : Value) (x b : Int) (w : World) (hx : x = (p : Int)) (hz : z ≤ 6) (hp : p ≤ 2 * z) (hb : -1000 ≤ b ∧ b ≤ 1000) (hC : Cnts w v (2 * z) B) :
    Calls Try.prog 91 #[.agg #[v, .int .i64 (2 * (z : Int)), .int .i64 x, .int .i64 b]] w fun e w' => e = .returned (.int .i64 (cmp z p b)) ∧ Below w.heap.size w w' := by
  subst hx; exact completions_any z p B v b w hz hp hb hC
theorem newWalk_at (x : Int) (z : Nat) (hx : x = 2 * (z : Int)) (hz : z ≤ 6) (w : World) :
    Calls Try.prog 89 #[.int .i64 x] w fun e w' => ∃ v, e = .returned (.agg #[v, .int .i64 (2 * (z : Int)), .int .i64 0, .int .i64 0]) ∧ Cnts w' v (2 * z) w.heap.size ∧ Below w.heap.size w w' := by
  subst hx; exact newWalk_any z hz w

set_option maxHeartbeats 1000000 in
theorem upTo_any (z : Nat) (s : ByteArray) (w : World) (hz : z ≤ 6) (hs : s.size = 2 * z) (hd : digB s.data.toList = true) :
    Calls Try.prog 74 #[.string s] w fun e w' => e = .returned (.tuple #[.int .i64 (rank z s), .int .i64 (rank z s + comp z s.data.toList)]) ∧ Below w.heap.size w w' := by
  have HD := Lib.hid hd; clear hd
  have HS := Lib.hid hs
  have hs12 : s.size ≤ 12 ∧ s.size ≤ 2 * z ∧ 2 * z ≤ s.size := by omega
  clear hs
  obtain ⟨hs1, hs2, hs3⟩ := hs12
  go_enter Try.func74, Try.ntmps74
  go_wp2_with (go_at_call 89; go_must ((with_reducible refine (newWalk_at _ z (by have := HS.out; omega) hz _).mono ?_); rintro e w1 ⟨v, rfl, hcn, hb1⟩; obtain ⟨g, cap, rfl⟩ := hcn.form))
  have hz1 := hb1.size
  go_loopw [5, 14] (fun bv iv wr => ∃ i : Nat, i ≤ s.size ∧ iv = .int .i64 i ∧ bv = .int .i64 (rkTo z s.data.toList i) ∧ Blk wr w1.heap.size #[.slice (some ⟨g, 0, none⟩) (2 * z + 1) cap, .int .i64 (2 * (z : Int)), .int .i64 i, .int .i64 (bal z (s.data.toList.take i))] 90 ∧ Below w1.heap.size w1 wr) (fun _ iv _ => s.size - (intOf iv).toNat)
  case atStart => exact ⟨0, Nat.zero_le _, rfl, rfl, by rw [show bal z (s.data.toList.take 0) = 0 by simp [bal, dsum]]; exact Blk.new w1 _ _, by go_grown⟩
  case round =>
    obtain ⟨i, hi, rfl, rfl, hblk, hbl⟩ := hrel
    obtain ⟨wo, rfl⟩ : ∃ wo : World, wo = wr := ⟨_, rfl⟩
    have HBK := Lib.hid hblk
    have hR := rkTo_bd z hz s HD.out i hi
    obtain ⟨hR1, hR2⟩ := hR
    have hB := bal_bd z (s.data.toList.take i) (by simp; omega) (digB_take _ _ HD.out)
    have HBB := Lib.hid hB
    clear hblk hB
    by_cases hlt : i < s.size
    · have hc := digB_get s i hlt HD.out
      obtain ⟨hc1, hc2⟩ := hc
      have HL : Hid ((s.data.toList.take i).length = i) := by show _ = _; simp; omega
      go_wp2_with fail
      obtain ⟨o, ho⟩ : ∃ o : Nat, o = (dv s[i]).toNat := ⟨_, rfl⟩
      have ho2 : (s[i].toNat : Int) - 48 ≤ (o : Int) ∧ (o : Int) ≤ (s[i].toNat : Int) - 48 := by rw [ho]; unfold dv; omega
      have HO := Lib.hid ho
      clear ho
      obtain ⟨ho1, ho2⟩ := ho2
      go_loopw [5, 23] (fun bv dv' wq => ∃ d : Nat, d ≤ o ∧ dv' = .int .i64 d ∧ bv = .int .i64 (rkTo z s.data.toList i + inner z (s.data.toList.take i) d) ∧ Hid (Blk wq w1.heap.size #[.slice (some ⟨g, 0, none⟩) (2 * z + 1) cap, .int .i64 (2 * (z : Int)), .int .i64 i, .int .i64 (bal z (s.data.toList.take i))] 90) ∧ Below w1.heap.size w1 wq) (fun _ dv' _ => o - (intOf dv').toNat)
      case atStart => exact ⟨0, Nat.zero_le _, rfl, val_int (by simp [inner, sumTo]), HBK, hbl⟩
      case round =>
        obtain ⟨d, hd, rfl, rfl, hblk, hbq⟩ := hrel
        obtain ⟨wp, rfl⟩ : ∃ wp : World, wp = wr := ⟨_, rfl⟩
        have hI := inner_bd z hz (s.data.toList.take i) d
        obtain ⟨hI1, hI2⟩ := hI
        have c0 := hblk.out.cell 0
        have c1 := hblk.out.cell 1
        have c2 := hblk.out.cell 2
        have c3 := hblk.out.cell 3
        simp at c0 c1 c2 c3
        have hfr := hblk.out.frozen
        by_cases hdo : d < o
        · have hI' := cmp_bd hz (p := i + 1) (stp z i (bal z (s.data.toList.take i)) (d : Int))
          obtain ⟨hI3, hI4⟩ := hI'
          have hbs := stp_bd z i _ (d : Int) HBB.out (by omega)
          have HBS := Lib.hid hbs
          clear hbs
          have hq1 := hbq.size
          have HBC : Hid (-1000 ≤ bal z (s.data.toList.take i) ∧ bal z (s.data.toList.take i) ≤ 1000) := by have := HBB.out; show _ ∧ _; omega
          go_wp2_with (first | (go_at_call 90; go_must ((with_reducible refine (step_any z i _ _ _ _ hz (by omega) HBC.out (by omega) ⟨g, _, cap, rfl⟩).mono ?_); rintro e w2 ⟨rfl, hb2⟩; have H2 := hbq.trans (hb2.mono hq1); have F2 := Lib.hid (hblk.out.keep hb2); have hq2 := hb2.size; clear hb2)) | (go_at_call 91; go_must ((with_reducible refine (completions_at z (i + 1) _ _ _ _ _ (by omega) hz (by omega) HBS.out (hcn.below H2)).mono ?_); rintro e w3 ⟨rfl, hb3⟩; have H3 := H2.trans (hb3.mono (by omega)); have F3 := Lib.hid (F2.out.keep hb3); clear hb3)))
          go_roundw
          case rel => exact ⟨d + 1, by omega, by go_num, val_int (by rw [inner_succ, HL.out]; omega), F3, H3⟩
          case measure => simp [intOf]; omega
        · have hq1 := hbq.size
          have HBC : Hid (-1000 ≤ bal z (s.data.toList.take i) ∧ bal z (s.data.toList.take i) ≤ 1000) := by have := HBB.out; show _ ∧ _; omega
          have HN : Hid (stp z i (bal z (s.data.toList.take i)) ((s[i].toNat : Int) - 48) = bal z (s.data.toList.take (i + 1))) := by
            show _ = _; rw [take_snoc s i hlt, bal_snoc, HL.out]; rfl
          have HK : Hid (rkTo z s.data.toList i + inner z (s.data.toList.take i) d = rkTo z s.data.toList (i + 1)) := by
            show _ = _; rw [rkTo_succ z s i hlt, ← HO.out, show d = o by omega]
          go_wp2_with (first | (go_at_call 90; go_must ((with_reducible refine (step_any z i _ _ _ _ hz (by omega) HBC.out (by omega) ⟨g, _, cap, rfl⟩).mono ?_); rintro e w2 ⟨rfl, hb2⟩; have H2 := hbq.trans (hb2.mono hq1); have F2 := hblk.out.keep hb2; have F2' := Lib.hid F2; have d0 := F2.cell 0; have d1 := F2.cell 1; have d2 := F2.cell 2; have d3 := F2.cell 3; simp at d0 d1 d2 d3; have d4 := F2.frozen; have hq2 := hb2.size; clear hb2 F2)))
          go_roundw
          case rel =>
            refine ⟨i + 1, by omega, by go_num, val_int HK.out, ?_, by go_grown⟩
            have := (((F2'.out.set 0 (.slice (some ⟨g, 0, none⟩) (2 * z + 1) cap)).set 1 (.int .i64 (2 * (z : Int)))).set 2 (.int .i64 ((i : Int) + 1))).set 3 (.int .i64 (stp z i (bal z (s.data.toList.take i)) ((s[i].toNat : Int) - 48)))
            rw [HN.out] at this
            rw [HN.out]
            exact this
          case measure => simp [intOf]; omega
    · have c0 := HBK.out.cell 0
      have c1 := HBK.out.cell 1
      have c2 := HBK.out.cell 2
      have c3 := HBK.out.cell 3
      simp at c0 c1 c2 c3
      have hq1 := hbl.size
      have HBC : Hid (-1000 ≤ bal z (s.data.toList.take i) ∧ bal z (s.data.toList.take i) ≤ 1000) := by have := HBB.out; show _ ∧ _; omega
      have hI' := cmp_bd hz (p := i) (bal z (s.data.toList.take i))
      obtain ⟨hI3, hI4⟩ := hI'
      have he : i = s.size := by omega
      have HE := Lib.hid he
      clear he
      have HR : Hid (rkTo z s.data.toList i = rank z s) := by show _ = _; rw [HE.out]; rfl
      have HC : Hid (cmp z i (bal z (s.data.toList.take i)) = comp z s.data.toList) := by
        show _ = _; rw [HE.out, take_all]; unfold comp; rw [show s.data.toList.length = s.size by simp]
      go_wp2_with (first | (go_at_call 91; go_must ((with_reducible refine (completions_any z i _ _ _ _ hz (by omega) HBC.out (hcn.below hbl)).mono ?_); rintro e w3 ⟨rfl, hb3⟩; have H3 := hbl.trans (hb3.mono hq1); clear hb3)))
      go_ret2
      exact ⟨tup_ints' HR.out (by rw [HR.out, HC.out]), hb1.trans (H3.mono hz1)⟩
end Go.Proofs.Ytlkeemnnncnibab

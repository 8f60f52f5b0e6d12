/-
  All runs with a sum: both sides.
-/
import Derived.Test.YtjjegpoimnkknaaHoRun2
namespace Go.Proofs.Ytjjegpoimnkknaa
open Go.RowKit

theorem rst_mono {s t : Int} (ht : t = 1 ∨ t = 2) (m k : Nat) (hmk : m ≤ k) (h : (k : Int) ≤ rst s t k) : (m : Int) ≤ rst s t m := by
  rcases ht with rfl | rfl
  · exact rst_mono1 s m k hmk h
  · exact rst_mono2 s m k hmk h
theorem rst_need {s t k : Int} (ht : t = 1 ∨ t = 2) (hk : 1 ≤ k) (h : k ≤ rst s t k) : k * (k + 1) ≤ 2 * s := by
  have e := rst_two s t k
  have e2 : k * (k + 1) = k * k + k := by grind
  have e3 : k * 1 ≤ k * k := Int.mul_le_mul_of_nonneg_left hk (by omega)
  rcases ht with rfl | rfl <;> omega
/-- All runs. -/
def ansR (s t : Int) : List (Int × Int) := if houB s = true then runs s t 2000 else []
theorem ansR_of {s t : Int} (hs : houB s = true) (m : Nat) (hm : m ≤ 2000) (h : ∀ k : Nat, m < k → ¬ (k : Int) ≤ rst s t k) (h1 : 1 ≤ m) : ansR s t = runs s t m := by
  unfold ansR
  rw [if_pos hs]
  have := runs_same s t m h1 (2000 - m) (fun k hk _ => by
    rw [Bool.eq_false_iff, ne_eq, runB_iff]
    exact fun h' => h k hk h'.1)
  rwa [show m + (2000 - m) = 2000 by omega] at this
theorem ansR_len (s t : Int) : (ansR s t).length ≤ 2000 := by
  unfold ansR
  split
  · exact runs_len s t 2000
  · simp
theorem ansR_no {s t : Int} (hs : houB s = false) : ansR s t = [] := by unfold ansR; rw [if_neg (by rw [hs]; simp)]
/-- What a search brings. -/
def SrOut (C : Nat) (w : World) (s t : Int) (m b2 b3 b5 b6 : Nat) (run : Value) (fd : Bool) : Prop :=
  (fd = false ∧ runs s t m = []) ∨ ∃ (k g : Nat) (x y : Int), fd = true ∧ run = .slice (some ⟨g, 0, none⟩) 2 2 ∧ runs s t m = (x, y) :: runs s t k ∧ k ≤ m ∧ Blk w g (ivs [x, y]) 3 ∧ C ≤ g ∧ SrSt w s t k b2 b3 b5 b6
theorem srch_out (s t : Int) (m b2 b3 b5 b6 : Nat) (w : World) (H : SrSt w s t m b2 b3 b5 b6) (h1 : 1 ≤ s) (h2 : s ≤ 1000000) (ht : t = 1 ∨ t = 2) (hm : m ≤ 1500) (hmono : ∀ k : Nat, 1 ≤ k → k ≤ m → (k : Int) ≤ rst s t k) :
    Calls Try.prog 73 #[.pointer (some ⟨b6, 0, none⟩), .pointer (some ⟨b5, 0, none⟩), .pointer (some ⟨b3, 0, none⟩)] w fun e w' => (∃ (run : Value) (fd : Bool), e = .returned (.tuple #[run, .bool fd]) ∧ SrOut w.heap.size w' s t m b2 b3 b5 b6 run fd) ∧ w.grownBy w' (some b6) := by
  refine (srch_any s t m b2 b3 b5 b6 w H h1 h2 ht hm hmono).mono ?_
  rintro e w' ⟨hg, hr⟩
  rcases hr with ⟨h, rfl⟩ | ⟨k, g, x, y, e1, e2, rfl, e4, e5, e6⟩
  · exact ⟨⟨_, _, rfl, .inl ⟨rfl, h⟩⟩, hg⟩
  · exact ⟨⟨_, _, rfl, .inr ⟨k, g, x, y, rfl, rfl, e1, e2, e4, e5, e6⟩⟩, hg⟩
theorem SrSt.keepB {w w' : World} {s t m : Int} {b2 b3 b5 b6 B : Nat} (h : SrSt w s t m b2 b3 b5 b6) (k : Below B w w') (hB : b2 < B ∧ b3 < B ∧ b5 < B ∧ b6 < B) : SrSt w' s t m b2 b3 b5 b6 := by
  obtain ⟨h1, h2, h3, h4, h5, ⟨m1, m2, m3, m4⟩, n⟩ := h
  obtain ⟨l1, l2, l3, l4⟩ := hB
  have := k.size
  exact ⟨(k.cell (p := ⟨b2, 0, none⟩) l1).trans h1, (k.cell (p := ⟨b3, 0, none⟩) l2).trans h2, (k.cell (p := ⟨b5, 0, none⟩) l3).trans h3, (k.cell (p := ⟨b6, 0, none⟩) l4).trans h4, (k.frozen (p := ⟨b6, 0, none⟩) l4).trans h5, ⟨by omega, by omega, by omega, by omega⟩, n⟩
theorem gb_belowB {b B : Nat} {w w' w'' : World} (h : w.grownBy w' (some b)) (k : Below B w' w'') (hB : w.heap.size ≤ B) : w.grownBy w'' (some b) :=
  ⟨k.os.trans h.os, k.tape.trans h.tape, k.output.trans h.output, Nat.le_trans h.size k.size, fun i hi hne => (k.block i (by omega)).trans (h.block i hi hne)⟩
set_option maxHeartbeats 4000000 in
theorem iRuns_yes (s t : Int) (w : World) (hs : houB s = true) (ht : t = 1 ∨ t = 2) :
    Calls Try.prog 61 #[.int .i64 s, .int .i64 t] w fun e w' => (∃ v : Value, e = .returned (.tuple #[v, .bool true]) ∧ Rws w.heap.size (prR (ansR s t)) v w') ∧ Below w.heap.size w w' := by
  obtain ⟨h1, h2⟩ := (houB_iff s).1 hs
  have HS := Lib.hid hs
  have HT := Lib.hid ht
  have HAL := Lib.hid (ansR_len s t)
  clear ht
  go_enter Try.func61, Try.ntmps61
  go_wp2_with (go_at_call 62; refine (isRunSum_any _ _).mono ?_; rintro e w' ⟨rfl, rfl⟩)
  refine (searchRuns_any s t _ HS.out HT.out).mono ?_
  rintro e w1 ⟨⟨M, b2, b3, b5, b6, rfl, hst, hM1, hM2, hM3, hM4, hb6w⟩, b1⟩
  have HST := Lib.hid hst
  have HMN : Hid (∀ k : Nat, 1 ≤ k → k ≤ M → (k : Int) ≤ rst s t k) := fun k _ hk => rst_mono HT.out k M hk hM3
  have HAN : Hid (ansR s t = runs s t M) := ansR_of HS.out M (by omega) (fun k hk h => by
    have := rst_mono HT.out (M + 1) k (by omega) h
    rw [show ((M + 1 : Nat) : Int) = (M : Int) + 1 by omega] at this
    have h4 := hM4
    omega) hM1
  have hb1s := b1.size
  have HB1 := Lib.hid b1
  have HLT := Lib.hid hst.lt
  have hlb6 := hst.lt.2.2.2
  clear hst b1 hM3 hM4
  go_wp2_with fail
  refine (srch_out s t M b2 b3 b5 b6 _ HST.out h1 h2 HT.out hM2 HMN.out).mono ?_
  rintro e w2 ⟨⟨run, fd, rfl, ho⟩, hg⟩
  have HO := Lib.hid ho
  have HG := Lib.hid hg
  have hg2 := hg.size
  clear ho hg
  go_wp2
  go_loopg [6, 8, 9] (M + 1) (fun n v run fv wr => ∃ (F : Bool) (xs : List (Int × Int)) (C : Nat), fv = .bool F ∧ Hid (RwsC w1.heap.size C (prR xs) v wr) ∧ Hid (w1.grownBy wr (some b6)) ∧ w1.heap.size ≤ wr.heap.size ∧ w1.heap.size ≤ C ∧ xs.length ≤ 2000 ∧
    Hid ((F = false ∧ ansR s t = xs) ∨ ∃ (k g : Nat) (x y : Int), F = true ∧ run = .slice (some ⟨g, 0, none⟩) 2 2 ∧ ansR s t = xs ++ (x, y) :: runs s t k ∧ k ≤ M ∧ (runs s t k).length + 1 ≤ n ∧ Blk wr g (ivs [x, y]) 3 ∧ C ≤ g ∧ SrSt wr s t k b2 b3 b5 b6))
  case atStart =>
    refine ⟨fd, [], w1.heap.size, rfl, ?_, HG.out, hg2, Nat.le_refl _, by simp, ?_⟩
    · show RwsC _ _ _ _ _
      obtain ⟨ps, e1, e2⟩ := Rws.nil w1.heap.size w2
      have e3 : ps = [] := List.map_eq_nil_iff.1 e1
      subst e3
      exact ⟨[], rfl, e2, fun i hi => by simp at hi, fun k hk => by cases hk⟩
    · rcases HO.out with ⟨e1, e2⟩ | ⟨k, g, x, y, e1, e2, e3, e4, e5, e6, e7⟩
      · exact .inl ⟨e1, by rw [HAN.out, e2]⟩
      · refine .inr ⟨k, g, x, y, e1, e2, by rw [HAN.out, e3]; rfl, e4, ?_, e5, e6, e7⟩
        have := runs_len s t k
        omega
  case round =>
    obtain ⟨F, xs, C, rfl, HR, HG, hsz, hC, hxl, HF⟩ := hrel
    cases F with
    | true =>
      have HF2 : Hid (∃ (k g : Nat) (x y : Int), u8 = .slice (some ⟨g, 0, none⟩) 2 2 ∧ ansR s t = xs ++ (x, y) :: runs s t k ∧ k ≤ M ∧ (runs s t k).length + 1 ≤ gk ∧ Blk wr g (ivs [x, y]) 3 ∧ C ≤ g ∧ SrSt wr s t k b2 b3 b5 b6) := by
        rcases HF.out with ⟨e, _⟩ | ⟨k, g, x, y, _, e2, e3, e4, e5, e6, e7, e8⟩
        · cases e
        · exact ⟨k, g, x, y, e2, e3, e4, e5, e6, e7, e8⟩
      obtain ⟨k, g, x, y, rfl, e3, e4, e5, e6, e7, e8⟩ := HF2.out
      have HE3 := Lib.hid e3
      have HE6 := Lib.hid e6
      have HE8 := Lib.hid e8
      have ha0 : (prR xs).length ≤ 1000000 := by rw [prR_len]; omega
      have hxl2 : xs.length + 1 ≤ 2000 := by
        have := HAL.out
        rw [HE3.out, List.length_append, List.length_cons] at this; omega
      clear e3 e6 e8 HF HF2
      go_wp2_with (first | (at_builtin; refine wpList_append_rwC _ rfl _ _ rfl w1.heap.size C (prR xs) _ rfl (HR.out.below ((Below.refl _ _).alloc (Nat.le_refl _) _)) wr.heap.size g [x, y] rfl (by simp [go_sem, rowV]) (HE6.out.alloc _) e7 (by omega) ha0 (by simp; omega) ?_; intro v1 w6 hr6 hb6) | (go_at_call 73; refine (srch_out s t k b2 b3 b5 b6 _ ((HE8.out.keep ((Below.refl _ _).alloc (Nat.le_refl _) _)).keepB hb6 HLT.out) h1 h2 HT.out (by omega) (fun i hi1 hi2 => HMN.out i hi1 (by omega))).mono ?_; rintro e w7 ⟨⟨run, fd, rfl, ho⟩, hg⟩; have HO := Lib.hid ho; have HG7 := Lib.hid hg; clear ho hg))
      have hb7 : Below w1.heap.size wr w6 := ((Below.refl _ _).alloc hsz _).trans hb6
      have hz6 : w1.heap.size ≤ w6.heap.size := by have := hb7.size; omega
      have hz7 := HG7.out.size
      go_roundg (runs s t k).length
      case measure => omega
      case rel =>
        refine ⟨fd, xs ++ [(x, y)], w6.heap.size, rfl, ?_, gb_trans (gb_belowB HG.out hb7 (Nat.le_refl _)) HG7.out, by omega, hz6, by simp; omega, ?_⟩
        · show RwsC _ _ _ _ _
          rw [prR_snoc]
          exact hr6.toC.grown HG7.out hlb6
        · rcases HO.out with ⟨q1, q2⟩ | ⟨k', g', x', y', q1, q2, q3, q4, q5, q6, q7⟩
          · exact .inl ⟨q1, by rw [HE3.out, q2]⟩
          · refine .inr ⟨k', g', x', y', q1, q2, by rw [HE3.out, q3]; simp, by omega, ?_, q5, q6, q7⟩
            rw [q3]; simp
    | false =>
      have HX : Hid (ansR s t = xs) := by
        rcases HF.out with ⟨_, e⟩ | ⟨_, _, _, _, e, _⟩
        · exact e
        · cases e
      go_wp2
      go_ret2
      refine ⟨⟨_, rfl, ?_⟩, HB1.out.trans (gb_to HG.out hb6w hb1s)⟩
      rw [HX.out]
      exact HR.out.toR.mono hb1s
end Go.Proofs.Ytjjegpoimnkknaa

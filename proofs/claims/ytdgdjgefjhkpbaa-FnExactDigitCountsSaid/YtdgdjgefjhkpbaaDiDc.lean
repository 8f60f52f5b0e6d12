/-
  The law of DigitCounts.
-/
import Derived.Test.YtdgdjgefjhkpbaaDiLaw
import Derived.Test.YtdgdjgefjhkpbaaSliceE
import Derived.Test.YtdgdjgefjhkpbaaApp
namespace Go.Proofs.Ytdgdjgefjhkpbaa
open Go.RowKit

/-- The first k counts. -/
def cns (n : Int) (k : Nat) : List Int := (List.range k).map (fun (d : Nat) => cn (d : Int) n)
theorem cns_len (n : Int) (k : Nat) : (cns n k).length = k := by simp [cns]
theorem cns_succ (n : Int) (k : Nat) : cns n (k + 1) = cns n k ++ [cn (k : Int) n] := by simp [cns, List.range_succ]
theorem Ints.toE {B : Nat} {xs : List Int} {v : Value} {w : World} (h : Ints B xs v w) : IntsE B xs v w := ⟨_, h⟩
theorem IntsE.nil (B : Nat) (w : World) : IntsE B [] (.slice none 0 0) w := ⟨3, rfl, .inl ⟨rfl, rfl⟩⟩
theorem IntsE.ten {B g : Nat} {n : Int} {w : World} (hB : B ≤ g) (h : w.heap[g]? = some (.cells (A10 fun d => cn d n) 42 (0, 0))) : IntsE B (cns n 10) (.slice (some ⟨g, 0, none⟩) 10 10) w :=
  ⟨42, rfl, .inr ⟨g, 10, _, rfl, hB, h, by simp [cns_len], by unfold maxLen; omega, rfl, rfl⟩⟩
/-- What DigitCounts answers. -/
def dcs (n : Int) : List Int := if nuB n = true then cns n 10 else []
theorem dcs_len (n : Int) : (dcs n).length ≤ 1000000 := by unfold dcs; split <;> simp [cns_len]
set_option maxHeartbeats 1000000 in
theorem iDc_any (n : Int) (w : World) :
    Calls Try.prog 19 #[.int .i64 n] w fun e w' => ∃ v, e = .returned (.tuple #[v, .bool (nuB n)]) ∧ IntsE w.heap.size (dcs n) v w' ∧ Below w.heap.size w w' := by
  cases h : nuB n with
  | true =>
    obtain ⟨h0, h1⟩ := (nuB_iff n).1 h
    have HE : Hid (dcs n = cns n 10) := by show _ = _; unfold dcs; rw [if_pos h]
    obtain ⟨f, hf⟩ : ∃ f : Nat → Int, f = fun (d : Nat) => cn (d : Int) n := ⟨_, rfl⟩
    have HFE := Lib.hid hf
    have HC : Hid (∀ W, Calls Try.prog 40 #[.int .i64 n] W fun e w' => e = .returned (.agg (A10 f)) ∧ Below W.heap.size W w') := fun W => by rw [hf]; exact countsUpTo_any n W h0 h1
    clear hf
    go_enter Try.func19, Try.ntmps19
    go_wp2_with (first | (go_at_call 32; refine (isWritable_any _ _).mono ?_; rintro e w' ⟨rfl, rfl⟩) | (go_at_call 40; refine (HC.out _).mono ?_; rintro e w1 ⟨rfl, b1⟩; unfold A10; obtain ⟨m0, m1, m2, m3, m4, m5, m6, m7, m8, m9, mf, ms⟩ := (Row10.new w1 (fun _ => 0)).all; have hq := (Row10.new w1 (fun _ => 0)).blk; unfold A10 at hq m0 m1 m2 m3 m4 m5 m6 m7 m8 m9 mf ms; have HQ := Lib.hid hq; clear hq))
    go_ret2
    refine ⟨_, rfl, ?_, b1.alloc b1.size _⟩
    rw [HE.out]
    have hs := b1.size
    have hblk := Blk.new w1 (A10 f) 42
    rw [HFE.out] at hblk
    have := IntsE.ten (B := w.heap.size) hs hblk
    rw [← HFE.out] at this
    exact this
  | false =>
    have HE : Hid (dcs n = []) := by show _ = _; unfold dcs; rw [if_neg (by simp [h])]
    go_enter Try.func19, Try.ntmps19
    go_wp2_with (go_at_call 32; refine (isWritable_any _ _).mono ?_; rintro e w' ⟨rfl, rfl⟩)
    go_ret2
    exact ⟨_, rfl, by rw [HE.out]; exact IntsE.nil _ _, Below.refl _ _⟩
set_option maxHeartbeats 1000000 in
theorem sDc_any (n : Int) (w : World) :
    Calls Try.prog 18 #[.int .i64 n] w fun e w' => ∃ v, e = .returned (.tuple #[v, .bool (nuB n)]) ∧ IntsE w.heap.size (dcs n) v w' ∧ Below w.heap.size w w' := by
  cases h : nuB n with
  | true =>
    obtain ⟨h0, h1⟩ := (nuB_iff n).1 h
    have HE : Hid (dcs n = cns n 10) := by show _ = _; unfold dcs; rw [if_pos h]
    go_enter Try.func18, Try.ntmps18
    go_wp2_with (go_at_call 27; refine (diGood_any _ _).mono ?_; rintro e w' ⟨rfl, rfl⟩)
    go_loopw [4, 5] (fun cv kv wr => ∃ (k : Nat) (xs : List Int), k ≤ 10 ∧ kv = .int .i64 k ∧ Hid (xs = cns n k) ∧ Hid (Ints w.heap.size xs cv wr) ∧ Below w.heap.size w wr) (fun _ kv _ => 10 - (intOf kv).toNat)
    case atStart => exact ⟨0, [], by omega, rfl, rfl, ⟨rfl, .inl ⟨rfl, rfl⟩⟩, Below.refl _ _⟩
    case round =>
      obtain ⟨k, xs, hk, rfl, hxs, HI, hbl⟩ := hrel
      obtain ⟨v, rfl⟩ : ∃ v, v = u4 := ⟨_, rfl⟩
      by_cases hlt : k < 10
      · have hxl : xs.length ≤ 1000000 := by rw [hxs.out, cns_len]; omega
        have hzz := hbl.size
        have HXE : Hid (xs ++ [cn (k : Int) n] = cns n (k + 1)) := by show _ = _; rw [cns_succ, hxs.out]
        go_wp2_with (first | (go_at_call 38; refine (diCount_any n (k : Int) _ h0 h1 ⟨by omega, by omega⟩).mono ?_; rintro e w1 ⟨rfl, b1⟩; have HI1 := Lib.hid (HI.out.below b1); have hb1 := hbl.trans (b1.mono hzz); have hz1 := hb1.size) | (at_builtin; refine wpList_append_int _ rfl _ _ rfl w.heap.size xs _ rfl (HI1.out.alloc _) _ (cn (k : Int) n) rfl (by simp [go_sem]) hxl (by simp; omega) ?_; intro v1 w6 hr6 hb6 _))
        go_roundw
        case rel => exact ⟨k + 1, _, by omega, by go_num, HXE, hr6, hb1.trans (Below.trans ((Below.refl _ _).alloc (by omega) _) hb6)⟩
        case measure => simp [intOf]; omega
      · go_wp2
        go_ret2
        exact ⟨_, rfl, by rw [HE.out, show (10 : Nat) = k by omega, ← hxs.out]; exact HI.out.toE, hbl⟩
  | false =>
    have HE : Hid (dcs n = []) := by show _ = _; unfold dcs; rw [if_neg (by simp [h])]
    go_enter Try.func18, Try.ntmps18
    go_wp2_with (go_at_call 27; refine (diGood_any _ _).mono ?_; rintro e w' ⟨rfl, rfl⟩)
    go_ret2
    exact ⟨_, rfl, by rw [HE.out]; exact IntsE.nil _ _, Below.refl _ _⟩
set_option maxHeartbeats 1000000 in
theorem FnExactDigitCounts_law (n : Int) (_h0 : (Lit.int .i64 n).wf = true) (w : World) :
    Calls Try.prog 7 #[.int .i64 n] w fun e w' => e = .returned (.bool true) ∧ Below w.heap.size w w' := by
  have hn := dcs_len n
  go_enter Try.func7, Try.ntmps7
  go_wp2_with fail
  refine (sDc_any n _).mono ?_
  rintro e w1 ⟨v0, rfl, i0, b1⟩
  go_wp2_with fail
  refine (iDc_any n _).mono ?_
  rintro e w2 ⟨g0, rfl, j0, b2⟩
  have i1 := i0.below b2
  go_wp2_with fail
  refine (eqIntsE_yes _ _ (dcs n) _ _ _ hn j0 i1).mono ?_
  rintro e w' ⟨rfl, q, rfl⟩
  go_wp2_with fail
  refine (markE_any w1.heap.size (dcs n) g0 1 _ hn (by omega) (j0.drewN q)).mono ?_
  rintro e w3 ⟨rfl, k0, b3⟩
  have i3 := (i1.drewN q).apart (.inr i0.own_lt) b3
  go_wp2_with fail
  refine (heldE_any w1.heap.size (dcs n).length g0 1 _ hn (by omega) k0).mono ?_
  rintro e w' ⟨rfl, rfl⟩
  go_wp2_with fail
  refine (iDc_any n _).mono ?_
  rintro e w4 ⟨h0, rfl, l0, b4⟩
  have i4 := i3.below b4
  have k4 := k0.below b4
  go_wp2_with fail
  refine (eqIntsE_yes _ _ (dcs n) _ _ _ hn l0 i4).mono ?_
  rintro e w' ⟨rfl, q2, rfl⟩
  go_wp2_with fail
  refine (heldE_any w1.heap.size (dcs n).length g0 1 _ hn (by omega) (k4.drewN q2)).mono ?_
  rintro e w' ⟨rfl, rfl⟩
  go_wp2_with fail
  go_ret
  exact ⟨rfl, below_drewN (((below_drewN (b1.trans (b2.mono b1.size)) q).trans (b3.mono b1.size)).trans (b4.mono (by have h1 := b1.size; have h2 := b2.size; have h3 : w2.heap.size ≤ w3.heap.size := b3.size; omega))) _⟩
end Go.Proofs.Ytdgdjgefjhkpbaa

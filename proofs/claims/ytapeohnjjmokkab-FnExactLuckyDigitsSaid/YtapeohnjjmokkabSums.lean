/-
  The law of SumsOfLucky.
-/
import Derived.Test.YtapeohnjjmokkabCntOf
import Derived.Test.YtapeohnjjmokkabSlice
namespace Go.Proofs.Ytapeohnjjmokkab
open Go.RowKit

theorem Ints.push {B : Nat} {xs : List Int} {x : Int} {v' : Value} {w' : World} (h : w'.ownsRow B 3 1 v' (xs.length + 1) (xs.map (Value.int .i64) ++ [.int .i64 x])) : Ints B (xs ++ [x]) v' w' := by
  unfold Ints; simpa using h
theorem Ints.nil (B : Nat) (w : World) : Ints B [] (.slice none 0 0) w := World.ownsRow_nil _ _ _ _
/-- The squares. -/
def sqs (D k : Nat) : List Int := (List.range k).map (fun (j : Nat) => wrap64 (W D j * W D j))
theorem sqs_succ (D k : Nat) : sqs D (k + 1) = sqs D k ++ [wrap64 (W D k * W D k)] := by simp [sqs, List.range_succ]
theorem sqs_len (D k : Nat) : (sqs D k).length = k := by simp [sqs]
theorem ways_at' (x : Int) (D : Nat) (hx : x = (D : Int)) (hD : D ≤ 12) (w : World) :
    Calls Try.prog 47 #[.int .i64 x] w fun e w' => ∃ g, e = .returned (.slice (some ⟨g, 0, none⟩) (9 * D + 1) (9 * D + 1)) ∧ IRow w' g (9 * D + 1) (W D) ∧ w.heap.size ≤ g ∧ Below w.heap.size w w' := by
  subst hx; exact ways_any D hD w
theorem cnts_at' (x : Int) (D : Nat) (hx : x = (D : Int)) (hD : D ≤ 12) (w : World) :
    Calls Try.prog 49 #[.int .i64 x] w fun e w' => ∃ v, e = .returned v ∧ Cnts w' v D w.heap.size ∧ Below w.heap.size w w' := by
  subst hx; exact cnts_any D hD w
set_option maxHeartbeats 1000000 in
theorem sSums_yes (D : Nat) (w : World) (hz : szB (2 * (D : Int)) = true) (h6 : D ≤ 6) :
    Calls Try.prog 23 #[.int .i64 (2 * (D : Int))] w fun e w' => ∃ v, e = .returned (.tuple #[v, .bool true]) ∧ Ints w.heap.size (sqs D (9 * D + 1)) v w' ∧ Below w.heap.size w w' := by
  obtain ⟨i0, hi, hz0, hz1, hz2⟩ := info_parts (show (Try.prog.info? 3).map (fun i => (i.zero, i.size, i.bytes)) = some (some (.int .i64 0), 1, 8) by kernel_rfl)
  have hD1 : (D : Int) < (D : Int) + 1 := by omega
  go_enter Try.func23, Try.ntmps23
  go_wp2_with (first | (go_at_call 46; go_must ((with_reducible refine (tkSize_any _ _).mono ?_); rintro e w' ⟨rfl, rfl⟩)) | (go_at_call 47; go_must ((with_reducible refine (ways_at' _ D (by omega) (by omega) _).mono ?_); rintro e w1 ⟨g, rfl, hrow, hg, hb1⟩; have hcc : True := trivial)))
  have hzz := hb1.size
  have HB1 := Lib.hid hb1
  have hgl := hrow.lt
  clear hb1
  obtain ⟨m, hm⟩ : ∃ m, m = 9 * D + 1 := ⟨_, rfl⟩
  rw [← hm] at hrow
  rw [← hm]
  have hm109 : m ≤ 109 := by omega
  have hm1 : m ≤ 9 * D + 1 := by omega
  have hm2 : 9 * D + 1 ≤ m := by omega
  clear hm hcc
  go_loopw [4, 14] (fun vv iv wr => ∃ (k : Nat) (xs : List Int), k ≤ m ∧ iv = .int .i64 k ∧ Hid (xs = sqs D k) ∧ Ints w1.heap.size xs vv wr ∧ Below w1.heap.size w1 wr) (fun _ iv _ => m - (intOf iv).toNat)
  case atStart => exact ⟨0, [], Nat.zero_le _, rfl, rfl, Ints.nil _ _, Below.refl _ _⟩
  case round =>
    obtain ⟨k, xs, hk, rfl, hxs, hI, hbl⟩ := hrel
    have hxl : xs.length ≤ 109 := by rw [hxs.out, sqs_len]; omega
    have hsz := hbl.size
    by_cases hlt : k < m
    · have hc := (hrow.below hbl hgl).cell hlt
      have HI := Lib.hid hI
      clear hI
      go_wp2_with (at_builtin; refine wpList_append_own _ rfl _ _ 31 rfl w1.heap.size 3 i0 (.int .i64 0) 1 8 Try.underlying31 hi hz0 hz1 hz2 rfl (by decide) _ _ _ rfl (HI.out.alloc _) ⟨wr.heap.size, 0, none⟩ 1 1 [.int .i64 (wrap64 (W D k * W D k))] rfl rfl ?c1 ?c2 ?c3 ?c4 ?c5 ?_)
      case c1 =>
        intro j u hj
        match j, hj with
        | 0, hj => simp at hj; subst hj; simp [Addr.add]
      case c2 => intro u hu; simp at hu; subst hu; rfl
      case c3 => unfold maxLen; omega
      case c4 => omega
      case c5 => simp; omega
      intro v' w2 hown' hgrow _
      have hb2 : Below w1.heap.size w1 w2 := (hbl.alloc (by omega) _).grown hgrow (by simp; omega) (fun q hq => (HI.out.lt q hq).1)
      have HP := Lib.hid (Ints.push hown')
      clear hown' hgrow hc
      go_wp2
      go_roundw
      case rel => exact ⟨k + 1, _, by omega, by go_num, by show _ = _; rw [hxs.out, sqs_succ], HP.out, hb2⟩
      case measure => simp [intOf]; omega
    · have HK : Hid (k = m) := by show _ = _; omega
      go_wp2
      go_ret2
      refine ⟨_, rfl, ?_, HB1.out.trans (hbl.mono hzz)⟩
      have e : xs = sqs D (9 * D + 1) := by rw [hxs.out, HK.out, show m = 9 * D + 1 by omega]
      rw [← e]; exact hI.mono hzz
theorem sSums_no (d : Int) (w : World) (hz : szB d = false) :
    Calls Try.prog 23 #[.int .i64 d] w fun e w' => ∃ v, e = .returned (.tuple #[v, .bool false]) ∧ Ints w.heap.size [] v w' ∧ Below w.heap.size w w' := by
  go_enter Try.func23, Try.ntmps23
  go_wp2_with (go_at_call 46; go_must ((with_reducible refine (tkSize_any _ _).mono ?_); rintro e w' ⟨rfl, rfl⟩))
  go_ret2
  exact ⟨_, rfl, Ints.nil _ _, Below.refl _ _⟩
set_option maxHeartbeats 1000000 in
theorem iSums_yes (D : Nat) (w : World) (hz : szB (2 * (D : Int)) = true) (h6 : D ≤ 6) :
    Calls Try.prog 24 #[.int .i64 (2 * (D : Int))] w fun e w' => ∃ v, e = .returned (.tuple #[v, .bool true]) ∧ Ints w.heap.size (sqs D (9 * D + 1)) v w' ∧ Below w.heap.size w w' := by
  obtain ⟨i0, hi, hz0, hz1, hz2⟩ := info_parts (show (Try.prog.info? 3).map (fun i => (i.zero, i.size, i.bytes)) = some (some (.int .i64 0), 1, 8) by kernel_rfl)
  have hD1 : (D : Int) < (D : Int) + 1 := by omega
  go_enter Try.func24, Try.ntmps24
  go_wp2_with (first | (go_at_call 48; go_must ((with_reducible refine (isSize_any _ _).mono ?_); rintro e w' ⟨rfl, rfl⟩)) | (go_at_call 49; go_must ((with_reducible refine (cnts_at' _ D (by omega) (by omega) _).mono ?_); rintro e w1 ⟨v, rfl, hcn, hb1⟩; obtain ⟨g0, cap0, rfl, hg0, _, hall⟩ := hcn; obtain ⟨g, hcc, hrow, hg⟩ := hall D (Nat.le_refl _); clear hall)))
  have hzz := hb1.size
  have HB1 := Lib.hid hb1
  have hgl := hrow.lt
  clear hb1
  obtain ⟨m, hm⟩ : ∃ m, m = 9 * D + 1 := ⟨_, rfl⟩
  rw [← hm] at hrow
  rw [← hm]
  have hm109 : m ≤ 109 := by omega
  have hm1 : m ≤ 9 * D + 1 := by omega
  have hm2 : 9 * D + 1 ≤ m := by omega
  clear hm hcc
  go_loopw [4, 18] (fun vv iv wr => ∃ (k : Nat) (xs : List Int), k ≤ m ∧ iv = .int .i64 k ∧ Hid (xs = sqs D k) ∧ Ints w1.heap.size xs vv wr ∧ Below w1.heap.size w1 wr) (fun _ iv _ => m - (intOf iv).toNat)
  case atStart => exact ⟨0, [], Nat.zero_le _, rfl, rfl, Ints.nil _ _, Below.refl _ _⟩
  case round =>
    obtain ⟨k, xs, hk, rfl, hxs, hI, hbl⟩ := hrel
    have hxl : xs.length ≤ 109 := by rw [hxs.out, sqs_len]; omega
    have hsz := hbl.size
    by_cases hlt : k < m
    · have hc := (hrow.below hbl hgl).cell hlt
      have HI := Lib.hid hI
      clear hI
      go_wp2_with (at_builtin; refine wpList_append_own _ rfl _ _ 31 rfl w1.heap.size 3 i0 (.int .i64 0) 1 8 Try.underlying31 hi hz0 hz1 hz2 rfl (by decide) _ _ _ rfl (HI.out.alloc _) ⟨wr.heap.size, 0, none⟩ 1 1 [.int .i64 (wrap64 (W D k * W D k))] rfl rfl ?c1 ?c2 ?c3 ?c4 ?c5 ?_)
      case c1 =>
        intro j u hj
        match j, hj with
        | 0, hj => simp at hj; subst hj; simp [Addr.add]
      case c2 => intro u hu; simp at hu; subst hu; rfl
      case c3 => unfold maxLen; omega
      case c4 => omega
      case c5 => simp; omega
      intro v' w2 hown' hgrow _
      have hb2 : Below w1.heap.size w1 w2 := (hbl.alloc (by omega) _).grown hgrow (by simp; omega) (fun q hq => (HI.out.lt q hq).1)
      have HP := Lib.hid (Ints.push hown')
      clear hown' hgrow hc
      go_wp2
      go_roundw
      case rel => exact ⟨k + 1, _, by omega, by go_num, by show _ = _; rw [hxs.out, sqs_succ], HP.out, hb2⟩
      case measure => simp [intOf]; omega
    · have HK : Hid (k = m) := by show _ = _; omega
      go_wp2
      go_ret2
      refine ⟨_, rfl, ?_, HB1.out.trans (hbl.mono hzz)⟩
      have e : xs = sqs D (9 * D + 1) := by rw [hxs.out, HK.out, show m = 9 * D + 1 by omega]
      rw [← e]; exact hI.mono hzz
theorem iSums_no (d : Int) (w : World) (hz : szB d = false) :
    Calls Try.prog 24 #[.int .i64 d] w fun e w' => ∃ v, e = .returned (.tuple #[v, .bool false]) ∧ Ints w.heap.size [] v w' ∧ Below w.heap.size w w' := by
  go_enter Try.func24, Try.ntmps24
  go_wp2_with (go_at_call 48; go_must ((with_reducible refine (isSize_any _ _).mono ?_); rintro e w' ⟨rfl, rfl⟩))
  go_ret2
  exact ⟨_, rfl, Ints.nil _ _, Below.refl _ _⟩
/-- What comes out. -/
def sums (d : Int) : List Int := if szB d = true then sqs (d / 2).toNat (9 * (d / 2).toNat + 1) else []
theorem sums_len (d : Int) : (sums d).length ≤ 1000000 := by
  unfold sums
  by_cases h : szB d = true
  · rw [if_pos h, sqs_len]; have := (szB_iff d).1 h; omega
  · rw [if_neg h]; simp
theorem sSums_any (d : Int) (w : World) :
    Calls Try.prog 23 #[.int .i64 d] w fun e w' => ∃ v, e = .returned (.tuple #[v, .bool (szB d)]) ∧ Ints w.heap.size (sums d) v w' ∧ Below w.heap.size w w' := by
  cases hz : szB d with
  | true =>
    obtain ⟨D, rfl, _, h6⟩ : ∃ z : Nat, d = 2 * (z : Int) ∧ 1 ≤ z ∧ z ≤ 6 := by
      have := (szB_iff d).1 hz
      exact ⟨(d / 2).toNat, by omega, by omega, by omega⟩
    have e : sums (2 * (D : Int)) = sqs D (9 * D + 1) := by
      rw [sums, if_pos hz]; rw [show (2 * (D : Int) / 2).toNat = D by omega]
    rw [e]; exact sSums_yes D w hz h6
  | false =>
    have e : sums d = [] := by rw [sums, if_neg (by rw [hz]; simp)]
    rw [e]; exact sSums_no d w hz
theorem iSums_any (d : Int) (w : World) :
    Calls Try.prog 24 #[.int .i64 d] w fun e w' => ∃ v, e = .returned (.tuple #[v, .bool (szB d)]) ∧ Ints w.heap.size (sums d) v w' ∧ Below w.heap.size w w' := by
  cases hz : szB d with
  | true =>
    obtain ⟨D, rfl, _, h6⟩ : ∃ z : Nat, d = 2 * (z : Int) ∧ 1 ≤ z ∧ z ≤ 6 := by
      have := (szB_iff d).1 hz
      exact ⟨(d / 2).toNat, by omega, by omega, by omega⟩
    have e : sums (2 * (D : Int)) = sqs D (9 * D + 1) := by
      rw [sums, if_pos hz]; rw [show (2 * (D : Int) / 2).toNat = D by omega]
    rw [e]; exact iSums_yes D w hz h6
  | false =>
    have e : sums d = [] := by rw [sums, if_neg (by rw [hz]; simp)]
    rw [e]; exact iSums_no d w hz
set_option maxHeartbeats 1000000 in
theorem FnExactSumsOfLucky_law (d : Int) (_h0 : (Lit.int .i64 d).wf = true) (w : World) :
    Calls Try.prog 9 #[.int .i64 d] w fun e w' => e = .returned (.bool true) ∧ Below w.heap.size w w' := by
  have hn := sums_len d
  go_enter Try.func9, Try.ntmps9
  go_wp2_with fail
  refine (sSums_any d _).mono ?_
  rintro e w1 ⟨v0, rfl, i0, b1⟩
  go_wp2_with fail
  refine (iSums_any d _).mono ?_
  rintro e w2 ⟨g0, rfl, j0, b2⟩
  have i1 := i0.below b2
  go_wp2_with fail
  refine (eqInts_yes _ _ (sums d) _ _ _ hn j0 i1).mono ?_
  rintro e w' ⟨rfl, q, rfl⟩
  go_wp2_with fail
  refine (mark_any w1.heap.size (sums d) g0 1 _ hn (by omega) (j0.drewN q)).mono ?_
  rintro e w3 ⟨rfl, k0, b3⟩
  have i3 := (i1.drewN q).apart (.inr i0.own_lt) b3
  go_wp2_with fail
  refine (held_any w1.heap.size (sums d).length g0 1 _ hn (by omega) k0).mono ?_
  rintro e w' ⟨rfl, rfl⟩
  go_wp2_with fail
  refine (iSums_any d _).mono ?_
  rintro e w4 ⟨h0, rfl, l0, b4⟩
  have i4 := i3.below b4
  have k4 := k0.below b4
  go_wp2_with fail
  refine (eqInts_yes _ _ (sums d) _ _ _ hn l0 i4).mono ?_
  rintro e w' ⟨rfl, q2, rfl⟩
  go_wp2_with fail
  refine (held_any w1.heap.size (sums d).length g0 1 _ hn (by omega) (k4.drewN q2)).mono ?_
  rintro e w' ⟨rfl, rfl⟩
  go_wp2_with fail
  go_ret
  exact ⟨rfl, below_drewN (((below_drewN (b1.trans (b2.mono b1.size)) q).trans (b3.mono b1.size)).trans (b4.mono (by have h1 := b1.size; have h2 := b2.size; have h3 : w2.heap.size ≤ w3.heap.size := b3.size; omega))) _⟩
end Go.Proofs.Ytapeohnjjmokkab

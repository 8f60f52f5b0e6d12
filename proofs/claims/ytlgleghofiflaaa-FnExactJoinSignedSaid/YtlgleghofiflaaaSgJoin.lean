/-
  The law of JoinSigned.
-/
import Derived.Test.YtlgleghofiflaaaSgLaw1
namespace Go.Proofs.Ytlgleghofiflaaa
open Go.RowKit

/-- A sign, or nothing. -/
def knB (g : ByteArray) : Bool := match g.data.toList with
  | [] => true
  | [c] => sgB c
  | _ => false
def jnB (a b g : ByteArray) : Bool := knB g && sigB a.data.toList && sigB b.data.toList && sigB (a ++ g ++ b).data.toList
def jn (a b g : ByteArray) : ByteArray := if jnB a b g then a ++ g ++ b else ⟨#[]⟩
theorem nil_of_size (g : ByteArray) (h : g.size = 0) : g = ⟨#[]⟩ := by
  apply ByteArray.ext
  exact Array.eq_empty_of_size_eq_zero h
theorem knB_one (g : ByteArray) (h : g.size = 1) : knB g = sgB (g[0]'(by omega)) := by
  have hl : g.data.toList.length = 1 := by simpa using h
  match hg : g.data.toList, hl with
  | [c], _ =>
    have e : g[0]'(by omega) = c := by
      have h2 : g.data.toList[0]'(by omega) = c := by simp [hg]
      exact h2
    rw [e]; unfold knB; rw [hg]
theorem knB_big (g : ByteArray) (h : 1 < g.size) : knB g = false := by
  have hl : 1 < g.data.toList.length := by simpa using h
  unfold knB
  match hg : g.data.toList, hl with
  | c :: d :: l, _ => rfl
theorem jn_size (a b g : ByteArray) : (a ++ g ++ b).size = a.size + g.size + b.size := by simp
set_option maxHeartbeats 1000000 in
theorem iJoin_any (a b g : ByteArray) (w : World) (ha : a.size ≤ 1048576) (hb : b.size ≤ 1048576) (hg : g.size ≤ 1048576) :
    Calls Try.prog 22 #[.string a, .string b, .string g] w fun e w' => e = .returned (.tuple #[.string (jn a b g), .bool (jnB a b g)]) ∧ w = w' := by
  have hma : a.size ≤ maxLen := by unfold maxLen; omega
  have hmb : b.size ≤ maxLen := by unfold maxLen; omega
  have hmc : (a ++ g ++ b).size ≤ maxLen := by rw [jn_size]; unfold maxLen; omega
  have hx1 : ¬ 9223372036854775807 < a.size + g.size := by omega
  have hx2 : ¬ 9223372036854775807 < a.size + g.size + b.size := by omega
  obtain ⟨q, hq⟩ : ∃ q, q = knB g := ⟨_, rfl⟩
  have HQ := Lib.hid hq
  clear hq
  obtain ⟨p1, hp1⟩ : ∃ q, sigB a.data.toList = q := ⟨_, rfl⟩
  obtain ⟨p2, hp2⟩ : ∃ q, sigB b.data.toList = q := ⟨_, rfl⟩
  obtain ⟨p3, hp3⟩ : ∃ q, sigB (a ++ g ++ b).data.toList = q := ⟨_, rfl⟩
  have H1 := Lib.hid hp1
  have H2 := Lib.hid hp2
  have H3 := Lib.hid hp3
  have HJ : Hid (jnB a b g = (q && p1 && p2 && p3)) := by show _ = _; unfold jnB; rw [hp1, hp2, hp3, HQ.out]
  clear hp1 hp2 hp3
  have T1 : True := trivial
  have T2 : True := trivial
  by_cases h0 : g.size = 0
  · have hgn := nil_of_size g h0
    have hqt : q = true := by rw [HQ.out, hgn]; rfl
    subst hqt
    have hg0 : g.toList.isEmpty = true := by rw [ByteArray.toList_eq, hgn]; rfl
    clear hgn
    cases p1 <;> cases p2 <;> cases p3
    all_goals
      go_enter Try.func22, Try.ntmps22
      go_wp2_with (first | (go_at_call 16; have _t := T1; ((with_reducible refine (isS_b a _ _ hma H1.out).mono ?_); rintro e w' ⟨rfl, rfl⟩); clear T1) | (go_at_call 16; have _t := T2; ((with_reducible refine (isS_b b _ _ hmb H2.out).mono ?_); rintro e w' ⟨rfl, rfl⟩); clear T2) | (go_at_call 16; go_must ((with_reducible refine (isS_b (a ++ g ++ b) _ _ hmc H3.out).mono ?_); rintro e w' ⟨rfl, rfl⟩)))
      go_ret2
      exact ⟨ret_sb2 (by simp [jn, HJ.out]) (by simp [HJ.out]), rfl⟩
  · have hg0 : g.toList.isEmpty = false := by
      rw [ByteArray.toList_eq]
      have hl : g.data.toList.length = g.size := by simp
      cases e : g.data.toList with
      | nil => rw [e] at hl; simp at hl; omega
      | cons c l => rfl
    by_cases hg1 : g.size = 1
    · have HK : Hid (sgB (g[0]'(by omega)) = q) := by show _ = _; rw [HQ.out, knB_one g hg1]
      have hg1' : (g.size : Int) = 1 := by omega
      cases q <;> cases p1 <;> cases p2 <;> cases p3
      all_goals
        go_enter Try.func22, Try.ntmps22
        go_wp2_with (first | (go_at_call 44; go_must ((with_reducible refine (isSign_b _ _ _ HK.out).mono ?_); rintro e w' ⟨rfl, rfl⟩)) | (go_at_call 16; have _t := T1; ((with_reducible refine (isS_b a _ _ hma H1.out).mono ?_); rintro e w' ⟨rfl, rfl⟩); clear T1) | (go_at_call 16; have _t := T2; ((with_reducible refine (isS_b b _ _ hmb H2.out).mono ?_); rintro e w' ⟨rfl, rfl⟩); clear T2) | (go_at_call 16; go_must ((with_reducible refine (isS_b (a ++ g ++ b) _ _ hmc H3.out).mono ?_); rintro e w' ⟨rfl, rfl⟩)))
        go_ret2
        exact ⟨ret_sb2 (by simp [jn, HJ.out]) (by simp [HJ.out]), rfl⟩
    · have hqf : q = false := by rw [HQ.out]; exact knB_big g (by omega)
      subst hqf
      have hg1' : ((g.size : Int) == 1) = false := by simp; omega
      go_enter Try.func22, Try.ntmps22
      go_wp2_with fail
      go_ret2
      exact ⟨ret_sb2 (by simp [jn, HJ.out]) (by simp [HJ.out]), rfl⟩
set_option maxHeartbeats 1000000 in
theorem sJoin_any (a b g : ByteArray) (w : World) (ha : a.size ≤ 1048576) (hb : b.size ≤ 1048576) (hg : g.size ≤ 1048576) :
    Calls Try.prog 21 #[.string a, .string b, .string g] w fun e w' => e = .returned (.tuple #[.string (jn a b g), .bool (jnB a b g)]) ∧ Below w.heap.size w w' := by
  have hma : a.size ≤ maxLen := by unfold maxLen; omega
  have hmb : b.size ≤ maxLen := by unfold maxLen; omega
  have hmc : (a ++ g ++ b).size ≤ maxLen := by rw [jn_size]; unfold maxLen; omega
  have hx1 : ¬ 9223372036854775807 < a.size + g.size := by omega
  have hx2 : ¬ 9223372036854775807 < a.size + g.size + b.size := by omega
  obtain ⟨q, hq⟩ : ∃ q, q = knB g := ⟨_, rfl⟩
  have HQ := Lib.hid hq
  clear hq
  obtain ⟨p1, hp1⟩ : ∃ q, sigB a.data.toList = q := ⟨_, rfl⟩
  obtain ⟨p2, hp2⟩ : ∃ q, sigB b.data.toList = q := ⟨_, rfl⟩
  obtain ⟨p3, hp3⟩ : ∃ q, sigB (a ++ g ++ b).data.toList = q := ⟨_, rfl⟩
  have H1 := Lib.hid hp1
  have H2 := Lib.hid hp2
  have H3 := Lib.hid hp3
  have HJ : Hid (jnB a b g = (q && p1 && p2 && p3)) := by show _ = _; unfold jnB; rw [hp1, hp2, hp3, HQ.out]
  clear hp1 hp2 hp3
  have T1 : True := trivial
  have T2 : True := trivial
  have B0 : Below w.heap.size w w := Below.refl _ _
  by_cases hg1 : g.size = 1
  · have HK : Hid (sgB (g[0]'(by omega)) = q) := by show _ = _; rw [HQ.out, knB_one g hg1]
    have hg1' : (g.size : Int) = 1 := by omega
    cases q <;> cases p1 <;> cases p2 <;> cases p3
    all_goals
      go_enter Try.func21, Try.ntmps21
      go_wp2_with (first | (go_at_call 49; go_must ((with_reducible refine (sgSign_b _ _ _ HK.out).mono ?_); rintro e w' ⟨rfl, rfl⟩)) | (go_at_call 42; have _t := T1; ((with_reducible refine (good_b a _ _ hma H1.out).mono ?_); rintro e w1 ⟨rfl, b1⟩); replace B0 := chain B0 b1; clear T1 b1) | (go_at_call 42; have _t := T2; ((with_reducible refine (good_b b _ _ hmb H2.out).mono ?_); rintro e w2 ⟨rfl, b1⟩); replace B0 := chain B0 b1; clear T2 b1) | (go_at_call 42; go_must ((with_reducible refine (good_b (a ++ g ++ b) _ _ hmc H3.out).mono ?_); rintro e w3 ⟨rfl, b1⟩; replace B0 := chain B0 b1; clear b1)))
      go_ret2
      exact ⟨ret_sb2 (by simp [jn, HJ.out]) (by simp [HJ.out]), B0⟩
  · by_cases h0 : g.size = 0
    · have hqt : q = true := by rw [HQ.out, nil_of_size g h0]; rfl
      subst hqt
      have hg1' : (g.size : Int) = 0 := by omega
      clear h0
      cases p1 <;> cases p2 <;> cases p3
      all_goals
        go_enter Try.func21, Try.ntmps21
        go_wp2_with (first | (go_at_call 42; have _t := T1; ((with_reducible refine (good_b a _ _ hma H1.out).mono ?_); rintro e w1 ⟨rfl, b1⟩); replace B0 := chain B0 b1; clear T1 b1) | (go_at_call 42; have _t := T2; ((with_reducible refine (good_b b _ _ hmb H2.out).mono ?_); rintro e w2 ⟨rfl, b1⟩); replace B0 := chain B0 b1; clear T2 b1) | (go_at_call 42; go_must ((with_reducible refine (good_b (a ++ g ++ b) _ _ hmc H3.out).mono ?_); rintro e w3 ⟨rfl, b1⟩; replace B0 := chain B0 b1; clear b1)))
        go_ret2
        exact ⟨ret_sb2 (by simp [jn, HJ.out]) (by simp [HJ.out]), B0⟩
    · have hqf : q = false := by rw [HQ.out]; exact knB_big g (by omega)
      subst hqf
      have hg2 : 1 < g.size := by omega
      cases p1 <;> cases p2
      all_goals
        go_enter Try.func21, Try.ntmps21
        go_wp2_with (first | (go_at_call 42; have _t := T1; ((with_reducible refine (good_b a _ _ hma H1.out).mono ?_); rintro e w1 ⟨rfl, b1⟩); replace B0 := chain B0 b1; clear T1 b1) | (go_at_call 42; have _t := T2; ((with_reducible refine (good_b b _ _ hmb H2.out).mono ?_); rintro e w2 ⟨rfl, b1⟩); replace B0 := chain B0 b1; clear T2 b1) | (go_at_call 42; go_must ((with_reducible refine (good_b (a ++ g ++ b) _ _ hmc H3.out).mono ?_); rintro e w3 ⟨rfl, b1⟩; replace B0 := chain B0 b1; clear b1)))
        go_ret2
        exact ⟨ret_sb2 (by simp [jn, HJ.out]) (by simp [HJ.out]), B0⟩
theorem FnExactJoinSigned_law (a b g : ByteArray) (hsa : a.size ≤ maxLen) (hsb : b.size ≤ maxLen) (hsg : g.size ≤ maxLen) (w : World) :
    Calls Try.prog 6 #[.string a, .string b, .string g] w fun e w' => e = .returned (.bool true) ∧ Below w.heap.size w w' := by
  unfold maxLen at hsa hsb hsg
  by_cases h1 : a.size ≤ 1048576
  · by_cases h2 : b.size ≤ 1048576
    · by_cases h3 : g.size ≤ 1048576
      · go_enter Try.func6, Try.ntmps6
        go_wp2_with (first | (go_at_call 21; go_must ((with_reducible refine (sJoin_any _ _ _ _ h1 h2 h3).mono ?_); rintro e w1 ⟨rfl, b1⟩)) | (go_at_call 22; go_must ((with_reducible refine (iJoin_any _ _ _ _ h1 h2 h3).mono ?_); rintro e w2 ⟨rfl, rfl⟩)))
        go_ret
        exact ⟨rfl, b1⟩
      · go_enter Try.func6, Try.ntmps6
        go_wp2_with fail
        go_ret
        exact ⟨rfl, Below.refl _ _⟩
    · go_enter Try.func6, Try.ntmps6
      go_wp2_with fail
      go_ret
      exact ⟨rfl, Below.refl _ _⟩
  · go_enter Try.func6, Try.ntmps6
    go_wp2_with fail
    go_ret
    exact ⟨rfl, Below.refl _ _⟩
end Go.Proofs.Ytlgleghofiflaaa

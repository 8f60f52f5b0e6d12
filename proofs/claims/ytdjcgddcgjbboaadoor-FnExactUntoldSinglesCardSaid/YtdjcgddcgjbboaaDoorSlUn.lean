/-
  The least two digits that a weight doesn't tell: the model's slPair and slUntold.
-/
import Derived.Test.YtdjcgddcgjbboaaDoorSlMd
import Derived.Test.YtdjcgddcgjbboaaDoorSlGood
import Derived.Test.YtdjcgddcgjbboaaDoorSlLawI
namespace Go.Proofs.YtdjcgddcgjbboaaDoor
open Go.RowKit

/-- Two digits as a list, if there are some. -/
def pl : Option (Nat × Nat) → List Int
  | none => []
  | some (a, b) => [(a : Int), (b : Int)]
theorem Ints.nil (B : Nat) (w : World) : Ints B [] (.slice none 0 0) w := World.ownsRow_nil _ _ _ _
theorem Ints.lit2 (w : World) (a b : Int) : Ints w.heap.size [a, b] (.slice (some ⟨w.heap.size, 0, none⟩) 2 2) (w.alloc (.cells #[.int .i64 a, .int .i64 b] 3)) :=
  World.ownsRow_lit (base := w.heap.size) (e := 3) (size := 1) w #[.int .i64 a, .int .i64 b] 2 (by simp) (by unfold maxLen; omega) (by simp)
theorem l1Most_any (x y : Int) (w : World) : Calls Tryd.prog 118 #[.int .i64 x, .int .i64 y] w fun e w' => e = .returned (.int .i64 (if x > y then x else y)) ∧ w = w' := by
  by_cases h : x > y
  all_goals
    have HZ : Hid ((if x > y then x else y) = (if x > y then x else y)) := rfl
    first | rw [if_pos h] | rw [if_neg h]
    go_enter Tryd.func118, Tryd.ntmps118
    go_wp2
    go_ret
    exact ⟨rfl, rfl⟩
theorem l1Abs_any (x : Int) (w : World) (h : -100 ≤ x ∧ x ≤ 100) : Calls Tryd.prog 88 #[.int .i64 x] w fun e w' => e = .returned (.int .i64 (x.natAbs : Int)) ∧ w = w' := by
  obtain ⟨h1, h2⟩ := h
  have HZ : Hid ((if x > -x then x else -x) = (x.natAbs : Int)) := by show _ = _; split <;> omega
  go_enter Tryd.func88, Tryd.ntmps88
  go_wp2_with (go_at_call 118; refine (l1Most_any _ _ _).mono ?_; rintro e w' ⟨rfl, rfl⟩; rw [HZ.out])
  go_ret
  exact ⟨rfl, rfl⟩
set_option maxHeartbeats 1000000 in
theorem slPair_any (m y : Int) (v : Value) (w : World) (hm2 : 2 ≤ m) (hm11 : m ≤ 11) (hy0 : 0 ≤ y) (hy1 : y ≤ 10) :
    Calls Tryd.prog 72 #[.agg #[v, .int .i64 m], .int .i64 y] w fun e w' => ∃ u, e = .returned (.tuple #[u, .bool (pairF (pw y m)).isSome]) ∧ Ints w.heap.size (pl (pairF (pw y m))) u w' ∧ Below w.heap.size w w' := by
  obtain ⟨o, ho⟩ : ∃ o, o = pairF (pw y m) := ⟨_, rfl⟩
  rw [← ho]
  have HO := Lib.hid ho
  clear ho
  go_enter Tryd.func72, Tryd.ntmps72
  go_wp2
  obtain ⟨W, hW⟩ : ∃ W, W = w.alloc (.cells #[v, .int .i64 m] 29) := ⟨_, rfl⟩
  have HB : Hid (Below w.heap.size w W) := by show Below _ _ _; rw [hW]; exact (Below.refl _ _).alloc (Nat.le_refl _) _
  have c1 : W.cell? ⟨w.heap.size, 1, none⟩ = some (.int .i64 m) := by rw [hW]; simp
  rw [← hW]
  clear hW
  go_loop [6] (fun av => ∃ a : Nat, a ≤ 10 ∧ av = .int .i64 a ∧ Hid (NoB (pw y m) a (a + 1))) (fun av => 10 - (intOf av).toNat)
  case atStart => exact ⟨0, by omega, rfl, NoB.start _⟩
  case round =>
    obtain ⟨a, ha, rfl, HA⟩ := hrel
    by_cases ha10 : a < 10
    · go_wp2_with fail
      go_loop [7] (fun bv => ∃ b : Nat, a + 1 ≤ b ∧ b ≤ 10 ∧ bv = .int .i64 b ∧ Hid (NoB (pw y m) a b)) (fun bv => 10 - (intOf bv).toNat)
      case atStart => exact ⟨a + 1, by omega, by omega, by go_num, HA⟩
      case round =>
        obtain ⟨b, hb1, hb2, rfl, HB2⟩ := hrel
        by_cases hb10 : b < 10
        · have hd0 : 0 ≤ (b : Int) - (a : Int) := by omega
          have hp0 : 0 ≤ y * ((b : Int) - (a : Int)) := Int.mul_nonneg hy0 hd0
          have hp1 : y * ((b : Int) - (a : Int)) ≤ 10 * 9 := Int.mul_le_mul hy1 (by omega) hd0 (by omega)
          have htm : (y * ((b : Int) - (a : Int))).tmod m = y * ((b : Int) - (a : Int)) % m := Int.tmod_eq_emod_of_nonneg hp0
          have hr0 : 0 ≤ y * ((b : Int) - (a : Int)) % m := Int.emod_nonneg _ (by omega)
          have hr1 : y * ((b : Int) - (a : Int)) % m < m := Int.emod_lt_of_pos _ (by omega)
          cases hP : pw y m a b with
          | true =>
            have HR : Hid (o = some (a, b)) := by show _ = _; rw [HO.out]; exact pairF_eq ⟨by omega, hb10, hP, HB2.out⟩
            have hq : y * ((b : Int) - (a : Int)) % m = 0 := by unfold pw at hP; simpa using hP
            clear hP
            go_wp2
            go_ret2
            exact ⟨_, by rw [HR.out]; rfl, by rw [HR.out]; exact (Ints.lit2 W a b).mono HB.out.size, HB.out.alloc HB.out.size _⟩
          | false =>
            have HG := Lib.hid (NoB.go HB2.out hP)
            have hq : ¬ y * ((b : Int) - (a : Int)) % m = 0 := by unfold pw at hP; simpa using hP
            have hq2 : (y * ((b : Int) - (a : Int)) % m == 0) = false := beq_false_of_ne hq
            clear hP
            go_wp2
            go_round
            case rel => exact ⟨b + 1, by omega, by omega, by go_num, HG⟩
            case measure => simp [intOf]; omega
        · have HG := Lib.hid (NoB.next HB2.out (by omega))
          go_wp2
          go_round
          case rel => exact ⟨a + 1, by omega, by go_num, HG⟩
          case measure => simp [intOf]; omega
    · have HR : Hid (o = none) := by show _ = _; rw [HO.out]; exact pairF_eq (NoB.none HA.out (by omega))
      go_wp2
      go_ret2
      exact ⟨_, by rw [HR.out]; rfl, by rw [HR.out]; exact Ints.nil _ _, HB.out⟩
theorem rB_zero (xs : List Int) (m : Int) (k : Nat) (hm : 0 < m) : rB xs m 0 k 0 = true := by
  induction k with
  | zero => simp [rB]
  | succ k ih =>
    rw [rB, rcR_iff]
    exact ⟨0, by omega, ih, 0, by omega, by simp⟩
theorem pw_first {y m : Int} {a b : Nat} (h : pairF (pw y m) = some (a, b)) : a = 0 ∧ b ≤ 9 := by
  have hp := pairF_is (pw y m)
  rw [h] at hp
  obtain ⟨h1, h2, h3, h4⟩ := hp
  refine ⟨?_, by omega⟩
  by_cases e : a = 0
  · exact e
  · have := h4 0 (b - a) (by omega) (by omega) (by omega)
    unfold pw at this h3
    rw [show ((b - a : Nat) : Int) - ((0 : Nat) : Int) = (b : Int) - (a : Int) by omega, h3] at this
    cases this
set_option maxHeartbeats 4000000 in
theorem slUntS_any (xs : List Int) (m : Int) (p : Nat) (v : Value) (w : World) (ho : CkOk xs m) (hp : p < xs.length) (h : RdI xs v w) :
    Calls Tryd.prog 61 #[.agg #[v, .int .i64 m], .int .i64 p, .bool false] w fun e w' => ∃ u, e = .returned (.tuple #[u, .bool (untS xs m p).isSome]) ∧ Ints w.heap.size (pl (untS xs m p)) u w' ∧ Below w.heap.size w w' := by
  have HV := Lib.hid h
  have hm2 := ho.m2
  have hm11 := ho.m11
  have hn12 := ho.len
  have hx0 := ho.x p (by omega)
  skip
  have HMD := Lib.hid (fun (a b : Nat) (u : Value) (W : World) (ha : a ≤ 9) (hb : b ≤ 9) (hr : RdI xs v W) (hu : RdI [(a : Int), (b : Int)] u W) => slMadeS_any xs m p a b v u W ho hp ha hb hr hu)
  obtain ⟨a0, cap, rfl, hc⟩ := h
  obtain ⟨gx, ox, rfl, hgx, cx0⟩ := hc p (by omega)
  skip
  skip
  skip
  obtain ⟨o, hoo⟩ : ∃ o, o = untS xs m p := ⟨_, rfl⟩
  rw [← hoo]
  obtain ⟨n, hnn⟩ : ∃ n, n = xs.length := ⟨_, rfl⟩
  have HN := Lib.hid hnn
  rw [← hnn] at hn12 hp HV HMD
  rw [← hnn]
  obtain ⟨x, hxx⟩ : ∃ x, x = xs.getD p 0 := ⟨_, rfl⟩
  rw [← hxx] at hx0 cx0
  obtain ⟨hx0, hx1⟩ := hx0
  have hx10 : x ≤ 10 := by omega
  have HO : Hid (o = pairF (pw x m)) := by show _ = _; rw [hoo, hxx]; rfl
  rw [← hxx] at HMD
  clear hc ho hnn hoo hxx hx1
  have HB0 : Hid (Below w.heap.size w (w.alloc (.cells #[.slice (some ⟨gx, ox, none⟩) n cap, .int .i64 m] 29))) := (Below.refl _ _).alloc (Nat.le_refl _) _
  have d2 := (HB0.out.cell (p := ⟨gx, ox + p, none⟩) hgx).trans cx0
  skip
  have hpi : (0 : Int) ≤ (p : Int) := by omega
  have hpn : (p : Int) < (n : Int) := by omega
  skip
  skip
  skip
  cases hpr : pairF (pw x m) with
  | none =>
    have hPR := fun v W => slPair_any m x v W hm2 hm11 hx0 hx10
    rw [hpr] at hPR
    have HPR : Hid (∀ W, Calls Tryd.prog 72 #[.agg #[.slice (some ⟨gx, ox, none⟩) n cap, .int .i64 m], .int .i64 x] W fun e w' => ∃ u, e = .returned (.tuple #[u, .bool false]) ∧ Ints W.heap.size [] u w' ∧ Below W.heap.size W w') := fun W => hPR _ W
    have HON : Hid (o = none) := by
      show _ = _
      rw [HO.out]
      exact hpr
    clear hPR hpr
    go_enter Tryd.func61, Tryd.ntmps61
    go_wp2_with (first | (go_at_call 72; (with_reducible refine (HPR.out _).mono ?_); rintro e w1 ⟨u, rfl, hu, b1⟩; have B1 : Below w.heap.size w w1 := chain (w := w) (by go_grown) b1; obtain ⟨e0, e1, ez⟩ := box2_kept b1))
    go_ret2
    exact ⟨_, by rw [HON.out]; rfl, by rw [HON.out]; exact hu.mono (by rw [World.size_alloc]; omega), B1⟩
  | some ab =>
    obtain ⟨a, b⟩ := ab
    have hPR := fun v W => slPair_any m x v W hm2 hm11 hx0 hx10
    rw [hpr] at hPR
    have HPR : Hid (∀ W, Calls Tryd.prog 72 #[.agg #[.slice (some ⟨gx, ox, none⟩) n cap, .int .i64 m], .int .i64 x] W fun e w' => ∃ u, e = .returned (.tuple #[u, .bool true]) ∧ Ints W.heap.size [(a : Int), (b : Int)] u w' ∧ Below W.heap.size W w') := fun W => hPR _ W
    obtain ⟨rfl, hb9⟩ := pw_first hpr
    have HON : Hid (o = some (0, b)) := by show _ = _; rw [HO.out]; exact hpr
    have HSM : Hid (∀ u W, RdI xs (.slice (some ⟨gx, ox, none⟩) n cap) W → RdI [((0 : Nat) : Int), (b : Int)] u W → Calls Tryd.prog 89 #[.agg #[.slice (some ⟨gx, ox, none⟩) n cap, .int .i64 m], .int .i64 p, u, .bool false] W fun e w' => e = .returned (.bool true) ∧ Below W.heap.size W w') := fun u W hr hu => by
      have := HMD.out 0 b u W (by omega) hb9 hr hu
      rw [show (x * ((0 : Nat) : Int)) % m = 0 by simp, show (0 : Int).toNat = 0 by rfl, rB_zero _ _ _ (by omega)] at this
      exact this
    clear hPR hpr
    go_enter Tryd.func61, Tryd.ntmps61
    go_wp2_with (first | (go_at_call 72; (with_reducible refine (HPR.out _).mono ?_); rintro e w1 ⟨u, rfl, hu, b1⟩; have B1 : Below w.heap.size w w1 := chain (w := w) (by go_grown) b1; obtain ⟨e0, e1, ez⟩ := box2_kept b1) | (go_at_call 89; (with_reducible refine (HSM.out _ _ (HV.out.below B1) hu.rd).mono ?_); rintro e w2 ⟨rfl, b2⟩))
    go_ret2
    exact ⟨_, by rw [HON.out]; rfl, by rw [HON.out]; exact (hu.below b2).mono (by rw [World.size_alloc]; omega), chain B1 b2⟩
set_option maxHeartbeats 4000000 in
theorem slUntW_any (xs : List Int) (m : Int) (p : Nat) (v : Value) (w : World) (ho : CkOk xs m) (hp : p + 1 < xs.length) (h : RdI xs v w) :
    Calls Tryd.prog 61 #[.agg #[v, .int .i64 m], .int .i64 p, .bool true] w fun e w' => ∃ u, e = .returned (.tuple #[u, .bool (untW xs m p).isSome]) ∧ Ints w.heap.size (pl (untW xs m p)) u w' ∧ Below w.heap.size w w' := by
  have HV := Lib.hid h
  have hm2 := ho.m2
  have hm11 := ho.m11
  have hn12 := ho.len
  have hx0 := ho.x p (by omega)
  have hy0 := ho.x (p + 1) (by omega)
  have HMD := Lib.hid (fun (a b : Nat) (u : Value) (W : World) (ha : a ≤ 9) (hb : b ≤ 9) (hr : RdI xs v W) (hu : RdI [(a : Int), (b : Int)] u W) => slMadeW_any xs m p a b v u W ho hp ha hb hr hu)
  obtain ⟨a0, cap, rfl, hc⟩ := h
  obtain ⟨gx, ox, rfl, hgx, cx0⟩ := hc p (by omega)
  obtain ⟨_, _, hsame2, _, cx1⟩ := hc (p + 1) (by omega)
  simp only [Option.some.injEq, Addr.mk.injEq] at hsame2
  obtain ⟨rfl, rfl, _⟩ := hsame2
  obtain ⟨o, hoo⟩ : ∃ o, o = untW xs m p := ⟨_, rfl⟩
  rw [← hoo]
  obtain ⟨n, hnn⟩ : ∃ n, n = xs.length := ⟨_, rfl⟩
  have HN := Lib.hid hnn
  rw [← hnn] at hn12 hp HV HMD
  rw [← hnn]
  obtain ⟨x, hxx⟩ : ∃ x, x = xs.getD p 0 := ⟨_, rfl⟩
  rw [← hxx] at hx0 cx0
  obtain ⟨hx0, hx1⟩ := hx0
  have hx10 : x ≤ 10 := by omega
  obtain ⟨y, hyy⟩ : ∃ y, y = xs.getD (p + 1) 0 := ⟨_, rfl⟩
  rw [← hyy] at hy0 cx1
  obtain ⟨hy0, hy1⟩ := hy0
  have hy10 : y ≤ 10 := by omega
  obtain ⟨z, hz⟩ : ∃ z : Int, z = ((x - y).natAbs : Int) := ⟨_, rfl⟩
  have hz0 : 0 ≤ z := by omega
  have hz10 : z ≤ 10 := by omega
  have HZ := Lib.hid hz
  obtain ⟨P, hPP⟩ : ∃ P, P = pS xs m p := ⟨_, rfl⟩
  have HP : Hid (∀ a b, P a b = (pw z m a b && rB (oth xs p (p + 2)) m ((x * (a : Int) + y * (b : Int)) % m).toNat (oth xs p (p + 2)).length 0)) := fun a b => by rw [hPP, hz, hxx, hyy]; rfl
  have HO : Hid (o = pairF P) := by show _ = _; rw [hoo, hPP]; rfl
  rw [← hxx, ← hyy] at HMD
  clear hc ho hnn hoo hxx hyy hx1 hy1 hz hPP
  have HB0 : Hid (Below w.heap.size w (w.alloc (.cells #[.slice (some ⟨gx, ox, none⟩) n cap, .int .i64 m] 29))) := (Below.refl _ _).alloc (Nat.le_refl _) _
  have d2 := (HB0.out.cell (p := ⟨gx, ox + p, none⟩) hgx).trans cx0
  have d3 := (HB0.out.cell (p := ⟨gx, ox + (p + 1), none⟩) hgx).trans cx1
  have hpi : (0 : Int) ≤ (p : Int) := by omega
  have hpn : (p : Int) < (n : Int) := by omega
  have hpn1 : (p : Int) + 1 < (n : Int) := by omega
  have hw1 : IntKind.i64.wrap ((p : Int) + 1) = (p : Int) + 1 := IntWalk.i64_in _ (by omega)
  have hab : -100 ≤ x - y ∧ x - y ≤ 100 := by omega
  cases hpr : pairF (pw z m) with
  | none =>
    have hPR := fun v W => slPair_any m z v W hm2 hm11 hz0 hz10
    rw [hpr] at hPR
    have HPR : Hid (∀ W, Calls Tryd.prog 72 #[.agg #[.slice (some ⟨gx, ox, none⟩) n cap, .int .i64 m], .int .i64 z] W fun e w' => ∃ u, e = .returned (.tuple #[u, .bool false]) ∧ Ints W.heap.size [] u w' ∧ Below W.heap.size W w') := fun W => hPR _ W
    have HON : Hid (o = none) := by
      show _ = _
      rw [HO.out]
      refine pairF_eq (fun a b h1 h2 => ?_)
      have := pairF_is (pw z m)
      rw [hpr] at this
      rw [HP.out, this a b h1 h2]; rfl
    clear hPR hpr
    go_enter Tryd.func61, Tryd.ntmps61
    go_wp2_with (first | (go_at_call 88; refine (l1Abs_any _ _ hab).mono ?_; rintro e w' ⟨rfl, rfl⟩; rw [← HZ.out]) | (go_at_call 72; (with_reducible refine (HPR.out _).mono ?_); rintro e w1 ⟨u, rfl, hu, b1⟩; have B1 : Below w.heap.size w w1 := chain (w := w) (by go_grown) b1; obtain ⟨e0, e1, ez⟩ := box2_kept b1))
    go_ret2
    exact ⟨_, by rw [HON.out]; rfl, by rw [HON.out]; exact hu.mono (by rw [World.size_alloc]; omega), B1⟩
  | some ab =>
    obtain ⟨a, b⟩ := ab
    have hPR := fun v W => slPair_any m z v W hm2 hm11 hz0 hz10
    rw [hpr] at hPR
    have HPR : Hid (∀ W, Calls Tryd.prog 72 #[.agg #[.slice (some ⟨gx, ox, none⟩) n cap, .int .i64 m], .int .i64 z] W fun e w' => ∃ u, e = .returned (.tuple #[u, .bool true]) ∧ Ints W.heap.size [(a : Int), (b : Int)] u w' ∧ Below W.heap.size W w') := fun W => hPR _ W
    have hpi := pairF_is (pw z m)
    rw [hpr] at hpi
    obtain ⟨hi1, hi2, hi3, hi4⟩ := hpi
    cases hM : rB (oth xs p (p + 2)) m ((x * (a : Int) + y * (b : Int)) % m).toNat (oth xs p (p + 2)).length 0 with
    | true =>
      have HON : Hid (o = some (a, b)) := by
        show _ = _
        rw [HO.out]
        refine pairF_eq ⟨hi1, hi2, by rw [HP.out, hi3, hM]; rfl, fun c d k1 k2 k3 => ?_⟩
        rw [HP.out, hi4 c d k1 k2 k3]; rfl
      have HSM : Hid (∀ u W, RdI xs (.slice (some ⟨gx, ox, none⟩) n cap) W → RdI [(a : Int), (b : Int)] u W → Calls Tryd.prog 89 #[.agg #[.slice (some ⟨gx, ox, none⟩) n cap, .int .i64 m], .int .i64 p, u, .bool true] W fun e w' => e = .returned (.bool true) ∧ Below W.heap.size W w') := fun u W hr hu => by
        have := HMD.out a b u W (by omega) (by omega) hr hu
        rw [hM] at this
        exact this
      clear hPR hpr hM hi3 hi4
      go_enter Tryd.func61, Tryd.ntmps61
      go_wp2_with (first | (go_at_call 88; refine (l1Abs_any _ _ hab).mono ?_; rintro e w' ⟨rfl, rfl⟩; rw [← HZ.out]) | (go_at_call 72; (with_reducible refine (HPR.out _).mono ?_); rintro e w1 ⟨u, rfl, hu, b1⟩; have B1 : Below w.heap.size w w1 := chain (w := w) (by go_grown) b1; obtain ⟨e0, e1, ez⟩ := box2_kept b1) | (go_at_call 89; (with_reducible refine (HSM.out _ _ (HV.out.below B1) hu.rd).mono ?_); rintro e w2 ⟨rfl, b2⟩))
      go_ret2
      exact ⟨_, by rw [HON.out]; rfl, by rw [HON.out]; exact (hu.below b2).mono (by rw [World.size_alloc]; omega), chain B1 b2⟩
    | false =>
      have HSM : Hid (∀ u W, RdI xs (.slice (some ⟨gx, ox, none⟩) n cap) W → RdI [(a : Int), (b : Int)] u W → Calls Tryd.prog 89 #[.agg #[.slice (some ⟨gx, ox, none⟩) n cap, .int .i64 m], .int .i64 p, u, .bool true] W fun e w' => e = .returned (.bool false) ∧ Below W.heap.size W w') := fun u W hr hu => by
        have := HMD.out a b u W (by omega) (by omega) hr hu
        rw [hM] at this
        exact this
      clear hPR hpr hM hi3 hi4 hi1 hi2
      go_enter Tryd.func61, Tryd.ntmps61
      go_wp2_with (first | (go_at_call 88; refine (l1Abs_any _ _ hab).mono ?_; rintro e w' ⟨rfl, rfl⟩; rw [← HZ.out]) | (go_at_call 72; (with_reducible refine (HPR.out _).mono ?_); rintro e w1 ⟨u, rfl, hu, b1⟩; have B1 : Below w.heap.size w w1 := chain (w := w) (by go_grown) b1; obtain ⟨e0, e1, ez⟩ := box2_kept b1) | (go_at_call 89; (with_reducible refine (HSM.out _ _ (HV.out.below B1) hu.rd).mono ?_); rintro e w2 ⟨rfl, b2⟩; have B2 := chain B1 b2; obtain ⟨f0, f1, fz⟩ := keep2 ez e0 e1 b2))
      have HB2 := Lib.hid B2
      clear hu b1 b2 B1 B2 e0 e1 ez d2 d3
      go_loopw [11] (fun av wr => ∃ a : Nat, a ≤ 10 ∧ av = .int .i64 a ∧ Hid (NoB P a (a + 1)) ∧ Below w2.heap.size w2 wr) (fun av _ => 10 - (intOf av).toNat)
      case atStart => exact ⟨0, by omega, rfl, NoB.start _, Below.refl _ _⟩
      case round =>
        obtain ⟨a, ha, rfl, HA, hbr⟩ := hrel
        by_cases ha10 : a < 10
        · have hdec : decide ((a : Int) < 10) = true := decide_eq_true (by omega)
          go_wp2_with fail
          clear hdec
          go_loopw [12] (fun bv wr => ∃ b : Nat, a + 1 ≤ b ∧ b ≤ 10 ∧ bv = .int .i64 b ∧ Hid (NoB P a b) ∧ Below w2.heap.size w2 wr) (fun bv _ => 10 - (intOf bv).toNat)
          case atStart => exact ⟨a + 1, by omega, by omega, by go_num, HA, hbr⟩
          case round =>
            obtain ⟨b, hb1, hb2, rfl, HNB, hbr2⟩ := hrel
            obtain ⟨wo, rfl⟩ : ∃ wo : World, wo = wr := ⟨_, rfl⟩
            obtain ⟨k0, k1, kz⟩ := keep2 fz f0 f1 hbr2
            by_cases hb10 : b < 10
            · have hd0 : 0 ≤ (b : Int) - (a : Int) := by omega
              have hp0 : 0 ≤ z * ((b : Int) - (a : Int)) := Int.mul_nonneg hz0 hd0
              have hp1 : z * ((b : Int) - (a : Int)) ≤ 10 * 9 := Int.mul_le_mul hz10 (by omega) hd0 (by omega)
              have htm : (z * ((b : Int) - (a : Int))).tmod m = z * ((b : Int) - (a : Int)) % m := Int.tmod_eq_emod_of_nonneg hp0
              have hr0 : 0 ≤ z * ((b : Int) - (a : Int)) % m := Int.emod_nonneg _ (by omega)
              have hr1 : z * ((b : Int) - (a : Int)) % m < m := Int.emod_lt_of_pos _ (by omega)
              cases hPw : pw z m a b with
              | false =>
                have HG := Lib.hid (NoB.go HNB.out (by rw [HP.out, hPw]; rfl))
                have hq : ¬ z * ((b : Int) - (a : Int)) % m = 0 := by unfold pw at hPw; simpa using hPw
                have hq2 : (z * ((b : Int) - (a : Int)) % m == 0) = false := beq_false_of_ne hq
                clear hPw
                go_wp2
                go_roundw
                case rel => exact ⟨b + 1, by omega, by omega, by go_num, HG, hbr2⟩
                case measure => simp [intOf]; omega
              | true =>
                have hq : z * ((b : Int) - (a : Int)) % m = 0 := by unfold pw at hPw; simpa using hPw
                have HVo : Hid (RdI xs (.slice (some ⟨gx, ox, none⟩) n cap) (wo.alloc (.cells #[.int .i64 a, .int .i64 b] 3))) := (HV.out.below (chain HB2.out hbr2)).alloc _
                have HUo : Hid (RdI [(a : Int), (b : Int)] (.slice (some ⟨wo.heap.size, 0, none⟩) 2 2) (wo.alloc (.cells #[.int .i64 a, .int .i64 b] 3))) := (Ints.lit2 wo a b).rd
                cases hM : rB (oth xs p (p + 2)) m ((x * (a : Int) + y * (b : Int)) % m).toNat (oth xs p (p + 2)).length 0 with
                | true =>
                  have HON : Hid (o = some (a, b)) := by
                    show _ = _
                    rw [HO.out]
                    exact pairF_eq ⟨by omega, hb10, by rw [HP.out, hPw, hM]; rfl, HNB.out⟩
                  have hS := HMD.out a b _ _ (by omega) (by omega) HVo.out HUo.out
                  rw [hM] at hS
                  have HS := Lib.hid hS
                  clear hPw hM hS
                  go_wp2_with (go_at_call 89; (with_reducible refine (HS.out).mono ?_); rintro e w3 ⟨rfl, b3⟩)
                  go_ret2
                  have hb3 : Below w.heap.size w w3 := chain (chain HB2.out (hbr2.alloc hbr2.size _)) b3
                  exact ⟨_, by rw [HON.out]; rfl, by rw [HON.out]; exact (Ints.lit2 w3 a b).mono hb3.size, hb3.alloc hb3.size _⟩
                | false =>
                  have HG := Lib.hid (NoB.go HNB.out (by rw [HP.out, hPw, hM]; rfl))
                  have hS := HMD.out a b _ _ (by omega) (by omega) HVo.out HUo.out
                  rw [hM] at hS
                  have HS := Lib.hid hS
                  clear hPw hM hS
                  go_wp2_with (go_at_call 89; (with_reducible refine (HS.out).mono ?_); rintro e w3 ⟨rfl, b3⟩)
                  go_roundw
                  case rel => exact ⟨b + 1, by omega, by omega, by go_num, HG, chain (hbr2.alloc hbr2.size _) b3⟩
                  case measure => simp [intOf]; omega
            · have HG := Lib.hid (NoB.next HNB.out (by omega))
              go_wp2
              go_roundw
              case rel => exact ⟨a + 1, by omega, by go_num, HG, hbr2⟩
              case measure => simp [intOf]; omega
        · have HR : Hid (o = none) := by show _ = _; rw [HO.out]; exact pairF_eq (NoB.none HA.out (by omega))
          go_wp2
          go_ret2
          exact ⟨_, by rw [HR.out]; rfl, by rw [HR.out]; exact Ints.nil _ _, chain HB2.out hbr⟩
end Go.Proofs.YtdjcgddcgjbboaaDoor

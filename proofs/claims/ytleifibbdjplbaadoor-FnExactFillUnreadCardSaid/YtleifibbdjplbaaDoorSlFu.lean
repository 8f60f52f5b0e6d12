/-
  The law of FillUnread: the program.
-/
import Derived.Test.YtleifibbdjplbaaDoorSlSd
import Derived.Test.YtleifibbdjplbaaDoorSlDl
import Derived.BigQuiet
namespace Go.Proofs.YtleifibbdjplbaaDoor
open Go.RowKit Go.Conc

theorem ret_ub {u : Value} {p q : Bool} (h : p = q) : Ending.returned (.tuple #[u, .bool p]) = .returned (.tuple #[u, .bool q]) := by rw [h]
theorem below_drwN {B n : Nat} {a w : World} (h : Below B a w) : Below B a (w.drewN n) := ⟨h.os, h.tape, h.output, h.size, h.block⟩
theorem putD_digs {t : List UInt8} {p d : Nat} (hd : d ≤ 9) (h : digB (putD t p 0) = true) : digB (putD t p d) = true := by
  unfold putD at h ⊢
  rw [digB_append, Bool.and_eq_true] at h ⊢
  refine ⟨h.1, ?_⟩
  have h2 := h.2
  simp only [digB, List.all_cons, Bool.and_eq_true] at h2 ⊢
  exact ⟨dgB_dig d hd, h2.2⟩
theorem putD_qm {t : List UInt8} {p i : Nat} (hi : i ≠ p) (hp : p < t.length) (hil : i < t.length) (h : t.getD i 48 = 63) : digB (putD t p 0) = false := by
  cases hb : digB (putD t p 0) with
  | false => rfl
  | true =>
    have := (all_getD (putD t p 0) 48 dgB).1 hb i (by rw [putD_len _ _ _ hp]; exact hil)
    rw [putD_get _ _ _ _ hp, if_neg hi, h] at this
    exact absurd this (by decide)
/-- Where the first ? stands. -/
def qI (t : List UInt8) : Int := Lib.indexByte t 63
/-- A text has one ? and is a number without it. -/
def fuO (xs : List Int) (m : Int) (t : List UInt8) : Bool := decide (0 ≤ qI t) && numB xs m (putD t (qI t).toNat 0)
def fuL (xs : List Int) (m : Int) (t : List UInt8) : List Int := if fuO xs m t = true then sdg xs m t (qI t).toNat 10 else []
theorem fuL_len (xs : List Int) (m : Int) (t : List UInt8) : (fuL xs m t).length ≤ 2000000 := by
  unfold fuL
  split
  · exact Nat.le_trans (sdg_len _ _ _ _ _) (by decide)
  · simp
theorem qI_cases (t : List UInt8) : (qI t = -1 ∧ ∀ i, i < t.length → t.getD i 48 ≠ 63) ∨ ∃ p : Nat, qI t = (p : Int) ∧ p < t.length ∧ t.getD p 48 = 63 := by
  have h1 := Lib.indexByte_ge t 63
  by_cases h : qI t = -1
  · refine .inl ⟨h, fun i hi e => ?_⟩
    refine Lib.indexByte_none h i ?_
    rw [List.getD_eq_getElem?_getD, List.getElem?_eq_getElem hi] at e
    rw [List.getElem?_eq_getElem hi]
    simpa using e
  · obtain ⟨p, hp⟩ : ∃ p : Nat, qI t = (p : Int) := ⟨(qI t).toNat, by unfold qI at h ⊢; omega⟩
    have h2 := (Lib.indexByte_some hp).1
    have h3 : p < t.length := (List.getElem?_eq_some_iff.1 h2).1
    exact .inr ⟨p, hp, h3, by rw [List.getD_eq_getElem?_getD, h2]; rfl⟩
/-- Where the last ? stands among the first k. -/
def lastQ (t : List UInt8) : Nat → Int
  | 0 => -1
  | k + 1 => if t.getD k 48 = 63 then (k : Int) else lastQ t k
theorem lastQ_cases (t : List UInt8) (k : Nat) : (lastQ t k = -1 ∧ ∀ i, i < k → t.getD i 48 ≠ 63) ∨ ∃ q : Nat, lastQ t k = (q : Int) ∧ q < k ∧ t.getD q 48 = 63 := by
  induction k with
  | zero => exact .inl ⟨rfl, by omega⟩
  | succ k ih =>
    by_cases h : t.getD k 48 = 63
    · exact .inr ⟨k, by rw [lastQ, if_pos h], by omega, h⟩
    · rcases ih with ⟨h1, h2⟩ | ⟨q, h1, h2, h3⟩
      · refine .inl ⟨by rw [lastQ, if_neg h, h1], fun i hi => ?_⟩
        by_cases e : i = k
        · rw [e]; exact h
        · exact h2 i (by omega)
      · exact .inr ⟨q, by rw [lastQ, if_neg h, h1], by omega, h3⟩
theorem numB_of {xs : List Int} {m : Int} {t : List UInt8} (h : numB xs m t = true) : chkB xs m = true ∧ t.length = xs.length ∧ digB t = true := by
  unfold numB at h
  rw [Bool.and_eq_true, Bool.and_eq_true, decide_eq_true_eq] at h
  exact ⟨h.1, h.2.1, h.2.2⟩
/-- One ? only, else no number comes of it. -/
theorem fuO_iff {xs : List Int} {m : Int} {t : List UInt8} {q : Nat} (hq : q < t.length) (h63 : t.getD q 48 = 63) (hc : chkB xs m = true) (hl : t.length = xs.length) :
    fuO xs m t = digB (putD t q 0) ∧ (digB (putD t q 0) = true → qI t = (q : Int)) := by
  rcases qI_cases t with ⟨_, h⟩ | ⟨p, hp, hpl, hp63⟩
  · exact absurd h63 (h q hq)
  · have hO : fuO xs m t = digB (putD t p 0) := by
      unfold fuO
      rw [hp, decide_eq_true (by omega), Bool.true_and, Int.toNat_natCast]
      unfold numB
      rw [hc, Bool.true_and, putD_len _ _ _ hpl, decide_eq_true hl, Bool.true_and]
    by_cases e : p = q
    · subst e; exact ⟨hO, fun _ => hp⟩
    · rw [hO, putD_qm (i := q) (fun h => e h.symm) hpl hq h63, putD_qm (i := p) e hq hpl hp63]
      exact ⟨rfl, fun h => by simp at h⟩
set_option maxHeartbeats 1000000 in
theorem withDigitW_any (s : ByteArray) (p d : Nat) (w : World) (hs : s.size ≤ 9223372036854775807) (hp : p < s.size) (hd : d ≤ 9) :
    Calls Tryd.prog 55 #[.string s, .int .i64 p, .int .i64 d] w fun e w' => e = .returned (.string (putS s p d)) ∧ Below w.heap.size w w' := by
  have z1 : (s.extract 0 p).size = p := by rw [ByteArray.size_extract]; omega
  have z2 : (⟨#[dc d]⟩ : ByteArray).size = 1 := rfl
  have z4 : (s.extract (p + 1) s.size).size = s.size - (p + 1) := by rw [ByteArray.size_extract]; omega
  have z12 : (s.extract 0 p ++ ⟨#[dc d]⟩).size = p + 1 := by rw [ByteArray.size_append, z1, z2]
  have k1 : ¬ 9223372036854775807 < (s.extract 0 p).size + (⟨#[dc d]⟩ : ByteArray).size := by rw [z1, z2]; omega
  have k1' : ¬ 9223372036854775807 < (s.extract 0 p).size + 1 := by rw [z1]; omega
  have k2 : ¬ 9223372036854775807 < (s.extract 0 p ++ ⟨#[dc d]⟩).size + (s.extract (p + 1) s.size).size := by rw [z12, z4]; omega
  have h0 : (0 : Int) ≤ (p : Int) := by omega
  have h1 : (p : Int) ≤ (s.size : Int) := by omega
  obtain ⟨pp, hpp⟩ : ∃ pp, pp = p + 1 := ⟨_, rfl⟩
  rw [← hpp] at k2
  have hsum : (p : Int) + 1 = (pp : Int) := by omega
  have hwk : IntKind.i64.wrap (pp : Int) = (pp : Int) := IntWalk.i64_in _ (by omega)
  have hwr : IntKind.i64.wrap ((p : Int) + 1) = (pp : Int) := by rw [hsum]; exact hwk
  have h3 : (0 : Int) ≤ (pp : Int) := by omega
  have h4 : (pp : Int) ≤ (s.size : Int) := by omega
  have HZ : Hid (s.extract 0 p ++ ⟨#[dc d]⟩ ++ s.extract pp s.size = putS s p d) := by show _ = _; rw [hpp]; rfl
  clear z1 z2 z4 z12 hpp
  go_enter Tryd.func55, Tryd.ntmps55
  go_wp2
  go_region_with (go_at_call 67; (with_reducible refine (itoa_d d _ hd).mono ?_); rintro e w1 ⟨rfl, b1⟩; have B1 : Below w.heap.size w w1 := chain (w := w) (by go_grown) b1)
  all_goals go_wp2
  all_goals
    go_ret
    exact ⟨by rw [← HZ.out]; rfl, by first | exact B1 | exact below_drw B1⟩
theorem withDigitW_0 (s : ByteArray) (p : Nat) (w : World) (hs : s.size ≤ 9223372036854775807) (hp : p < s.size) :
    Calls Tryd.prog 55 #[.string s, .int .i64 p, .int .i64 0] w fun e w' => e = .returned (.string (putS s p 0)) ∧ Below w.heap.size w w' := withDigitW_any s p 0 w hs hp (by omega)
set_option maxHeartbeats 2000000 in
theorem iFu_any (xs : List Int) (m : Int) (s : ByteArray) (v : Value) (w : World) (hn : xs.length ≤ 1048576) (hs : s.size ≤ maxLen) (h : RdI xs v w) :
    Calls Tryd.prog 25 #[.agg #[v, .int .i64 m], .string s] w fun e w' => (∃ u, e = .returned (.tuple #[u, .bool (fuO xs m s.data.toList)]) ∧ Ints w.heap.size (fuL xs m s.data.toList) u w') ∧ Below w.heap.size w w' := by
  have HV := Lib.hid h
  have hI : ∀ W : World, Calls Tryd.prog 54 #[.string s, .int .u8 63] W fun e w' => e = .returned (.int .i64 (qI s.data.toList)) ∧ w' = W := fun W => Tryd.strings_IndexByte s 63 W
  rcases qI_cases s.data.toList with ⟨hq, _⟩ | ⟨p, hq, hpl, h63⟩
  · have hO : fuO xs m s.data.toList = false := by unfold fuO; rw [hq]; rfl
    have HO : Hid (false = fuO xs m s.data.toList) := hO.symm
    have HZ : Hid (fuL xs m s.data.toList = []) := by show _ = _; unfold fuL; rw [if_neg (by simp [hO])]
    rw [hq] at hI
    have HI := Lib.hid hI
    clear h hI hq hO
    go_enter Tryd.func25, Tryd.ntmps25
    go_wp2_with (go_at_call 54; (with_reducible refine (HI.out _).mono ?_); rintro e w1 ⟨rfl, rfl⟩)
    go_quiet (fail)
    all_goals go_wp2
    go_ret2
    exact ⟨⟨_, ret_ub HO.out, by rw [HZ.out]; exact World.ownsRow_nil _ _ _ _⟩, by first | exact (Below.refl _ _).alloc (Nat.le_refl _) _ | exact below_drwN ((Below.refl _ _).alloc (Nat.le_refl _) _)⟩
  · have hps : p < s.size := by simpa using hpl
    have hsm : s.size ≤ 9223372036854775807 := by unfold maxLen at hs; omega
    rw [hq] at hI
    have HI := Lib.hid hI
    have hz := putS_size s p 0 hps
    have hN := fun W hr => isNum_any xs m (putS s p 0) v W hn (by rw [hz]; exact hs) hr
    rw [putS_list s p 0] at hN
    have hpi : ¬ (p : Int) < 0 := by omega
    have hpi2 : decide ((p : Int) < 0) = false := decide_eq_false hpi
    have hfo : fuO xs m s.data.toList = numB xs m (putD s.data.toList p 0) := by unfold fuO; rw [hq, decide_eq_true (by omega), Bool.true_and, Int.toNat_natCast]
    obtain ⟨b, hb⟩ : ∃ b, b = numB xs m (putD s.data.toList p 0) := ⟨_, rfl⟩
    have HO : Hid (b = fuO xs m s.data.toList) := by show _ = _; rw [hfo, hb]
    rw [← hb] at hN
    have HN := Lib.hid hN
    have HL : Hid (fuL xs m s.data.toList = if b = true then sdg xs m s.data.toList p 10 else []) := by show _ = _; unfold fuL; rw [hfo, ← hb, hq, Int.toNat_natCast]
    have HD : Hid (b = true → CkOk xs m ∧ s.size = xs.length ∧ ∀ d, d ≤ 9 → digB (putD s.data.toList p d) = true) := fun e => by
      rw [hb] at e
      have h3 := numB_of e
      refine ⟨((chkB_iff _ _).1 h3.1).2, ?_, fun d hd => putD_digs hd h3.2.2⟩
      have := h3.2.1
      rw [putD_len _ _ _ hpl] at this
      simpa using this
    clear h hI hq hN hfo hb h63 hz hpl
    go_enter Tryd.func25, Tryd.ntmps25
    go_wp2_with (go_at_call 54; (with_reducible refine (HI.out _).mono ?_); rintro e w1 ⟨rfl, rfl⟩)
    obtain ⟨W, hW⟩ : ∃ W, W = w.alloc (.cells #[v, .int .i64 m] 28) := ⟨_, rfl⟩
    have hWb : Below w.heap.size w W := by rw [hW]; exact (Below.refl _ _).alloc (Nat.le_refl _) _
    have c0 : W.cell? ⟨w.heap.size, 0, none⟩ = some v := by rw [hW]; simp
    have c1 : W.cell? ⟨w.heap.size, 1, none⟩ = some (.int .i64 m) := by rw [hW]; simp
    have hWz : w.heap.size < W.heap.size := by rw [hW, World.size_alloc]; omega
    rw [← hW]
    have HVW : Hid (RdI xs v W) := HV.out.below hWb
    clear hW
    cases b with
    | false =>
      go_region_held3 (fun w' => w'.cell? ⟨w.heap.size, 0, none⟩ = some v ∧ w'.cell? ⟨w.heap.size, 1, none⟩ = some (.int .i64 m))
        (first | go_keep | exact ⟨k0, k1⟩ | exact ⟨l0, l1⟩)
        (first
        | (go_at_call 55; (with_reducible refine (withDigitW_0 s p _ hsm hps).mono ?_); rintro e w3 ⟨rfl, b3⟩; have B3 : Below W.heap.size W w3 := chain (w := W) (by go_grown) b3; obtain ⟨k0, k1, kz⟩ := keep2 hWz c0 c1 B3)
        | (go_at_call 39; (with_reducible refine (HN.out _ (HVW.out.below B3)).mono ?_); rintro e w4 ⟨rfl, b4⟩; have B4 : Below W.heap.size W w4 := chain B3 b4; obtain ⟨l0, l1, lz⟩ := keep2 hWz c0 c1 B4))
      all_goals
        go_wp2
        go_ret2
        exact ⟨⟨_, ret_ub HO.out, by rw [HL.out]; exact World.ownsRow_nil _ _ _ _⟩, chain hWb B4⟩
    | true =>
      obtain ⟨ho, hsl, hdd⟩ := HD.out rfl
      have HSD := Lib.hid (fun W hr => sound_any xs m s p v W ho hsl hps hdd hr)
      clear ho hsl hdd
      go_region_held3 (fun w' => w'.cell? ⟨w.heap.size, 0, none⟩ = some v ∧ w'.cell? ⟨w.heap.size, 1, none⟩ = some (.int .i64 m))
        (first | go_keep | exact ⟨k0, k1⟩ | exact ⟨l0, l1⟩)
        (first
        | (go_at_call 55; (with_reducible refine (withDigitW_0 s p _ hsm hps).mono ?_); rintro e w3 ⟨rfl, b3⟩; have B3 : Below W.heap.size W w3 := chain (w := W) (by go_grown) b3; obtain ⟨k0, k1, kz⟩ := keep2 hWz c0 c1 B3)
        | (go_at_call 39; (with_reducible refine (HN.out _ (HVW.out.below B3)).mono ?_); rintro e w4 ⟨rfl, b4⟩; have B4 : Below W.heap.size W w4 := chain B3 b4; obtain ⟨l0, l1, lz⟩ := keep2 hWz c0 c1 B4))
      all_goals
        go_wp2_with (first
          | (go_at_call 41; (with_reducible refine (HSD.out _ (HVW.out.below B4)).mono ?_); rintro e w5 ⟨rfl, hC, b5⟩)
          | (go_at_call 56; (with_reducible refine (left_any _ _ w5 (sdg_len _ _ _ _ _) hC).mono ?_); rintro e w6 ⟨⟨u, rfl, hu⟩, b6, hz6⟩))
        go_ret2
        have h4z := B4.size
        have h5z := b5.size
        refine ⟨⟨u, ret_ub HO.out, by rw [HL.out]; exact hu.mono (by omega)⟩, ?_⟩
        exact (chain hWb (chain B4 b5)).trans (b6.mono (by omega))
end Go.Proofs.YtleifibbdjplbaaDoor

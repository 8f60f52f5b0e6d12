/-
  Readings: the next one of a kind, and how far it is.
-/
import Derived.Test.YtlkeemnnncnibabMiIm8
namespace Go.Proofs.Ytlkeemnnncnibab
open Go.RowKit

theorem nx_len (I : List UInt8 → Bool) (t : List UInt8) (hd : digB t = true) (hc : 0 < cK I t.length []) : (nx I t).length = t.length ∧ digB (nx I t) = true ∧ I (nx I t) = true := by
  have h := nx_rank I t hd hc
  obtain ⟨h1, h2⟩ := List.getElem?_eq_some_iff.1 h
  have hm : nx I t ∈ LK I t.length [] := by rw [← h2]; exact List.getElem_mem h1
  obtain ⟨h3, r, h4, h5, h6⟩ := LK_mem I _ _ _ hm
  rw [List.nil_append] at h4
  rw [h4]
  rw [h4] at h3
  exact ⟨h5, h6, h3⟩
/-- All that the next reading calls, in each later world. -/
theorem nr_calls (g : Nat) (pre cb : Array Value) (I : List UInt8 → Bool) (t : List UInt8) (w : World) (eg : Ent g) (hg : Cnts g pre cb t.length I w) (hd : digB t = true) (h9 : t.length ≤ 9) :
    (∀ W, Below w.heap.size w W → Calls Try.prog 78 #[.func (.func g) pre cb, .string ⟨t.toArray⟩] W fun e w' => e = .returned (.int .i64 ((rb I t [] : Nat) : Int)) ∧ Below W.heap.size W w') ∧
    (∀ W, Below w.heap.size w W → Calls Try.prog 79 #[.func (.func g) pre cb, .string ⟨t.toArray⟩] W fun e w' => e = .returned (.bool (I t)) ∧ Below W.heap.size W w') ∧
    (∀ W, Below w.heap.size w W → Calls Try.prog g (pre ++ (#[.string ⟨#[]⟩, .int .i64 t.length] ++ cb)) W fun e w' => e = .returned (.int .i64 ((cK I t.length [] : Nat) : Int)) ∧ Below W.heap.size W w') := by
  refine ⟨fun W hW => rankBefore_any g pre cb I t W eg (hg.below hW) hd h9, fun W hW => isOfKind_any g pre cb I t W eg (hg.below hW) hd, fun W hW => ?_⟩
  have := hg [] W rfl (Nat.zero_le _) hW
  rw [List.length_nil, Nat.sub_zero] at this
  exact this
set_option maxHeartbeats 1000000 in
theorem nextReading_any (g : Nat) (pre cb : Array Value) (I : List UInt8 → Bool) (t : List UInt8) (w : World) (eg : Ent g) (hg : Cnts g pre cb t.length I w) (hd : digB t = true) (h9 : t.length ≤ 9) (hc : 0 < cK I t.length []) :
    Calls Try.prog 58 #[.func (.func g) pre cb, .string ⟨t.toArray⟩] w fun e w' => e = .returned (.tuple #[.string ⟨(nx I t).toArray⟩, .bool true]) ∧ Below w.heap.size w w' := by
  obtain ⟨k1, k2, k3⟩ := nr_calls g pre cb I t w eg hg hd h9
  have hrk : ∀ (x : Int) W, Below w.heap.size w W → x = (nrk I t : Int) → Calls Try.prog 41 #[.func (.func g) pre cb, .int .i64 t.length, .int .i64 x] W fun e w' => e = .returned (.tuple #[.string ⟨(nx I t).toArray⟩, .bool true]) ∧ Below W.heap.size W w' :=
    fun x W hW hx => rdRank_any g pre cb I t.length (nrk I t) (nx I t) x W eg (hg.below hW) h9 hx (nx_rank I t hd hc)
  have hle := rb_le I t [] hd
  rw [List.nil_append] at hle
  have hcb := cK_bd I t.length [] h9
  have hnr : nrk I t = if rb I t [] + (if I t then 1 else 0) = cK I t.length [] then 0 else rb I t [] + (if I t then 1 else 0) := rfl
  have e1 : ∀ args w, (callFunc g args).run Try.prog w = .ok (.enter g args) w := eg
  obtain ⟨s, hs⟩ : ∃ s : ByteArray, s = ⟨t.toArray⟩ := ⟨_, rfl⟩
  have hsz : ((t.length : Nat) : Int) = (s.size : Int) := by rw [hs, sz_of]
  rw [← hs] at k1 k2
  rw [hsz] at k3 hrk
  rw [← hs]
  obtain ⟨C, hC⟩ : ∃ C, C = cK I t.length [] := ⟨_, rfl⟩
  obtain ⟨R, hR⟩ : ∃ R, R = rb I t [] := ⟨_, rfl⟩
  obtain ⟨N, hN⟩ : ∃ N, N = nrk I t := ⟨_, rfl⟩
  obtain ⟨X, hX⟩ : ∃ X : ByteArray, X = ⟨(nx I t).toArray⟩ := ⟨_, rfl⟩
  rw [← hC] at k3 hle hcb hnr
  rw [← hR] at k1 hle hnr
  rw [← hN] at hrk hnr
  rw [← hX] at hrk ⊢
  have hRb : R ≤ 1000000000 := by omega
  cases hI : I t with
  | true =>
    rw [hI] at k2 hnr hle
    have K1 := Lib.hid k1
    have K2 := Lib.hid k2
    have K3 := Lib.hid k3
    have HR := Lib.hid hrk
    have HNR : Hid (N = if R + 1 = C then 0 else R + 1) := hnr
    clear k1 k2 k3 hrk hC hR hN hX hsz hs hnr hle hc hg eg hI
    by_cases hq : R + 1 = C
    · have HN : Hid ((0 : Int) = (N : Int)) := by show _ = _; rw [HNR.out, if_pos hq]; rfl
      have hqi : ((R : Int) + 1 == (C : Int)) = true := by rw [beq_iff_eq]; omega
      clear hq
      go_enter Try.func58, Try.ntmps58
      go_wp2_with (first
        | (go_at_call 78; (with_reducible refine (K1.out _ (by go_grown)).mono ?_); rintro e w1 ⟨rfl, b1⟩; have B1 : Below w.heap.size w w1 := chain (w := w) (by go_grown) b1)
        | (go_at_call 79; (with_reducible refine (K2.out _ B1).mono ?_); rintro e w2 ⟨rfl, b2⟩; have B2 := chain B1 b2)
        | (go_at_fn g; refine (K3.out _ B2).mono ?_; rintro e w3 ⟨rfl, b3⟩; have B3 := chain B2 b3)
        | (go_at_call 41; (with_reducible refine (HR.out _ _ B3 HN.out).mono ?_); rintro e w4 ⟨rfl, b4⟩; have B4 := chain B3 b4))
      go_ret2
      exact ⟨rfl, B4⟩
    · have HN : Hid ((R : Int) + 1 = (N : Int)) := by show _ = _; rw [HNR.out, if_neg hq]; rfl
      have hqi : ((R : Int) + 1 == (C : Int)) = false := by rw [beq_eq_false_iff_ne]; omega
      clear hq
      go_enter Try.func58, Try.ntmps58
      go_wp2_with (first
        | (go_at_call 78; (with_reducible refine (K1.out _ (by go_grown)).mono ?_); rintro e w1 ⟨rfl, b1⟩; have B1 : Below w.heap.size w w1 := chain (w := w) (by go_grown) b1)
        | (go_at_call 79; (with_reducible refine (K2.out _ B1).mono ?_); rintro e w2 ⟨rfl, b2⟩; have B2 := chain B1 b2)
        | (go_at_fn g; refine (K3.out _ B2).mono ?_; rintro e w3 ⟨rfl, b3⟩; have B3 := chain B2 b3)
        | (go_at_call 41; (with_reducible refine (HR.out _ _ B3 HN.out).mono ?_); rintro e w4 ⟨rfl, b4⟩; have B4 := chain B3 b4))
      go_ret2
      exact ⟨rfl, B4⟩
  | false =>
    rw [hI] at k2 hnr hle
    have K1 := Lib.hid k1
    have K2 := Lib.hid k2
    have K3 := Lib.hid k3
    have HR := Lib.hid hrk
    have HNR : Hid (N = if R = C then 0 else R) := hnr
    clear k1 k2 k3 hrk hC hR hN hX hsz hs hnr hle hc hg eg hI
    by_cases hq : R = C
    · have HN : Hid ((0 : Int) = (N : Int)) := by show _ = _; rw [HNR.out, if_pos hq]; rfl
      have hqi : ((R : Int) == (C : Int)) = true := by rw [beq_iff_eq]; omega
      clear hq
      go_enter Try.func58, Try.ntmps58
      go_wp2_with (first
        | (go_at_call 78; (with_reducible refine (K1.out _ (by go_grown)).mono ?_); rintro e w1 ⟨rfl, b1⟩; have B1 : Below w.heap.size w w1 := chain (w := w) (by go_grown) b1)
        | (go_at_call 79; (with_reducible refine (K2.out _ B1).mono ?_); rintro e w2 ⟨rfl, b2⟩; have B2 := chain B1 b2)
        | (go_at_fn g; refine (K3.out _ B2).mono ?_; rintro e w3 ⟨rfl, b3⟩; have B3 := chain B2 b3)
        | (go_at_call 41; (with_reducible refine (HR.out _ _ B3 HN.out).mono ?_); rintro e w4 ⟨rfl, b4⟩; have B4 := chain B3 b4))
      go_ret2
      exact ⟨rfl, B4⟩
    · have HN : Hid ((R : Int) = (N : Int)) := by show _ = _; rw [HNR.out, if_neg hq]
      have hqi : ((R : Int) == (C : Int)) = false := by rw [beq_eq_false_iff_ne]; omega
      clear hq
      go_enter Try.func58, Try.ntmps58
      go_wp2_with (first
        | (go_at_call 78; (with_reducible refine (K1.out _ (by go_grown)).mono ?_); rintro e w1 ⟨rfl, b1⟩; have B1 : Below w.heap.size w w1 := chain (w := w) (by go_grown) b1)
        | (go_at_call 79; (with_reducible refine (K2.out _ B1).mono ?_); rintro e w2 ⟨rfl, b2⟩; have B2 := chain B1 b2)
        | (go_at_fn g; refine (K3.out _ B2).mono ?_; rintro e w3 ⟨rfl, b3⟩; have B3 := chain B2 b3)
        | (go_at_call 41; (with_reducible refine (HR.out _ _ B3 HN.out).mono ?_); rintro e w4 ⟨rfl, b4⟩; have B4 := chain B3 b4))
      go_ret2
      exact ⟨rfl, B4⟩
set_option maxHeartbeats 1000000 in
theorem nextReading_no (g : Nat) (pre cb : Array Value) (I : List UInt8 → Bool) (t : List UInt8) (w : World) (eg : Ent g) (hg : Cnts g pre cb t.length I w) (hd : digB t = true) (h9 : t.length ≤ 9) (hc : cK I t.length [] = 0) :
    Calls Try.prog 58 #[.func (.func g) pre cb, .string ⟨t.toArray⟩] w fun e w' => e = .returned (.tuple #[.string ⟨#[]⟩, .bool false]) ∧ Below w.heap.size w w' := by
  obtain ⟨k1, k2, k3⟩ := nr_calls g pre cb I t w eg hg hd h9
  have hrk : ∀ W, Below w.heap.size w W → Calls Try.prog 41 #[.func (.func g) pre cb, .int .i64 t.length, .int .i64 0] W fun e w' => e = .returned (.tuple #[.string ⟨#[]⟩, .bool false]) ∧ Below W.heap.size W w' :=
    fun W hW => rdRank_no g pre cb I t.length 0 W eg (hg.below hW) h9 (.inr (by rw [hc]; exact Int.le_refl _))
  have hle := rb_le I t [] hd
  rw [List.nil_append, hc] at hle
  have hI : I t = false := by
    cases h : I t with
    | false => rfl
    | true => rw [h] at hle; simp at hle
  have hR : rb I t [] = 0 := by omega
  rw [hR] at k1
  rw [hI] at k2
  rw [hc] at k3
  have e1 : ∀ args w, (callFunc g args).run Try.prog w = .ok (.enter g args) w := eg
  obtain ⟨s, hs⟩ : ∃ s : ByteArray, s = ⟨t.toArray⟩ := ⟨_, rfl⟩
  have hsz : ((t.length : Nat) : Int) = (s.size : Int) := by rw [hs, sz_of]
  rw [← hs] at k1 k2
  rw [hsz] at k3 hrk
  rw [← hs]
  have K1 := Lib.hid k1
  have K2 := Lib.hid k2
  have K3 := Lib.hid k3
  have HR := Lib.hid hrk
  clear k1 k2 k3 hrk hsz hs hle hc hg eg hI hR
  go_enter Try.func58, Try.ntmps58
  go_wp2_with (first
    | (go_at_call 78; (with_reducible refine (K1.out _ (by go_grown)).mono ?_); rintro e w1 ⟨rfl, b1⟩; have B1 : Below w.heap.size w w1 := chain (w := w) (by go_grown) b1)
    | (go_at_call 79; (with_reducible refine (K2.out _ B1).mono ?_); rintro e w2 ⟨rfl, b2⟩; have B2 := chain B1 b2)
    | (go_at_fn g; refine (K3.out _ B2).mono ?_; rintro e w3 ⟨rfl, b3⟩; have B3 := chain B2 b3)
    | (go_at_call 41; (with_reducible refine (HR.out _ B3).mono ?_); rintro e w4 ⟨rfl, b4⟩; have B4 := chain B3 b4))
  go_ret2
  exact ⟨rfl, B4⟩
set_option maxHeartbeats 1000000 in
theorem milesToNext_any (g : Nat) (pre cb : Array Value) (I : List UInt8 → Bool) (t : List UInt8) (w : World) (eg : Ent g) (hg : Cnts g pre cb t.length I w) (hd : digB t = true) (h1 : 1 ≤ t.length) (h9 : t.length ≤ 9) (hc : 0 < cK I t.length []) :
    Calls Try.prog 36 #[.func (.func g) pre cb, .string ⟨t.toArray⟩] w fun e w' => e = .returned (.tuple #[.int .i64 ((mlt t (nx I t) : Nat) : Int), .bool true]) ∧ Below w.heap.size w w' := by
  have H1 := Lib.hid (nextReading_any g pre cb I t w eg hg hd h9 hc)
  obtain ⟨n1, n2, _⟩ := nx_len I t hd hc
  have H2 := Lib.hid (fun W => milesLater_any t (nx I t) W h1 h9 n1 hd n2)
  clear hc h1 h9 hd hg n1 n2
  go_enter Try.func36, Try.ntmps36
  go_wp2_with (first | (go_at_call 58; (with_reducible refine H1.out.mono ?_); rintro e w1 ⟨rfl, b1⟩) | (go_at_call 59; (with_reducible refine (H2.out _).mono ?_); rintro e w2 ⟨rfl, b2⟩))
  go_ret2
  exact ⟨rfl, chain b1 b2⟩
theorem milesToNext_no (g : Nat) (pre cb : Array Value) (I : List UInt8 → Bool) (t : List UInt8) (w : World) (eg : Ent g) (hg : Cnts g pre cb t.length I w) (hd : digB t = true) (h9 : t.length ≤ 9) (hc : cK I t.length [] = 0) :
    Calls Try.prog 36 #[.func (.func g) pre cb, .string ⟨t.toArray⟩] w fun e w' => e = .returned (.tuple #[.int .i64 0, .bool false]) ∧ Below w.heap.size w w' := by
  have H1 := Lib.hid (nextReading_no g pre cb I t w eg hg hd h9 hc)
  clear hc h9 hd hg
  go_enter Try.func36, Try.ntmps36
  go_wp2_with (first | (go_at_call 58; (with_reducible refine H1.out.mono ?_); rintro e w1 ⟨rfl, b1⟩))
  go_ret2
  exact ⟨rfl, b1⟩
end Go.Proofs.Ytlkeemnnncnibab

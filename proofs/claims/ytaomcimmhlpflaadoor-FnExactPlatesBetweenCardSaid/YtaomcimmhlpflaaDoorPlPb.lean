/-
  How many plates lie between two: both sides.
-/
import Derived.Test.YtaomcimmhlpflaaDoorPlRp
import Derived.Deep.RegionLaw
namespace Go.Proofs.YtaomcimmhlpflaaDoor
open Go.RowKit Go.Maps

theorem l1Most_any (a b : Int) (w : World) : Calls Tryd.prog 54 #[.int .i64 a, .int .i64 b] w fun e w' => e = .returned (.int .i64 (if b < a then a else b)) ∧ w = w' := by
  by_cases h : b < a
  · have H := Lib.hid h
    go_enter Tryd.func54, Tryd.ntmps54
    go_wp2
    go_ret
    exact ⟨rfl, rfl⟩
  · have H := Lib.hid h
    go_enter Tryd.func54, Tryd.ntmps54
    go_wp2
    go_ret
    exact ⟨rfl, rfl⟩
def btB (P B : List UInt8) (ts : List (List UInt8)) (s t : ByteArray) : Bool := (rkB P B ts s.data.toList && rkB P B ts t.data.toList) && !(Op.bytesLess t.toList s.toList)
def btD (P B : List UInt8) (ts : List (List UInt8)) (s t : ByteArray) : Int := (rkF P B ts t.data.toList : Int) - (rkF P B ts s.data.toList : Int) - 1
def btF (P B : List UInt8) (ts : List (List UInt8)) (s t : ByteArray) : Int := if btB P B ts s t = true then (if btD P B ts s t < 0 then 0 else btD P B ts s t) else 0
theorem rkF_le {P B : ByteArray} {ts : List (List UInt8)} {t : ByteArray} (h : rkB P.data.toList B.data.toList ts t.data.toList = true) : rkF P.data.toList B.data.toList ts t.data.toList ≤ 208827064576 := by
  obtain ⟨hs, hp⟩ := rkB_facts h
  obtain ⟨hl, hf, hfr⟩ := isP_facts hp
  unfold rkF
  rw [if_pos h]
  exact rkU_le (by have := (sch_facts hs).1; simpa using this) hf hl hfr
set_option maxRecDepth 100000 in
set_option maxHeartbeats 4000000 in
theorem sBetween_any (P B s t : ByteArray) (ts : List (List UInt8)) (v : Value) (w : World) (hf : Fit P B ts) (hs0 : s.size ≤ 1048576) (ht0 : t.size ≤ 1048576) (h : Rd ts v w) :
    Calls Tryd.prog 26 #[.agg #[.string P, .string B, v], .string s, .string t] w fun e w' => e = .returned (.tuple #[.int .i64 (btF P.data.toList B.data.toList ts s t), .bool (btB P.data.toList B.data.toList ts s t)]) ∧ Below w.heap.size w w' := by
  have mixed : Tryd.prog.follows .mixedOrders = true := by kernel_rfl
  have late : Tryd.prog.follows .lateStores = true := by kernel_rfl
  have HI := Lib.hid (fun (x : ByteArray) (hx : x.size ≤ 1048576) (b : Bool) (hb : rkB P.data.toList B.data.toList ts x.data.toList = b) (W : World) (hW : Below w.heap.size w W) => plBoth_b P B x ts v b W hf hx (h.below hW) hb)
  have HR := Lib.hid (fun (x : ByteArray) (hb : rkB P.data.toList B.data.toList ts x.data.toList = true) (W : World) (hW : Below w.heap.size w W) => plRank_b P B x ts v W hb (h.below hW))
  obtain ⟨a, cap, rfl, _⟩ := h
  obtain ⟨m, hm⟩ : ∃ m, m = ts.length := ⟨_, rfl⟩
  rw [← hm] at HI HR ⊢
  clear hf hm
  cases h1 : rkB P.data.toList B.data.toList ts s.data.toList with
  | false =>
    have H1 := Lib.hid h1
    have HE : Hid (btB P.data.toList B.data.toList ts s t = false) := by show _ = _; unfold btB; rw [h1]; rfl
    clear h1
    go_enter Tryd.func26, Tryd.ntmps26
    go_wp2_with (go_at_call 47; (with_reducible refine (HI.out s hs0 false H1.out _ (by go_grown)).mono ?_); rintro e w1 ⟨rfl, b1⟩)
    go_ret2
    exact ⟨by unfold btF; rw [HE.out]; rfl, chain (w := w) (by go_grown) b1⟩
  | true =>
    have H1 := Lib.hid h1
    cases h2 : rkB P.data.toList B.data.toList ts t.data.toList with
    | false =>
      have H2 := Lib.hid h2
      have HE : Hid (btB P.data.toList B.data.toList ts s t = false) := by show _ = _; unfold btB; rw [h1, h2]; rfl
      clear h1 h2
      go_enter Tryd.func26, Tryd.ntmps26
      go_wp2_with (first
        | (go_at_call 47; (with_reducible refine (HI.out s hs0 true H1.out _ (by go_grown)).mono ?_); rintro e w1 ⟨rfl, b1⟩; obtain ⟨c0, c1, c2, hz⟩ := box_kept b1; have B1 : Below w.heap.size w w1 := chain (w := w) (by go_grown) b1)
        | (go_at_call 47; (with_reducible refine (HI.out t ht0 false H2.out _ B1).mono ?_); rintro e w2 ⟨rfl, b2⟩))
      go_ret2
      exact ⟨by unfold btF; rw [HE.out]; rfl, chain B1 b2⟩
    | true =>
      have H2 := Lib.hid h2
      obtain ⟨x, hx⟩ : ∃ x, x = rkF P.data.toList B.data.toList ts s.data.toList := ⟨_, rfl⟩
      obtain ⟨y, hy⟩ : ∃ y, y = rkF P.data.toList B.data.toList ts t.data.toList := ⟨_, rfl⟩
      have hx1 : x ≤ 208827064576 := by rw [hx]; exact rkF_le h1
      have hy1 : y ≤ 208827064576 := by rw [hy]; exact rkF_le h2
      have HS : Hid (∀ W : World, Below w.heap.size w W → Calls Tryd.prog 48 #[.agg #[.string P, .string B, .slice a m cap], .string s] W fun e w' => e = .returned (.int .i64 (x : Nat)) ∧ Below W.heap.size W w') := fun W hW => by rw [hx]; exact HR.out s h1 W hW
      have HT : Hid (∀ W : World, Below w.heap.size w W → Calls Tryd.prog 48 #[.agg #[.string P, .string B, .slice a m cap], .string t] W fun e w' => e = .returned (.int .i64 (y : Nat)) ∧ Below W.heap.size W w') := fun W hW => by rw [hy]; exact HR.out t h2 W hW
      cases h3 : Op.bytesLess t.toList s.toList with
      | true =>
        have HE : Hid (btB P.data.toList B.data.toList ts s t = false) := by show _ = _; unfold btB; rw [h3]; simp
        clear h1 h2 hx hy
        go_enter Tryd.func26, Tryd.ntmps26
        go_wp2_with (first
          | (go_at_call 47; (with_reducible refine (HI.out s hs0 true H1.out _ (by go_grown)).mono ?_); rintro e w1 ⟨rfl, b1⟩; obtain ⟨c0, c1, c2, hz⟩ := box_kept b1; have B1 : Below w.heap.size w w1 := chain (w := w) (by go_grown) b1)
          | (go_at_call 47; (with_reducible refine (HI.out t ht0 true H2.out _ B1).mono ?_); rintro e w2 ⟨rfl, b2⟩))
        go_ret2
        exact ⟨by unfold btF; rw [HE.out]; rfl, chain B1 b2⟩
      | false =>
        have HE : Hid (btB P.data.toList B.data.toList ts s t = true) := by show _ = _; unfold btB; rw [h1, h2, h3]; rfl
        have HF : Hid (btF P.data.toList B.data.toList ts s t = if (y : Int) - (x : Int) - 1 < 0 then 0 else (y : Int) - (x : Int) - 1) := by show _ = _; unfold btF; rw [if_pos HE.out]; unfold btD; rw [← hx, ← hy]
        obtain ⟨r, hr⟩ : ∃ r : Int, r = if (y : Int) - (x : Int) - 1 < 0 then 0 else (y : Int) - (x : Int) - 1 := ⟨_, rfl⟩
        rw [← hr] at HF
        have HM : Hid (∀ W : World, Calls Tryd.prog 54 #[.int .i64 0, .int .i64 ((y : Int) - (x : Int) - 1)] W fun e w' => e = .returned (.int .i64 r) ∧ W = w') := fun W => by rw [hr]; exact l1Most_any 0 _ W
        clear hr
        have hw1 : IntKind.i64.wrap ((y : Int) - (x : Int)) = (y : Int) - (x : Int) := IntWalk.i64_in _ (by omega)
        have hw2 : IntKind.i64.wrap ((y : Int) - (x : Int) - 1) = (y : Int) - (x : Int) - 1 := IntWalk.i64_in _ (by omega)
        clear h1 h2 hx hy
        go_enter Tryd.func26, Tryd.ntmps26
        go_wp2_with (first
          | (go_at_call 47; (with_reducible refine (HI.out s hs0 true H1.out _ (by go_grown)).mono ?_); rintro e w1 ⟨rfl, b1⟩; obtain ⟨c0, c1, c2, hz⟩ := box_kept b1; have B1 : Below w.heap.size w w1 := chain (w := w) (by go_grown) b1)
          | (go_at_call 47; (with_reducible refine (HI.out t ht0 true H2.out _ B1).mono ?_); rintro e w2 ⟨rfl, b2⟩; obtain ⟨d0, d1, d2, dz⟩ := keep3 hz c0 c1 c2 b2; have B2 := chain B1 b2))
        go_region_with (first
          | (go_at_call 48; (with_reducible refine (HT.out _ (B2.trans ((show Below w2.heap.size w2 _ by go_grown).mono B2.size))).mono ?_); rintro e w3 ⟨rfl, b3⟩; have B3 : Below w2.heap.size w2 w3 := chain (w := w2) (by go_grown) b3; obtain ⟨e0, e1, e2, ez⟩ := keep3 dz d0 d1 d2 B3)
          | (go_at_call 48; (with_reducible refine (HS.out _ (B2.trans (B3.mono B2.size))).mono ?_); rintro e w4 ⟨rfl, b4⟩; have B4 : Below w2.heap.size w2 w4 := chain B3 b4)
          | (go_at_call 54; (with_reducible refine (HM.out _).mono ?_); rintro e w5 ⟨rfl, rfl⟩))
        all_goals go_wp2
        all_goals
          go_ret2
          refine ⟨?_, chain B2 B4⟩
          rw [HF.out, HE.out]
          rfl
end Go.Proofs.YtaomcimmhlpflaaDoor

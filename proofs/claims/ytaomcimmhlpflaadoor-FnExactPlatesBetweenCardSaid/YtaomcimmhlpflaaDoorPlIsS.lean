/-
  Whether there is a scheme: both sides, and the law.
-/
import Derived.Test.YtaomcimmhlpflaaDoorPlImp
namespace Go.Proofs.YtaomcimmhlpflaaDoor
open Go.RowKit

theorem isPat_b (s : ByteArray) (b : Bool) (w : World) (hs : s.size ≤ 1048576) (h : patB s.data.toList = b) :
    Calls Tryd.prog 60 #[.string s] w fun e w' => e = .returned (.bool b) ∧ Below w.heap.size w w' := by subst h; exact isPat_any s w (by unfold maxLen; omega)
theorem isBar_b (s : ByteArray) (b : Bool) (w : World) (hs : s.size ≤ 1048576) (h : (incB s.data.toList && szsB s.data.toList 0 36) = b) :
    Calls Tryd.prog 61 #[.string s] w fun e w' => e = .returned (.bool b) ∧ Below w.heap.size w w' := by subst h; exact isBar_any s w hs
theorem iIsScheme_any (P B : ByteArray) (ts : List (List UInt8)) (v : Value) (w : World) (hf : Fit P B ts) (h : Rd ts v w) :
    Calls Tryd.prog 38 #[.agg #[.string P, .string B, v]] w fun e w' => e = .returned (.bool (schB P.data.toList B.data.toList ts)) ∧ Below w.heap.size w w' := by
  have HV := Lib.hid h
  have HF := Lib.hid hf
  have hP := hf.p
  have hB := hf.b
  clear h hf
  cases h1 : patB P.data.toList with
  | false =>
    have H1 := Lib.hid h1
    have HS := Lib.hid (sch_p (B := B.data.toList) (Ws := ts) h1)
    clear h1
    go_enter Tryd.func38, Tryd.ntmps38
    go_wp2_with (go_at_call 60; refine (isPat_b P false _ hP H1.out).mono ?_; rintro e w1 ⟨rfl, b1⟩)
    go_ret
    exact ⟨ret_bool HS.out.symm, chain (w := w) (by go_grown) b1⟩
  | true =>
    have H1 := Lib.hid h1
    cases h2 : (incB B.data.toList && szsB B.data.toList 0 36) with
    | false =>
      have H2 := Lib.hid h2
      have HS : Hid (schB P.data.toList B.data.toList ts = false) := by show _ = _; unfold schB; rw [h2]; simp
      clear h1 h2
      go_enter Tryd.func38, Tryd.ntmps38
      go_wp2_with (first | (go_at_call 60; refine (isPat_b P true _ hP H1.out).mono ?_; rintro e w1 ⟨rfl, b1⟩; obtain ⟨hc0, hc1, hc2, hz⟩ := box_kept b1) | (go_at_call 61; refine (isBar_b B false _ hB H2.out).mono ?_; rintro e w2 ⟨rfl, b2⟩))
      go_ret
      exact ⟨ret_bool HS.out.symm, chain (w := w) (chain (w := w) (by go_grown) b1) b2⟩
    | true =>
      have H2 := Lib.hid h2
      have HS : Hid (schB P.data.toList B.data.toList ts = (decide (ts.length ≤ 3) && ts.all wordB)) := by show _ = _; unfold schB; rw [h1, h2]; rfl
      clear h1 h2
      go_enter Tryd.func38, Tryd.ntmps38
      go_wp2_with (first | (go_at_call 60; refine (isPat_b P true _ hP H1.out).mono ?_; rintro e w1 ⟨rfl, b1⟩; obtain ⟨hc0, hc1, hc2, hz⟩ := box_kept b1) | (go_at_call 61; refine (isBar_b B true _ hB H2.out).mono ?_; rintro e w2 ⟨rfl, b2⟩; have hd2 := (b2.cell (p := ⟨w.heap.size, 2, none⟩) hz).trans hc2; have hbb : Below w.heap.size w w2 := chain (w := w) (chain (w := w) (by go_grown) b1) b2) | (go_at_call 62; refine (areW_any ts v _ HF.out.n HF.out.t (HV.out.below hbb)).mono ?_; rintro e w3 ⟨rfl, b3⟩))
      go_ret
      exact ⟨ret_bool (by rw [HS.out]), chain hbb b3⟩
end Go.Proofs.YtaomcimmhlpflaaDoor

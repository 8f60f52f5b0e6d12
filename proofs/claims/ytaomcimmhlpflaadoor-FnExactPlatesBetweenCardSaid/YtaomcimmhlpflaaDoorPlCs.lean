/-
  How many plates there are, begin with a text, are spoiled: the model, and the rest of the program.
-/
import Derived.Test.YtaomcimmhlpflaaDoorPlCc
namespace Go.Proofs.YtaomcimmhlpflaaDoor
open Go.RowKit Go.Maps

theorem szs_nil : szsB [] 0 8 = true := by decide
theorem bgB_nil (P B : List UInt8) (ts : List (List UInt8)) : bgB P B ts [] = schB P B ts := by unfold bgB; rw [szs_nil, Bool.and_true]
theorem sGd_b (P B : ByteArray) (ts : List (List UInt8)) (v : Value) (b : Bool) (w : World) (hf : Fit P B ts) (h : Rd ts v w) (hb : schB P.data.toList B.data.toList ts = b) :
    Calls Tryd.prog 33 #[.agg #[.string P, .string B, v]] w fun e w' => e = .returned (.bool b) ∧ Below w.heap.size w w' := by subst hb; exact plGood_any P B ts v w hf h
theorem iCountPl_any (P B : ByteArray) (ts : List (List UInt8)) (v : Value) (w : World) (hf : Fit P B ts) (h : Rd ts v w) (hmx : MaxIs w) :
    Calls Tryd.prog 19 #[.agg #[.string P, .string B, v]] w fun e w' => e = .returned (.tuple #[.int .i64 (bgF P.data.toList B.data.toList ts [] : Nat), .bool (bgB P.data.toList B.data.toList ts [])]) ∧ Below w.heap.size w w' := by
  have HC := Lib.hid (fun (W : World) (hW : Below w.heap.size w W) => iCountBeg_any P B ⟨#[]⟩ ts v W hf (by decide) (h.below hW) (hmx.below hW))
  obtain ⟨r, hr⟩ : ∃ r, r = bgF P.data.toList B.data.toList ts [] := ⟨_, rfl⟩
  obtain ⟨b, hb⟩ : ∃ b, b = bgB P.data.toList B.data.toList ts [] := ⟨_, rfl⟩
  have HC2 : Hid (∀ (W : World), Below w.heap.size w W → Calls Tryd.prog 29 #[.agg #[.string P, .string B, v], .string ⟨#[]⟩] W fun e w' => e = .returned (.tuple #[.int .i64 (r : Nat), .bool b]) ∧ Below W.heap.size W w') := by
    intro W hW
    rw [hr, hb]
    exact HC.out W hW
  rw [← hr, ← hb]
  obtain ⟨a, cap, rfl, _⟩ := h
  obtain ⟨m, hm⟩ : ∃ m, m = ts.length := ⟨_, rfl⟩
  rw [← hm] at HC2 ⊢
  clear hmx hf HC hr hb hm
  go_enter Tryd.func19, Tryd.ntmps19
  go_wp2_with (go_at_call 29; (with_reducible refine (HC2.out _ (by go_grown)).mono ?_); rintro e w1 ⟨rfl, b1⟩)
  go_ret2
  exact ⟨rfl, chain (w := w) (by go_grown) b1⟩
theorem sCountPl_any (P B : ByteArray) (ts : List (List UInt8)) (v : Value) (w : World) (hf : Fit P B ts) (h : Rd ts v w) :
    Calls Tryd.prog 18 #[.agg #[.string P, .string B, v]] w fun e w' => e = .returned (.tuple #[.int .i64 (bgF P.data.toList B.data.toList ts [] : Nat), .bool (bgB P.data.toList B.data.toList ts [])]) ∧ Below w.heap.size w w' := by
  rw [bgB_nil]
  unfold bgF
  rw [bgB_nil]
  have HI := Lib.hid (fun (b : Bool) (hb : schB P.data.toList B.data.toList ts = b) (W : World) (hW : Below w.heap.size w W) => sGd_b P B ts v b W hf (h.below hW) hb)
  have HN := Lib.hid (fun (hb : schB P.data.toList B.data.toList ts = true) (W : World) (hW : Below w.heap.size w W) => plFrom_any P B ⟨#[]⟩ ts v W (by decide) hb (h.below hW))
  obtain ⟨a, cap, rfl, _⟩ := h
  obtain ⟨m, hm⟩ : ∃ m, m = ts.length := ⟨_, rfl⟩
  rw [← hm] at HI HN ⊢
  clear hf hm
  cases h1 : schB P.data.toList B.data.toList ts with
  | false =>
    have H1 := Lib.hid h1
    clear h1
    go_enter Tryd.func18, Tryd.ntmps18
    go_wp2_with (go_at_call 33; (with_reducible refine (HI.out false H1.out _ (by go_grown)).mono ?_); rintro e w1 ⟨rfl, b1⟩)
    go_ret2
    exact ⟨rfl, chain (w := w) (by go_grown) b1⟩
  | true =>
    have H1 := Lib.hid h1
    clear h1
    go_enter Tryd.func18, Tryd.ntmps18
    go_wp2_with (first
      | (go_at_call 33; (with_reducible refine (HI.out true H1.out _ (by go_grown)).mono ?_); rintro e w1 ⟨rfl, b1⟩; obtain ⟨c0, c1, c2, hz⟩ := box_kept b1; have B1 : Below w.heap.size w w1 := chain (w := w) (by go_grown) b1)
      | (go_at_call 46; (with_reducible refine (HN.out H1.out _ B1).mono ?_); rintro e w2 ⟨rfl, b2⟩))
    go_ret2
    exact ⟨rfl, chain B1 b2⟩
set_option maxRecDepth 100000 in
theorem sCountBeg_any (P B s : ByteArray) (ts : List (List UInt8)) (v : Value) (w : World) (hf : Fit P B ts) (hs : s.size ≤ 1048576) (h : Rd ts v w) :
    Calls Tryd.prog 28 #[.agg #[.string P, .string B, v], .string s] w fun e w' => e = .returned (.tuple #[.int .i64 (bgF P.data.toList B.data.toList ts s.data.toList : Nat), .bool (bgB P.data.toList B.data.toList ts s.data.toList)]) ∧ Below w.heap.size w w' := by
  have HI := Lib.hid (fun (b : Bool) (hb : schB P.data.toList B.data.toList ts = b) (W : World) (hW : Below w.heap.size w W) => sGd_b P B ts v b W hf (h.below hW) hb)
  have HN := Lib.hid (fun (hb : schB P.data.toList B.data.toList ts = true) (W : World) (hW : Below w.heap.size w W) => plFrom_any P B s ts v W hs hb (h.below hW))
  obtain ⟨a, cap, rfl, _⟩ := h
  obtain ⟨m, hm⟩ : ∃ m, m = ts.length := ⟨_, rfl⟩
  rw [← hm] at HI HN ⊢
  clear hf hm
  cases h1 : schB P.data.toList B.data.toList ts with
  | false =>
    have H1 := Lib.hid h1
    have HE : Hid (bgB P.data.toList B.data.toList ts s.data.toList = false) := by show _ = _; unfold bgB; rw [h1]; rfl
    clear h1
    go_enter Tryd.func28, Tryd.ntmps28
    go_wp2_with (go_at_call 33; (with_reducible refine (HI.out false H1.out _ (by go_grown)).mono ?_); rintro e w1 ⟨rfl, b1⟩)
    go_ret2
    exact ⟨by unfold bgF; rw [HE.out]; rfl, chain (w := w) (by go_grown) b1⟩
  | true =>
    have H1 := Lib.hid h1
    cases h2 : szsB s.data.toList 0 8 with
    | false =>
      have H2 := Lib.hid h2
      have HE : Hid (bgB P.data.toList B.data.toList ts s.data.toList = false) := by show _ = _; unfold bgB; rw [h2]; simp
      clear h1 h2
      go_enter Tryd.func28, Tryd.ntmps28
      go_wp2_with (first | (go_at_call 33; (with_reducible refine (HI.out true H1.out _ (by go_grown)).mono ?_); rintro e w1 ⟨rfl, b1⟩; have B1 : Below w.heap.size w w1 := chain (w := w) (by go_grown) b1) | (go_at_call 34; (with_reducible refine (plSigns_b s 0 8 false _ hs H2.out).mono ?_); rintro e w2 ⟨rfl, rfl⟩))
      go_ret2
      exact ⟨by unfold bgF; rw [HE.out]; rfl, B1⟩
    | true =>
      have H2 := Lib.hid h2
      have HE : Hid (bgB P.data.toList B.data.toList ts s.data.toList = true) := by show _ = _; unfold bgB; rw [h1, h2]; rfl
      clear h1 h2
      go_enter Tryd.func28, Tryd.ntmps28
      go_wp2_with (first
        | (go_at_call 33; (with_reducible refine (HI.out true H1.out _ (by go_grown)).mono ?_); rintro e w1 ⟨rfl, b1⟩; obtain ⟨c0, c1, c2, hz⟩ := box_kept b1; have B1 : Below w.heap.size w w1 := chain (w := w) (by go_grown) b1)
        | (go_at_call 34; (with_reducible refine (plSigns_b s 0 8 true _ hs H2.out).mono ?_); rintro e w2 ⟨rfl, rfl⟩)
        | (go_at_call 46; (with_reducible refine (HN.out H1.out _ B1).mono ?_); rintro e w3 ⟨rfl, b3⟩))
      go_ret2
      exact ⟨by unfold bgF; rw [HE.out]; rfl, chain B1 b3⟩
end Go.Proofs.YtaomcimmhlpflaaDoor

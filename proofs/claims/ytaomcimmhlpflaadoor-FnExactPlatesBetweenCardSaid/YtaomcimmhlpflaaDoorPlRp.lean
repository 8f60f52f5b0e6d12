/-
  How many plates come before one: both sides.
-/
import Derived.Test.YtaomcimmhlpflaaDoorPlCs
import Derived.Test.YtaomcimmhlpflaaDoorPlRk
import Derived.Test.YtaomcimmhlpflaaDoorPlIq
namespace Go.Proofs.YtaomcimmhlpflaaDoor
open Go.RowKit Go.Maps

def rkB (P B : List UInt8) (ts : List (List UInt8)) (t : List UInt8) : Bool := schB P B ts && isP P B ts t
def rkF (P B : List UInt8) (ts : List (List UInt8)) (t : List UInt8) : Nat := if rkB P B ts t = true then rkU ts (rowsF P B 0) [] t else 0
theorem isP_facts {P B : List UInt8} {ts : List (List UInt8)} {t : List UInt8} (h : isP P B ts t = true) : t.length = P.length ∧ fitsB P B t = true ∧ Free ts t := by
  unfold isP at h
  simp only [Bool.and_eq_true, decide_eq_true_eq] at h
  exact ⟨h.1.1, h.1.2, h.2⟩
theorem walk_rank {P B : List UInt8} {ts L : List (List UInt8)} {n : Nat} (hn : P.length = n) (h8 : n ≤ 8) {va : Option Addr} {vc bm N : Nat} {ga : Option Addr} {gc g : Nat} {w1 : World} (hk : PWk P B n ts L va vc bm N ga gc g w1) {t : ByteArray} (hp : isP P B ts t.data.toList = true) (W : World) (hW : Below w1.heap.size w1 W) :
    Calls Tryd.prog 51 #[.agg #[.slice va L.length vc, .map (some bm), .slice ga n gc, .slice (some ⟨g, 0, none⟩) (n + 1) (n + 1), .int .i64 0, .string ⟨#[]⟩, .bool false], .string t] W fun e w' => e = .returned (.int .i64 (rkU ts (rowsF P B 0) [] t.data.toList : Nat)) ∧ Below W.heap.size W w' := by
  obtain ⟨hl, hf, hfr⟩ := isP_facts hp
  have htl : t.data.toList.length = t.size := by simp
  have hrl : (rowsF P B 0).length = n := by rw [rowsF_len, hn]; omega
  have hk2 := hk.below hW
  have hM : rkU L (rowsF P B 0) [] t.data.toList ≤ 208827064576 := by
    rw [← rkU_words hk.same]
    exact rkU_le (by omega) hf hl hfr
  have hr := rankOf_any L (rowsF P B 0) va L.length vc ga n (n + 1) gc bm N g (n + 1) t W rfl hrl.symm (by rw [hrl]) hk.l3 (by omega) (rowsF_26 P B) (rowsF_ascii P B) (rowsF_up P B) (by omega) (fun i hi => by
    have hi2 : i < t.data.toList.length := by omega
    rw [rowsF_getD (by omega)]
    exact fits_fS hf hi2) ((hk.same _).1 hfr) hM hk2.rd hk2.set hk2.rows hk2.ways
  rw [← rkU_words hk.same] at hr
  exact hr
theorem plIs_b (P B t : ByteArray) (ts : List (List UInt8)) (v : Value) (b : Bool) (w : World) (hf : Fit P B ts) (hpat : P.data.toList.all patC = true) (ht0 : t.size ≤ 1048576) (h : Rd ts v w) (hb : isP P.data.toList B.data.toList ts t.data.toList = b) :
    Calls Tryd.prog 74 #[.agg #[.string P, .string B, v], .string t] w fun e w' => e = .returned (.bool b) ∧ Below w.heap.size w w' := by subst hb; exact plIs_any P B t ts v w hf hpat ht0 h
theorem isPl_b (P B t : ByteArray) (ts : List (List UInt8)) (v : Value) (b : Bool) (w : World) (hf : Fit P B ts) (hn3 : ts.length ≤ 3) (ht0 : t.size ≤ 1048576) (h : Rd ts v w) (hm : MaxIs w) (hb : isP P.data.toList B.data.toList ts t.data.toList = b) :
    Calls Tryd.prog 49 #[.agg #[.string P, .string B, v], .string t] w fun e w' => e = .returned (.bool b) ∧ Below w.heap.size w w' := by subst hb; exact isPl_any P B t ts v w hf hn3 ht0 h hm
theorem plBoth_any (P B t : ByteArray) (ts : List (List UInt8)) (v : Value) (w : World) (hf : Fit P B ts) (ht0 : t.size ≤ 1048576) (h : Rd ts v w) :
    Calls Tryd.prog 47 #[.agg #[.string P, .string B, v], .string t] w fun e w' => e = .returned (.bool (rkB P.data.toList B.data.toList ts t.data.toList)) ∧ Below w.heap.size w w' := by
  have HI := Lib.hid (fun (b : Bool) (hb : schB P.data.toList B.data.toList ts = b) (W : World) (hW : Below w.heap.size w W) => sGd_b P B ts v b W hf (h.below hW) hb)
  have HP := Lib.hid (fun (hs : schB P.data.toList B.data.toList ts = true) (W : World) (hW : Below w.heap.size w W) => plIs_b P B t ts v _ W hf (sch_facts hs).2.2.1 ht0 (h.below hW) rfl)
  obtain ⟨b, hb⟩ : ∃ b, b = isP P.data.toList B.data.toList ts t.data.toList := ⟨_, rfl⟩
  rw [← hb] at HP
  have HRB : Hid (rkB P.data.toList B.data.toList ts t.data.toList = (schB P.data.toList B.data.toList ts && b)) := by show _ = _; unfold rkB; rw [hb]
  obtain ⟨a, cap, rfl, _⟩ := h
  obtain ⟨m, hm⟩ : ∃ m, m = ts.length := ⟨_, rfl⟩
  rw [← hm] at HI HP ⊢
  clear hf hm hb
  cases h1 : schB P.data.toList B.data.toList ts with
  | false =>
    have H1 := Lib.hid h1
    clear h1
    go_enter Tryd.func47, Tryd.ntmps47
    go_wp2_with (go_at_call 33; (with_reducible refine (HI.out false H1.out _ (by go_grown)).mono ?_); rintro e w1 ⟨rfl, b1⟩)
    go_ret
    exact ⟨by rw [HRB.out, H1.out]; rfl, chain (w := w) (by go_grown) b1⟩
  | true =>
    have H1 := Lib.hid h1
    clear h1
    go_enter Tryd.func47, Tryd.ntmps47
    go_wp2_with (first
      | (go_at_call 33; (with_reducible refine (HI.out true H1.out _ (by go_grown)).mono ?_); rintro e w1 ⟨rfl, b1⟩; obtain ⟨c0, c1, c2, hz⟩ := box_kept b1; have B1 : Below w.heap.size w w1 := chain (w := w) (by go_grown) b1)
      | (go_at_call 74; (with_reducible refine (HP.out H1.out _ B1).mono ?_); rintro e w2 ⟨rfl, b2⟩))
    go_ret
    exact ⟨by rw [HRB.out, H1.out]; rfl, chain B1 b2⟩
theorem plBoth_b (P B t : ByteArray) (ts : List (List UInt8)) (v : Value) (b : Bool) (w : World) (hf : Fit P B ts) (ht0 : t.size ≤ 1048576) (h : Rd ts v w) (hb : rkB P.data.toList B.data.toList ts t.data.toList = b) :
    Calls Tryd.prog 47 #[.agg #[.string P, .string B, v], .string t] w fun e w' => e = .returned (.bool b) ∧ Below w.heap.size w w' := by subst hb; exact plBoth_any P B t ts v w hf ht0 h
theorem rkB_facts {P B : ByteArray} {ts : List (List UInt8)} {t : ByteArray} (h : rkB P.data.toList B.data.toList ts t.data.toList = true) : schB P.data.toList B.data.toList ts = true ∧ isP P.data.toList B.data.toList ts t.data.toList = true := by
  unfold rkB at h
  rw [Bool.and_eq_true] at h
  exact h
theorem plRank_b (P B t : ByteArray) (ts : List (List UInt8)) (v : Value) (w : World) (hb : rkB P.data.toList B.data.toList ts t.data.toList = true) (h : Rd ts v w) :
    Calls Tryd.prog 48 #[.agg #[.string P, .string B, v], .string t] w fun e w' => e = .returned (.int .i64 (rkF P.data.toList B.data.toList ts t.data.toList : Nat)) ∧ Below w.heap.size w w' := by
  obtain ⟨hs, hp⟩ := rkB_facts hb
  obtain ⟨hl, hf, hfr⟩ := isP_facts hp
  have e : rkF P.data.toList B.data.toList ts t.data.toList = rkU ts (rowsF P.data.toList B.data.toList 0) [] t.data.toList := by unfold rkF; rw [if_pos hb]
  rw [e]
  exact plRank_any P B t ts v w hs (by simpa using hl) hf hfr h
set_option maxRecDepth 100000 in
theorem sRank_any (P B t : ByteArray) (ts : List (List UInt8)) (v : Value) (w : World) (hf : Fit P B ts) (ht0 : t.size ≤ 1048576) (h : Rd ts v w) :
    Calls Tryd.prog 22 #[.agg #[.string P, .string B, v], .string t] w fun e w' => e = .returned (.tuple #[.int .i64 (rkF P.data.toList B.data.toList ts t.data.toList : Nat), .bool (rkB P.data.toList B.data.toList ts t.data.toList)]) ∧ Below w.heap.size w w' := by
  have HI := Lib.hid (fun (b : Bool) (hb : rkB P.data.toList B.data.toList ts t.data.toList = b) (W : World) (hW : Below w.heap.size w W) => plBoth_b P B t ts v b W hf ht0 (h.below hW) hb)
  have HP := Lib.hid (fun (hb : rkB P.data.toList B.data.toList ts t.data.toList = true) (W : World) (hW : Below w.heap.size w W) => plRank_b P B t ts v W hb (h.below hW))
  have HZ : Hid (rkB P.data.toList B.data.toList ts t.data.toList = false → rkF P.data.toList B.data.toList ts t.data.toList = 0) := fun h => by unfold rkF; rw [h]; rfl
  obtain ⟨F, hF⟩ : ∃ F, F = rkF P.data.toList B.data.toList ts t.data.toList := ⟨_, rfl⟩
  rw [← hF] at HP HZ ⊢
  obtain ⟨a, cap, rfl, _⟩ := h
  obtain ⟨m, hm⟩ : ∃ m, m = ts.length := ⟨_, rfl⟩
  rw [← hm] at HI HP ⊢
  clear hf hm hF
  cases h1 : rkB P.data.toList B.data.toList ts t.data.toList with
  | false =>
    have H1 := Lib.hid h1
    clear h1
    go_enter Tryd.func22, Tryd.ntmps22
    go_wp2_with (go_at_call 47; (with_reducible refine (HI.out false H1.out _ (by go_grown)).mono ?_); rintro e w1 ⟨rfl, b1⟩)
    go_ret2
    exact ⟨by rw [HZ.out H1.out]; rfl, chain (w := w) (by go_grown) b1⟩
  | true =>
    have H1 := Lib.hid h1
    clear h1
    go_enter Tryd.func22, Tryd.ntmps22
    go_wp2_with (first
      | (go_at_call 47; (with_reducible refine (HI.out true H1.out _ (by go_grown)).mono ?_); rintro e w1 ⟨rfl, b1⟩; obtain ⟨c0, c1, c2, hz⟩ := box_kept b1; have B1 : Below w.heap.size w w1 := chain (w := w) (by go_grown) b1)
      | (go_at_call 48; (with_reducible refine (HP.out H1.out _ B1).mono ?_); rintro e w2 ⟨rfl, b2⟩))
    go_ret2
    exact ⟨rfl, chain B1 b2⟩
set_option maxRecDepth 100000 in
theorem iRank_any (P B t : ByteArray) (ts : List (List UInt8)) (v : Value) (w : World) (hf : Fit P B ts) (ht0 : t.size ≤ 1048576) (h : Rd ts v w) (hmx : MaxIs w) :
    Calls Tryd.prog 23 #[.agg #[.string P, .string B, v], .string t] w fun e w' => e = .returned (.tuple #[.int .i64 (rkF P.data.toList B.data.toList ts t.data.toList : Nat), .bool (rkB P.data.toList B.data.toList ts t.data.toList)]) ∧ Below w.heap.size w w' := by
  have HI := Lib.hid (fun (b : Bool) (hb : schB P.data.toList B.data.toList ts = b) (W : World) (hW : Below w.heap.size w W) => iIsS_b P B ts v b W hf (h.below hW) hb)
  have HP := Lib.hid (fun (b : Bool) (hs : schB P.data.toList B.data.toList ts = true) (hb : isP P.data.toList B.data.toList ts t.data.toList = b) (W : World) (hW : Below w.heap.size w W) => isPl_b P B t ts v b W hf (sch_facts hs).2.2.2.1 ht0 (h.below hW) (hmx.below hW) hb)
  have HN := Lib.hid (fun (hb : schB P.data.toList B.data.toList ts = true) (W : World) (hW : Below w.heap.size w W) => newWalk_any P B ts v W hb (h.below hW) (hmx.below hW))
  obtain ⟨a, cap, rfl, _⟩ := h
  obtain ⟨m, hm⟩ : ∃ m, m = ts.length := ⟨_, rfl⟩
  rw [← hm] at HI HN HP ⊢
  clear hmx hf hm
  cases h1 : schB P.data.toList B.data.toList ts with
  | false =>
    have H1 := Lib.hid h1
    have HE : Hid (rkB P.data.toList B.data.toList ts t.data.toList = false) := by show _ = _; unfold rkB; rw [h1]; rfl
    clear h1
    go_enter Tryd.func23, Tryd.ntmps23
    go_wp2_with (go_at_call 38; (with_reducible refine (HI.out false H1.out _ (by go_grown)).mono ?_); rintro e w1 ⟨rfl, b1⟩)
    go_ret2
    exact ⟨by unfold rkF; rw [HE.out]; rfl, chain (w := w) (by go_grown) b1⟩
  | true =>
    have H1 := Lib.hid h1
    cases h2 : isP P.data.toList B.data.toList ts t.data.toList with
    | false =>
      have H2 := Lib.hid h2
      have HE : Hid (rkB P.data.toList B.data.toList ts t.data.toList = false) := by show _ = _; unfold rkB; rw [h2]; simp
      clear h1 h2
      go_enter Tryd.func23, Tryd.ntmps23
      go_wp2_with (first | (go_at_call 38; (with_reducible refine (HI.out true H1.out _ (by go_grown)).mono ?_); rintro e w1 ⟨rfl, b1⟩; obtain ⟨c0, c1, c2, hz⟩ := box_kept b1; have B1 : Below w.heap.size w w1 := chain (w := w) (by go_grown) b1) | (go_at_call 49; (with_reducible refine (HP.out false H1.out H2.out _ B1).mono ?_); rintro e w2 ⟨rfl, b2⟩))
      go_ret2
      exact ⟨by unfold rkF; rw [HE.out]; rfl, chain B1 b2⟩
    | true =>
      have H2 := Lib.hid h2
      have HE : Hid (rkB P.data.toList B.data.toList ts t.data.toList = true) := by show _ = _; unfold rkB; rw [h1, h2]; rfl
      have h8 : P.size ≤ 8 := (sch_facts h1).1
      obtain ⟨n, hn⟩ : ∃ n, n = P.size := ⟨_, rfl⟩
      have HPN : Hid (P.data.toList.length = n) := by show _ = _; rw [hn]; simp
      rw [← hn] at HN h8
      clear h1 h2 hn
      go_enter Tryd.func23, Tryd.ntmps23
      go_wp2_with (first
        | (go_at_call 38; (with_reducible refine (HI.out true H1.out _ (by go_grown)).mono ?_); rintro e w1 ⟨rfl, b1⟩; obtain ⟨c0, c1, c2, hz⟩ := box_kept b1; have B1 : Below w.heap.size w w1 := chain (w := w) (by go_grown) b1)
        | (go_at_call 49; (with_reducible refine (HP.out true H1.out H2.out _ B1).mono ?_); rintro e w2 ⟨rfl, b2⟩; obtain ⟨d0, d1, d2, dz⟩ := keep3 hz c0 c1 c2 b2; have B2 := chain B1 b2)
        | (go_at_call 50; (with_reducible refine (HN.out H1.out _ B2).mono ?_); rintro e w3 ⟨⟨L, va, vc, bm, N, ga, gc, g, rfl, hk⟩, b3⟩; have B3 := chain B2 b3; have HK := Lib.hid hk; clear hk)
        | (go_at_call 51; (with_reducible refine (walk_rank HPN.out h8 HK.out H2.out _ (Below.refl _ _)).mono ?_); rintro e w4 ⟨rfl, b4⟩))
      go_ret2
      exact ⟨by unfold rkF; rw [HE.out]; rfl, chain B3 b4⟩
end Go.Proofs.YtaomcimmhlpflaaDoor

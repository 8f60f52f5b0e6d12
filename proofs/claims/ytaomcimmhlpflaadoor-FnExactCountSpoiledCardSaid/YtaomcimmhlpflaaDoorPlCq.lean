/-
  How many texts are spoiled: both sides.
-/
import Derived.Test.YtaomcimmhlpflaaDoorPlCs
namespace Go.Proofs.YtaomcimmhlpflaaDoor
open Go.RowKit Go.Maps

def spF (P B : List UInt8) (ts : List (List UInt8)) : Int := if schB P B ts = true then (plF P B [] [] : Int) - (plF P B ts [] : Int) else 0
theorem sch_nil {P B : List UInt8} {ts : List (List UInt8)} (h : schB P B ts = true) : schB P B [] = true := by
  unfold schB at h ⊢
  simp only [Bool.and_eq_true] at h ⊢
  exact ⟨h.1, by decide, rfl⟩
theorem rd_nil (w : World) : Rd [] (.slice none 0 0) w := (Strs.nil 0 w).rd
/-- What a walk counts where it begins. -/
theorem walk_first {P B : List UInt8} {ts L : List (List UInt8)} {n : Nat} (hn : P.length = n) (h8 : n ≤ 8) (hne : ∀ x ∈ ts, x ≠ []) {va : Option Addr} {vc bm N : Nat} {ga : Option Addr} {gc g : Nat} {w1 : World} (hk : PWk P B n ts L va vc bm N ga gc g w1) (W : World) (hW : Below w1.heap.size w1 W) :
    Calls Tryd.prog 56 #[.agg #[.slice va L.length vc, .map (some bm), .slice ga n gc, .slice (some ⟨g, 0, none⟩) (n + 1) (n + 1), .int .i64 0, .string ⟨#[]⟩, .bool false]] W fun e w' => e = .returned (.int .i64 (plF P B ts [] : Nat)) ∧ Below W.heap.size W w' :=
  walk_done (s := ⟨#[]⟩) (p := 0) (u := ⟨#[]⟩) (l := false) hn h8 hk (.inr ⟨rfl, rfl, Way.start [] (fun x hx => hne x (hk.mem x hx))⟩) W hW
set_option maxRecDepth 100000 in
set_option maxHeartbeats 4000000 in
theorem iCountSp_any (P B : ByteArray) (ts : List (List UInt8)) (v : Value) (w : World) (hf : Fit P B ts) (h : Rd ts v w) (hmx : MaxIs w) :
    Calls Tryd.prog 31 #[.agg #[.string P, .string B, v]] w fun e w' => e = .returned (.tuple #[.int .i64 (spF P.data.toList B.data.toList ts), .bool (schB P.data.toList B.data.toList ts)]) ∧ Below w.heap.size w w' := by
  have HI := Lib.hid (fun (b : Bool) (hb : schB P.data.toList B.data.toList ts = b) (W : World) (hW : Below w.heap.size w W) => iIsS_b P B ts v b W hf (h.below hW) hb)
  have HN := Lib.hid (fun (hb : schB P.data.toList B.data.toList ts = true) (W : World) (hW : Below w.heap.size w W) => newWalk_any P B ts v W hb (h.below hW) (hmx.below hW))
  have HN0 := Lib.hid (fun (hb : schB P.data.toList B.data.toList ts = true) (W : World) (hW : Below w.heap.size w W) => newWalk_any P B [] (.slice none 0 0) W (sch_nil hb) (rd_nil W) (hmx.below hW))
  obtain ⟨a, cap, rfl, _⟩ := h
  obtain ⟨m, hm⟩ : ∃ m, m = ts.length := ⟨_, rfl⟩
  rw [← hm] at HI HN ⊢
  clear hmx hf hm
  cases h1 : schB P.data.toList B.data.toList ts with
  | false =>
    have H1 := Lib.hid h1
    clear h1
    go_enter Tryd.func31, Tryd.ntmps31
    go_wp2_with (go_at_call 38; (with_reducible refine (HI.out false H1.out _ (by go_grown)).mono ?_); rintro e w1 ⟨rfl, b1⟩)
    go_ret2
    exact ⟨by unfold spF; rw [H1.out]; rfl, chain (w := w) (by go_grown) b1⟩
  | true =>
    have H1 := Lib.hid h1
    have h8 : P.size ≤ 8 := (sch_facts h1).1
    have H7 := Lib.hid (sch_facts h1).2.2.2.2.2.2
    obtain ⟨n, hn⟩ : ∃ n, n = P.size := ⟨_, rfl⟩
    have HPN : Hid (P.data.toList.length = n) := by show _ = _; rw [hn]; simp
    rw [← hn] at HN HN0 h8
    have HPL := Lib.hid (show P.data.toList.length ≤ 8 by rw [HPN.out]; exact h8)
    have hx0 : plF P.data.toList B.data.toList [] [] ≤ 208827064576 := plF_le HPL.out
    have hx1 : plF P.data.toList B.data.toList ts [] ≤ 208827064576 := plF_le HPL.out
    obtain ⟨x0, hx0d⟩ : ∃ x0, x0 = plF P.data.toList B.data.toList [] [] := ⟨_, rfl⟩
    obtain ⟨x1, hx1d⟩ : ∃ x1, x1 = plF P.data.toList B.data.toList ts [] := ⟨_, rfl⟩
    rw [← hx0d] at hx0
    rw [← hx1d] at hx1
    have HX0 := Lib.hid hx0d
    have HX1 := Lib.hid hx1d
    clear h1 hn hx0d hx1d
    have hd1 : (0 : Int) ≤ (x0 : Int) := by omega
    have hd2 : (0 : Int) ≤ (x1 : Int) := by omega
    have hd3 : (x0 : Int) ≤ 208827064576 := by omega
    have hd4 : (x1 : Int) ≤ 208827064576 := by omega
    have HN00 : Hid (∀ x ∈ ([] : List (List UInt8)), x ≠ []) := fun x hx => by cases hx
    go_enter Tryd.func31, Tryd.ntmps31
    go_wp2_with (first
      | (go_at_call 38; (with_reducible refine (HI.out true H1.out _ (by go_grown)).mono ?_); rintro e w1 ⟨rfl, b1⟩; obtain ⟨c0, c1, c2, hz⟩ := box_kept b1; have hbx := heapk (heap_alloc_last w _) b1; have B1 : Below w.heap.size w w1 := chain (w := w) (by go_grown) b1)
      | (go_at_call 50; (with_reducible refine (HN.out H1.out _ B1).mono ?_); rintro e w2 ⟨⟨L, va, vc, bm, N, ga, gc, g, rfl, hk⟩, b2⟩; obtain ⟨d0, d1, d2, dz⟩ := keep3 hz c0 c1 c2 b2; have hbx2 := heapk hbx b2; have B2 := chain B1 b2; have HK := Lib.hid hk; clear hk)
      | (go_at_call 56; (with_reducible refine (walk_first HPN.out h8 H7.out HK.out _ (Below.refl _ _)).mono ?_); rw [← HX1.out]; rintro e w3 ⟨rfl, b3⟩; obtain ⟨e0, e1, e2, ez⟩ := keep3 dz d0 d1 d2 b3; have hbx3 := heapk hbx2 b3; obtain ⟨q0, q1, q2, qf, qs⟩ := blk_cells hbx3; have B3 := chain B2 b3)
      | (go_at_call 50; (with_reducible refine (HN0.out H1.out _ (B3.setCell (Nat.le_refl _) _)).mono ?_); rintro e w4 ⟨⟨L', va', vc', bm', N', ga', gc', g', rfl, hk'⟩, b4⟩; have B4 := chain (B3.setCell (Nat.le_refl _) _) b4; have HK' := Lib.hid hk'; clear hk')
      | (go_at_call 56; (with_reducible refine (walk_first HPN.out h8 HN00.out HK'.out _ (Below.refl _ _)).mono ?_); rw [← HX0.out]; rintro e w5 ⟨rfl, b5⟩))
    go_ret2
    have hwrap : IntKind.i64.wrap ((x0 : Int) - (x1 : Int)) = (x0 : Int) - (x1 : Int) := IntWalk.i64_in _ (by omega)
    have hsp : spF P.data.toList B.data.toList ts = (x0 : Int) - (x1 : Int) := by unfold spF; rw [if_pos H1.out, ← HX0.out, ← HX1.out]
    refine ⟨?_, chain B4 b5⟩
    rw [hsp]
    first
      | rfl
      | exact (show _ = Ending.returned (Value.tuple #[.int .i64 (IntKind.i64.wrap ((x0 : Int) - (x1 : Int))), .bool true]) from rfl).trans (by rw [hwrap])
set_option maxRecDepth 100000 in
set_option maxHeartbeats 4000000 in
theorem sCountSp_any (P B : ByteArray) (ts : List (List UInt8)) (v : Value) (w : World) (hf : Fit P B ts) (h : Rd ts v w) :
    Calls Tryd.prog 30 #[.agg #[.string P, .string B, v]] w fun e w' => e = .returned (.tuple #[.int .i64 (spF P.data.toList B.data.toList ts), .bool (schB P.data.toList B.data.toList ts)]) ∧ Below w.heap.size w w' := by
  have mixed : Tryd.prog.follows .mixedOrders = true := by kernel_rfl
  have late : Tryd.prog.follows .lateStores = true := by kernel_rfl
  have HI := Lib.hid (fun (b : Bool) (hb : schB P.data.toList B.data.toList ts = b) (W : World) (hW : Below w.heap.size w W) => sGd_b P B ts v b W hf (h.below hW) hb)
  cases h1 : schB P.data.toList B.data.toList ts with
  | false =>
    have H1 := Lib.hid h1
    obtain ⟨a, cap, rfl, _⟩ := h
    obtain ⟨m, hm⟩ : ∃ m, m = ts.length := ⟨_, rfl⟩
    rw [← hm] at HI ⊢
    clear h1 hf hm
    go_enter Tryd.func30, Tryd.ntmps30
    go_wp2_with (go_at_call 33; (with_reducible refine (HI.out false H1.out _ (by go_grown)).mono ?_); rintro e w1 ⟨rfl, b1⟩)
    go_ret2
    exact ⟨by unfold spF; rw [H1.out]; rfl, chain (w := w) (by go_grown) b1⟩
  | true =>
    have H1 := Lib.hid h1
    have HPL : Hid (P.data.toList.length ≤ 8) := by have h2 := (sch_facts h1).1; show _ ≤ _; simpa using h2
    have hx0 : plF P.data.toList B.data.toList [] [] ≤ 208827064576 := plF_le HPL.out
    have hx1 : plF P.data.toList B.data.toList ts [] ≤ 208827064576 := plF_le HPL.out
    obtain ⟨x0, hx0d⟩ : ∃ x0, x0 = plF P.data.toList B.data.toList [] [] := ⟨_, rfl⟩
    obtain ⟨x1, hx1d⟩ : ∃ x1, x1 = plF P.data.toList B.data.toList ts [] := ⟨_, rfl⟩
    have HN : Hid (∀ (W : World), Below w.heap.size w W → Calls Tryd.prog 46 #[.agg #[.string P, .string B, v], .string ⟨#[]⟩] W fun e w' => e = .returned (.int .i64 (x1 : Nat)) ∧ Below W.heap.size W w') := fun W hW => by
      rw [hx1d]; exact plFrom_any P B ⟨#[]⟩ ts v W (by decide) h1 (h.below hW)
    have HN0 : Hid (∀ (W : World), Calls Tryd.prog 46 #[.agg #[.string P, .string B, .slice none 0 0], .string ⟨#[]⟩] W fun e w' => e = .returned (.int .i64 (x0 : Nat)) ∧ Below W.heap.size W w') := fun W => by
      rw [hx0d]; exact plFrom_any P B ⟨#[]⟩ [] (.slice none 0 0) W (by decide) (sch_nil h1) (rd_nil W)
    have HE : Hid (spF P.data.toList B.data.toList ts = (x0 : Int) - (x1 : Int)) := by show _ = _; unfold spF; rw [if_pos h1, hx0d, hx1d]
    rw [← hx0d] at hx0
    rw [← hx1d] at hx1
    obtain ⟨a, cap, rfl, _⟩ := h
    obtain ⟨m, hm⟩ : ∃ m, m = ts.length := ⟨_, rfl⟩
    rw [← hm] at HI HN ⊢
    clear h1 hx0d hx1d hf hm
    have hd1 : (0 : Int) ≤ (x0 : Int) := by omega
    have hd2 : (0 : Int) ≤ (x1 : Int) := by omega
    have hd3 : (x0 : Int) ≤ 208827064576 := by omega
    have hd4 : (x1 : Int) ≤ 208827064576 := by omega
    go_enter Tryd.func30, Tryd.ntmps30
    go_wp2_with (go_at_call 33; (with_reducible refine (HI.out true H1.out _ (by go_grown)).mono ?_); rintro e w1 ⟨rfl, b1⟩; obtain ⟨c0, c1, c2, hz⟩ := box_kept b1; have B1 : Below w.heap.size w w1 := chain (w := w) (by go_grown) b1)
    go_region_with (first
      | (go_at_call 46; (with_reducible refine (HN0.out _).mono ?_); rintro e w2 ⟨rfl, b2⟩; have B2 : Below w1.heap.size w1 w2 := chain (w := w1) (by go_grown) b2; obtain ⟨d0, d1, d2, dz⟩ := keep3 hz c0 c1 c2 B2)
      | (go_at_call 46; (with_reducible refine (HN.out _ (B1.trans (B2.mono B1.size))).mono ?_); rintro e w3 ⟨rfl, b3⟩; have B3 : Below w1.heap.size w1 w3 := chain B2 b3))
    all_goals go_wp2
    all_goals
      have hwrap : IntKind.i64.wrap ((x0 : Int) - (x1 : Int)) = (x0 : Int) - (x1 : Int) := IntWalk.i64_in _ (by omega)
      go_ret2
      refine ⟨?_, chain B1 B3⟩
      exact (show _ = Ending.returned (Value.tuple #[.int .i64 (IntKind.i64.wrap ((x0 : Int) - (x1 : Int))), .bool true]) from rfl).trans (by rw [hwrap, HE.out])
end Go.Proofs.YtaomcimmhlpflaaDoor

/-
  The law of DigitsOfSigned.
-/
import Derived.Test.YtpmkdpkegmbleaaRpH
import Derived.Test.YtpmkdpkegmbleaaSgIs
namespace Go.Proofs.Ytpmkdpkegmbleaa
open Go.RowKit

set_option maxRecDepth 100000 in
set_option maxHeartbeats 1600000 in
theorem replace_plain (b B : Nat) (s t : ByteArray) (Good : World → Nat → Prop) (sl : Value) (w0 w : World) (hB : B ≤ b) (hbl : Below B w0 w) (hr : Raw b 0 sl w)
    (hG : ∀ W g a v, a.block = b → Good W g → Good (W.setCell a v) g) (hGd : ∀ W g, Good W g → Good W.drew g)
    (hbuild : ∀ W, W = w.setCell ⟨b, 1, none⟩ (.int .i32 1) → Calls Try.prog 23 #[.pointer (some ⟨b, 0, none⟩)] W fun e w' => ∃ g, e = .returned (.iface 66 (.pointer (some ⟨g, 0, none⟩))) ∧ W.heap.size ≤ g ∧ Good w' g ∧ Below W.heap.size W w')
    (hrep : ∀ W g, Good W g → Calls Try.prog 85 #[.pointer (some ⟨g, 0, none⟩), .string s] W fun e w' => e = .returned (.string t) ∧ Below W.heap.size W w') :
    Calls Try.prog 12 #[.pointer (some ⟨b, 0, none⟩), .string s] w fun e w' => e = .returned (.string t) ∧ Below B w0 w' := by
  have HD := Lib.hid (do_any b w (fun w' => ∃ g, w'.cell? ⟨b, 3, none⟩ = some (.iface 66 (.pointer (some ⟨g, 0, none⟩))) ∧ Good w' g ∧ Below B w0 w' ∧ b < w'.heap.size) hr.c0 hr.c1 (hr.fr 1) (by
    have h1 : Below B w0 (w.setCell ⟨b, 1, none⟩ (.int .i32 1)) := hbl.setCell (p := ⟨b, 1, none⟩) hB _
    exact once_any b B 66 Good sl w0 _ hB h1 (hr.lock 1) hG (hbuild _ rfl)))
  have HREP := Lib.hid hrep
  have HG := Lib.hid hG
  have HGD := Lib.hid hGd
  have hmf : ∀ (fn : Fn) (first cap : Array Value) (w : World), (Instr.makeFunc fn first cap).run Try.prog w = .ok (.func fn first cap) w := fun _ _ _ _ => rfl
  clear hr hbl hG hGd hbuild hrep
  go_enter Try.func12, Try.ntmps12
  go_wp2_with (first | (go_at_call 85; refine (HREP.out _ g (by first | exact HGD.out _ _ (HG.out _ _ _ _ rfl (HG.out _ _ _ _ rfl hgd)) | exact HG.out _ _ _ _ rfl (HG.out _ _ _ _ rfl (HGD.out _ _ hgd)))).mono ?_; rintro e w3 ⟨rfl, b3⟩) | (go_at_call 18; refine HD.out.mono ?_; rintro e w1 ⟨rfl, w2, hmid, ⟨g, hc3, hgd, hb2, hlt⟩, rfl⟩; have hc3b : ((w2.drew.setCell ⟨b, 0, none⟩ (.int .u32 1)).setCell ⟨b, 1, none⟩ (.int .i32 0)).cell? ⟨b, 3, none⟩ = some (.iface 66 (.pointer (some ⟨g, 0, none⟩))) := (World.cell?_setCell_other _ _ _ _ (by simp)).trans ((World.cell?_setCell_other _ _ _ _ (by simp)).trans hc3)))
  go_ret
  refine ⟨rfl, (((hb2.setCell (p := ⟨b, 0, none⟩) hB _).setCell (p := ⟨b, 1, none⟩) hB _).drew).trans (b3.mono ?_)⟩
  simp [World.setCell]
  omega
theorem newRep6 (a : Nat) (x0 x1 x2 x3 x4 x5 : List UInt8) (w : World)
    (h0 : w.cell? ⟨a, 0, none⟩ = some (strV x0)) (h1 : w.cell? ⟨a, 1, none⟩ = some (strV x1)) (h2 : w.cell? ⟨a, 2, none⟩ = some (strV x2)) (h3 : w.cell? ⟨a, 3, none⟩ = some (strV x3)) (h4 : w.cell? ⟨a, 4, none⟩ = some (strV x4)) (h5 : w.cell? ⟨a, 5, none⟩ = some (strV x5)) :
    Calls Try.prog 11 #[.slice (some ⟨a, 0, none⟩) 6 6] w fun e w' => ∃ g cap w2, e = .returned (.pointer (some ⟨w2.heap.size, 0, none⟩)) ∧ Below w.heap.size w w2 ∧ w.heap.size ≤ g ∧ g < w2.heap.size ∧ (w2.cell? ⟨g, 0, none⟩ = some (strV x0) ∧ w2.cell? ⟨g, 1, none⟩ = some (strV x1) ∧ w2.cell? ⟨g, 2, none⟩ = some (strV x2) ∧ w2.cell? ⟨g, 3, none⟩ = some (strV x3) ∧ w2.cell? ⟨g, 4, none⟩ = some (strV x4) ∧ w2.cell? ⟨g, 5, none⟩ = some (strV x5)) ∧
      w' = w2.alloc (.cells #[.int .u32 0, .int .i32 0, .int .u32 0, .nilIface, .slice (some ⟨g, 0, none⟩) 6 cap] 45) := by
  refine (newRep [x0, x1, x2, x3, x4, x5] a w (by simp) (by simp) (by simp) ?_).mono ?_
  · intro j u hj
    match j, hj with
    | 0, hj => simp at hj; subst hj; exact h0
    | 1, hj => simp at hj; subst hj; exact h1
    | 2, hj => simp at hj; subst hj; exact h2
    | 3, hj => simp at hj; subst hj; exact h3
    | 4, hj => simp at hj; subst hj; exact h4
    | 5, hj => simp at hj; subst hj; exact h5
  · rintro e w' ⟨g, cap, w2, he, hb, hg, hl, hc, hw⟩
    exact ⟨g, cap, w2, he, hb, hg, hl, ⟨hc 0 (by simp), hc 1 (by simp), hc 2 (by simp), hc 3 (by simp), hc 4 (by simp), hc 5 (by simp)⟩, hw⟩
/-- The Replacer of signs by nothing, put to a text. -/
theorem plainRep (g cap : Nat) (s : ByteArray) (w0 w2 : World) (hs : s.size ≤ 23) (hb0 : Below w0.heap.size w0 w2) (hg : g < w2.heap.size)
    (h0 : w2.cell? ⟨g, 0, none⟩ = some (strV [42])) (h1 : w2.cell? ⟨g, 1, none⟩ = some (strV [])) (h2 : w2.cell? ⟨g, 2, none⟩ = some (strV [43])) (h3 : w2.cell? ⟨g, 3, none⟩ = some (strV [])) (h4 : w2.cell? ⟨g, 4, none⟩ = some (strV [45])) (h5 : w2.cell? ⟨g, 5, none⟩ = some (strV [])) :
    Calls Try.prog 12 #[.pointer (some ⟨w2.heap.size, 0, none⟩), .string s] (w2.alloc (.cells #[.int .u32 0, .int .i32 0, .int .u32 0, .nilIface, .slice (some ⟨g, 0, none⟩) 6 cap] 45)) fun e w' => e = .returned (.string ⟨(nos s.data.toList).toArray⟩) ∧ Below w0.heap.size w0 w' := by
  have hsz := hb0.size
  have hb1 : Below w0.heap.size w0 (w2.alloc (.cells #[.int .u32 0, .int .i32 0, .int .u32 0, .nilIface, .slice (some ⟨g, 0, none⟩) 6 cap] 45)) := hb0.alloc hsz _
  have hraw := Raw.made w2 (.slice (some ⟨g, 0, none⟩) 6 cap)
  refine replace_plain w2.heap.size w0.heap.size s _ (fun W g => (∃ t0, BRw W g (.slice (some ⟨t0, 0, none⟩) 3 3) sgP) ∧ w2.heap.size ≠ g) _ w0 _ hsz hb1 hraw ?_ ?_ ?_ ?_
  · rintro W g a v ha ⟨⟨t0, h⟩, hne⟩; exact ⟨⟨t0, h.other (by rw [ha]; exact fun e => hne e.symm) v⟩, hne⟩
  · rintro W g ⟨⟨t0, h⟩, hne⟩; exact ⟨⟨t0, h.of_block rfl⟩, hne⟩
  · rintro W rfl
    have hgne : ∀ j, ((w2.alloc (.cells #[.int .u32 0, .int .i32 0, .int .u32 0, .nilIface, .slice (some ⟨g, 0, none⟩) 6 cap] 45)).setCell ⟨w2.heap.size, 1, none⟩ (.int .i32 1)).cell? ⟨g, j, none⟩ = w2.cell? ⟨g, j, none⟩ := by
      intro j
      rw [World.cell?_setCell_other _ _ _ _ (by intro e; injection e; omega), World.cell?_alloc_past _ _ _ hg]
    refine (build_plain w2.heap.size g cap _ (by simp [World.setCell]; omega) (hraw.lock 1).c4 ((hgne 0).trans h0) ((hgne 1).trans h1) ((hgne 2).trans h2) ((hgne 3).trans h3) ((hgne 4).trans h4) ((hgne 5).trans h5)).mono ?_
    rintro e w' ⟨g', he, hg', ht, hb⟩
    have hlt := (hraw.lock 1).lt
    exact ⟨g', he, hg', ⟨ht, by omega⟩, hb⟩
  · rintro W g ⟨⟨t0, h⟩, _⟩
    exact rep_plain s g t0 W hs h
theorem iIs_p (s : ByteArray) (b : Bool) (w : World) (hs : s.size ≤ maxLen) (h : sigB s.data.toList = b) :
    Calls Try.prog 10 #[.string s] w fun e w' => e = .returned (.bool b) ∧ w = w' := by subst h; exact iIsSigned_any s w hs
/-- What both answer. -/
def dsT (s : ByteArray) : ByteArray := if sigB s.data.toList = true then ⟨(nos s.data.toList).toArray⟩ else ⟨#[]⟩
set_option maxHeartbeats 400000 in
theorem iDigs_any (s : ByteArray) (w : World) (hs : s.size ≤ maxLen) :
    Calls Try.prog 6 #[.string s] w fun e w' => e = .returned (.tuple #[.string (dsT s), .bool (sigB s.data.toList)]) ∧ Below w.heap.size w w' := by
  cases hg : sigB s.data.toList with
  | false =>
    have HG := Lib.hid hg
    have HT : Hid (dsT s = ⟨#[]⟩) := by show _ = _; unfold dsT; rw [hg]; rfl
    clear hg
    go_enter Try.func6, Try.ntmps6
    go_wp2_with (go_at_call 10; go_must ((with_reducible refine (iIs_p _ false _ hs HG.out).mono ?_); rintro e w' ⟨rfl, rfl⟩))
    go_ret2
    exact ⟨ret_sb2 (by rw [HT.out]) rfl, Below.refl _ _⟩
  | true =>
    have HG := Lib.hid hg
    have HT : Hid (dsT s = ⟨(nos s.data.toList).toArray⟩) := by show _ = _; unfold dsT; rw [hg]; rfl
    have hs14 : s.size ≤ 23 := by have := sigB_len hg; simp at this; omega
    clear hg
    go_enter Try.func6, Try.ntmps6
    go_wp2_with (first | (go_at_call 10; go_must ((with_reducible refine (iIs_p _ true _ hs HG.out).mono ?_); rintro e w' ⟨rfl, rfl⟩)) | (go_at_call 11; go_must ((refine (newRep6 w.heap.size [42] [] [43] [] [45] [] _ (by simp [strV]) (by simp [strV]) (by simp [strV]) (by simp [strV]) (by simp [strV]) (by simp [strV])).mono ?_); rintro e w1 ⟨g, cap, w2, rfl, hb2, hg1, hg2, ⟨h0, h1, h2, h3, h4, h5⟩, rfl⟩; have B2 := chain (w := w) (by go_grown) hb2; have C0 := Lib.hid h0; have C1 := Lib.hid h1; have C2 := Lib.hid h2; have C3 := Lib.hid h3; have C4 := Lib.hid h4; have C5 := Lib.hid h5; clear h0 h1 h2 h3 h4 h5 hb2)) | (go_at_call 12; go_must ((refine (plainRep g cap s w w2 hs14 B2 hg2 C0.out C1.out C2.out C3.out C4.out C5.out).mono ?_); rintro e w3 ⟨rfl, hb3⟩)))
    go_ret2
    exact ⟨ret_sb2 (by rw [HT.out]) rfl, hb3⟩
theorem sDigs_any (s : ByteArray) (w : World) (hs : s.size ≤ maxLen) :
    Calls Try.prog 5 #[.string s] w fun e w' => e = .returned (.tuple #[.string (dsT s), .bool (sigB s.data.toList)]) ∧ Below w.heap.size w w' := by
  have HP := Lib.hid (plain_any s w hs)
  cases hg : sigB s.data.toList with
  | false =>
    have HT : Hid (dsT s = ⟨#[]⟩) := by show _ = _; unfold dsT; rw [hg]; rfl
    rw [hg] at HP
    clear hg
    go_enter Try.func5, Try.ntmps5
    go_wp2_with (go_at_call 9; go_must ((with_reducible refine HP.out.mono ?_); rintro e w' ⟨t, rfl, _, b1⟩))
    go_ret2
    exact ⟨ret_sb2 (by rw [HT.out]) rfl, b1⟩
  | true =>
    have HT : Hid (dsT s = ⟨(nos s.data.toList).toArray⟩) := by show _ = _; unfold dsT; rw [hg]; rfl
    rw [hg] at HP
    clear hg
    go_enter Try.func5, Try.ntmps5
    go_wp2_with (go_at_call 9; go_must ((with_reducible refine HP.out.mono ?_); rintro e w' ⟨t, rfl, ht, b1⟩; have HTT := Lib.hid (ht rfl); clear ht))
    go_ret2
    exact ⟨ret_sb2 (by rw [HT.out, HTT.out]) rfl, b1⟩
theorem FnExactDigitsOfSigned_law (s : ByteArray) (hs : s.size ≤ maxLen) (w : World) :
    Calls Try.prog 3 #[.string s] w fun e w' => e = .returned (.bool true) ∧ Below w.heap.size w w' := by
  have hm := hs
  unfold maxLen at hs
  by_cases hb : s.size ≤ 1048576
  · go_enter Try.func3, Try.ntmps3
    go_wp2_with (first | (go_at_call 5; go_must ((with_reducible refine (sDigs_any _ _ hm).mono ?_); rintro e w1 ⟨rfl, b1⟩)) | (go_at_call 6; go_must ((with_reducible refine (iDigs_any _ _ hm).mono ?_); rintro e w2 ⟨rfl, b2⟩)))
    go_ret
    exact ⟨rfl, chain b1 b2⟩
  · go_enter Try.func3, Try.ntmps3
    go_wp2_with fail
    go_ret
    exact ⟨rfl, Below.refl _ _⟩
end Go.Proofs.Ytpmkdpkegmbleaa

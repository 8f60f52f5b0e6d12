/-
  A new Replacer, and the text that it makes.
-/
import Derived.Test.YtpmkdpkegmbleaaRpD
import Derived.Test.YtpmkdpkegmbleaaSgStrs
namespace Go.Proofs.Ytpmkdpkegmbleaa
open Go.RowKit

theorem Strs.form_pos {B : Nat} {ts : List (List UInt8)} {v : Value} {w : World} (h : Strs B ts v w) (h0 : 0 < ts.length) :
    ∃ g cap, v = .slice (some ⟨g, 0, none⟩) ts.length cap ∧ B ≤ g ∧ g < w.heap.size ∧ (∀ i, i < ts.length → w.cell? ⟨g, i, none⟩ = some (strV (ts.getD i []))) := by
  rcases h.form with ⟨_, h1⟩ | ⟨g, cap, h1, h2, h3, h4, _⟩
  · omega
  · exact ⟨g, cap, h1, h2, h3, h4⟩
set_option maxRecDepth 100000 in
theorem newRep (us : List (List UInt8)) (a : Nat) (w : World) (h0 : 0 < us.length) (h2 : us.length % 2 = 0) (hl : us.length ≤ 100)
    (hc : ∀ j u, us[j]? = some u → w.cell? ⟨a, j, none⟩ = some (strV u)) :
    Calls Try.prog 11 #[.slice (some ⟨a, 0, none⟩) us.length us.length] w fun e w' => ∃ g cap w2, e = .returned (.pointer (some ⟨w2.heap.size, 0, none⟩)) ∧ Below w.heap.size w w2 ∧ w.heap.size ≤ g ∧ g < w2.heap.size ∧ (∀ i, i < us.length → w2.cell? ⟨g, i, none⟩ = some (strV (us.getD i []))) ∧
      w' = w2.alloc (.cells #[.int .u32 0, .int .i32 0, .int .u32 0, .nilIface, .slice (some ⟨g, 0, none⟩) us.length cap] 45) := by
  have f1 : ((us.length : Int)).tmod 2 = 0 := by rw [Int.tmod_eq_emod_of_nonneg (by omega)]; omega
  have HC := Lib.hid hc
  have H0 := Lib.hid h0
  clear hc
  go_enter Try.func11, Try.ntmps11
  go_wp2_with (at_builtin; refine append_strs _ rfl _ _ rfl w.heap.size [] _ rfl (Strs.nil _ _) a us rfl HC.out (by simp; omega) (Nat.le_refl _) ?_; intro v1 w2 hus1 hb2; obtain ⟨g, cap, rfl, hge, hgl, hgc⟩ := hus1.form_pos (by simpa using H0.out); have HGC := Lib.hid hgc; clear hgc hus1; simp only [List.nil_append])
  go_ret
  exact ⟨g, cap, w2, rfl, hb2, hge, hgl, by simpa using HGC.out, by simp⟩
/-- A Replacer that is not yet built. -/
structure Raw (b : Nat) (m : Int) (sl : Value) (w : World) : Prop where
  c0 : w.cell? ⟨b, 0, none⟩ = some (.int .u32 0)
  c1 : w.cell? ⟨b, 1, none⟩ = some (.int .i32 m)
  c3 : w.cell? ⟨b, 3, none⟩ = some .nilIface
  c4 : w.cell? ⟨b, 4, none⟩ = some sl
  fr : ∀ j, w.frozen? ⟨b, j, none⟩ = false
  lt : b < w.heap.size
theorem Raw.below {b : Nat} {m : Int} {sl : Value} {w w' : World} (h : Raw b m sl w) {B : Nat} (k : Below B w w') (hb : b < B) : Raw b m sl w' :=
  ⟨(k.cell (p := ⟨b, 0, none⟩) hb).trans h.c0, (k.cell (p := ⟨b, 1, none⟩) hb).trans h.c1, (k.cell (p := ⟨b, 3, none⟩) hb).trans h.c3, (k.cell (p := ⟨b, 4, none⟩) hb).trans h.c4, fun j => (k.frozen (p := ⟨b, j, none⟩) hb).trans (h.fr j), by have := k.size; have := h.lt; omega⟩
theorem Raw.made (w : World) (sl : Value) : Raw w.heap.size 0 sl (w.alloc (.cells #[.int .u32 0, .int .i32 0, .int .u32 0, .nilIface, sl] 45)) :=
  ⟨by simp, by simp, by simp, by simp, fun j => by simp, by simp⟩
theorem Raw.lock {b : Nat} {m : Int} {sl : Value} {w : World} (h : Raw b m sl w) (m' : Int) : Raw b m' sl (w.setCell ⟨b, 1, none⟩ (.int .i32 m')) := by
  refine ⟨?_, World.cell?_setCell_same _ _ _ h.c1, ?_, ?_, fun j => ?_, ?_⟩
  · rw [World.cell?_setCell_other _ _ _ _ (by simp)]; exact h.c0
  · rw [World.cell?_setCell_other _ _ _ _ (by simp)]; exact h.c3
  · rw [World.cell?_setCell_other _ _ _ _ (by simp)]; exact h.c4
  · rw [← h.fr j]; simp
  · have := h.lt; simpa [World.setCell] using this
set_option maxRecDepth 100000 in
set_option maxHeartbeats 1600000 in
theorem once_any (b B : Nat) (ty : TypeId) (Good : World → Nat → Prop) (sl : Value) (w0 w : World) (hB : B ≤ b) (hbl : Below B w0 w) (hr : Raw b 1 sl w)
    (hG : ∀ W g a v, a.block = b → Good W g → Good (W.setCell a v) g)
    (hbuild : Calls Try.prog 23 #[.pointer (some ⟨b, 0, none⟩)] w fun e w' => ∃ g, e = .returned (.iface ty (.pointer (some ⟨g, 0, none⟩))) ∧ w.heap.size ≤ g ∧ Good w' g ∧ Below w.heap.size w w') :
    Calls Try.prog 19 #[.pointer (some ⟨b, 0, none⟩)] w fun e w' => e = .returned (.tuple #[]) ∧ Mid b w' ∧ (∃ g, w'.cell? ⟨b, 3, none⟩ = some (.iface ty (.pointer (some ⟨g, 0, none⟩))) ∧ Good w' g ∧ Below B w0 w' ∧ b < w'.heap.size) := by
  have HR := Lib.hid hr
  have HB := Lib.hid hbuild
  have HBL := Lib.hid hbl
  have HG := Lib.hid hG
  clear hr hbuild hbl hG
  go_enter Try.func19, Try.ntmps19
  go_wp2_with (go_at_call 23; refine HB.out.mono ?_; rintro e w2 ⟨g, rfl, hge, hgd, b2⟩; have HR2 := Lib.hid (HR.out.below b2 HR.out.lt); have c3 := HR2.out.c3; have c4 := HR2.out.c4; have z3 := HR2.out.fr 3; have z4 := HR2.out.fr 4; have HGD := Lib.hid hgd; clear hgd)
  go_end0
  have hR := HR2.out
  have e1 : B ≤ w.heap.size := by have := HR.out.lt; omega
  have b3 := (((HBL.out.trans (b2.mono e1)).setCell (p := ⟨b, 3, none⟩) hB (.iface ty (.pointer (some ⟨g, 0, none⟩)))).setCell (p := ⟨b, 4, none⟩) hB (.slice none 0 0))
  refine ⟨rfl, ⟨?_, ?_, ?_, ?_⟩, g, ?_, HG.out _ _ _ _ rfl (HG.out _ _ _ _ rfl HGD.out), b3, ?_⟩
  · rw [World.cell?_setCell_other _ _ _ _ (by simp), World.cell?_setCell_other _ _ _ _ (by simp)]; exact hR.c0
  · rw [World.cell?_setCell_other _ _ _ _ (by simp), World.cell?_setCell_other _ _ _ _ (by simp)]; exact hR.c1
  · have := hR.fr 0; simpa using this
  · have := hR.fr 1; simpa using this
  · rw [World.cell?_setCell_other _ _ _ _ (by simp)]; exact World.cell?_setCell_same _ _ _ hR.c3
  · have := hR.lt; simpa [World.setCell] using this
set_option maxRecDepth 100000 in
set_option maxHeartbeats 1600000 in
theorem replace_turn (b B : Nat) (s t : ByteArray) (Good : World → Nat → Prop) (sl : Value) (w0 w : World) (hB : B ≤ b) (hbl : Below B w0 w) (hr : Raw b 0 sl w)
    (hG : ∀ W g a v, a.block = b → Good W g → Good (W.setCell a v) g) (hGd : ∀ W g, Good W g → Good W.drew g)
    (hbuild : ∀ W, W = w.setCell ⟨b, 1, none⟩ (.int .i32 1) → Calls Try.prog 23 #[.pointer (some ⟨b, 0, none⟩)] W fun e w' => ∃ g, e = .returned (.iface 61 (.pointer (some ⟨g, 0, none⟩))) ∧ W.heap.size ≤ g ∧ Good w' g ∧ Below W.heap.size W w')
    (hrep : ∀ W g, Good W g → Calls Try.prog 83 #[.pointer (some ⟨g, 0, none⟩), .string s] W fun e w' => e = .returned (.string t) ∧ Below W.heap.size W w') :
    Calls Try.prog 12 #[.pointer (some ⟨b, 0, none⟩), .string s] w fun e w' => e = .returned (.string t) ∧ Below B w0 w' := by
  have HD := Lib.hid (do_any b w (fun w' => ∃ g, w'.cell? ⟨b, 3, none⟩ = some (.iface 61 (.pointer (some ⟨g, 0, none⟩))) ∧ Good w' g ∧ Below B w0 w' ∧ b < w'.heap.size) hr.c0 hr.c1 (hr.fr 1) (by
    have h1 : Below B w0 (w.setCell ⟨b, 1, none⟩ (.int .i32 1)) := hbl.setCell (p := ⟨b, 1, none⟩) hB _
    exact once_any b B 61 Good sl w0 _ hB h1 (hr.lock 1) hG (hbuild _ rfl)))
  have HREP := Lib.hid hrep
  have HG := Lib.hid hG
  have HGD := Lib.hid hGd
  have hmf : ∀ (fn : Fn) (first cap : Array Value) (w : World), (Instr.makeFunc fn first cap).run Try.prog w = .ok (.func fn first cap) w := fun _ _ _ _ => rfl
  clear hr hbl hG hGd hbuild hrep
  go_enter Try.func12, Try.ntmps12
  go_wp2_with (first | (go_at_call 83; refine (HREP.out _ g (by first | exact HGD.out _ _ (HG.out _ _ _ _ rfl (HG.out _ _ _ _ rfl hgd)) | exact HG.out _ _ _ _ rfl (HG.out _ _ _ _ rfl (HGD.out _ _ hgd)))).mono ?_; rintro e w3 ⟨rfl, b3⟩) | (go_at_call 18; refine HD.out.mono ?_; rintro e w1 ⟨rfl, w2, hmid, ⟨g, hc3, hgd, hb2, hlt⟩, rfl⟩; have hc3b : ((w2.drew.setCell ⟨b, 0, none⟩ (.int .u32 1)).setCell ⟨b, 1, none⟩ (.int .i32 0)).cell? ⟨b, 3, none⟩ = some (.iface 61 (.pointer (some ⟨g, 0, none⟩))) := (World.cell?_setCell_other _ _ _ _ (by simp)).trans ((World.cell?_setCell_other _ _ _ _ (by simp)).trans hc3)))
  go_ret
  refine ⟨rfl, (((hb2.setCell (p := ⟨b, 0, none⟩) hB _).setCell (p := ⟨b, 1, none⟩) hB _).drew).trans (b3.mono ?_)⟩
  simp [World.setCell]
  omega
theorem newRep4 (a : Nat) (x0 x1 x2 x3 : List UInt8) (w : World)
    (h0 : w.cell? ⟨a, 0, none⟩ = some (strV x0)) (h1 : w.cell? ⟨a, 1, none⟩ = some (strV x1)) (h2 : w.cell? ⟨a, 2, none⟩ = some (strV x2)) (h3 : w.cell? ⟨a, 3, none⟩ = some (strV x3)) :
    Calls Try.prog 11 #[.slice (some ⟨a, 0, none⟩) 4 4] w fun e w' => ∃ g cap w2, e = .returned (.pointer (some ⟨w2.heap.size, 0, none⟩)) ∧ Below w.heap.size w w2 ∧ w.heap.size ≤ g ∧ g < w2.heap.size ∧ (w2.cell? ⟨g, 0, none⟩ = some (strV x0) ∧ w2.cell? ⟨g, 1, none⟩ = some (strV x1) ∧ w2.cell? ⟨g, 2, none⟩ = some (strV x2) ∧ w2.cell? ⟨g, 3, none⟩ = some (strV x3)) ∧
      w' = w2.alloc (.cells #[.int .u32 0, .int .i32 0, .int .u32 0, .nilIface, .slice (some ⟨g, 0, none⟩) 4 cap] 45) := by
  refine (newRep [x0, x1, x2, x3] a w (by simp) (by simp) (by simp) ?_).mono ?_
  · intro j u hj
    match j, hj with
    | 0, hj => simp at hj; subst hj; exact h0
    | 1, hj => simp at hj; subst hj; exact h1
    | 2, hj => simp at hj; subst hj; exact h2
    | 3, hj => simp at hj; subst hj; exact h3
  · rintro e w' ⟨g, cap, w2, he, hb, hg, hl, hc, hw⟩
    exact ⟨g, cap, w2, he, hb, hg, hl, ⟨hc 0 (by simp), hc 1 (by simp), hc 2 (by simp), hc 3 (by simp)⟩, hw⟩
/-- A sign turned. -/
def tnB (c : UInt8) : UInt8 := if c = 43 then 45 else if c = 45 then 43 else c
theorem turn_tnB (c : UInt8) : turn c.toNat = ((tnB c).toNat : Int) := by
  unfold turn tnB
  by_cases h1 : c = 43
  · subst h1; rfl
  · by_cases h2 : c = 45
    · subst h2; rfl
    · have n1 : ¬ c.toNat = 43 := fun e => h1 (UInt8.toNat_inj.1 e)
      have n2 : ¬ c.toNat = 45 := fun e => h2 (UInt8.toNat_inj.1 e)
      rw [if_neg n1, if_neg n2, if_neg h1, if_neg h2]
/-- The Replacer of turned signs, put to a text. -/
theorem turnRep (g cap : Nat) (s : ByteArray) (w0 w2 : World) (hs : s.size ≤ 1000000) (hb0 : Below w0.heap.size w0 w2) (hg : g < w2.heap.size)
    (h0 : w2.cell? ⟨g, 0, none⟩ = some (strV [43])) (h1 : w2.cell? ⟨g, 1, none⟩ = some (strV [45])) (h2 : w2.cell? ⟨g, 2, none⟩ = some (strV [45])) (h3 : w2.cell? ⟨g, 3, none⟩ = some (strV [43])) :
    Calls Try.prog 12 #[.pointer (some ⟨w2.heap.size, 0, none⟩), .string s] (w2.alloc (.cells #[.int .u32 0, .int .i32 0, .int .u32 0, .nilIface, .slice (some ⟨g, 0, none⟩) 4 cap] 45)) fun e w' => e = .returned (.string ⟨(s.data.toList.map tnB).toArray⟩) ∧ Below w0.heap.size w0 w' := by
  have hsz := hb0.size
  have hb1 : Below w0.heap.size w0 (w2.alloc (.cells #[.int .u32 0, .int .i32 0, .int .u32 0, .nilIface, .slice (some ⟨g, 0, none⟩) 4 cap] 45)) := hb0.alloc hsz _
  have hraw := Raw.made w2 (.slice (some ⟨g, 0, none⟩) 4 cap)
  refine replace_turn w2.heap.size w0.heap.size s _ (fun W g => TRow W g turn ∧ w2.heap.size ≠ g) _ w0 _ hsz hb1 hraw ?_ ?_ ?_ ?_
  · intro W g a v ha h; exact ⟨h.1.other (by rw [ha]; exact fun e => h.2 e.symm) v, h.2⟩
  · intro W g h; exact ⟨World.rowIs.drew h.1, h.2⟩
  · rintro W rfl
    have hgne : ∀ j, ((w2.alloc (.cells #[.int .u32 0, .int .i32 0, .int .u32 0, .nilIface, .slice (some ⟨g, 0, none⟩) 4 cap] 45)).setCell ⟨w2.heap.size, 1, none⟩ (.int .i32 1)).cell? ⟨g, j, none⟩ = w2.cell? ⟨g, j, none⟩ := by
      intro j
      rw [World.cell?_setCell_other _ _ _ _ (by intro e; injection e; omega), World.cell?_alloc_past _ _ _ hg]
    refine (build_turn w2.heap.size g cap _ (by simp [World.setCell]; omega) (hraw.lock 1).c4 ((hgne 0).trans h0) ((hgne 1).trans h1) ((hgne 2).trans h2) ((hgne 3).trans h3)).mono ?_
    rintro e w' ⟨g', he, hg', ht, hb⟩
    have hlt := (hraw.lock 1).lt
    exact ⟨g', he, hg', ⟨ht, by omega⟩, hb⟩
  · intro W g h
    exact rep_bytes s g turn tnB turn_tnB W hs h.1
end Go.Proofs.Ytpmkdpkegmbleaa

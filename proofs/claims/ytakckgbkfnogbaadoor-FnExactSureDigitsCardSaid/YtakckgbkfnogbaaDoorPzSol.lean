/-
  All solutions, as the program and the model find them.
-/
import Derived.Test.YtakckgbkfnogbaaDoorPzFit
import Derived.Test.YtakckgbkfnogbaaDoorPzHT
import Derived.Test.YtakckgbkfnogbaaDoorPzEq
namespace Go.Proofs.YtakckgbkfnogbaaDoor
open Go.RowKit
set_option maxRecDepth 100000

/-- All are clues. -/
def AllC (cs : List Cl) : Prop := ∀ j, j < cs.length → clP (cs.getD j c0)
theorem AllC.of {cs : List Cl} (h : pzB cs = true) : AllC cs := fun j hj => (clB_iff _).1 (pz_all h _ (mem_getD cs j c0 hj))
theorem AllC.mem {cs : List Cl} (h : AllC cs) {c : Cl} (hc : c ∈ cs) : clP c := by
  obtain ⟨j, hj, rfl⟩ := List.mem_iff_getElem.1 hc
  have := h j hj
  rw [List.getD_eq_getElem?_getD, List.getElem?_eq_getElem hj] at this; exact this
theorem AllC.sub {cs ds : List Cl} (h : AllC cs) (hs : ∀ c ∈ ds, c ∈ cs) : AllC ds := fun j hj => h.mem (hs _ (mem_getD ds j c0 hj))
theorem fitA_no {cs : List Cl} {l : List UInt8} {k : Nat} (hk : k < cs.length) (h : fitB (cs.getD k c0) l = false) : fitA cs l = false := by
  cases e : fitA cs l with
  | false => rfl
  | true =>
    unfold fitA at e
    rw [List.all_eq_true] at e
    have := e _ (mem_getD cs k c0 hk)
    rw [h] at this; cases this
theorem fitA_yes {cs : List Cl} {l : List UInt8} (h : ∀ k, k < cs.length → fitB (cs.getD k c0) l = true) : fitA cs l = true := by
  unfold fitA
  rw [List.all_eq_true]
  intro c hc
  obtain ⟨j, hj, rfl⟩ := List.mem_iff_getElem.1 hc
  have := h j hj
  rw [List.getD_eq_getElem?_getD, List.getElem?_eq_getElem hj] at this; exact this
theorem Strs.val {B : Nat} {ts : List (List UInt8)} {v : Value} {w : World} (h : Strs B ts v w) : ∃ a cap, v = .slice a ts.length cap := by
  rcases h.form with ⟨h1, h2⟩ | ⟨g, cap, hv, _⟩
  · exact ⟨none, 0, by rw [h1, h2]⟩
  · exact ⟨_, cap, hv⟩
theorem Strs.pos {B : Nat} {ts : List (List UInt8)} {v : Value} {w : World} (h : Strs B ts v w) (h0 : 0 < ts.length) : ∃ g cap, v = .slice (some ⟨g, 0, none⟩) ts.length cap ∧ B ≤ g ∧ g < w.heap.size ∧ (∀ i, i < ts.length → w.cell? ⟨g, i, none⟩ = some (strV (ts.getD i []))) := by
  rcases h.form with ⟨_, h1⟩ | ⟨g, cap, hv, h1, h2, h3, _⟩
  · omega
  · exact ⟨g, cap, hv, h1, h2, h3⟩
theorem noFit_any (c : Cl) (s : ByteArray) (b : Nat) (w : World) (hc : clP c) (hh : hidB s.data.toList = true) (hb : w.cell? ⟨b, 0, none⟩ = some (.string s)) (hlt : b < w.heap.size) :
    Calls Tryd.prog 88 #[.agg #[.int .i64 c.k, .int .i64 c.a, .int .i64 c.b], .pointer (some ⟨b, 0, none⟩)] w fun e w' => e = .returned (.bool (!(fitB c s.data.toList))) ∧ Below w.heap.size w w' := by
  have HF := Lib.hid (fun W => doesFit_any c s W hc hh)
  clear hc hh
  go_enter Tryd.func88, Tryd.ntmps88
  go_wp2_with (go_at_call 43; (with_reducible refine (HF.out _).mono ?_); rintro e w1 ⟨rfl, b1⟩; have B1 := chain (w := w) (by go_grown) b1)
  go_ret
  exact ⟨rfl, B1⟩
theorem noFit_b (c : Cl) (s : ByteArray) (b : Nat) (x : Bool) (w : World) (hc : clP c) (hh : hidB s.data.toList = true) (hb : w.cell? ⟨b, 0, none⟩ = some (.string s)) (hlt : b < w.heap.size) (hx : fitB c s.data.toList = !x) :
    Calls Tryd.prog 88 #[.agg #[.int .i64 c.k, .int .i64 c.a, .int .i64 c.b], .pointer (some ⟨b, 0, none⟩)] w fun e w' => e = .returned (.bool x) ∧ Below w.heap.size w w' := by
  have := noFit_any c s b w hc hh hb hlt
  rw [hx, Bool.not_not] at this; exact this
set_option maxHeartbeats 2000000 in
theorem idxF_any (cs : List Cl) (s : ByteArray) (b : Nat) (v : Value) (w : World) (hn : cs.length ≤ 1000) (hall : AllC cs) (hh : hidB s.data.toList = true) (h : RdC cs v w) (hb : w.cell? ⟨b, 0, none⟩ = some (.string s)) (hlt0 : b < w.heap.size) :
    Calls Tryd.prog 99 #[v, .func (.func 88) #[] #[.pointer (some ⟨b, 0, none⟩)]] w fun e w' => (∃ r : Int, e = .returned (.int .i64 r) ∧ decide (0 ≤ r) = !(fitA cs s.data.toList)) ∧ Below w.heap.size w w' := by
  obtain ⟨a, cap, rfl, _, hc⟩ := h
  have HC := Lib.hid hc
  have HH := Lib.hid hh
  have HA := Lib.hid hall
  obtain ⟨n, hnn⟩ : ∃ n, n = cs.length := ⟨_, rfl⟩
  have HN := Lib.hid hnn
  rw [← hnn] at hn
  rw [← hnn]
  clear hc hnn hh hall
  go_enter Tryd.func99, Tryd.ntmps99
  go_wp2
  go_loopw [8] (fun i wr => ∃ k : Nat, k ≤ n ∧ i = .int .i64 k ∧ Hid (∀ j, j < k → fitB (cs.getD j c0) s.data.toList = true) ∧ Below w.heap.size w wr) (fun i _ => n - (intOf i).toNat)
  case atStart => exact ⟨0, Nat.zero_le _, rfl, fun j hj => by omega, Below.refl _ _⟩
  case round =>
    obtain ⟨k, hk, rfl, HI, hbl⟩ := hrel
    obtain ⟨wo, rfl⟩ : ∃ wo : World, wo = wr := ⟨_, rfl⟩
    have hsz := hbl.size
    by_cases hlt : k < n
    · have hlt2 : k < cs.length := by rw [← HN.out]; exact hlt
      obtain ⟨g, o, rfl, hg, d0, d1, d2⟩ := HC.out k hlt2
      have e0 := (hbl.cell (p := ⟨g, o + k * 3, none⟩) hg).trans d0
      have e1 := (hbl.cell (p := ⟨g, o + k * 3 + 1, none⟩) hg).trans d1
      have e2 := (hbl.cell (p := ⟨g, o + k * 3 + 2, none⟩) hg).trans d2
      have eb := (hbl.cell (p := ⟨b, 0, none⟩) hlt0).trans hb
      have HCL := Lib.hid (HA.out k hlt2)
      have hlb : b < wo.heap.size := by omega
      clear d0 d1 d2
      cases hf : fitB (cs.getD k c0) s.data.toList with
      | true =>
        have HI2 : Hid (∀ j, j < k + 1 → fitB (cs.getD j c0) s.data.toList = true) := by
          intro j hj
          by_cases e : j = k
          · subst e; exact hf
          · exact HI.out j (by omega)
        obtain ⟨c, hcc⟩ : ∃ c, c = cs.getD k c0 := ⟨_, rfl⟩
        rw [← hcc] at e0 e1 e2 HCL hf
        have HF : Hid (fitB c s.data.toList = !false) := hf
        clear hf hcc
        go_wp2_with (go_at_call 88; (with_reducible refine (noFit_b c s b false _ HCL.out HH.out eb hlb HF.out).mono ?_); rintro e w1 ⟨rfl, b1⟩)
        go_roundw
        case rel => exact ⟨k + 1, by omega, by go_num, HI2, hbl.trans (b1.mono hsz)⟩
        case measure => simp [intOf]; omega
      | false =>
        have HNO := Lib.hid (fitA_no hlt2 hf)
        obtain ⟨c, hcc⟩ : ∃ c, c = cs.getD k c0 := ⟨_, rfl⟩
        rw [← hcc] at e0 e1 e2 HCL hf
        have HF : Hid (fitB c s.data.toList = !true) := hf
        clear hf hcc
        go_wp2_with (go_at_call 88; (with_reducible refine (noFit_b c s b true _ HCL.out HH.out eb hlb HF.out).mono ?_); rintro e w1 ⟨rfl, b1⟩)
        go_ret
        exact ⟨⟨_, rfl, by rw [HNO.out]; simp⟩, hbl.trans (b1.mono hsz)⟩
    · have HYES : Hid (fitA cs s.data.toList = true) := fitA_yes (fun j hj => HI.out j (by have := HN.out; omega))
      go_wp2
      go_ret
      exact ⟨⟨_, rfl, by rw [HYES.out]; rfl⟩, hbl⟩
theorem contF_any (cs : List Cl) (s : ByteArray) (b : Nat) (v : Value) (w : World) (hn : cs.length ≤ 1000) (hall : AllC cs) (hh : hidB s.data.toList = true) (h : RdC cs v w) (hb : w.cell? ⟨b, 0, none⟩ = some (.string s)) (hlt0 : b < w.heap.size) :
    Calls Tryd.prog 87 #[v, .func (.func 88) #[] #[.pointer (some ⟨b, 0, none⟩)]] w fun e w' => e = .returned (.bool (!(fitA cs s.data.toList))) ∧ Below w.heap.size w w' := by
  go_enter Tryd.func87, Tryd.ntmps87
  go_wp2_with (go_at_call 99; (with_reducible refine (idxF_any cs s b v _ hn hall hh h hb hlt0).mono ?_); rintro e w1 ⟨⟨r, rfl, hr⟩, b1⟩)
  go_ret
  exact ⟨ret_bool (by rw [← hr]), b1⟩
theorem fitAll_any (cs : List Cl) (s : ByteArray) (v : Value) (w : World) (hn : cs.length ≤ 1000) (hall : AllC cs) (hh : hidB s.data.toList = true) (h : RdC cs v w) :
    Calls Tryd.prog 67 #[v, .string s] w fun e w' => e = .returned (.bool (fitA cs s.data.toList)) ∧ Below w.heap.size w w' := by
  have hmf : ∀ (fn : Fn) (first cap : Array Value) (w : World), (Instr.makeFunc fn first cap).run Tryd.prog w = .ok (.func fn first cap) w := fun _ _ _ _ => rfl
  have hc := contF_any cs s w.heap.size v (w.alloc (.cells #[.string s] 9)) hn hall hh (h.alloc _) (by rw [(Blk.new w #[.string s] 9).cell]; rfl) (Blk.new w #[.string s] 9).lt
  clear h hn hall hh
  obtain ⟨x, hx⟩ : ∃ x, fitA cs s.data.toList = x := ⟨_, rfl⟩
  rw [hx] at hc ⊢
  have HC := Lib.hid hc
  clear hx hc
  go_enter Tryd.func67, Tryd.ntmps67
  go_wp2_with ((go_at_call 87; (refine HC.out.mono ?_); rintro e w1 ⟨rfl, b1⟩))
  go_ret
  exact ⟨ret_bool (by simp), chain ((Below.refl _ _).alloc (Nat.le_refl _) _) b1⟩
theorem fitAll_b (cs : List Cl) (s : ByteArray) (x : Bool) (v : Value) (w : World) (hn : cs.length ≤ 1000) (hall : AllC cs) (hh : hidB s.data.toList = true) (h : RdC cs v w) (hx : fitA cs s.data.toList = x) :
    Calls Tryd.prog 67 #[v, .string s] w fun e w' => e = .returned (.bool x) ∧ Below w.heap.size w w' := by subst hx; exact fitAll_any cs s v w hn hall hh h
theorem filt_yes {T : List (List UInt8)} {p : List UInt8 → Bool} {k : Nat} (hk : k < T.length) (h : p (T.getD k []) = true) : (T.take (k + 1)).filter p = (T.take k).filter p ++ [T.getD k []] := by
  rw [take_getD T k [] hk, List.filter_append, List.filter_cons, if_pos h, List.filter_nil]
theorem filt_no {T : List (List UInt8)} {p : List UInt8 → Bool} {k : Nat} (hk : k < T.length) (h : p (T.getD k []) = false) : (T.take (k + 1)).filter p = (T.take k).filter p := by
  rw [take_getD T k [] hk, List.filter_append, List.filter_cons, if_neg (by rw [h]; simp), List.filter_nil, List.append_nil]
set_option maxHeartbeats 4000000 in
theorem solutions_any (cs : List Cl) (v : Value) (w : World) (hn : cs.length ≤ 1000) (hall : AllC cs) (h : RdC cs v w) :
    Calls Tryd.prog 49 #[v] w fun e w' => (∃ u, e = .returned u ∧ Strs w.heap.size (sol cs) u w') ∧ Below w.heap.size w w' := by
  have HV := Lib.hid h
  have HF := Lib.hid (fun (s : ByteArray) (x : Bool) (W : World) (hh : hidB s.data.toList = true) (hr : RdC cs v W) (hx : fitA cs s.data.toList = x) => fitAll_b cs s x v W hn hall hh hr hx)
  obtain ⟨T, hT⟩ : ∃ T, T = hT 4 := ⟨_, rfl⟩
  have HH := fun W => Lib.hid (hidden_any W)
  rw [← hT] at HH
  have HTL : T.length = 1296 := by rw [hT, hT_len]
  have HHD : Hid (∀ j, j < T.length → hidB (T.getD j []) = true) := fun j hj => hT_hid _ (by rw [← hT]; exact mem_getD T j [] hj)
  have HTE := Lib.hid hT
  clear h hn hall hT
  go_enter Tryd.func49, Tryd.ntmps49
  go_wp2_with (go_at_call 66; (with_reducible refine (HH _).out.mono ?_); rintro e w1 ⟨⟨t, rfl, hs⟩, b1⟩; have HS := Lib.hid hs; obtain ⟨g, cap, rfl, hBg, hg, hc⟩ := hs.pos (by omega); have HC := Lib.hid hc; clear hc hs; rw [HTL])
  have hS0 : Strs w.heap.size ((T.take 0).filter (fitA cs)) (.slice none 0 0) w1 := Strs.nil _ _
  have HS0 := Lib.hid hS0
  clear hS0
  go_loopw [3, 8] (fun u i wr => ∃ k : Nat, k ≤ 1296 ∧ i = .int .i64 k ∧ Hid (Strs w.heap.size ((T.take k).filter (fitA cs)) u wr) ∧ Below w.heap.size w wr ∧ Hid (∀ j, j < T.length → wr.cell? ⟨g, j, none⟩ = some (strV (T.getD j []))) ∧ Hid (u.ownBlock ≠ some g) ∧ g < wr.heap.size) (fun _ i _ => 1296 - (intOf i).toNat)
  case atStart => exact ⟨0, Nat.zero_le _, rfl, HS0, b1, HC, by show _ ≠ _; simp [Value.ownBlock], hg⟩
  case round =>
    clear HS0 HC HS
    obtain ⟨k, hk, rfl, HS, hbl, HC, HNE, hgl⟩ := hrel
    obtain ⟨wo, rfl⟩ : ∃ wo : World, wo = wr := ⟨_, rfl⟩
    have hsz := hbl.size
    by_cases hlt : k < 1296
    · have hkT : k < T.length := by omega
      have e0 := HC.out k hkT
      have HD := Lib.hid (HHD.out k hkT)
      have HL : Hid (((T.take k).filter (fitA cs)).length ≤ 1296) := by
        have := List.length_filter_le (fitA cs) (T.take k)
        rw [List.length_take] at this; show _ ≤ _; omega
      cases hf : fitA cs (T.getD k []) with
      | true =>
        have HF1 := Lib.hid (filt_yes (p := fitA cs) hkT hf)
        obtain ⟨t, ht⟩ : ∃ t, t = T.getD k [] := ⟨_, rfl⟩
        rw [← ht] at e0 HD hf HF1
        obtain ⟨s, hs⟩ : ∃ s : ByteArray, s = ⟨t.toArray⟩ := ⟨_, rfl⟩
        have hst : s.data.toList = t := by rw [hs]
        have HST := Lib.hid hs
        unfold strV at e0
        rw [← hs] at e0
        have HQ := Lib.hid (HF.out s true wo (by rw [hst]; exact HD.out) (HV.out.below hbl) (by rw [hst]; exact hf))
        clear hf ht hs hst
        go_wp2_with (first
          | (go_at_call 67; (refine HQ.out.mono ?_); rintro e w2 ⟨rfl, b2⟩)
          | (at_builtin; refine append_str1 _ rfl _ _ rfl w.heap.size ((T.take k).filter (fitA cs)) _ rfl ((HS.out.below b2).alloc _) w2.heap.size s t rfl (by simp) HST.out (by have := HL.out; omega) (by have := b2.size; simp only [World.size_alloc]; omega) ?_; intro v3 w3 u3 g3 o3))
        have hb2 := hbl.trans (b2.mono hsz)
        have B3 : Below w.heap.size w w3 := (hb2.alloc hb2.size (.cells #[.string s] 9)).grown g3 (by have := hb2.size; simp only [World.size_alloc]; omega) (fun q hq => (World.ownsRow.lt HS.out q hq).1)
        have hz2 := b2.size
        have hz3 := g3.size
        simp only [World.size_alloc] at hz3
        have HC3 : Hid (∀ j, j < T.length → w3.cell? ⟨g, j, none⟩ = some (strV (T.getD j []))) := fun j hj => by
          have h1 := (b2.cell (p := ⟨g, j, none⟩) hgl).trans (HC.out j hj)
          have h2 := ((Below.refl w2.heap.size w2).alloc (Nat.le_refl _) (.cells #[.string s] 9)).cell (p := ⟨g, j, none⟩) (by simp only; omega)
          exact g3.cell (h2.trans h1) (fun e => HNE.out e.symm)
        have HN3 : Hid (v3.ownBlock ≠ some g) := by
          show _ ≠ _
          rcases o3 with e | e
          · rw [e]; exact HNE.out
          · rw [e]; intro h
            simp only [World.size_alloc, Option.some.injEq] at h
            omega
        go_roundw
        case rel => exact ⟨k + 1, by omega, by go_num, by show Strs _ _ _ _; rw [HF1.out]; exact u3, B3, HC3, HN3, by omega⟩
        case measure => simp [intOf]; omega
      | false =>
        have HF1 := Lib.hid (filt_no (p := fitA cs) hkT hf)
        obtain ⟨t, ht⟩ : ∃ t, t = T.getD k [] := ⟨_, rfl⟩
        rw [← ht] at e0 HD hf
        obtain ⟨s, hs⟩ : ∃ s : ByteArray, s = ⟨t.toArray⟩ := ⟨_, rfl⟩
        have hst : s.data.toList = t := by rw [hs]
        unfold strV at e0
        rw [← hs] at e0
        have HQ := Lib.hid (HF.out s false wo (by rw [hst]; exact HD.out) (HV.out.below hbl) (by rw [hst]; exact hf))
        clear hf ht hs hst
        go_wp2_with (go_at_call 67; (refine HQ.out.mono ?_); rintro e w2 ⟨rfl, b2⟩)
        go_roundw
        case rel => exact ⟨k + 1, by omega, by go_num, by show Strs _ _ _ _; rw [HF1.out]; exact HS.out.below b2, hbl.trans (b2.mono hsz), fun j hj => (b2.cell (p := ⟨g, j, none⟩) hgl).trans (HC.out j hj), HNE, by have := b2.size; omega⟩
        case measure => simp [intOf]; omega
    · have HE : Hid ((T.take k).filter (fitA cs) = sol cs) := by
        show _ = _
        unfold sol
        rw [show k = T.length by omega, List.take_length, HTE.out]
      go_wp2
      go_ret
      exact ⟨⟨_, rfl, by rw [← HE.out]; exact HS.out⟩, hbl⟩
theorem count_any (cs : List Cl) (v : Value) (w : World) (hn : cs.length ≤ 1000) (hall : AllC cs) (h : RdC cs v w) :
    Calls Tryd.prog 55 #[v] w fun e w' => e = .returned (.int .i64 ((sol cs).length : Nat)) ∧ Below w.heap.size w w' := by
  have HS := Lib.hid (solutions_any cs v w hn hall h)
  clear h hn hall
  go_enter Tryd.func55, Tryd.ntmps55
  go_wp2_with (go_at_call 49; (refine HS.out.mono ?_); rintro e w1 ⟨⟨u, rfl, hu⟩, b1⟩; obtain ⟨a, cap, rfl⟩ := hu.val)
  go_ret
  exact ⟨rfl, b1⟩
end Go.Proofs.YtakckgbkfnogbaaDoor

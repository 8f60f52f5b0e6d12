/-
  The tails, as a map.
-/
import Derived.Test.YtaomcimmhlpflaaDoorPlStt
import Derived.Test.YtaomcimmhlpflaaDoorPlMap
namespace Go.Proofs.YtaomcimmhlpflaaDoor
open Go.RowKit

theorem SetM.store {w : World} {b n : Nat} {K : List UInt8 → Bool} (h : SetM w b n K) (hn : n ≤ 1000000) (s : ByteArray) (hs : s.size ≤ maxLen) :
    ∃ w', (Instr.mapUpdate 55 (.map (some b)) (.string s) (.bool true)).run Tryd.prog w = .ok () w' ∧ SetM w' b (n + 1) (fun t => K t || decide (t = s.data.toList)) ∧ w.grownBy w' (some b) := by
  obtain ⟨D, h1, h2⟩ := h
  obtain ⟨w', k0, k1, k2⟩ := h1.update keyedS Tryd.underlying55 (by unfold maxLen; omega) (keyOfS s hs) (show boolR (.bool true) = some (.lit (.bool true), []) from rfl)
  exact ⟨w', k0, ⟨_, k1, h2.put h1.isMap _⟩, k2⟩
/-- Which texts have been put in: none at all, the beginnings of the first k words, and of the next one those shorter than m. -/
def TlP (ts : List (List UInt8)) (k m : Nat) (K : List UInt8 → Bool) : Prop :=
  ∀ t, K t = true ↔ t = [] ∨ ∃ j i, (j < k ∨ (j = k ∧ i < m)) ∧ j < ts.length ∧ i < (ts.getD j []).length ∧ (ts.getD j []).take i = t
theorem TlP.start (ts : List (List UInt8)) : TlP ts 0 0 (fun t => false || decide (t = (⟨#[]⟩ : ByteArray).data.toList)) := by
  intro t
  simp
theorem TlP.add {ts : List (List UInt8)} {k m : Nat} {K : List UInt8 → Bool} (h : TlP ts k m K) (hk : k < ts.length) (hm : m < (ts.getD k []).length) (x : List UInt8) (hx : x = (ts.getD k []).take m) : TlP ts k (m + 1) (fun t => K t || decide (t = x)) := by
  subst hx
  intro t
  show (K t || decide _) = true ↔ _
  rw [Bool.or_eq_true, h t, decide_eq_true_eq]
  constructor
  · rintro ((h0 | ⟨j, i, h1, h2, h3, h4⟩) | h0)
    · exact .inl h0
    · exact .inr ⟨j, i, by omega, h2, h3, h4⟩
    · exact .inr ⟨k, m, .inr ⟨rfl, by omega⟩, hk, hm, h0.symm⟩
  · rintro (h0 | ⟨j, i, h1, h2, h3, h4⟩)
    · exact .inl (.inl h0)
    · by_cases e : j = k ∧ i = m
      · obtain ⟨rfl, rfl⟩ := e; exact .inr h4.symm
      · exact .inl (.inr ⟨j, i, by omega, h2, h3, h4⟩)
theorem TlP.word {ts : List (List UInt8)} {k m : Nat} {K : List UInt8 → Bool} (h : TlP ts k m K) (hm : (ts.getD k []).length ≤ m) : TlP ts (k + 1) 0 K := by
  intro t
  rw [h t]
  constructor
  · rintro (h0 | ⟨j, i, h1, h2, h3, h4⟩)
    · exact .inl h0
    · exact .inr ⟨j, i, by omega, h2, h3, h4⟩
  · rintro (h0 | ⟨j, i, h1, h2, h3, h4⟩)
    · exact .inl h0
    · refine .inr ⟨j, i, ?_, h2, h3, h4⟩
      by_cases e : j = k
      · subst e; exact .inr ⟨rfl, by omega⟩
      · exact .inl (by omega)
theorem TlP.all {ts : List (List UInt8)} {K : List UInt8 → Bool} (h : TlP ts ts.length 0 K) (t : List UInt8) : K t = (decide (t = []) || beg ts t) := by
  rw [Bool.eq_iff_iff, h t, Bool.or_eq_true, decide_eq_true_eq, beg_iff]
  constructor
  · rintro (h0 | ⟨j, i, h1, h2, h3, h4⟩)
    · exact .inl h0
    · subst h4
      exact .inr ⟨_, getD_len h2, List.take_prefix _ _, by rw [List.length_take]; omega⟩
  · rintro (h0 | ⟨x, h1, h2, h3⟩)
    · exact .inl h0
    · obtain ⟨j, hj, rfl⟩ := List.getElem_of_mem h1
      have he : ts.getD j [] = ts[j] := by rw [List.getD_eq_getElem?_getD, List.getElem?_eq_getElem hj]; rfl
      exact .inr ⟨j, t.length, .inl hj, hj, by rw [he]; exact h3, by rw [he]; exact (List.prefix_iff_eq_take.1 h2).symm⟩
set_option maxRecDepth 100000 in
set_option maxHeartbeats 4000000 in
theorem tailsOf_any (ts : List (List UInt8)) (v : Value) (w : World) (hn : ts.length ≤ 3) (ht : ∀ i, i < ts.length → (ts.getD i []).length ≤ 4) (h : Rd ts v w) :
    Calls Tryd.prog 107 #[v] w fun e w' => (∃ N, e = .returned (.map (some w.heap.size)) ∧ N ≤ 20 ∧ SetM w' w.heap.size N (fun t => decide (t = []) || beg ts t)) ∧ Below w.heap.size w w' := by
  have HV := Lib.hid h
  have HT := Lib.hid ht
  obtain ⟨a, cap, rfl, _⟩ := h
  obtain ⟨n, hnn⟩ : ∃ n, n = ts.length := ⟨_, rfl⟩
  have HN := Lib.hid hnn
  rw [← hnn] at hn
  rw [← hnn]
  clear ht hnn
  have hmm := @run_makeMap Tryd.prog
  obtain ⟨W, hW, hs1, hg1⟩ := (SetM.made w).store (by omega) ⟨#[]⟩ (by decide)
  have HS1 := Lib.hid hs1
  have HB1 : Hid (Below w.heap.size w W) := Below.trans ((Below.refl _ _).alloc (Nat.le_refl _) _) (gb_to hg1 (Nat.le_refl _) (by rw [World.size_alloc]; omega))
  clear hs1 hg1
  go_enter Tryd.func107, Tryd.ntmps107
  go_wp2_with fail
  clear hmm hW
  have HV2 : Hid (Rd ts (.slice a ts.length cap) w) := HV.out
  obtain ⟨b, hb⟩ : ∃ b, b = w.heap.size := ⟨_, rfl⟩
  rw [← hb] at HS1 ⊢
  have HBE := Lib.hid hb
  clear hb
  go_loopw [11] (fun i wr => ∃ (k N : Nat) (K : List UInt8 → Bool), k ≤ n ∧ i = .int .i64 k ∧ N ≤ 1 + 4 * k ∧ Hid (SetM wr b N K) ∧ Hid (TlP ts k 0 K) ∧ Hid (Below w.heap.size w wr)) (fun i _ => n - (intOf i).toNat)
  case atStart => exact ⟨0, 1, _, Nat.zero_le _, rfl, by omega, HS1, TlP.start ts, HB1⟩
  case round =>
    obtain ⟨k, N, K, hk, rfl, hN, HS, HP, HBL⟩ := hrel
    by_cases hlt : k < n
    · have hlt2 : k < ts.length := by rw [← HN.out]; exact hlt
      obtain ⟨a', cap', hv', hcs⟩ := HV2.out
      have ha' : a = a' := by simp only [Value.slice.injEq] at hv'; exact hv'.1
      obtain ⟨g, o, hgo, hg, hcell⟩ := hcs k hlt2
      rw [← ha'] at hgo
      clear hv' ha'
      subst hgo
      have hcell := (HBL.out.cell (p := ⟨g, o + k, none⟩) hg).trans hcell
      obtain ⟨bb, hbb⟩ : ∃ bb : ByteArray, bb = ⟨(ts.getD k []).toArray⟩ := ⟨_, rfl⟩
      have hbd : bb.data.toList = ts.getD k [] := by rw [hbb]
      have HBD := Lib.hid hbd
      have hbl : bb.size ≤ 4 := by have := HT.out k hlt2; rw [← hbd] at this; simpa using this
      have HLN : Hid ((ts.getD k []).length = bb.size) := by show _ = _; rw [← hbd]; simp
      unfold strV at hcell
      rw [← hbb] at hcell
      have hltI : (k : Int) < (n : Int) := by omega
      have hk0 : (0 : Int) ≤ (k : Int) := by omega
      clear hcs hbb hbd
      rename World => wo
      go_wp2
      go_loopw [17] (fun i wr => ∃ (m N : Nat) (K : List UInt8 → Bool), m ≤ bb.size ∧ i = .int .i64 m ∧ N ≤ 1 + 4 * k + m ∧ Hid (SetM wr b N K) ∧ Hid (TlP ts k m K) ∧ Hid (Below w.heap.size w wr)) (fun i _ => bb.size - (intOf i).toNat)
      case atStart => exact ⟨0, N, K, Nat.zero_le _, rfl, by omega, HS, HP, HBL⟩
      case round =>
        obtain ⟨m, N, K, hm, rfl, hN, HS, HP, HBL⟩ := hrel
        by_cases hlm : m < bb.size
        · have hlmI : (m : Int) < (bb.size : Int) := by omega
          have hm0 : (0 : Int) ≤ (m : Int) := by omega
          have HX := Lib.hid (ext0 bb m (by omega))
          have HTK : Hid ((bb.extract 0 m).data.toList = (ts.getD k []).take m) := by show _ = _; rw [HX.out, HBD.out]
          have HXS : Hid ((bb.extract 0 m).size ≤ maxLen) := by show _ ≤ _; unfold maxLen; simp; omega
          go_wp2_with (at_mapUpdate; refine put_set _ rfl _ _ _ rfl b N K rfl HS.out (by omega) (bb.extract 0 m) rfl HXS.out rfl ?_; intro w2 hs2 hg2; have HS2 := Lib.hid hs2; have HG2 := Lib.hid hg2; clear hs2 hg2)
          go_roundw
          case rel => exact ⟨m + 1, N + 1, _, by omega, by go_num, by omega, HS2, HP.out.add hlt2 (by rw [HLN.out]; exact hlm) _ HTK.out, HBL.out.trans (gb_to HG2.out (by have := HBE.out; omega) HBL.out.size)⟩
          case measure => simp [intOf]; omega
        · have hlmI : ¬ (m : Int) < (bb.size : Int) := by omega
          have HP2 : Hid (TlP ts (k + 1) 0 K) := HP.out.word (by rw [HLN.out]; omega)
          go_wp2
          go_roundw
          case rel => exact ⟨k + 1, N, K, by omega, by go_num, by omega, HS, HP2, HBL⟩
          case measure => simp [intOf]; omega
    · have hltI : ¬ (k : Int) < (n : Int) := by omega
      have HK : Hid (k = ts.length) := by show _ = _; rw [← HN.out]; omega
      go_wp2
      go_ret
      refine ⟨⟨by rw [HBE.out]; rfl, N, by omega, ?_⟩, HBL.out⟩
      rw [← HBE.out]
      exact HS.out.congr (fun t => TlP.all (by rw [← HK.out]; exact HP.out) t)
end Go.Proofs.YtaomcimmhlpflaaDoor

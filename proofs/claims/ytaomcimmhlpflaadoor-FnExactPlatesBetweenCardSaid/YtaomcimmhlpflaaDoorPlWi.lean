/-
  Which words stand in a text: both sides.
-/
import Derived.Test.YtaomcimmhlpflaaDoorPlHas
import Derived.Test.YtaomcimmhlpflaaDoorPlIsS
import Derived.Test.YtaomcimmhlpflaaDoorApp
namespace Go.Proofs.YtaomcimmhlpflaaDoor
open Go.RowKit

/-- internal/bytealg.MaxLen holds some number. -/
def MaxIs (w : World) : Prop := ∃ m, w.cell? ⟨0, 0, none⟩ = some (.int .i64 m)
theorem cell_lt' {w : World} {a : Addr} {v : Value} (h : w.cell? a = some v) : a.block < w.heap.size := by
  cases e : w.heap[a.block]? with
  | none => unfold World.cell? at h; rw [e] at h; cases h
  | some o => exact (Array.getElem?_eq_some_iff.1 e).1
theorem MaxIs.below {w w' : World} (h : MaxIs w) (k : Below w.heap.size w w') : MaxIs w' := by
  obtain ⟨m, hm⟩ := h
  exact ⟨m, (k.cell (p := ⟨0, 0, none⟩) (cell_lt' hm)).trans hm⟩
theorem cont_any (t w : ByteArray) (W : World) (ht : t.size ≤ 1048576) (hm : MaxIs W) :
    Calls Tryd.prog 40 #[.string t, .string w] W fun e w' => e = .returned (.bool (decide (w.data.toList <:+: t.data.toList))) ∧ W = w' := by
  obtain ⟨m, hm⟩ := hm
  refine (Tryd.strings_Contains t w m W (by omega) hm).mono ?_
  rintro e w' ⟨rfl, rfl⟩
  exact ⟨ret_bool (contains_iff _ _), rfl⟩
theorem cont_b (t w : ByteArray) (b : Bool) (W : World) (ht : t.size ≤ 1048576) (hm : MaxIs W) (h : decide (w.data.toList <:+: t.data.toList) = b) :
    Calls Tryd.prog 40 #[.string t, .string w] W fun e w' => e = .returned (.bool b) ∧ W = w' := by subst h; exact cont_any t w W ht hm
/-- The places of the words that stand in a text. -/
def wix (ts : List (List UInt8)) (t : List UInt8) (k : Nat) : List Int := ((List.range k).filter (fun i => decide (ts.getD i [] <:+: t))).map Int.ofNat
theorem wix_yes (ts : List (List UInt8)) (t : List UInt8) (k : Nat) (h : ts.getD k [] <:+: t) : wix ts t (k + 1) = wix ts t k ++ [(k : Int)] := by
  unfold wix
  have e : [k].filter (fun i => decide (ts.getD i [] <:+: t)) = [k] := by rw [List.filter_cons, if_pos (decide_eq_true h)]; rfl
  rw [List.range_succ, List.filter_append, List.map_append, e]; rfl
theorem wix_no (ts : List (List UInt8)) (t : List UInt8) (k : Nat) (h : ¬ ts.getD k [] <:+: t) : wix ts t (k + 1) = wix ts t k := by
  unfold wix
  have e : [k].filter (fun i => decide (ts.getD i [] <:+: t)) = [] := by rw [List.filter_cons, if_neg (by rw [decide_eq_false h]; simp)]; rfl
  rw [List.range_succ, List.filter_append, List.map_append, e]; simp
theorem wix_len (ts : List (List UInt8)) (t : List UInt8) (k : Nat) : (wix ts t k).length ≤ k := by
  unfold wix
  rw [List.length_map]
  exact Nat.le_trans (List.length_filter_le _ _) (by simp)
set_option maxHeartbeats 1000000 in
theorem wordsIn_any (t : ByteArray) (ts : List (List UInt8)) (v : Value) (w : World) (ht0 : t.size ≤ 1048576) (hn : ts.length ≤ 1000) (ht : ∀ i, i < ts.length → (ts.getD i []).length ≤ 1048576) (h : Rd ts v w) (hm : MaxIs w) :
    Calls Tryd.prog 77 #[v, .string t] w fun e w' => (∃ u, e = .returned u ∧ Ints w.heap.size (wix ts t.data.toList ts.length) u w') ∧ Below w.heap.size w w' := by
  obtain ⟨a, cap, rfl, hc⟩ := h
  have HC := Lib.hid hc
  have HT := Lib.hid ht
  have HM := Lib.hid hm
  obtain ⟨n, hnn⟩ : ∃ n, n = ts.length := ⟨_, rfl⟩
  have HN := Lib.hid hnn
  rw [← hnn] at hn
  rw [← hnn]
  clear ht hc hm hnn
  go_enter Tryd.func77, Tryd.ntmps77
  go_wp2
  go_loopw [5, 10] (fun p i wr => ∃ (k : Nat) (xs : List Int), k ≤ n ∧ i = .int .i64 k ∧ Hid (Ints w.heap.size xs p wr) ∧ Hid (xs = wix ts t.data.toList k) ∧ xs.length ≤ k ∧ Below w.heap.size w wr) (fun _ i _ => n - (intOf i).toNat)
  case atStart => exact ⟨0, [], Nat.zero_le _, rfl, World.ownsRow_nil _ _ _ _, rfl, Nat.le_refl _, Below.refl _ _⟩
  case round =>
    obtain ⟨k, xs, hk, rfl, HI, HX, hxl, hb⟩ := hrel
    have hbs := hb.size
    by_cases hlt : k < n
    · have hlt2 : k < ts.length := by rw [← HN.out]; exact hlt
      obtain ⟨g, o, rfl, hg, hcell⟩ := HC.out k hlt2
      have hcell := (hb.cell (p := ⟨g, o + k, none⟩) hg).trans hcell
      obtain ⟨bb, hbb⟩ : ∃ bb : ByteArray, bb = ⟨(ts.getD k []).toArray⟩ := ⟨_, rfl⟩
      have hbd : bb.data.toList = ts.getD k [] := by rw [hbb]
      unfold strV at hcell
      rw [← hbb] at hcell
      have hltI : (k : Int) < (n : Int) := by omega
      clear hbb
      by_cases hin : ts.getD k [] <:+: t.data.toList
      · have HB : Hid (decide (bb.data.toList <:+: t.data.toList) = true) := by show _ = _; rw [hbd]; exact decide_eq_true hin
        have HX2 := Lib.hid (wix_yes ts t.data.toList k hin)
        clear hin hbd
        go_wp2_with (first | (go_at_call 40; refine (cont_b t bb true _ ht0 (HM.out.below hb) HB.out).mono ?_; rintro e w' ⟨rfl, rfl⟩) | (at_builtin; refine wpList_append_int _ rfl _ _ rfl w.heap.size xs _ rfl (HI.out.alloc _) wr.heap.size (k : Int) rfl (by simp) (by omega) (by rw [World.size_alloc]; omega) ?_; intro v' w4 hI4 hb4 _))
        go_roundw
        case rel => exact ⟨k + 1, xs ++ [(k : Int)], by omega, by go_num, hI4, by show _ = _; rw [HX2.out, HX.out], by simp; omega, (hb.alloc hbs _).trans hb4⟩
        case measure => simp [intOf]; omega
      · have HB : Hid (decide (bb.data.toList <:+: t.data.toList) = false) := by show _ = _; rw [hbd]; exact decide_eq_false hin
        have HX2 := Lib.hid (wix_no ts t.data.toList k hin)
        clear hin hbd
        go_wp2_with (go_at_call 40; refine (cont_b t bb false _ ht0 (HM.out.below hb) HB.out).mono ?_; rintro e w' ⟨rfl, rfl⟩)
        go_roundw
        case rel => exact ⟨k + 1, xs, by omega, by go_num, HI, by show _ = _; rw [HX2.out, HX.out], by omega, hb⟩
        case measure => simp [intOf]; omega
    · have hltI : ¬ (k : Int) < (n : Int) := by omega
      have HK : Hid (xs = wix ts t.data.toList n) := by show _ = _; rw [HX.out, show k = n by omega]
      go_wp2
      go_ret
      exact ⟨⟨_, rfl, by rw [← HK.out]; exact HI.out⟩, hb⟩
def wiB (P B t : ByteArray) (ts : List (List UInt8)) : Bool := schB P.data.toList B.data.toList ts && szsB t.data.toList P.size P.size
def wiX (P B t : ByteArray) (ts : List (List UInt8)) : List Int := if wiB P B t ts then wix ts t.data.toList ts.length else []
theorem sch_three' {P B : List UInt8} {ts : List (List UInt8)} (h : schB P B ts = true) : ts.length ≤ 3 := by
  unfold schB at h; simp only [Bool.and_eq_true, decide_eq_true_eq] at h; exact h.2.1
theorem iGood_b (P B : ByteArray) (ts : List (List UInt8)) (v : Value) (b : Bool) (w : World) (hf : Fit P B ts) (h : Rd ts v w) (hb : schB P.data.toList B.data.toList ts = b) :
    Calls Tryd.prog 38 #[.agg #[.string P, .string B, v]] w fun e w' => e = .returned (.bool b) ∧ Below w.heap.size w w' := by subst hb; exact iIsScheme_any P B ts v w hf h
theorem sGood_b (P B : ByteArray) (ts : List (List UInt8)) (v : Value) (b : Bool) (w : World) (hf : Fit P B ts) (h : Rd ts v w) (hb : schB P.data.toList B.data.toList ts = b) :
    Calls Tryd.prog 33 #[.agg #[.string P, .string B, v]] w fun e w' => e = .returned (.bool b) ∧ Below w.heap.size w w' := by subst hb; exact plGood_any P B ts v w hf h
theorem ret_vb {u : Value} {p q : Bool} (h : p = q) : Ending.returned (.tuple #[u, .bool p]) = .returned (.tuple #[u, .bool q]) := by rw [h]
end Go.Proofs.YtaomcimmhlpflaaDoor

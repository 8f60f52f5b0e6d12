/-
  A walk along the beginning of a plate: what is kept, and what it counts at its end.
-/
import Derived.Test.YtaomcimmhlpflaaDoorPlNc
import Derived.Test.YtaomcimmhlpflaaDoorPlFrY
import Derived.Test.YtaomcimmhlpflaaDoorPlRo
namespace Go.Proofs.YtaomcimmhlpflaaDoor
open Go.RowKit

theorem szsL {l : List UInt8} {a b : Int} (h : szsB l a b = true) : a ≤ (l.length : Int) ∧ (l.length : Int) ≤ b := by
  unfold szsB at h
  simp only [Bool.and_eq_true, decide_eq_true_eq] at h
  exact h.1
theorem szsP {l : List UInt8} {a b : Int} (h : szsB l a b = true) : pssB l = true := by
  unfold szsB at h
  simp only [Bool.and_eq_true] at h
  exact h.2
theorem sch_facts {P B : ByteArray} {ts : List (List UInt8)} (h : schB P.data.toList B.data.toList ts = true) :
    P.size ≤ 8 ∧ B.size ≤ 36 ∧ P.data.toList.all patC = true ∧ ts.length ≤ 3 ∧ (∀ i, i < ts.length → (ts.getD i []).length ≤ 4) ∧ (∀ x ∈ ts, ∀ b ∈ x, b.toNat < 128) ∧ (∀ x ∈ ts, x ≠ []) := by
  have hp : P.data.toList.length = P.size := by simp
  have hb : B.data.toList.length = B.size := by simp
  unfold schB patB at h
  simp only [Bool.and_eq_true, decide_eq_true_eq] at h
  obtain ⟨⟨⟨h1, h2⟩, h3, h4⟩, h5, h6⟩ := h
  have hw : ∀ x ∈ ts, 1 ≤ x.length ∧ x.length ≤ 4 ∧ ∀ b ∈ x, b.toNat < 128 := by
    intro x hx
    have h7 := List.all_eq_true.1 h6 x hx
    unfold wordB at h7
    have h8 := szsL h7
    refine ⟨by omega, by omega, fun b hb => ?_⟩
    have h9 := szsP h7
    unfold pssB at h9
    have h10 := (psB_iff b).1 (List.all_eq_true.1 h9 b hb)
    omega
  refine ⟨by omega, by have := szsL h4; omega, h2, h5, fun i hi => ?_, fun x hx => (hw x hx).2.2, fun x hx e => ?_⟩
  · rw [List.getD_eq_getElem?_getD, List.getElem?_eq_getElem hi]
    exact (hw _ (List.getElem_mem hi)).2.1
  · have := (hw x hx).1
    rw [e] at this
    simp at this
theorem rowsF_getD {P B : List UInt8} {k : Nat} (h : k < P.length) : (rowsF P B 0).getD k [] = sgRow (P.getD k 0) B := by
  unfold rowsF
  rw [List.drop_zero, List.getD_eq_getElem?_getD, List.getElem?_map, List.getElem?_eq_getElem h, List.getD_eq_getElem?_getD, List.getElem?_eq_getElem h]
  rfl
theorem rowsF_drop (P B : List UInt8) (k : Nat) : (rowsF P B 0).drop k = rowsF P B k := by
  unfold rowsF
  rw [List.drop_zero, ← List.map_drop]
theorem rowsF_26 (P B : List UInt8) : ∀ r ∈ rowsF P B 0, r.length ≤ 26 := by
  intro r hr
  unfold rowsF at hr
  obtain ⟨p, _, rfl⟩ := List.mem_map.1 hr
  exact sgRow_len p B
theorem sgRow_ascii {p c : UInt8} {B : List UInt8} (h : c ∈ sgRow p B) : c.toNat < 128 := by
  rw [row_fS] at h
  exact fS_asciiN p c (List.mem_filter.1 h).1
theorem rowsF_ascii (P B : List UInt8) : ∀ r ∈ rowsF P B 0, ∀ c ∈ r, c.toNat < 128 := by
  intro r hr c hc
  unfold rowsF at hr
  obtain ⟨p, _, rfl⟩ := List.mem_map.1 hr
  exact sgRow_ascii hc
theorem rowsF_up (P B : List UInt8) : ∀ r ∈ rowsF P B 0, r.Pairwise (fun a b => a < b) := by
  intro r hr
  unfold rowsF at hr
  obtain ⟨p, _, rfl⟩ := List.mem_map.1 hr
  rw [row_fS]
  exact (fS_up p).filter _
theorem fits_ascii {P B : List UInt8} {t : List UInt8} (h : fitsB P B t = true) : ∀ b ∈ t, b.toNat < 128 := by
  intro b hb
  unfold fitsB at h
  simp only [Bool.and_eq_true, decide_eq_true_eq] at h
  obtain ⟨i, hi, rfl⟩ := List.getElem_of_mem hb
  have h1 := h.2 i hi
  rw [List.contains_iff_mem, List.getD_eq_getElem?_getD (l := t), List.getElem?_eq_getElem hi] at h1
  exact sgRow_ascii h1
theorem fits_len {P B : List UInt8} {t : List UInt8} (h : fitsB P B t = true) : t.length ≤ P.length := by
  unfold fitsB at h
  simp only [Bool.and_eq_true, decide_eq_true_eq] at h
  exact h.1
theorem fits_long {P B : List UInt8} {t : List UInt8} (h : P.length < t.length) : fitsB P B t = false := by
  cases hf : fitsB P B t with
  | false => rfl
  | true => have := fits_len hf; omega
theorem free_nil {L : List (List UInt8)} (h : ∀ x ∈ L, x ≠ []) : Free L [] := fun x hx hi => h x hx (List.infix_nil.1 hi)
theorem plF_spoilt {P B : List UInt8} {ts : List (List UInt8)} {t : List UInt8} (h : ¬ Free ts t) : plF P B ts t = 0 := by
  unfold plF
  rw [if_neg (fun k => h k.2)]
/-- What a walk that isn't lost keeps. -/
structure Way (P B : List UInt8) (L : List (List UInt8)) (k : Nat) (t u : List UInt8) : Prop where
  kl : k ≤ P.length
  fit : fitsB P B (t.take k) = true
  free : Free L u
  beg : tlK L u = true
  len : u.length ≤ k
  eqv : Eqv L (t.take k) u
theorem Way.start {P B : List UInt8} {L : List (List UInt8)} (t : List UInt8) (h : ∀ x ∈ L, x ≠ []) : Way P B L 0 t [] :=
  ⟨Nat.zero_le _, by rw [List.take_zero]; unfold fitsB; simp, free_nil h, by unfold tlK; simp, Nat.le_refl _, by rw [List.take_zero]; exact Eqv.refl _ _⟩
theorem takeS {t : List UInt8} {k : Nat} (h : k < t.length) : t.take (k + 1) = t.take k ++ [t[k]] := by rw [List.take_add_one, List.getElem?_eq_getElem h]; rfl
theorem Way.next {P B : List UInt8} {L : List (List UInt8)} {k : Nat} {t u : List UInt8} (h : Way P B L k t u) (hk : k < t.length) (hp : k < P.length) (hc : t[k] ∈ sgRow (P.getD k 0) B) (hq : qSuf L (u ++ [t[k]]) = true) : Way P B L (k + 1) t (stt L (u ++ [t[k]])) := by
  have hl : (t.take k).length = k := by rw [List.length_take]; omega
  have hs := stepfree h.free hq
  have hf := (right_suf L u t[k] h.free).1 hq
  refine ⟨hp, ?_, hs.1, hs.2, ?_, ?_⟩
  · rw [takeS hk, fits_snoc _ h.fit (by rw [hl]; exact hp), hl, List.contains_iff_mem]
    exact hc
  · have h1 := stt_len L (u ++ [t[k]])
    have h2 := h.len
    rw [List.length_append, List.length_singleton] at h1
    omega
  · rw [takeS hk]
    exact (h.eqv.snoc _).trans (stt_eqv hf)
theorem Way.no_suf {P B : List UInt8} {ts L : List (List UInt8)} {k : Nat} {t u : List UInt8} (h : Way P B L k t u) (hL : SameFree ts L) (hk : k < t.length) (hq : ¬ qSuf L (u ++ [t[k]]) = true) : plF P B ts t = 0 := by
  refine plF_spoilt fun hf => hq ((right_suf L u t[k] h.free).2 ?_)
  refine (h.eqv.snoc t[k]).free.1 ?_
  rw [← takeS hk]
  exact ((hL t).1 hf).infix (List.take_prefix _ _).isInfix
theorem Way.no_row {P B : List UInt8} {ts : List (List UInt8)} {k : Nat} {t : List UInt8} (hk : k < t.length) (hc : ¬ t[k] ∈ sgRow (P.getD k 0) B) : plF P B ts t = 0 := by
  refine plF_no (fits_no k hk ?_)
  rw [List.getD_eq_getElem?_getD (l := t), List.getElem?_eq_getElem hk]
  rw [← Bool.not_eq_true, List.contains_iff_mem]
  exact hc
theorem Way.no_end {P B : List UInt8} {ts : List (List UInt8)} {k : Nat} {t : List UInt8} (hk : k < t.length) (hp : P.length ≤ k) : plF P B ts t = 0 := plF_no (fits_long (by omega))
theorem Way.done {P B : List UInt8} {ts L : List (List UInt8)} {t u : List UInt8} (h : Way P B L t.length t u) (hL : SameFree ts L) : Gq L (qSuf L) ((rowsF P B 0).drop t.length) u = plF P B ts t := by
  have h1 := h.fit
  have h2 := h.eqv
  rw [List.take_length] at h1 h2
  rw [Gq_cnt (right_suf L) _ _ h.free, ← cnt_eqv _ h2, rowsF_drop, plF_cnt h1, cnt_words hL]
/-- The model's count, whatever the text. -/
theorem plFrom_any (P B t : ByteArray) (ts : List (List UInt8)) (v : Value) (w : World) (ht0 : t.size ≤ 1048576) (hs : schB P.data.toList B.data.toList ts = true) (h : Rd ts v w) :
    Calls Tryd.prog 46 #[.agg #[.string P, .string B, v], .string t] w fun e w' => e = .returned (.int .i64 (plF P.data.toList B.data.toList ts t.data.toList : Nat)) ∧ Below w.heap.size w w' := by
  obtain ⟨h1, h2, h3, h4, h5, h6, h7⟩ := sch_facts hs
  by_cases hc : fitsB P.data.toList B.data.toList t.data.toList = true ∧ Free ts t.data.toList
  · have hk := plFrom_yes P B t ts v w h1 (by omega) ht0 h3 h4 h5 h (fun i hi => fits_ascii hc.1 _ (List.getElem_mem (show i < t.data.toList.length by simpa using hi))) hc.1 hc.2 h6
    have e : plF P.data.toList B.data.toList ts t.data.toList = gF P.data.toList B.data.toList ts t.size (stt ts t.data.toList) := by
      unfold plF
      rw [if_pos hc]
      simp
    rw [e]
    exact hk
  · have hk := plFrom_no P B t ts v w (by omega) (by omega) ht0 h3 h4 h5 h hc
    have e : plF P.data.toList B.data.toList ts t.data.toList = 0 := by unfold plF; rw [if_neg hc]
    rw [e]
    exact hk
theorem plF_le {P B : List UInt8} {ts : List (List UInt8)} {t : List UInt8} (h : P.length ≤ 8) : plF P B ts t ≤ 208827064576 := by
  cases hf : fitsB P B t with
  | false => rw [plF_no hf]; omega
  | true =>
    rw [plF_cnt hf]
    have h1 := cnt_le ts (rowsF P B t.length) t (fun r hr => by
      unfold rowsF at hr
      obtain ⟨p, _, rfl⟩ := List.mem_map.1 hr
      exact sgRow_len p B)
    have h2 : (26 : Nat) ^ (rowsF P B t.length).length ≤ 26 ^ 8 := Nat.pow_le_pow_right (by omega) (by rw [rowsF_len]; omega)
    have h3 : (26 : Nat) ^ 8 = 208827064576 := by decide
    omega
end Go.Proofs.YtaomcimmhlpflaaDoor

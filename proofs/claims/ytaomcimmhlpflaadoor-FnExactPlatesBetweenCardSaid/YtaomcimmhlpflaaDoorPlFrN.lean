/-
  The model's counts, ranks and ranked plates in the terms that the program's side has; nothing of the program.
-/
import Derived.Test.YtaomcimmhlpflaaDoorPlFrM
import Derived.Test.YtaomcimmhlpflaaDoorPlCn
namespace Go.Proofs.YtaomcimmhlpflaaDoor

/-- How many plates the model says to begin with a text. -/
def plF (P B : List UInt8) (ts : List (List UInt8)) (t : List UInt8) : Nat := if fitsB P B t = true ∧ Free ts t then gF P B ts t.length (stt ts t) else 0
theorem plF_cnt {P B : List UInt8} {ts : List (List UInt8)} {t : List UInt8} (h : fitsB P B t = true) : plF P B ts t = cnt ts (rowsF P B t.length) t := by
  unfold plF
  by_cases hf : Free ts t
  · rw [if_pos ⟨h, hf⟩]
    unfold gF
    rw [Gq_cnt (right_free ts) _ _ (stt_free hf), cnt_stt _ hf]
  · rw [if_neg (fun k => hf k.2), cnt_no hf]
theorem plF_no {P B : List UInt8} {ts : List (List UInt8)} {t : List UInt8} (h : fitsB P B t = false) : plF P B ts t = 0 := by
  unfold plF
  rw [if_neg (fun k => by rw [h] at k; cases k.1)]
theorem getD_snoc_lt {l : List UInt8} {c : UInt8} {i : Nat} (h : i < l.length) : (l ++ [c]).getD i 0 = l.getD i 0 := by
  rw [List.getD_eq_getElem?_getD, List.getElem?_append_left h, List.getD_eq_getElem?_getD]
theorem getD_snoc_eq (l : List UInt8) (c : UInt8) : (l ++ [c]).getD l.length 0 = c := by
  rw [List.getD_eq_getElem?_getD, List.getElem?_append_right (Nat.le_refl _), Nat.sub_self]; rfl
theorem fits_snoc {P B u : List UInt8} (c : UInt8) (h : fitsB P B u = true) (hl : u.length < P.length) : fitsB P B (u ++ [c]) = (sgRow (P.getD u.length 0) B).contains c := by
  unfold fitsB at h
  simp only [Bool.and_eq_true, decide_eq_true_eq] at h
  cases hc : (sgRow (P.getD u.length 0) B).contains c with
  | true =>
    refine fits_yes (by rw [List.length_append, List.length_singleton]; omega) fun i hi => ?_
    rw [List.length_append, List.length_singleton] at hi
    by_cases e : i < u.length
    · rw [getD_snoc_lt e]; exact h.2 i e
    · rw [show i = u.length by omega, getD_snoc_eq]; exact hc
  | false =>
    refine fits_no u.length (by rw [List.length_append, List.length_singleton]; omega) ?_
    rw [getD_snoc_eq]; exact hc
theorem row_mem {p c : UInt8} {B : List UInt8} (h : c ∈ fS p) : (sgRow p B).contains c = !B.contains c := by
  rw [row_fS, Bool.eq_iff_iff, List.contains_iff_mem, List.mem_filter]
  exact ⟨fun k => k.2, fun k => ⟨h, k⟩⟩
/-- What a sign of a place gives. -/
theorem plF_sign {P B : List UInt8} {ts : List (List UInt8)} {u : List UInt8} {c : UInt8} (h : fitsB P B u = true) (hl : u.length < P.length) (hc : c ∈ fS (P.getD u.length 0)) :
    plF P B ts (u ++ [c]) = if (!B.contains c) = true then cnt ts (rowsF P B (u.length + 1)) (u ++ [c]) else 0 := by
  have hf := fits_snoc c h hl
  rw [row_mem hc] at hf
  by_cases hb : (!B.contains c) = true
  · rw [if_pos hb, plF_cnt (by rw [hf]; exact hb), List.length_append, List.length_singleton]
  · rw [if_neg hb]
    exact plF_no (by rw [hf]; simpa using hb)
theorem fS_up (p : UInt8) : (fS p).Pairwise (fun a b => a < b) := by unfold fS; split <;> decide
theorem fS_mem {p : UInt8} {m : Nat} (hm : m < (fS p).length) : (fS p)[m] ∈ fS p := List.getElem_mem _
/-- What the model adds at one place of a plate. -/
theorem rank_place {P B : List UInt8} {ts : List (List UInt8)} {u : List UInt8} (h : fitsB P B u = true) (hl : u.length < P.length) {m : Nat} (hm : m < (fS (P.getD u.length 0)).length) :
    (((fS (P.getD u.length 0)).take m).map fun c => plF P B ts (u ++ [c])).sum = rkD ts (rowsF P B (u.length + 1)) u (sgRow (P.getD u.length 0) B) (fS (P.getD u.length 0))[m] := by
  unfold rkD
  have e : (sgRow (P.getD u.length 0) B).filter (fun c => decide (c < (fS (P.getD u.length 0))[m])) = ((fS (P.getD u.length 0)).take m).filter (fun c => !B.contains c) := by
    rw [row_fS, List.filter_filter, ← below_take _ m hm (fS_up _), List.filter_filter]
    congr 1
    funext c
    exact Bool.and_comm _ _
  rw [e, sum_filter]
  congr 1
  apply List.map_congr_left
  intro c hc
  exact plF_sign h hl (List.mem_of_mem_take hc)
/-- What the model picks at one place. -/
theorem ranked_place {P B : List UInt8} {ts : List (List UInt8)} {u : List UInt8} (h : fitsB P B u = true) (hl : u.length < P.length) (k : Nat) :
    pick (fun c => plF P B ts (u ++ [c])) (fS (P.getD u.length 0)) k = pick (fun c => cnt ts (rowsF P B (u.length + 1)) (u ++ [c])) (sgRow (P.getD u.length 0) B) k := by
  rw [pick_filter _ (fun c => !B.contains c) _ k (fun c hc hb => by
    rw [plF_sign h hl hc, if_neg (by rw [hb]; decide)]), ← row_fS]
  have : ∀ (r : List UInt8) (k : Nat), (∀ c ∈ r, plF P B ts (u ++ [c]) = cnt ts (rowsF P B (u.length + 1)) (u ++ [c])) → pick (fun c => plF P B ts (u ++ [c])) r k = pick (fun c => cnt ts (rowsF P B (u.length + 1)) (u ++ [c])) r k := by
    intro r
    induction r with
    | nil => intro k _; rfl
    | cons c r ih =>
      intro k hr
      simp only [pick, hr c (by simp)]
      rw [ih _ (fun d hd => hr d (by simp [hd]))]
  refine this _ k fun c hc => ?_
  rw [row_fS, List.mem_filter] at hc
  rw [plF_sign h hl hc.1, if_pos hc.2]
/-- All plates. -/
theorem plF_all (P B : List UInt8) (ts : List (List UInt8)) : plF P B ts [] = cnt ts (rowsF P B 0) [] := plF_cnt (by unfold fitsB; simp)
end Go.Proofs.YtaomcimmhlpflaaDoor

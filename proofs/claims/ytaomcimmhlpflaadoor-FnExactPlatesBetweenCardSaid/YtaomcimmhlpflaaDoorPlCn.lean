/-
  What a step counts: plain facts.
-/
import Derived.Test.YtaomcimmhlpflaaDoorPlSq
namespace Go.Proofs.YtaomcimmhlpflaaDoor
open Go.RowKit

theorem stepcnt {ts : List (List UInt8)} (rs : List (List UInt8)) {u : List UInt8} (c : UInt8) (hf : Free ts u) :
    (if qSuf ts (u ++ [c]) = true then Gq ts (qSuf ts) rs (stt ts (u ++ [c])) else 0) = cnt ts rs (u ++ [c]) := by
  by_cases h : Free ts (u ++ [c])
  · rw [if_pos ((right_suf ts u c hf).2 h), Gq_cnt (right_suf ts) rs _ (stt_free h), cnt_stt rs h]
  · rw [if_neg (fun k => h ((right_suf ts u c hf).1 k)), cnt_no h]
/-- What stands behind a step that isn't lost: the kept end of the longer text, and no word in it. -/
theorem stepfree {ts : List (List UInt8)} {u : List UInt8} {c : UInt8} (hf : Free ts u) (h : qSuf ts (u ++ [c]) = true) : Free ts (stt ts (u ++ [c])) ∧ (decide (stt ts (u ++ [c]) = []) || beg ts (stt ts (u ++ [c]))) = true := by
  refine ⟨stt_free ((right_suf ts u c hf).1 h), ?_⟩
  rw [Bool.or_eq_true, decide_eq_true_eq]
  exact stt_beg ts _
/-- The count of what comes before, along the row of a place: one sign more. -/
theorem rank_row {ts rs : List (List UInt8)} {u r : List UInt8} (k : Nat) (hk : k < r.length) : ((r.take (k + 1)).map fun c => cnt ts rs (u ++ [c])).sum = ((r.take k).map fun c => cnt ts rs (u ++ [c])).sum + cnt ts rs (u ++ [r[k]]) := sum_take_succ r _ k hk
/-- In a row that rises, those below one of its signs are those that stand ahead of it. -/
theorem below_take : ∀ (r : List UInt8) (k : Nat) (hk : k < r.length), r.Pairwise (fun a b => a < b) → r.filter (fun c => decide (c < r[k])) = r.take k := by
  intro r
  induction r with
  | nil => intro k hk; simp at hk
  | cons a r ih =>
    intro k hk hp
    rw [List.pairwise_cons] at hp
    cases k with
    | zero =>
      rw [List.take_zero, List.filter_eq_nil_iff]
      intro x hx
      simp only [List.getElem_cons_zero, decide_eq_true_eq]
      rcases List.mem_cons.1 hx with rfl | hx
      · exact UInt8.lt_irrefl _
      · exact fun h => UInt8.lt_irrefl _ (UInt8.lt_trans h (hp.1 x hx))
    | succ k =>
      have hk' : k < r.length := by simpa using hk
      rw [List.take_succ_cons, List.filter_cons_of_pos]
      · simp only [List.getElem_cons_succ]
        rw [ih k hk' hp.2]
      · simp only [List.getElem_cons_succ, decide_eq_true_eq]
        exact hp.1 _ (List.getElem_mem _)
theorem rkD_take {ts rs : List (List UInt8)} {t r : List UInt8} (k : Nat) (hk : k < r.length) (hp : r.Pairwise (fun a b => a < b)) : rkD ts rs t r r[k] = ((r.take k).map fun c => cnt ts rs (t ++ [c])).sum := by
  unfold rkD
  rw [below_take r k hk hp]
theorem rkD_eqv {Ws : List (List UInt8)} (rs : List (List UInt8)) {t u : List UInt8} (r : List UInt8) (b : UInt8) (h : Eqv Ws t u) : rkD Ws rs t r b = rkD Ws rs u r b := by
  unfold rkD
  congr 1
  apply List.map_congr_left
  intro c _
  exact cnt_eqv rs (h.snoc c)
theorem rkU_eqv {Ws : List (List UInt8)} (rs : List (List UInt8)) : ∀ {t u : List UInt8} (x : List UInt8), Eqv Ws t u → rkU Ws rs t x = rkU Ws rs u x := by
  induction rs with
  | nil => intro t u x _; cases x <;> rfl
  | cons r rs ih =>
    intro t u x h
    cases x with
    | nil => rfl
    | cons b x =>
      show rkD Ws rs t r b + rkU Ws rs (t ++ [b]) x = rkD Ws rs u r b + rkU Ws rs (u ++ [b]) x
      rw [rkD_eqv rs r b h, ih x (h.snoc b)]
/-- One sign of a text on: what is kept, and the rank of what is left. -/
theorem rank_step {ts rs : List (List UInt8)} {u r x : List UInt8} {b : UInt8} (hf : Free ts (u ++ b :: x)) :
    Free ts (u ++ [b]) ∧ Free ts (stt ts (u ++ [b]) ++ x) ∧ rkU ts (r :: rs) u (b :: x) = rkD ts rs u r b + rkU ts rs (stt ts (u ++ [b])) x := by
  have e : u ++ b :: x = (u ++ [b]) ++ x := by simp
  rw [e] at hf
  have h1 : Free ts (u ++ [b]) := hf.infix ⟨[], x, by simp⟩
  have h2 := stt_eqv h1
  refine ⟨h1, (h2 x).1 hf, ?_⟩
  show rkD ts rs u r b + rkU ts rs (u ++ [b]) x = _
  rw [rkU_eqv rs x h2]
end Go.Proofs.YtaomcimmhlpflaaDoor

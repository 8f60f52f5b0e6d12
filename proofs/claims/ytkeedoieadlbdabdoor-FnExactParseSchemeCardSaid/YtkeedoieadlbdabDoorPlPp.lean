/-
  Texts of schemes read: plain facts.
-/
import Derived.Test.YtkeedoieadlbdabDoorPlSpl
import Derived.Test.YtkeedoieadlbdabDoorPlText
import Derived.Lib.CountLaws
import Derived.Lib.SplitLaws
namespace Go.Proofs.YtkeedoieadlbdabDoor
open Go.RowKit

theorem count_le (b : UInt8) : ∀ (n : Nat) (l : List UInt8), l.length ≤ n → l.count b ≤ Lib.count l [b] := by
  intro n
  induction n with
  | zero => intro l h; have : l = [] := List.eq_nil_of_length_eq_zero (by omega); subst this; simp
  | succ n ih =>
    intro l h
    by_cases hm : b ∈ l
    · obtain ⟨p, r, rfl, hp⟩ := List.eq_append_cons_of_mem hm
      have hi := index_hit b r p hp
      rw [Lib.count_hit (by simp) hi]
      have hd : (p ++ b :: r).drop (p.length + ([b] : List UInt8).length) = r := by
        rw [← List.drop_drop, List.drop_left]; rfl
      rw [hd, List.count_append, List.count_cons_self, List.count_eq_zero.2 hp]
      have := ih r (by rw [List.length_append, List.length_cons] at h; omega)
      omega
    · rw [List.count_eq_zero.2 hm]; exact Nat.zero_le _
theorem splitB_spl (s : ByteArray) (b : UInt8) : (Lib.splitB ⟨#[b]⟩ 0 (Lib.countB s ⟨#[b]⟩) s).map (·.data.toList) = spl b s.data.toList := by
  rw [Lib.splitB_data]
  exact splitK_spl b _ _ (count_le b _ _ (Nat.le_refl _))
theorem splitB_len (s : ByteArray) (b : UInt8) : (Lib.splitB ⟨#[b]⟩ 0 (Lib.countB s ⟨#[b]⟩) s).length = Lib.countB s ⟨#[b]⟩ + 1 :=
  Lib.splitB_all ⟨#[b]⟩ (Nat.le_refl 1) 0 _ s rfl
theorem Strs.laidL (w : World) (L : List ByteArray) (hL : L.length ≤ 2000000) : Strs w.heap.size (L.map (·.data.toList)) (.slice (some ⟨w.heap.size, 0, none⟩) L.length L.length) (w.alloc (.cells (L.map Value.string).toArray 9)) := by
  refine ⟨by simp, .inr ⟨w.heap.size, L.length, (L.map Value.string).toArray, by simp, Nat.le_refl _, (MapKept.heap_alloc w _).1, by simp, by unfold maxLen; omega, ?_, ?_⟩⟩
  · simp
  · simp only [List.map_map]
    rw [List.take_of_length_le (by simp)]
    exact List.map_congr_left (fun x _ => rfl)
/-- Pieces joined. -/
theorem splF_join (b : UInt8) : ∀ (l cur : List UInt8), ∃ x xs, splF b cur l = x :: xs ∧ cur ++ l = x ++ xs.flatMap (fun t => b :: t) := by
  intro l
  induction l with
  | nil => intro cur; exact ⟨cur, [], rfl, by simp⟩
  | cons c l ih =>
    intro cur
    rw [splF]
    by_cases hc : c = b
    · rw [if_pos hc]
      obtain ⟨x, xs, h1, h2⟩ := ih []
      refine ⟨cur, x :: xs, by rw [h1], ?_⟩
      rw [List.nil_append] at h2
      rw [List.flatMap_cons, hc, h2]; simp
    · rw [if_neg hc]
      obtain ⟨x, xs, h1, h2⟩ := ih (cur ++ [c])
      exact ⟨x, xs, h1, by rw [← h2]; simp⟩
theorem splF_mem (b : UInt8) : ∀ (l cur x : List UInt8), x ∈ splF b cur l → x.length ≤ cur.length + l.length := by
  intro l
  induction l with
  | nil => intro cur x h; simp [splF] at h; subst h; simp
  | cons c l ih =>
    intro cur x h
    rw [splF] at h
    by_cases hc : c = b
    · rw [if_pos hc] at h
      rcases List.mem_cons.1 h with rfl | h
      · simp
      · have := ih [] x h; simp at this ⊢; omega
    · rw [if_neg hc] at h
      have := ih _ x h; simp at this ⊢; omega
def hd0 (T : List UInt8) : List UInt8 := (spl 126 T).headD []
def pds (T : List UInt8) : List (List UInt8) := (spl 126 T).tail
theorem pcs_eq (T : List UInt8) : spl 126 T = hd0 T :: pds T := by
  obtain ⟨x, xs, h1, _⟩ := splF_join 126 T []
  unfold hd0 pds spl
  rw [h1]; rfl
theorem pcs_join (T : List UInt8) : T = hd0 T ++ wtx (pds T) := by
  obtain ⟨x, xs, h1, h2⟩ := splF_join 126 T []
  unfold hd0 pds spl wtx
  rw [h1]
  simpa using h2
def pP (T : List UInt8) : List UInt8 := (Lib.cut (hd0 T) [33]).1
def pB (T : List UInt8) : List UInt8 := (Lib.cut (hd0 T) [33]).2.1
/-- There is a scheme with this text. -/
def pO (T : List UInt8) : Bool := schB (pP T) (pB T) (pds T) && decide (stx (pP T) (pB T) (pds T) = T)
def sB (T : List UInt8) : List UInt8 := if (spl 33 (hd0 T)).length = 2 then (spl 33 (hd0 T)).getD 1 [] else []
theorem cut_no (l : List UInt8) (h : (33 : UInt8) ∉ l) : (Lib.cut l [33]).1 = l ∧ (Lib.cut l [33]).2.1 = [] ∧ spl 33 l = [l] := by
  have hi := index_no 33 l h
  refine ⟨?_, ?_, by unfold spl; rw [splF_no 33 l [] h]; rfl⟩
  · unfold Lib.cut; rw [hi]; rfl
  · unfold Lib.cut; rw [hi]; rfl
theorem cut_hit (p r : List UInt8) (h : (33 : UInt8) ∉ p) : (Lib.cut (p ++ 33 :: r) [33]).1 = p ∧ (Lib.cut (p ++ 33 :: r) [33]).2.1 = r ∧ spl 33 (p ++ 33 :: r) = p :: spl 33 r := by
  have hi := index_hit 33 r p h
  have hd : (p ++ 33 :: r).drop (p.length + 1) = r := by rw [← List.drop_drop, List.drop_left]; rfl
  have hp : (0 : Int) ≤ (p.length : Int) := by omega
  refine ⟨?_, ?_, by unfold spl; rw [splF_hit 33 r p [] h]; rfl⟩
  · unfold Lib.cut; rw [hi, if_pos hp]; simp
  · unfold Lib.cut; rw [hi, if_pos hp]; exact hd
theorem pP_get (T : List UInt8) : (spl 33 (hd0 T)).getD 0 [] = pP T := by
  unfold pP
  by_cases hm : (33 : UInt8) ∈ hd0 T
  · obtain ⟨p, r, h, hp⟩ := List.eq_append_cons_of_mem hm
    rw [h, (cut_hit p r hp).1, (cut_hit p r hp).2.2]; rfl
  · rw [(cut_no _ hm).1, (cut_no _ hm).2.2]; rfl
theorem schB_33 (P B : List UInt8) (ts : List (List UInt8)) (h : (33 : UInt8) ∈ B) : schB P B ts = false := by
  have hp : pssB B = false := by
    unfold pssB
    rw [List.all_eq_false]
    exact ⟨33, h, by decide⟩
  unfold schB szsB
  rw [hp]
  simp
/-- More pieces than two: nothing is read. -/
theorem many (T : List UInt8) (h : (spl 33 (hd0 T)).length ≠ 1) (h2 : (spl 33 (hd0 T)).length ≠ 2) : pO T = false ∧ stx (pP T) [] (pds T) ≠ T := by
  by_cases hm : (33 : UInt8) ∈ hd0 T
  · obtain ⟨p, r, e, hp⟩ := List.eq_append_cons_of_mem hm
    have c := cut_hit p r hp
    have hr : (33 : UInt8) ∈ r := by
      refine Decidable.byContradiction fun hn => h2 ?_
      rw [e, c.2.2, (cut_no r hn).2.2]; rfl
    constructor
    · unfold pO
      rw [schB_33 _ _ _ (by unfold pB; rw [e, c.2.1]; exact hr)]; rfl
    · intro hh
      have h3 := congrArg List.length (hh.trans (pcs_join T))
      unfold stx pP at h3
      rw [if_pos rfl, e, c.1] at h3
      simp at h3
      omega
  · exact absurd (by rw [(cut_no _ hm).2.2]; rfl) h
theorem few (T : List UInt8) (h : (spl 33 (hd0 T)).length = 1 ∨ (spl 33 (hd0 T)).length = 2) : sB T = pB T := by
  unfold sB pB
  by_cases hm : (33 : UInt8) ∈ hd0 T
  · obtain ⟨p, r, e, hp⟩ := List.eq_append_cons_of_mem hm
    have c := cut_hit p r hp
    rw [e, c.2.1, c.2.2]
    rw [e, c.2.2] at h
    have hpos := splF_pos 33 r []
    have hl : (spl 33 r).length = 1 := by
      unfold spl at h ⊢
      simp only [List.length_cons] at h
      omega
    have hr : (33 : UInt8) ∉ r := fun hm => by
      obtain ⟨p', r', e', hp'⟩ := List.eq_append_cons_of_mem hm
      rw [e', (cut_hit p' r' hp').2.2] at hl
      have := splF_pos 33 r' []
      unfold spl at hl
      simp only [List.length_cons] at hl
      omega
    rw [(cut_no r hr).2.2]; rfl
  · rw [(cut_no _ hm).2.1, (cut_no _ hm).2.2]; rfl
theorem sO_eq (T : List UInt8) : (schB (pP T) (sB T) (pds T) && decide (stx (pP T) (sB T) (pds T) = T)) = pO T := by
  by_cases h : (spl 33 (hd0 T)).length = 1 ∨ (spl 33 (hd0 T)).length = 2
  · rw [few T h]; rfl
  · rw [not_or] at h
    have hm := many T h.1 h.2
    rw [hm.1]
    have : sB T = [] := by unfold sB; rw [if_neg h.2]
    rw [this, decide_eq_false hm.2, Bool.and_false]
theorem sB_eq (T : List UInt8) (h : pO T = true) : sB T = pB T := by
  refine few T (Decidable.byContradiction fun hn => ?_)
  rw [not_or] at hn
  rw [(many T hn.1 hn.2).1] at h; cases h
theorem wtx_len (ts : List (List UInt8)) (h : ts.all wordB = true) : (wtx ts).length ≤ 5 * ts.length := by
  induction ts with
  | nil => simp [wtx]
  | cons t ts ih =>
    rw [List.all_cons, Bool.and_eq_true] at h
    have h1 := h.1
    unfold wordB szsB at h1
    simp only [Bool.and_eq_true, decide_eq_true_eq] at h1
    have := ih h.2
    unfold wtx at this ⊢
    rw [List.flatMap_cons, List.length_append, List.length_cons, List.length_cons]
    omega
theorem sixty {P B : List UInt8} {ts : List (List UInt8)} (h : schB P B ts = true) : (stx P B ts).length ≤ 60 := by
  unfold schB patB szsB at h
  simp only [Bool.and_eq_true, decide_eq_true_eq] at h
  obtain ⟨⟨⟨⟨_, hp⟩, _⟩, _, ⟨_, hb⟩, _⟩, hn, ha⟩ := h
  have := wtx_len ts ha
  unfold stx
  rw [List.length_append]
  split
  · omega
  · rw [List.length_append, List.length_cons]; omega
theorem pO_sixty {T : List UInt8} (h : pO T = true) : T.length ≤ 60 := by
  unfold pO at h
  simp only [Bool.and_eq_true, decide_eq_true_eq] at h
  have := sixty h.1
  rw [h.2] at this
  exact this
theorem pP_len (T : List UInt8) : (pP T).length ≤ T.length := by
  have h := congrArg List.length (pcs_join T)
  rw [List.length_append] at h
  unfold pP Lib.cut
  split
  · rw [List.length_take]; omega
  · show (hd0 T).length ≤ _; omega
theorem pB_len (T : List UInt8) : (pB T).length ≤ T.length := by
  have h := congrArg List.length (pcs_join T)
  rw [List.length_append] at h
  unfold pB Lib.cut
  split
  · rw [List.length_drop]; omega
  · simp
theorem hd0_len (T : List UInt8) : (hd0 T).length ≤ T.length := by
  have h := congrArg List.length (pcs_join T)
  rw [List.length_append] at h
  omega
theorem pds_len (T : List UInt8) : (pds T).length ≤ T.length := by
  have h := splF_len 126 T []
  have e := pcs_eq T
  unfold spl at e
  rw [e, List.length_cons] at h
  omega
theorem pds_each (T : List UInt8) (i : Nat) (h : i < (pds T).length) : ((pds T).getD i []).length ≤ T.length := by
  have e := pcs_eq T
  unfold spl at e
  have hm : (pds T)[i] ∈ splF 126 [] T := by rw [e]; exact List.mem_cons_of_mem _ (List.getElem_mem h)
  have := splF_mem 126 T [] _ hm
  simp only [List.getD, List.getElem?_eq_getElem h, Option.getD_some]
  simpa using this
theorem sB_len (T : List UInt8) : (sB T).length ≤ T.length := by
  unfold sB
  split
  · rename_i h
    have hm : (spl 33 (hd0 T))[1] ∈ splF 33 [] (hd0 T) := List.getElem_mem (l := spl 33 (hd0 T)) (by omega)
    have := splF_mem 33 _ [] _ hm
    have h0 := hd0_len T
    simp only [List.getD, List.getElem?_eq_getElem (show 1 < (spl 33 (hd0 T)).length by omega), Option.getD_some]
    simp at this
    omega
  · simp
theorem fitO (T : List UInt8) (B : List UInt8) (hT : T.length ≤ 1048576) (hB : B.length ≤ T.length) : Fit ⟨(pP T).toArray⟩ ⟨B.toArray⟩ (pds T) := by
  refine ⟨?_, ?_, ?_, ?_⟩
  · have := pP_len T; show (pP T).toArray.size ≤ _; simp; omega
  · show B.toArray.size ≤ _; simp; omega
  · have := pds_len T; omega
  · intro i hi; have := pds_each T i hi; omega
end Go.Proofs.YtkeedoieadlbdabDoor

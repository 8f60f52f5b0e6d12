/-
  Words in texts, as the model says.
-/
import Derived.Test.YtkeedoieadlbdabDoorPlGood
namespace Go.Proofs.YtkeedoieadlbdabDoor
open Go.RowKit

theorem infix_iff_occ (t w : List UInt8) : w <:+: t ↔ ∃ i, i + w.length ≤ t.length ∧ Lib.occAt t w i = true := by
  constructor
  · intro h
    obtain ⟨i, h1, h2⟩ := infix_occ t w h
    rcases Lib.occAt_room h2 with h3 | h3
    · exact ⟨i, h3, h2⟩
    · exact ⟨i, by rw [h3]; simpa using h1, h2⟩
  · rintro ⟨i, _, h⟩
    exact occ_infix t w i h
theorem sub_eq (t w : ByteArray) (k : Nat) (h : k + w.size ≤ t.size) : ((t.extract k (k + w.size)).toList == w.toList) = Lib.occAt t.data.toList w.data.toList k := by
  rw [Lib.toList_data, Lib.toList_data, Lib.extract_data, Lib.occAt_iff_take _ _ _ (by simpa using h)]
  congr 2
  have : w.data.toList.length = w.size := by simp
  omega
theorem free_no {ts : List (List UInt8)} {t : List UInt8} (k : Nat) (hk : k < ts.length) (h : ts.getD k [] <:+: t) : ¬ Free ts t := by
  intro hf
  rw [List.getD_eq_getElem?_getD, List.getElem?_eq_getElem hk] at h
  exact hf _ (List.getElem_mem hk) h
theorem free_yes {ts : List (List UInt8)} {t : List UInt8} (h : ∀ k, k < ts.length → ¬ ts.getD k [] <:+: t) : Free ts t := by
  intro w hw
  obtain ⟨k, hk, rfl⟩ := List.mem_iff_getElem.1 hw
  have := h k hk
  rwa [List.getD_eq_getElem?_getD, List.getElem?_eq_getElem hk] at this
end Go.Proofs.YtkeedoieadlbdabDoor

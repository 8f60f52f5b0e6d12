/-
  Schemes read from texts: the model's side.
-/
import Derived.Test.YtkeedoieadlbdabDoorPlPs1
import Derived.Test.YtkeedoieadlbdabDoorPlPs2
import Derived.Test.YtkeedoieadlbdabDoorPlPs3
import Derived.Test.YtkeedoieadlbdabDoorPlPs4
import Derived.Test.YtkeedoieadlbdabDoorPlPs5
import Derived.Test.YtkeedoieadlbdabDoorPlPs6
import Derived.Deep.RegionHeld3
namespace Go.Proofs.YtkeedoieadlbdabDoor
open Go.RowKit
set_option maxRecDepth 100000 in
set_option maxHeartbeats 8000000 in
theorem plParse_any (s : ByteArray) (w : World) (hs : s.size ≤ 1048576) :
    Calls Tryd.prog 9 #[.string s] w fun e w' => (∃ a k, e = .returned (.tuple #[.agg #[.string (rP s.data.toList (pP s.data.toList)), .string (rP s.data.toList (pB s.data.toList)), .slice a (rT s.data.toList).length k], .bool (pO s.data.toList)]) ∧ Strs w.heap.size (rT s.data.toList) (.slice a (rT s.data.toList).length k) w') ∧ Below w.heap.size w w' := by
  have hz0 : s.data.toList.length = s.size := by simp
  by_cases hl : 60 < s.size
  · have HO : Hid (pO s.data.toList = false) := by
      show _ = _
      cases h : pO s.data.toList with
      | false => rfl
      | true => have := pO_sixty h; omega
    have hlI : (60 : Int) < (s.size : Int) := by omega
    have hp := (MapKept.heap_alloc w (.cells #[.string ⟨#[]⟩, .string ⟨#[]⟩, .slice none 0 0] 24)).1
    clear hz0
    go_enter Tryd.func9, Tryd.ntmps9
    go_wp2
    refine bodyPost_ret (results_row_tmp rfl _ _ w.heap.size 24 #[.string ⟨#[]⟩, .string ⟨#[]⟩, .slice none 0 0] (0, 0) _ rfl ?_ Tryd.underlying24 rfl (by kernel_rfl)) rfl ?_
    · first
      | exact setCell3 hp
      | exact hp
    refine ⟨⟨none, 0, ret_pair (by unfold rP; rw [HO.out]; rfl) (by unfold rP; rw [HO.out]; rfl) (by unfold rT; rw [HO.out]; rfl) HO.out.symm, by unfold rT; rw [HO.out]; exact World.ownsRow_nil _ _ _ _⟩, ?_⟩
    first
    | go_grown
    | exact below_low (below_low (below_low ((Below.refl _ _).alloc (Nat.le_refl _) _) _ _ _ (by omega)) _ _ _ (by omega)) _ _ _ (by omega)
  by_cases h2 : (spl 33 (hd0 s.data.toList)).length = 2
  · cases hz : schB (pP s.data.toList) (sB s.data.toList) (pds s.data.toList) with
    | false => exact plParse_two_bad s w hs hl h2 hz
    | true =>
      by_cases ht : stx (pP s.data.toList) (sB s.data.toList) (pds s.data.toList) = s.data.toList
      · exact plParse_two_eq s w hs hl h2 hz ht
      · exact plParse_two_ne s w hs hl h2 hz ht
  · cases hz : schB (pP s.data.toList) (sB s.data.toList) (pds s.data.toList) with
    | false => exact plParse_one_bad s w hs hl h2 hz
    | true =>
      by_cases ht : stx (pP s.data.toList) (sB s.data.toList) (pds s.data.toList) = s.data.toList
      · exact plParse_one_eq s w hs hl h2 hz ht
      · exact plParse_one_ne s w hs hl h2 hz ht
theorem sParse_any (s : ByteArray) (w : World) (hs : s.size ≤ 1048576) :
    Calls Tryd.prog 4 #[.string s] w fun e w' => (∃ a k, e = .returned (.tuple #[.agg #[.string (rP s.data.toList (pP s.data.toList)), .string (rP s.data.toList (pB s.data.toList)), .slice a (rT s.data.toList).length k], .bool (pO s.data.toList)]) ∧ Strs w.heap.size (rT s.data.toList) (.slice a (rT s.data.toList).length k) w') ∧ Below w.heap.size w w' := by
  obtain ⟨r1, hr1⟩ : ∃ r, r = rP s.data.toList (pP s.data.toList) := ⟨_, rfl⟩
  obtain ⟨r2, hr2⟩ : ∃ r, r = rP s.data.toList (pB s.data.toList) := ⟨_, rfl⟩
  obtain ⟨us, hus⟩ : ∃ r, r = rT s.data.toList := ⟨_, rfl⟩
  obtain ⟨r, hr⟩ : ∃ r, r = pO s.data.toList := ⟨_, rfl⟩
  have Hc : Hid (∀ W : World, Calls Tryd.prog 9 #[.string s] W fun e w' => (∃ a k, e = .returned (.tuple #[.agg #[.string r1, .string r2, .slice a us.length k], .bool r]) ∧ Strs W.heap.size us (.slice a us.length k) w') ∧ Below W.heap.size W w') := fun W => by rw [hr1, hr2, hus, hr]; exact plParse_any s W hs
  rw [← hr1, ← hr2, ← hus, ← hr]
  clear hr1 hr2 hus hr
  go_enter Tryd.func4, Tryd.ntmps4
  go_wp2_with (go_at_call 9; go_must ((with_reducible refine (Hc.out _).mono ?_); rintro e w1 ⟨⟨va, vk, rfl, hv⟩, b1⟩; have hp := heap_one b1; obtain ⟨c0, c1, c2, f1, s1⟩ := blk_cells hp; have B1 : Below w.heap.size w w1 := chain (w := w) (by go_grown) b1; have HV := Lib.hid hv; clear hv))
  refine bodyPost_ret (results_row_tmp rfl _ _ w.heap.size 24 #[.string r1, .string r2, .slice va us.length vk] (0, 0) _ rfl ?_ Tryd.underlying24 rfl (by kernel_rfl)) rfl ?_
  · simp [World.setCell, Array.getElem?_modify, hp]
  have hz : (w.alloc (.cells #[.string ⟨#[]⟩, .string ⟨#[]⟩, .slice none 0 0] 24)).heap.size = w.heap.size + 1 := World.size_alloc _ _
  have hlow : w.heap.size < (w.alloc (.cells #[.string ⟨#[]⟩, .string ⟨#[]⟩, .slice none 0 0] 24)).heap.size := by omega
  exact ⟨⟨va, vk, rfl, (((HV.out.setLow (a := ⟨w.heap.size, 0, none⟩) hlow (.string r1)).setLow (a := ⟨w.heap.size, 1, none⟩) hlow (.string r2)).setLow (a := ⟨w.heap.size, 2, none⟩) hlow (.slice va us.length vk)).mono (by omega)⟩, below_low (below_low (below_low B1 _ _ _ (by omega)) _ _ _ (by omega)) _ _ _ (by omega)⟩
end Go.Proofs.YtkeedoieadlbdabDoor

/-
  Texts parted at a byte: plain facts, and the model's side.
-/
import Derived.Test.YtkeedoieadlbdabDoorPlOwn
import Derived.Lib.Split
namespace Go.Proofs.YtkeedoieadlbdabDoor
open Go.RowKit

/-- The pieces of a text between a byte, the first one begun. -/
def splF (b : UInt8) : List UInt8 → List UInt8 → List (List UInt8)
  | cur, [] => [cur]
  | cur, c :: r => if c = b then cur :: splF b [] r else splF b (cur ++ [c]) r
def spl (b : UInt8) (l : List UInt8) : List (List UInt8) := splF b [] l
theorem splF_no (b : UInt8) : ∀ (l cur : List UInt8), b ∉ l → splF b cur l = [cur ++ l] := by
  intro l
  induction l with
  | nil => intro cur _; simp [splF]
  | cons c l ih =>
    intro cur h
    have hc : ¬ c = b := fun e => h (by simp [e])
    rw [splF, if_neg hc, ih _ (fun hm => h (by simp [hm]))]
    simp
theorem splF_hit (b : UInt8) (r : List UInt8) : ∀ (p cur : List UInt8), b ∉ p → splF b cur (p ++ b :: r) = (cur ++ p) :: splF b [] r := by
  intro p
  induction p with
  | nil => intro cur _; simp [splF]
  | cons c p ih =>
    intro cur h
    have hc : ¬ c = b := fun e => h (by simp [e])
    rw [List.cons_append, splF, if_neg hc, ih _ (fun hm => h (by simp [hm]))]
    simp
theorem splF_len (b : UInt8) : ∀ (l cur : List UInt8), (splF b cur l).length ≤ l.length + 1 := by
  intro l
  induction l with
  | nil => intro cur; simp [splF]
  | cons c l ih =>
    intro cur
    rw [splF]
    split
    · have := ih []; simp; omega
    · have := ih (cur ++ [c]); simp; omega
theorem splF_pos (b : UInt8) : ∀ (l cur : List UInt8), 0 < (splF b cur l).length := by
  intro l
  induction l with
  | nil => intro cur; simp [splF]
  | cons c l ih =>
    intro cur
    rw [splF]
    split
    · simp
    · exact ih _
theorem index_no (b : UInt8) : ∀ (l : List UInt8), b ∉ l → Lib.index l [b] = -1 := by
  intro l
  induction l with
  | nil => intro _; rfl
  | cons c l ih =>
    intro h
    have hc : (b == c) = false := by simpa using fun e => h (by simp [e])
    have h2 := ih (fun hm => h (by simp [hm]))
    unfold Lib.index
    rw [h2]
    simp [List.isPrefixOf, hc]
theorem index_hit (b : UInt8) (r : List UInt8) : ∀ (p : List UInt8), b ∉ p → Lib.index (p ++ b :: r) [b] = p.length := by
  intro p
  induction p with
  | nil => intro _; simp [Lib.index, List.isPrefixOf]
  | cons c p ih =>
    intro h
    have hc : (b == c) = false := by simpa using fun e => h (by simp [e])
    have h2 := ih (fun hm => h (by simp [hm]))
    rw [List.cons_append]
    unfold Lib.index
    rw [h2]
    have hne : ((p.length : Int) == -1) = false := by simp
    simp [List.isPrefixOf, hc]
theorem splitK_spl (b : UInt8) : ∀ (k : Nat) (l : List UInt8), l.count b ≤ k → Lib.splitK [b] 0 k l = spl b l := by
  intro k
  induction k with
  | zero =>
    intro l h
    have hm : b ∉ l := by rw [← List.count_eq_zero]; omega
    unfold spl
    rw [splF_no b l [] hm]; rfl
  | succ k ih =>
    intro l h
    by_cases hm : b ∈ l
    · obtain ⟨p, r, rfl, hp⟩ := List.eq_append_cons_of_mem hm
      have hi := index_hit b r p hp
      unfold spl
      rw [splF_hit b r p [] hp]
      have hc : r.count b ≤ k := by
        rw [List.count_append, List.count_cons_self] at h; omega
      have hd : (p ++ b :: r).drop (p.length + 1) = r := by
        rw [← List.drop_drop, List.drop_left]; rfl
      have hne : ((p.length : Int) == -1) = false := by simp
      unfold Lib.splitK
      rw [hi, hne]
      simp only [Bool.false_eq_true, if_false, Int.toNat_natCast, Nat.add_zero, List.length_singleton, List.nil_append]
      rw [List.take_left, hd, ih r hc]; rfl
    · have hi := index_no b l hm
      unfold spl
      rw [splF_no b l [] hm]
      unfold Lib.splitK
      rw [hi]; rfl
theorem dropTake (l : List UInt8) (f k : Nat) : (l.take k).drop f = (l.drop f).take (k - f) := List.drop_take ..
set_option maxHeartbeats 2000000 in
theorem l1Split_any (s : ByteArray) (b : UInt8) (w : World) (hs : s.size ≤ 1000) :
    Calls Tryd.prog 16 #[.string s, .int .u8 (b.toNat : Int)] w fun e w' => (∃ u, e = .returned u ∧ Strs w.heap.size (spl b s.data.toList) u w') ∧ Below w.heap.size w w' := by
  have hl : s.data.toList.length = s.size := by simp
  have HL := Lib.hid hl
  clear hl
  go_enter Tryd.func16, Tryd.ntmps16
  go_wp2
  go_loopw [5, 6, 7] (fun o fr i wr => ∃ (k f : Nat) (us : List (List UInt8)), k ≤ s.size ∧ f ≤ k ∧ i = .int .i64 k ∧ fr = .int .i64 f ∧ Hid (Strs w.heap.size us o wr) ∧ us.length ≤ k ∧ Hid (spl b s.data.toList = us ++ splF b ((s.data.toList.take k).drop f) (s.data.toList.drop k)) ∧ Below w.heap.size w wr) (fun _ _ i _ => s.size - (intOf i).toNat)
  case atStart => exact ⟨0, 0, [], Nat.zero_le _, Nat.le_refl _, rfl, rfl, World.ownsRow_nil _ _ _ _, Nat.le_refl _, by show _ = _; simp [spl], Below.refl _ _⟩
  case round =>
    obtain ⟨k, f, us, hk, hfk, rfl, rfl, HS, hul, HE, hb⟩ := hrel
    have hbs := hb.size
    by_cases hlt : k < s.size
    · have hd : s.data.toList.drop k = s[k] :: s.data.toList.drop (k + 1) := List.drop_eq_getElem_cons (by rw [HL.out]; exact hlt)
      by_cases hc : (s[k].toNat : Int) = (b.toNat : Int)
      · have hcb : s[k] = b := by rw [← UInt8.toNat_inj]; omega
        have HE2 : Hid (spl b s.data.toList = (us ++ [(s.extract f k).data.toList]) ++ splF b ((s.data.toList.take (k + 1)).drop (k + 1)) (s.data.toList.drop (k + 1))) := by
          show _ = _
          have e1 : (s.data.toList.take (k + 1)).drop (k + 1) = [] := by rw [dropTake]; simp
          rw [HE.out, hd, splF, if_pos hcb, e1, Lib.extract_data, ← dropTake, List.append_assoc]; rfl
        have hI1 : (f : Int) ≤ (k : Int) := by omega
        have hI2 : (k : Int) ≤ (s.size : Int) := by omega
        clear hd hcb
        go_wp2_with (at_builtin; refine append_strs _ rfl _ _ rfl w.heap.size us _ rfl (HS.out.alloc _) wr.heap.size [(s.extract f k).data.toList] rfl (news1 _ _ rfl) (by simp; omega) (by rw [World.size_alloc]; omega) ?_; intro v' w2 hv2 hb2)
        go_roundw
        case rel => exact ⟨k + 1, k + 1, us ++ [(s.extract f k).data.toList], by omega, Nat.le_refl _, by go_num, by go_num, hv2, by simp; omega, HE2, (hb.alloc hbs _).trans hb2⟩
        case measure => simp [intOf]; omega
      · have hcb : ¬ s[k] = b := fun e => hc (by rw [e])
        have HE2 : Hid (spl b s.data.toList = us ++ splF b ((s.data.toList.take (k + 1)).drop f) (s.data.toList.drop (k + 1))) := by
          show _ = _
          have e1 : (s.data.toList.take (k + 1)).drop f = (s.data.toList.take k).drop f ++ [s[k]] := by
            rw [take_snoc s k hlt, List.drop_append_of_le_length (by rw [List.length_take, HL.out]; omega)]
          rw [HE.out, hd, splF, if_neg hcb, e1]
        clear hd hcb
        go_wp2
        go_roundw
        case rel => exact ⟨k + 1, f, us, by omega, by omega, by go_num, rfl, HS, by omega, HE2, hb⟩
        case measure => simp [intOf]; omega
    · have HE2 : Hid (spl b s.data.toList = us ++ [(s.extract f s.size).data.toList]) := by
        show _ = _
        have e0 : s.data.toList.drop k = [] := List.drop_eq_nil_of_le (by rw [HL.out]; omega)
        have e1 : k = s.size := by omega
        rw [HE.out, e0, splF, Lib.extract_data, ← dropTake, e1]
      have hI1 : (f : Int) ≤ (s.size : Int) := by omega
      go_wp2_with (at_builtin; refine append_strs _ rfl _ _ rfl w.heap.size us _ rfl (HS.out.alloc _) wr.heap.size [(s.extract f s.size).data.toList] rfl (news1 _ _ rfl) (by simp; omega) (by rw [World.size_alloc]; omega) ?_; intro v' w2 hv2 hb2)
      go_ret
      exact ⟨⟨_, rfl, by rw [HE2.out]; exact hv2⟩, (hb.alloc hbs _).trans hb2⟩
end Go.Proofs.YtkeedoieadlbdabDoor

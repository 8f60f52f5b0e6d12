/-
  The numbers of a map of tallies, in order.
-/
import Derived.Test.YtlgleghofiflaabSgOnce
import Derived.Test.YtlgleghofiflaabIter
namespace Go.Proofs.Ytlgleghofiflaab
open Go.RowKit Go.Maps Go.Sort Go.Shelf

/-- Numbers in order. -/
def srt (l : List Int) : List Int := l.mergeSort leI
theorem srt_perm (l : List Int) : (srt l).Perm l := List.mergeSort_perm l leI
theorem srt_le (l : List Int) : (srt l).Pairwise (fun a b => a ≤ b) := by
  have tr : ∀ a b c : Int, leI a b = true → leI b c = true → leI a c = true := fun a b c h1 h2 => by simp only [leI, decide_eq_true_eq] at *; exact Int.le_trans h1 h2
  have to : ∀ a b : Int, (leI a b || leI b a) = true := fun a b => by simp only [leI, Bool.or_eq_true, decide_eq_true_eq]; exact Int.le_total a b
  have := List.pairwise_mergeSort tr to l
  exact this.imp (fun {a b} h => by simpa [leI] using h)
theorem tal_keys {w : World} {b n : Nat} {rs : List Sr} {D : DataW Unit} (hown : w.ownsMap Try.prog 3 pairE b n D) (hT : TalD rs D) : (keysOf rs).Perm (intKeys D) := by
  obtain ⟨es, hD, hpw, _⟩ := hown.entries keyed
  obtain ⟨es', hD', hko⟩ := hown.keysOf
  obtain rfl : es = es' := by rw [hD] at hD'; simpa using hD'
  subst hD
  refine perm_intKeys hpw (fun p hp => by obtain ⟨v, hv⟩ := hko p hp; obtain ⟨x, _, hx, _⟩ := Maps.keyOf_i64 Try.underlying3 hv; exact ⟨x, hx⟩) (keys_nodup rs).1 (fun x => ?_)
  rw [(hT.1 x).1, tly_some]
  exact (List.contains_iff_mem).symm
/-- slices.Sort's two contracts at this dump, at the fence that asks nothing. -/
theorem sortsA (m : Nat) : AnyZI.SortsIn Try.prog Try.sortedA_ren Fence.wide m :=
  ⟨fun blk off cap ss W hH hblk hsz => callsIn_wide.2 (AnyM.slices_Sort_int Try.sortA blk off cap ss W hH hblk hsz),
   fun p cap W => callsIn_wide.2 (AnyM.slices_Sort_int_none Try.sortA p cap W)⟩
set_option maxHeartbeats 1000000 in
theorem numsOf_any (b n : Nat) (rs : List Sr) (w : World) (h : Tal w b n rs) (hk : (keysOf rs).length ≤ 5000) :
    Calls Try.prog 29 #[.map (some b)] w fun e w' => ∃ v, e = .returned v ∧ Ints w.heap.size (srt (keysOf rs)) v w' ∧ Below w.heap.size w w' := by
  obtain ⟨D0, hown, hT⟩ := h
  have hkeys := tal_keys hown hT
  have hsz : Maps.size D0 = (keysOf rs).length := hT.2
  have hmax : Maps.size D0 ≤ maxLen := by rw [hsz]; unfold maxLen; omega
  have hbytes : Maps.size D0 * 8 ≤ 140737488355328 := by rw [hsz]; omega
  refine (callsIn_wide (n := 6)).1 ?_
  have hbl := hown.lt
  have hseq : SeqGives Fence.wide 2 Try.prog 57 #[.pointer (some ⟨w.heap.size, 0, none⟩)] encZ (fun ss => ss.Perm (intKeys D0)) (Maps.size D0) (w.alloc (.cells #[.map (some b)] 37)) :=
    AnyZI.keys_gives (ρ := Try.keysA_ren) { Try.keysA with } Fence.wide _ trivial rfl (by omega) w.heap.size b n D0 _ (by simp) (by simp) (by
      obtain ⟨es, clock, hb, Ft, hs, hD⟩ := hown
      exact ⟨es, clock, (Below.heap_alloc _ _ b hbl).trans hb, Ft, hs, hD⟩)
  have cK : ∀ mb W, CallsIn Fence.wide 5 Try.prog 47 #[.map mb] W fun e w' => e = .returned (.func (.func 57) #[] #[.pointer (some ⟨W.heap.size, 0, none⟩)]) ∧ w' = W.alloc (.cells #[.map mb] 37) := fun mb W => AnyZI.keys_in Try.keysA Fence.wide 5 trivial rfl mb W
  have cS := AnyZI.sorted_in Try.sortedA Fence.wide 5 trivial trivial trivial trivial rfl (by omega) (sortsA _) (enters_of Try.func56 (by kernel_rfl) rfl) 57 #[.pointer (some ⟨w.heap.size, 0, none⟩)] trivial (enters_of Try.func57 (by kernel_rfl) rfl) _ _ hmax hbytes _ hseq
  change CallsIn _ _ Try.prog 46 _ _ _ at cS
  have hfK : Fence.wide.fn 47 := trivial
  have hfS : Fence.wide.fn 46 := trivial
  have HK := Lib.hid hkeys
  clear hkeys
  refine callsIn_of_wp Try.func29 rfl trivial ?_ rfl
  simp only [Try.ntmps29, List.size_toArray, List.length_cons, List.length_nil, Nat.reduceAdd, Nat.reduceSub, Array.replicate_succ, Array.replicate_zero, List.push_toArray, List.append_toArray, List.nil_append, List.cons_append]
  gi_wp2_with (first
    | (gi_at_call 47; refine (cK _ _).mono ?_; rintro e w' ⟨rfl, rfl⟩)
    | (gi_at_call 46; refine cS.mono ?_; rintro e w' ⟨v, ss, rfl, hS, hrow, hnil, hb⟩))
  go_ret
  refine ⟨v, rfl, ?_, ((Below.refl _ w).alloc (Nat.le_refl _) _).trans (hb.mono (by simp))⟩
  have e1 : ss.mergeSort leI = srt (keysOf rs) := mergeSort_of_perm_i (hS.trans HK.out.symm)
  have e2 : ss.length = (srt (keysOf rs)).length := by rw [← e1, List.length_mergeSort]
  have := ownsRow_base_a hrow (by simp : w.heap.size ≤ (w.alloc (.cells #[.map (some b)] 37)).heap.size)
  unfold Ints
  rw [← e2, ← e1]
  exact this
theorem keys_len (rs : List Sr) : (keysOf rs).length ≤ rs.length := by
  induction rs using rs_ind with
  | h0 => exact Nat.le_refl _
  | h1 l q ih =>
    rw [keysOf_snoc, List.length_append, List.length_singleton]
    unfold keyS
    split
    · omega
    · rw [List.length_append, List.length_singleton]; omega
theorem keys_le (plain : Bool) (s : ByteArray) (h : dgsB s.data.toList = true) : 0 < (keysOf (rsAll plain s)).length ∧ (keysOf (rsAll plain s)).length ≤ 4096 := by
  obtain ⟨h1, h2, _⟩ := dgs_len h
  have hsl : s.data.toList.length = s.size := by simp
  have hrl : (rsAll plain s).length = (allK plain s.data.toList (s.size - 1)).length := by unfold rsAll; rw [List.length_map]
  have hu : (rsAll plain s).length ≤ 4096 := by rw [hrl]; exact allK_len_le _ _ _ (by omega)
  have hp : 0 < (rsAll plain s).length := by rw [hrl, allK_len]; exact Nat.pow_pos (sgsN_pos plain)
  refine ⟨?_, Nat.le_trans (keys_len _) hu⟩
  obtain ⟨q, hq⟩ := List.exists_mem_of_length_pos hp
  have : q.1.val ∈ keysOf (rsAll plain s) := ((keys_nodup _).2 _).2 (List.mem_map.2 ⟨q, hq, rfl⟩)
  exact List.length_pos_of_mem this
theorem srt_once {plain : Bool} {s : ByteArray} {zs : List Int} (h1 : zs.Perm (vals plain s)) (h2 : zs.Pairwise (fun a b => a ≤ b)) : once zs = srt (keysOf (rsAll plain s)) := by
  obtain ⟨o1, o2, _⟩ := once_props zs h2
  obtain ⟨k1, k2⟩ := keys_nodup (rsAll plain s)
  have hp : (once zs).Perm (srt (keysOf (rsAll plain s))) := by
    refine ((List.perm_ext_iff_of_nodup (lt_nodup o1) k1).2 (fun x => ?_)).trans (srt_perm _).symm
    rw [o2 x, k2 x, vals_mem, h1.mem_iff]
  exact hp.eq_of_pairwise (fun a b _ _ h1 h2 => Int.le_antisymm h1 h2) (o1.imp (fun {x y} hxy => by omega)) (srt_le _)
end Go.Proofs.Ytlgleghofiflaab

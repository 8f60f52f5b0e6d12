/-
  Numbers of an increasing list, each once; the law of CountNumbers.
-/
import Derived.Test.YtlgleghofiflaabSgNum
import Derived.Test.YtlgleghofiflaabSgTly
import Derived.Test.YtlgleghofiflaabSgCl
namespace Go.Proofs.Ytlgleghofiflaab
open Go.RowKit

/-- One more number. -/
def onceS (out : List Int) (n : Int) : List Int := match out.getLast? with
  | none => [n]
  | some l => if l < n then out ++ [n] else out
def once (l : List Int) : List Int := l.foldl onceS []
theorem once_snoc (l : List Int) (n : Int) : once (l ++ [n]) = onceS (once l) n := by simp [once, List.foldl_append]
theorem is_ind {P : List Int → Prop} (h0 : P []) (h1 : ∀ l c, P l → P (l ++ [c])) (l : List Int) : P l := by
  have : ∀ r : List Int, P r.reverse := by
    intro r
    induction r with
    | nil => exact h0
    | cons c r ih => rw [List.reverse_cons]; exact h1 _ _ ih
  have := this l.reverse
  rwa [List.reverse_reverse] at this
theorem once_props (l : List Int) : l.Pairwise (fun a b => a ≤ b) → (once l).Pairwise (fun a b => a < b) ∧ (∀ x, x ∈ once l ↔ x ∈ l) ∧ (once l).getLast? = l.getLast? := by
  induction l using is_ind with
  | h0 => intro _; exact ⟨List.Pairwise.nil, fun _ => Iff.rfl, rfl⟩
  | h1 l n ih =>
    intro h
    rw [List.pairwise_append] at h
    obtain ⟨h1, _, h3⟩ := h
    have hn : ∀ u ∈ l, u ≤ n := fun u hu => h3 u hu n (by simp)
    obtain ⟨i1, i2, i3⟩ := ih h1
    rw [once_snoc]
    unfold onceS
    cases e : (once l).getLast? with
    | none =>
      have e2 : once l = [] := by simpa using e
      have e3 : l = [] := by
        cases l with
        | nil => rfl
        | cons a l' => have := (i2 a).2 (by simp); rw [e2] at this; simp at this
      subst e3
      simp
    | some m =>
      have hm : m ∈ l := by
        have : m ∈ once l := List.mem_of_getLast? e
        exact (i2 m).1 this
      have hmax : ∀ u ∈ l, u ≤ m := by
        rw [i3] at e
        intro u hu
        obtain ⟨l', rfl⟩ : ∃ l', l = l' ++ [m] := by
          rw [List.getLast?_eq_some_iff] at e
          exact e
        rw [List.pairwise_append] at h1
        rcases List.mem_append.1 hu with hu | hu
        · exact h1.2.2 u hu m (by simp)
        · simp at hu; omega
      by_cases hlt : m < n
      · simp only [hlt, if_true]
        refine ⟨?_, ?_, ?_⟩
        · rw [List.pairwise_append]
          refine ⟨i1, by simp, fun a ha b hb => ?_⟩
          simp at hb; subst hb
          have := hmax a ((i2 a).1 ha)
          omega
        · intro x; simp [i2 x]
        · simp
      · simp only [hlt, if_false]
        have hmn : m = n := by have := hn m hm; omega
        refine ⟨i1, ?_, ?_⟩
        · intro x
          rw [i2 x, List.mem_append]
          constructor
          · exact .inl
          · rintro (hx | hx)
            · exact hx
            · simp at hx; subst hx; rw [← hmn]; exact hm
        · rw [e, hmn]; simp
theorem once_len (l : List Int) : (once l).length ≤ l.length := by
  induction l using is_ind with
  | h0 => exact Nat.le_refl _
  | h1 l n ih =>
    rw [once_snoc]
    unfold onceS
    rw [List.length_append, List.length_singleton]
    split
    · simp
    · split
      · rw [List.length_append, List.length_singleton]; omega
      · omega
theorem keys_nodup (rs : List Sr) : (keysOf rs).Nodup ∧ ∀ x, x ∈ keysOf rs ↔ x ∈ rs.map (fun q => q.1.val) := by
  induction rs using rs_ind with
  | h0 => exact ⟨List.nodup_nil, fun _ => Iff.rfl⟩
  | h1 l q ih =>
    obtain ⟨i1, i2⟩ := ih
    rw [keysOf_snoc]
    refine ⟨?_, ?_⟩
    · unfold keyS
      split
      · exact i1
      · rename_i h
        rw [List.nodup_append]
        refine ⟨i1, by simp, fun a ha b hb => ?_⟩
        simp at hb; subst hb
        intro e; subst e
        exact h (by simpa using ha)
    · intro x
      rw [mem_keyS, i2 x]; simp
theorem nodup_len {a b : List Int} (ha : a.Nodup) (hb : b.Nodup) (h : ∀ x, x ∈ a ↔ x ∈ b) : a.length = b.length :=
  ((List.perm_ext_iff_of_nodup ha hb).2 h).length_eq
theorem lt_nodup {a : List Int} (h : a.Pairwise (fun x y => x < y)) : a.Nodup := h.imp (fun {x y} hxy => by omega)
theorem vals_mem (plain : Bool) (s : ByteArray) (x : Int) : x ∈ (rsAll plain s).map (fun q => q.1.val) ↔ x ∈ vals plain s := by
  unfold rsAll vals
  rw [List.map_map]; rfl
theorem once_keys {plain : Bool} {s : ByteArray} {zs : List Int} (h1 : zs.Perm (vals plain s)) (h2 : zs.Pairwise (fun a b => a ≤ b)) : (once zs).length = (keysOf (rsAll plain s)).length := by
  obtain ⟨o1, o2, _⟩ := once_props zs h2
  obtain ⟨k1, k2⟩ := keys_nodup (rsAll plain s)
  refine nodup_len (lt_nodup o1) k1 (fun x => ?_)
  rw [o2 x, k2 x, vals_mem, h1.mem_iff]
set_option maxRecDepth 100000 in
set_option maxHeartbeats 1000000 in
theorem once_any (B : Nat) (zs : List Int) (v : Value) (w : World) (h : Ints B zs v w) (hn : zs.length ≤ 100000) :
    Calls Try.prog 28 #[v] w fun e w' => ∃ u, e = .returned u ∧ Ints w.heap.size (once zs) u w' ∧ Below w.heap.size w w' := by
  rcases h.form with ⟨ao, cap, rfl, h0⟩ | ⟨g, cap, rfl, _, hg, hc, _⟩
  · have hz : zs = [] := List.eq_nil_of_length_eq_zero h0
    subst hz
    clear h
    go_enter Try.func28, Try.ntmps28
    go_wp2
    go_loop [3, 9] (fun u i => i = .int .i64 0 ∧ u = .slice none 0 0) (fun _ _ => 0)
    case atStart => exact ⟨rfl, rfl⟩
    case round =>
      obtain ⟨rfl, rfl⟩ := hrel
      go_wp2
      go_ret
      exact ⟨_, rfl, Ints.nil _ _, Below.refl _ _⟩
  · have HC := Lib.hid hc
    obtain ⟨n, hnn⟩ : ∃ n, n = zs.length := ⟨_, rfl⟩
    have HN := Lib.hid hnn
    rw [← hnn] at hn
    rw [← hnn]
    clear h hc hnn
    go_enter Try.func28, Try.ntmps28
    go_wp2
    go_loopw [3, 9] (fun u i wr => ∃ (k : Nat) (us : List Int), k ≤ n ∧ i = .int .i64 k ∧ Hid (us = once (zs.take k)) ∧ Ints w.heap.size us u wr ∧ Below w.heap.size w wr) (fun _ i _ => n - (intOf i).toNat)
    case atStart => exact ⟨0, [], Nat.zero_le _, rfl, by show _ = _; simp [once], Ints.nil _ _, Below.refl _ _⟩
    case round =>
      obtain ⟨k, us, hk, rfl, HU, hus, hbq⟩ := hrel
      have hqs := hbq.size
      have HUS := Lib.hid hus
      have hul : us.length ≤ 100000 := by
        rw [HU.out]
        exact Nat.le_trans (once_len _) (Nat.le_trans (List.length_take_le _ _) (by omega))
      by_cases hlt : k < n
      · have hlr : k < zs.length := by rw [← HN.out]; exact hlt
        obtain ⟨x, hx⟩ : ∃ x, x = zs[k] := ⟨_, rfl⟩
        have hck : wr.cell? ⟨g, k, none⟩ = some (.int .i64 x) := by
          rw [(hbq.cell (p := ⟨g, k, none⟩) hg), HC.out k hlr, hx, List.getD_eq_getElem?_getD, List.getElem?_eq_getElem hlr]; rfl
        have HE : Hid (once (zs.take (k + 1)) = onceS us x) := by
          show _ = _
          rw [List.take_succ_eq_append_getElem hlr, once_snoc, HU.out, hx]
        clear hx
        rcases hus.form with ⟨ao, cap2, rfl, h0⟩ | ⟨g2, cap2, rfl, _, hg2, hc2, _⟩
        · have hus0 : us = [] := List.eq_nil_of_length_eq_zero h0
          have HE2 : Hid (us ++ [x] = once (zs.take (k + 1))) := by show _ = _; rw [HE.out, hus0]; rfl
          clear hus hus0
          rw [h0]
          rw [h0] at HUS
          go_wp2_with (at_builtin; refine wpList_append_int _ rfl _ _ rfl w.heap.size us _ rfl (HUS.out.alloc _) _ x rfl (new1 _ _ _) (by omega) (by simp; omega) ?_; intro v1 w2 hus1 hb2 _)
          have HU2 := Lib.hid hus1
          have hb3 : Below w.heap.size w w2 := (hbq.alloc hqs _).trans hb2
          clear hus1 hb2
          go_wp2
          go_roundw
          case rel => exact ⟨k + 1, _, by omega, by go_num, HE2, HU2.out, hb3⟩
          case measure => simp [intOf]; omega
        · by_cases hem : us.length = 0
          · have hus0 : us = [] := List.eq_nil_of_length_eq_zero hem
            have HE2 : Hid (us ++ [x] = once (zs.take (k + 1))) := by show _ = _; rw [HE.out, hus0]; rfl
            clear hus hus0 hc2
            rw [hem]
            rw [hem] at HUS
            go_wp2_with (at_builtin; refine wpList_append_int _ rfl _ _ rfl w.heap.size us _ rfl (HUS.out.alloc _) _ x rfl (new1 _ _ _) (by omega) (by simp; omega) ?_; intro v1 w2 hus1 hb2 _)
            have HU2 := Lib.hid hus1
            have hb3 : Below w.heap.size w w2 := (hbq.alloc hqs _).trans hb2
            clear hus1 hb2
            go_wp2
            go_roundw
            case rel => exact ⟨k + 1, _, by omega, by go_num, HE2, HU2.out, hb3⟩
            case measure => simp [intOf]; omega
          · obtain ⟨m, hm⟩ : ∃ m, us.length = m + 1 := ⟨us.length - 1, by omega⟩
            obtain ⟨y, hy⟩ : ∃ y, us.getLast? = some y := ⟨us.getLast (by intro e; rw [e] at hem; simp at hem), List.getLast?_eq_some_getLast _⟩
            have hcl : wr.cell? ⟨g2, m, none⟩ = some (.int .i64 y) := by
              rw [hc2 m (by omega)]
              rw [List.getLast?_eq_getElem?, hm, Nat.add_sub_cancel] at hy
              rw [List.getD_eq_getElem?_getD, hy]; rfl
            obtain ⟨N, hN⟩ : ∃ N, N = us.length := ⟨_, rfl⟩
            have HNN := Lib.hid hN
            have hNm : (N : Int) - 1 = (m : Int) := by omega
            have hN0 : ((N : Int) == 0) = false := by simp; omega
            have hml : (m : Int) < (N : Int) := by omega
            rw [← hN]
            rw [← hN] at HUS hul
            clear hus hc2 hem hm hN
            by_cases hlt3 : y < x
            · have HE2 : Hid (us ++ [x] = once (zs.take (k + 1))) := by show _ = _; rw [HE.out]; unfold onceS; rw [hy]; simp [hlt3]
              have HUL : Hid (us.length ≤ 1000000) := by show _ ≤ _; rw [← HNN.out]; omega
              clear hy
              go_wp2_with (at_builtin; refine wpList_append_int _ rfl _ _ rfl w.heap.size us _ rfl (HUS.out.alloc _) _ x rfl (new1 _ _ _) HUL.out (by simp; omega) ?_; intro v1 w2 hus1 hb2 _)
              have HU2 := Lib.hid hus1
              have hb3 : Below w.heap.size w w2 := (hbq.alloc hqs _).trans hb2
              clear hus1 hb2
              go_wp2
              go_roundw
              case rel => exact ⟨k + 1, _, by omega, by go_num, HE2, HU2.out, hb3⟩
              case measure => simp [intOf]; omega
            · have HE2 : Hid (us = once (zs.take (k + 1))) := by show _ = _; rw [HE.out]; unfold onceS; rw [hy]; simp [hlt3]
              clear hy
              go_wp2
              go_roundw
              case rel => exact ⟨k + 1, us, by omega, by go_num, HE2, HUS.out, hbq⟩
              case measure => simp [intOf]; omega
      · have HK : Hid (us = once zs) := by show _ = _; rw [HU.out, List.take_of_length_le (by rw [← HN.out]; omega)]
        go_wp2
        go_ret
        exact ⟨_, rfl, by rw [← HK.out]; exact HUS.out, hbq⟩
end Go.Proofs.Ytlgleghofiflaab

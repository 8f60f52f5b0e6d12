/-
  Slices of slices of numbers: compared, marked, held.
-/
import Derived.Test.YtdjcgddcgjbboaaDoorSlRwsA
namespace Go.Proofs.YtdjcgddcgjbboaaDoor
open Go.RowKit

/-- Only one block has changed. -/
structure Only (g : Nat) (w w' : World) : Prop where
  os : w'.os = w.os
  tape : w'.tape = w.tape
  output : w'.output = w.output
  size : w'.heap.size = w.heap.size
  block : ∀ k, k ≠ g → w'.heap[k]? = w.heap[k]?
theorem Only.refl (g : Nat) (w : World) : Only g w w := ⟨rfl, rfl, rfl, rfl, fun _ _ => rfl⟩
theorem Only.set {g : Nat} {w w' : World} (h : Only g w w') (j : Nat) (v : Value) : Only g w (w'.setCell ⟨g, j, none⟩ v) :=
  ⟨h.os, h.tape, h.output, by simp [World.setCell, h.size], fun k hk => (Below.heap_setCell _ _ _ _ hk).trans (h.block k hk)⟩
theorem Only.below {g B : Nat} {w w' : World} (h : Only g w w') (hB : B ≤ g) : Below B w w' := ⟨h.os, h.tape, h.output, by rw [h.size]; exact Nat.le_refl _, fun k hk => h.block k (by omega)⟩
theorem Blk.set {w : World} {b : Nat} {cs : Array Value} {T : TypeId} (h : Blk w b cs T) (j : Nat) (v : Value) : Blk (w.setCell ⟨b, j, none⟩ v) b (cs.setIfInBounds j v) T := by
  unfold Blk at *
  simp [World.setCell, Array.getElem?_modify, h]
theorem ivs_set (xs : List Int) (j : Nat) (x : Int) : (ivs xs).setIfInBounds j (.int .i64 x) = ivs (xs.set j x) := by
  unfold ivs; simp
set_option maxHeartbeats 800000 in
theorem markI_any (g : Nat) (xs : List Int) (k0 : Int) (w : World) (hn : xs.length ≤ 1000) (hk0 : 0 ≤ k0 ∧ k0 ≤ 2000000000) (h1 : Blk w g (ivs xs) 3) :
    Calls Tryd.prog 25 #[rowV (g, xs), .int .i64 k0] w fun e w' => e = .returned (.int .i64 (k0 + xs.length)) ∧ Blk w' g (ivs (marks k0 xs.length)) 3 ∧ Only g w w' := by
  obtain ⟨hk1, hk2⟩ := hk0
  have H1 := Lib.hid h1
  have hg := h1.lt
  obtain ⟨n, hnn⟩ : ∃ n, n = xs.length := ⟨_, rfl⟩
  have HN := Lib.hid hnn
  show Calls _ _ #[.slice (some ⟨g, 0, none⟩) xs.length xs.length, _] _ _
  rw [← hnn] at hn ⊢
  clear hnn h1
  go_enter Tryd.func25, Tryd.ntmps25
  go_wp2
  go_loopw [1, 5] (fun kv i wr => ∃ k : Nat, k ≤ n ∧ i = .int .i64 k ∧ kv = .int .i64 (k0 + k) ∧ Hid (Blk wr g (ivs (marked k0 xs k)) 3) ∧ Only g w wr) (fun _ i _ => n - (intOf i).toNat)
  case atStart => exact ⟨0, Nat.zero_le _, rfl, by simp, by show Blk _ _ _ _; rw [marked_zero]; exact H1.out, Only.refl _ _⟩
  case round =>
    obtain ⟨k, hk, rfl, rfl, hI, hb⟩ := hrel
    have hlen : (marked k0 xs k).length = n := by rw [marked_len _ _ _ (by rw [← HN.out]; exact hk), ← HN.out]
    by_cases hlt : k < n
    · have hff : wr.frozen? ⟨g, k, none⟩ = false := hI.out.frozen k
      have hcc : wr.cell? ⟨g, k, none⟩ = some (.int .i64 ((marked k0 xs k)[k]'(by omega))) := by
        rw [hI.out.cell k, ivs_get _ _ (by omega)]
      have HS := Lib.hid (hI.out.set k (.int .i64 (k0 + (k : Int))))
      have HE := Lib.hid (marked_succ k0 xs k (by rw [← HN.out]; exact hlt))
      generalize (marked k0 xs k)[k]'(by omega) = u at hcc
      clear hlen
      go_wp2
      go_roundw
      case rel => exact ⟨k + 1, by omega, by go_num, val_int'' (by omega), by show Blk _ _ _ _; rw [← HE.out, ← ivs_set]; exact HS.out, hb.set k _⟩
      case measure => simp [intOf]; omega
    · have HK : Hid (k = n) := by show _ = _; omega
      go_wp2
      go_ret
      exact ⟨ret_int'' (by rw [HK.out]), by
        have e : marks k0 n = marked k0 xs k := by rw [HK.out, HN.out, marked_all]
        rw [e]; exact hI.out, hb⟩
set_option maxHeartbeats 800000 in
theorem heldI_any (B : Nat) (n : Nat) (v : Value) (k0 : Int) (w : World) (hn : n ≤ 1000000) (hk0 : 0 ≤ k0 ∧ k0 ≤ 2000000000) (h1 : Ints B (marks k0 n) v w) :
    Calls Tryd.prog 26 #[v, .int .i64 k0] w fun e w' => e = .returned (.int .i64 (k0 + n)) ∧ w = w' := by
  obtain ⟨hk1, hk2⟩ := hk0
  rcases h1.form with ⟨ao, cap, rfl, h0⟩ | ⟨g, cap, rfl, hBg, hg, hc, hf⟩
  · rw [marks_len] at h0 ⊢
    subst h0
    clear h1
    go_enter Tryd.func26, Tryd.ntmps26
    go_wp2
    go_loop [1, 5] (fun kv i => i = .int .i64 0 ∧ kv = .int .i64 k0) (fun _ _ => 0)
    case atStart => exact ⟨rfl, rfl⟩
    case round =>
      obtain ⟨rfl, rfl⟩ := hrel
      go_wp2
      go_ret
      exact ⟨ret_int'' (by simp), rfl⟩
  · rw [marks_len] at hc ⊢
    have hc2 : ∀ i, i < n → w.cell? ⟨g, i, none⟩ = some (.int .i64 (k0 + (i : Int))) := fun i hi => by rw [hc i hi, marks_get k0 n i hi]
    have HC := Lib.hid hc2
    clear hc hc2 h1 hf
    go_enter Tryd.func26, Tryd.ntmps26
    go_wp2
    go_loop [1, 5] (fun kv i => ∃ k : Nat, k ≤ n ∧ i = .int .i64 k ∧ kv = .int .i64 (k0 + k)) (fun _ i => n - (intOf i).toNat)
    case atStart => exact ⟨0, Nat.zero_le _, rfl, by simp⟩
    case round =>
      obtain ⟨k, hk, rfl, rfl⟩ := hrel
      by_cases hlt : k < n
      · have hcc := HC.out k hlt
        go_wp2
        go_round
        case rel => exact ⟨k + 1, by omega, by go_num, val_int'' (by omega)⟩
        case measure => simp [intOf]; omega
      · have HK : Hid (k = n) := by show _ = _; omega
        go_wp2
        go_ret
        exact ⟨ret_int'' (by rw [HK.out]), rfl⟩
/-- How many numbers there are. -/
def totR : List Rw → Nat
  | [] => 0
  | p :: ps => p.2.length + totR ps
/-- The rows marked from k on. -/
def mkR : Int → List Rw → List Rw
  | _, [] => []
  | k, p :: ps => (p.1, marks k p.2.length) :: mkR (k + p.2.length) ps
theorem mkR_len (k : Int) (ps : List Rw) : (mkR k ps).length = ps.length := by
  induction ps generalizing k with
  | nil => rfl
  | cons p ps ih => simp [mkR, ih]
theorem totR_append (a b : List Rw) : totR (a ++ b) = totR a + totR b := by
  induction a with
  | nil => simp [totR]
  | cons p a ih => simp [totR, ih]; omega
theorem mkR_append (k : Int) (a b : List Rw) : mkR k (a ++ b) = mkR k a ++ mkR (k + totR a) b := by
  induction a generalizing k with
  | nil => simp [mkR, totR]
  | cons p a ih => simp only [List.cons_append, mkR, totR, ih, Int.natCast_add, Int.add_assoc]
theorem mkR_tot (k : Int) (ps : List Rw) : totR (mkR k ps) = totR ps := by
  induction ps generalizing k with
  | nil => rfl
  | cons p ps ih => simp [mkR, totR, ih, marks_len]
theorem totR_le (ps : List Rw) (m : Nat) (h : ∀ i (hi : i < ps.length), ps[i].2.length ≤ m) : totR ps ≤ ps.length * m := by
  induction ps with
  | nil => simp [totR]
  | cons p ps ih =>
    have h0 := h 0 (by simp)
    have := ih (fun i hi => by have := h (i + 1) (by simp; omega); simpa using this)
    simp only [totR, List.length_cons, Nat.add_mul, Nat.one_mul]
    simp at h0
    omega
theorem totR_take_le (ps : List Rw) (j : Nat) : totR (ps.take j) ≤ totR ps := by
  have := totR_append (ps.take j) (ps.drop j)
  rw [List.take_append_drop] at this; omega
/-- The rows, the first j of them marked. -/
def stR (k : Int) (ps : List Rw) (j : Nat) : List Rw := mkR k (ps.take j) ++ ps.drop j
theorem stR_zero (k : Int) (ps : List Rw) : stR k ps 0 = ps := by simp [stR, mkR]
theorem stR_all (k : Int) (ps : List Rw) : stR k ps ps.length = mkR k ps := by simp [stR]
theorem stR_len (k : Int) (ps : List Rw) (j : Nat) (h : j ≤ ps.length) : (stR k ps j).length = ps.length := by
  simp [stR, mkR_len]; omega
theorem stR_get (k : Int) (ps : List Rw) (j : Nat) (h : j < ps.length) : (stR k ps j)[j]'(by rw [stR_len _ _ _ (by omega)]; exact h) = ps[j] := by
  unfold stR
  rw [List.getElem_append_right (by rw [mkR_len, List.length_take]; omega)]
  simp [mkR_len, Nat.min_eq_left (Nat.le_of_lt h)]
theorem totR_take_succ (ps : List Rw) (j : Nat) (h : j < ps.length) : totR (ps.take (j + 1)) = totR (ps.take j) + ps[j].2.length := by
  rw [List.take_succ_eq_append_getElem h, totR_append]; simp [totR]
theorem stR_succ (k : Int) (ps : List Rw) (j : Nat) (h : j < ps.length) : (stR k ps j).set j (ps[j].1, marks (k + totR (ps.take j)) ps[j].2.length) = stR k ps (j + 1) := by
  have hl : (mkR k (ps.take j)).length = j := by rw [mkR_len, List.length_take]; omega
  unfold stR
  rw [List.set_append_right _ _ (by omega), hl, Nat.sub_self, List.drop_eq_getElem_cons h, List.set_cons_zero, List.take_succ_eq_append_getElem h, mkR_append]
  simp [mkR]
/-- One row is written anew. -/
theorem RwsOf.row {B : Nat} {ps : List Rw} {v : Value} {w w' : World} (h : RwsOf B ps v w) (j : Nat) (hj : j < ps.length) (ys : List Int) (hy : ys.length = ps[j].2.length) (ho : Only ps[j].1 w w') (hb : Blk w' ps[j].1 (ivs ys) 3) :
    RwsOf B (ps.set j (ps[j].1, ys)) v w' := by
  have hm : (ps.set j (ps[j].1, ys)).map rowV = ps.map rowV := by
    apply List.ext_getElem
    · simp
    · intro i h1 h2
      simp only [List.getElem_map, List.getElem_set]
      split
      · rename_i e; subst e; simp [rowV, hy]
      · rfl
  have hf : ∀ i (hi : i < (ps.set j (ps[j].1, ys)).length), (ps.set j (ps[j].1, ys))[i].1 = (ps[i]'(by simpa using hi)).1 := by
    intro i hi
    rw [List.getElem_set]
    split
    · rename_i e; subst e; rfl
    · rfl
  refine ⟨⟨?_, ?_⟩, fun i k hi hk e => ?_, fun i hi => ?_, fun i hi => ?_, fun i hi => ?_⟩
  · rw [hm]; simp
  · rw [hm, List.length_set]
    rcases h.own.2 with h0 | ⟨g, cap, cur, hv, hbb, hg, r⟩
    · exact .inl h0
    · refine .inr ⟨g, cap, cur, hv, hbb, ?_, r⟩
      rw [ho.block g (fun e => h.off j hj (by rw [hv, e]; rfl))]; exact hg
  · rw [hf, hf] at e
    exact h.inj i k (by simpa using hi) (by simpa using hk) e
  · rw [hf]; exact h.base i (by simpa using hi)
  · rw [hf]; exact h.off i (by simpa using hi)
  · by_cases e : i = j
    · subst e; rw [List.getElem_set_self]; exact hb
    · rw [List.getElem_set_ne (fun h => e h.symm)]
      have hi' : i < ps.length := by simpa using hi
      have := h.blk i hi'
      unfold Blk at *
      rw [ho.block _ (fun e2 => e (h.inj i j hi' hj e2))]; exact this
set_option maxHeartbeats 800000 in
theorem markSS_any (B : Nat) (ps : List Rw) (v : Value) (w : World) (hn : ps.length ≤ 1000000) (hw : ∀ i (hi : i < ps.length), ps[i].2.length ≤ 1000) (h1 : RwsOf B ps v w) :
    Calls Tryd.prog 15 #[v, .int .i64 1] w fun e w' => e = .returned (.int .i64 (1 + totR ps)) ∧ RwsOf B (mkR 1 ps) v w' ∧ Below B w w' := by
  have H1 := Lib.hid h1
  have HW := Lib.hid hw
  have htt := totR_le ps 1000 hw
  rcases h1.form with ⟨ao, cap, rfl, h0⟩ | ⟨g, cap, rfl, hBg, hg, hc⟩
  · have hxs : ps = [] := List.length_eq_zero_iff.1 h0
    subst hxs
    clear h1 hw
    go_enter Tryd.func15, Tryd.ntmps15
    go_wp2
    go_loop [1, 5] (fun kv i => i = .int .i64 0 ∧ kv = .int .i64 1) (fun _ _ => 0)
    case atStart => exact ⟨rfl, rfl⟩
    case round =>
      obtain ⟨rfl, rfl⟩ := hrel
      go_wp2
      go_ret
      exact ⟨ret_int'' (by simp [totR]), H1.out, Below.refl _ _⟩
  · obtain ⟨n, hnn⟩ : ∃ n, n = ps.length := ⟨_, rfl⟩
    have HN := Lib.hid hnn
    clear hc
    rw [← hnn] at hn h1 htt
    have H1 : Hid (RwsOf B ps (.slice (some ⟨g, 0, none⟩) n cap) w) := by have := H1.out; rw [← hnn] at this; exact this
    rw [← hnn]
    have HTT := Lib.hid htt
    clear hnn hw h1 htt
    go_enter Tryd.func15, Tryd.ntmps15
    go_wp2
    go_loopw [1, 5] (fun kv i wr => ∃ (k : Nat) (T : Int), k ≤ n ∧ i = .int .i64 k ∧ kv = .int .i64 T ∧ Hid (T = 1 + totR (ps.take k)) ∧ Hid (RwsOf B (stR 1 ps k) (.slice (some ⟨g, 0, none⟩) n cap) wr) ∧ Below B w wr) (fun _ i _ => n - (intOf i).toNat)
    case atStart => exact ⟨0, 1, Nat.zero_le _, rfl, rfl, by show _ = _; simp [totR], by show RwsOf _ _ _ _; rw [stR_zero]; exact H1.out, Below.refl _ _⟩
    case round =>
      obtain ⟨k, T, hk, rfl, rfl, HT, hI, hb⟩ := hrel
      by_cases hlt : k < n
      · have hlp : k < ps.length := by rw [← HN.out]; exact hlt
        have hlen : (stR 1 ps k).length = n := by rw [stR_len _ _ _ (Nat.le_of_lt hlp), ← HN.out]
        have hkl : k < (stR 1 ps k).length := by rw [hlen]; exact hlt
        obtain ⟨p, hp⟩ : ∃ p, p = ps[k] := ⟨_, rfl⟩
        have hpg : (stR 1 ps k)[k]'hkl = p := by rw [stR_get _ _ _ hlp, hp]
        have hcc : wr.cell? ⟨g, k, none⟩ = some (rowV p) := by
          have h := hI.out
          rcases h.form with ⟨ao, cap', e, h0⟩ | ⟨g', cap', e, _, _, hc⟩
          · omega
          · cases e
            rw [hc k hkl, hpg]
        have hbk : Blk wr p.1 (ivs p.2) 3 := by
          have := hI.out.blk k hkl
          rwa [hpg] at this
        have hpl : p.2.length ≤ 1000 := by rw [hp]; exact HW.out k hlp
        have hT1 : 0 ≤ T ∧ T ≤ 2000000000 := by
          have h1 := totR_take_le ps k
          have h2 := HTT.out
          have h3 := HT.out
          have h4 : n * 1000 ≤ 1000000 * 1000 := Nat.mul_le_mul_right _ hn
          omega
        have HM := Lib.hid (markI_any p.1 p.2 T wr hpl hT1 hbk)
        obtain ⟨hT2, hT3⟩ := hT1
        have HP := Lib.hid hp
        have hBp : Hid (B ≤ p.1) := by
          show _ ≤ _
          have := hI.out.base k hkl
          rwa [hpg] at this
        have HPG : Hid ((stR 1 ps k)[k]'hkl = p) := hpg
        unfold rowV at hcc
        clear hlen hp hpg hbk
        go_wp2_with (go_at_call 25; refine HM.out.mono ?_; rintro e w1 ⟨rfl, hb1, ho1⟩; have HB1 := Lib.hid hb1; have HO1 := Lib.hid ho1; clear hb1 ho1)
        go_roundw
        case rel =>
          refine ⟨k + 1, T + p.2.length, by omega, by go_num, rfl, ?_, ?_, hb.trans (HO1.out.below hBp.out)⟩
          · show _ = _
            rw [totR_take_succ ps k hlp, ← HP.out, HT.out]; omega
          · show RwsOf _ _ _ _
            have hr := hI.out.row k hkl (marks T p.2.length) (by rw [marks_len, HPG.out]) (by rw [HPG.out]; exact HO1.out) (by rw [HPG.out]; exact HB1.out)
            rw [← stR_succ 1 ps k hlp, ← HP.out, ← HT.out]
            rw [HPG.out] at hr
            exact hr
        case measure => simp [intOf]; omega
      · have HK : Hid (k = n) := by show _ = _; omega
        go_wp2
        go_ret
        refine ⟨ret_int'' ?_, ?_, hb⟩
        · rw [HT.out, HK.out, HN.out, List.take_length]
        · have := hI.out
          rwa [HK.out, HN.out, stR_all, ← HN.out] at this
set_option maxHeartbeats 800000 in
theorem heldSS_any (B : Nat) (ps : List Rw) (v : Value) (w : World) (hn : ps.length ≤ 1000000) (hw : ∀ i (hi : i < ps.length), ps[i].2.length ≤ 1000) (h1 : RwsOf B (mkR 1 ps) v w) :
    Calls Tryd.prog 16 #[v, .int .i64 1] w fun e w' => e = .returned (.int .i64 (1 + totR ps)) ∧ w = w' := by
  have HW := Lib.hid hw
  have htt := totR_le ps 1000 hw
  rcases h1.form with ⟨ao, cap, rfl, h0⟩ | ⟨g, cap, rfl, hBg, hg, hc⟩
  · rw [mkR_len] at h0 ⊢
    have hxs : ps = [] := List.length_eq_zero_iff.1 h0
    subst hxs
    clear h1 hw
    go_enter Tryd.func16, Tryd.ntmps16
    go_wp2
    go_loop [1, 5] (fun kv i => i = .int .i64 0 ∧ kv = .int .i64 1) (fun _ _ => 0)
    case atStart => exact ⟨rfl, rfl⟩
    case round =>
      obtain ⟨rfl, rfl⟩ := hrel
      go_wp2
      go_ret
      exact ⟨ret_int'' (by simp [totR]), rfl⟩
  · rw [mkR_len] at h1 ⊢
    obtain ⟨n, hnn⟩ : ∃ n, n = ps.length := ⟨_, rfl⟩
    have HN := Lib.hid hnn
    have HTT := Lib.hid htt
    have H1 := Lib.hid h1
    have HC := Lib.hid hc
    rw [← hnn] at hn ⊢
    clear hc hnn hw h1 htt
    go_enter Tryd.func16, Tryd.ntmps16
    go_wp2
    go_loop [1, 5] (fun kv i => ∃ (k : Nat) (T : Int), k ≤ n ∧ i = .int .i64 k ∧ kv = .int .i64 T ∧ Hid (T = 1 + totR (ps.take k))) (fun _ i => n - (intOf i).toNat)
    case atStart => exact ⟨0, 1, Nat.zero_le _, rfl, rfl, by show _ = _; simp [totR]⟩
    case round =>
      obtain ⟨k, T, hk, rfl, rfl, HT⟩ := hrel
      by_cases hlt : k < n
      · have hlp : k < ps.length := by rw [← HN.out]; exact hlt
        obtain ⟨p, hp⟩ : ∃ p, p = ps[k] := ⟨_, rfl⟩
        have hpg : (mkR 1 ps)[k]'(by rw [mkR_len]; exact hlp) = (p.1, marks T p.2.length) := by
          have h2 : mkR 1 ps = mkR 1 (ps.take k) ++ mkR (1 + totR (ps.take k)) (ps.drop k) := by
            rw [← mkR_append, List.take_append_drop]
          have hl : (mkR 1 (ps.take k)).length = k := by rw [mkR_len, List.length_take]; omega
          have h3 : (mkR 1 ps)[k]? = some (p.1, marks T p.2.length) := by
            rw [h2, List.getElem?_append_right (by omega), hl, Nat.sub_self, List.drop_eq_getElem_cons hlp, ← hp, HT.out]
            rfl
          have h4 := List.getElem?_eq_some_iff.1 h3
          exact h4.2
        have hcc : w.cell? ⟨g, k, none⟩ = some (.slice (some ⟨p.1, 0, none⟩) p.2.length p.2.length) := by
          rw [HC.out k (by rw [mkR_len]; exact hlp), hpg]; unfold rowV; simp [marks_len]
        have hpl : p.2.length ≤ 1000 := by rw [hp]; exact HW.out k hlp
        have hbk := H1.out.blk k (by rw [mkR_len]; exact hlp)
        rw [hpg] at hbk
        have hT1 : 0 ≤ T ∧ T ≤ 1000000001 := by
          have h1 := totR_take_le ps k
          have h2 := HTT.out
          have h3 := HT.out
          have h4 : n * 1000 ≤ 1000000 * 1000 := Nat.mul_le_mul_right _ hn
          have h5 := HN.out
          rw [← h5] at h2
          omega
        have hin : Ints p.1 (marks T p.2.length) (.slice (some ⟨p.1, 0, none⟩) p.2.length p.2.length) w := by
          have := ints_of_blk (p := (p.1, marks T p.2.length)) hbk (by simp [marks_len]; exact hpl)
          unfold rowV at this
          simpa [marks_len] using this
        have HM : Hid (Calls Tryd.prog 26 #[.slice (some ⟨p.1, 0, none⟩) p.2.length p.2.length, .int .i64 T] w fun e w' => e = .returned (.int .i64 (T + p.2.length)) ∧ w = w') :=
          heldI_any p.1 p.2.length _ T w (by omega) (by omega) hin
        obtain ⟨hT2, hT3⟩ := hT1
        have HP := Lib.hid hp
        clear hp hpg hbk hin
        have hneg : ¬ T + (p.2.length : Int) < 0 := by omega
        go_wp2_with (go_at_call 26; refine HM.out.mono ?_; rintro e w' ⟨rfl, rfl⟩)
        go_round
        case rel =>
          refine ⟨k + 1, T + p.2.length, by omega, by go_num, rfl, ?_⟩
          show _ = _
          rw [totR_take_succ ps k hlp, ← HP.out, HT.out]; omega
        case measure => simp [intOf]; omega
      · have HK : Hid (k = n) := by show _ = _; omega
        go_wp2
        go_ret
        exact ⟨ret_int'' (by rw [HT.out, HK.out, HN.out, List.take_length]), rfl⟩
end Go.Proofs.YtdjcgddcgjbboaaDoor

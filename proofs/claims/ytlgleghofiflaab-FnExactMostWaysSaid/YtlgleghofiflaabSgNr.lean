/-
  The number made that is nearest: the law of NearestMade.
-/
import Derived.Test.YtlgleghofiflaabSgKeys
namespace Go.Proofs.Ytlgleghofiflaab
open Go.RowKit

def ab (x : Int) : Int := if 0 ≤ x then x else -x
theorem most_at (x y m : Int) (w : World) (h : (if x > y then x else y) = m) :
    Calls Try.prog 48 #[.int .i64 x, .int .i64 y] w fun e w' => e = .returned (.int .i64 m) ∧ w = w' := by
  by_cases hxy : x > y
  · rw [if_pos hxy] at h
    subst h
    go_enter Try.func48, Try.ntmps48
    go_wp2
    go_ret
    exact ⟨rfl, rfl⟩
  · rw [if_neg hxy] at h
    subst h
    go_enter Try.func48, Try.ntmps48
    go_wp2
    go_ret
    exact ⟨rfl, rfl⟩
theorem abs_any (x : Int) (w : World) (h1 : -1000000000 ≤ x) (h2 : x ≤ 1000000000) :
    Calls Try.prog 31 #[.int .i64 x] w fun e w' => e = .returned (.int .i64 (ab x)) ∧ w = w' := by
  have HM : Hid ((if x > -x then x else -x) = ab x) := by show _ = _; unfold ab; split <;> split <;> omega
  go_enter Try.func31, Try.ntmps31
  go_wp2_with (go_at_call 48; go_must ((with_reducible refine (most_at x (-x) (ab x) _ HM.out).mono ?_); rintro e w' ⟨rfl, rfl⟩))
  go_ret
  exact ⟨rfl, rfl⟩
theorem dist_any (a b : Int) (w : World) (h1 : -1000000000 ≤ a) (h2 : a ≤ 1000000000) (h3 : -1000000000 ≤ b) (h4 : b ≤ 1000000000) :
    Calls Try.prog 33 #[.int .i64 a, .int .i64 b] w fun e w' => e = .returned (.int .i64 (ab (a - b))) ∧ w = w' := by
  by_cases h : a < b
  · have HM : Hid (b - a = ab (a - b)) := by show _ = _; unfold ab; split <;> omega
    go_enter Try.func33, Try.ntmps33
    go_wp2
    go_ret
    exact ⟨ret_int (by unfold ab; split <;> omega), rfl⟩
  · by_cases h5 : a = b
    · subst h5
      have HM : Hid (a - a = ab (a - a)) := by show _ = _; unfold ab; split <;> omega
      go_enter Try.func33, Try.ntmps33
      go_wp2
      go_ret
      exact ⟨ret_int (by unfold ab; split <;> omega), rfl⟩
    · have h6 : b < a := by omega
      have HM : Hid (a - b = ab (a - b)) := by show _ = _; unfold ab; split <;> omega
      go_enter Try.func33, Try.ntmps33
      go_wp2
      go_ret
      exact ⟨ret_int (by unfold ab; split <;> omega), rfl⟩
/-- The nearer one. -/
def nrS (n b x : Int) : Int := if ab (x - n) < ab (b - n) then x else b
def IsNr (n : Int) (l : List Int) (b : Int) : Prop := b ∈ l ∧ ∀ x ∈ l, ab (b - n) ≤ ab (x - n) ∧ (ab (x - n) = ab (b - n) → b ≤ x)
theorem isNr_uniq {n : Int} {l : List Int} {b b' : Int} (h : IsNr n l b) (h' : IsNr n l b') : b = b' := by
  obtain ⟨h1, h2⟩ := h
  obtain ⟨h3, h4⟩ := h'
  have a1 := h2 b' h3
  have a2 := h4 b h1
  have e : ab (b' - n) = ab (b - n) := by omega
  have := a1.2 e
  have := a2.2 e.symm
  omega
theorem isNr_of {n : Int} {l l' : List Int} {b : Int} (h : IsNr n l b) (hm : ∀ x, x ∈ l ↔ x ∈ l') : IsNr n l' b :=
  ⟨(hm b).1 h.1, fun x hx => h.2 x ((hm x).2 hx)⟩
theorem nr_fold (n a : Int) (l : List Int) : (a :: l).Pairwise (fun x y => x ≤ y) → IsNr n (a :: l) (l.foldl (nrS n) a) := by
  induction l using is_ind with
  | h0 =>
    intro _
    refine ⟨by simp, fun x hx => ?_⟩
    simp at hx; subst hx
    exact ⟨Int.le_refl _, fun _ => Int.le_refl _⟩
  | h1 l c ih =>
    intro h
    rw [← List.cons_append, List.pairwise_append] at h
    obtain ⟨p1, _, p3⟩ := h
    obtain ⟨i1, i2⟩ := ih p1
    rw [List.foldl_append]
    show IsNr n (a :: (l ++ [c])) (nrS n (l.foldl (nrS n) a) c)
    generalize l.foldl (nrS n) a = b at i1 i2 ⊢
    rw [← List.cons_append]
    unfold nrS
    by_cases hlt : ab (c - n) < ab (b - n)
    · rw [if_pos hlt]
      refine ⟨by simp, fun x hx => ?_⟩
      rcases List.mem_append.1 hx with hx | hx
      · have := i2 x hx
        exact ⟨by omega, by intro e; omega⟩
      · simp at hx; subst hx
        exact ⟨Int.le_refl _, fun _ => Int.le_refl _⟩
    · rw [if_neg hlt]
      refine ⟨List.mem_append.2 (.inl i1), fun x hx => ?_⟩
      rcases List.mem_append.1 hx with hx | hx
      · exact i2 x hx
      · simp at hx; subst hx
        exact ⟨by omega, fun _ => p3 b i1 _ (by simp)⟩
theorem nr_all {n z0 : Int} {zs : List Int} (h0 : zs[0]? = some z0) (hs : zs.Pairwise (fun x y => x ≤ y)) : IsNr n zs (zs.foldl (nrS n) z0) := by
  cases zs with
  | nil => cases h0
  | cons a l =>
    simp at h0
    subst h0
    refine isNr_of (nr_fold n a (a :: l) ?_) (fun x => by simp)
    rw [List.pairwise_cons] at hs ⊢
    refine ⟨fun x hx => ?_, List.pairwise_cons.2 hs⟩
    rcases List.mem_cons.1 hx with rfl | hx
    · exact Int.le_refl _
    · exact hs.1 x hx
/-- What both answer. -/
def NrA (s : ByteArray) (N b : Int) : Prop := ((dgsB s.data.toList && numB N) = false → b = 0) ∧ ((dgsB s.data.toList && numB N) = true → IsNr N (vals false s) b)
theorem nrA_uniq {s : ByteArray} {N b b' : Int} (h : NrA s N b) (h' : NrA s N b') : b = b' := by
  cases e : (dgsB s.data.toList && numB N) with
  | false => rw [h.1 e, h'.1 e]
  | true => exact isNr_uniq (h.2 e) (h'.2 e)
theorem vals_bd (plain : Bool) (s : ByteArray) (hg : dgsB s.data.toList = true) : ∀ x ∈ vals plain s, -30000000 ≤ x ∧ x ≤ 30000000 := by
  intro x hx
  have hsl : s.data.toList.length = s.size := by simp
  obtain ⟨hl1, hl2, _⟩ := dgs_len hg
  unfold vals at hx
  rw [List.mem_map] at hx
  obtain ⟨t, ht, rfl⟩ := hx
  rw [← hsl] at ht
  have hni := allK_sig hg t ht
  have hv := (hni.fine hl2).v
  exact hv
theorem vals_len6 (plain : Bool) (s : ByteArray) (h : dgsB s.data.toList = true) : 0 < (vals plain s).length ∧ (vals plain s).length ≤ 4096 := by
  obtain ⟨h1, h2, _⟩ := dgs_len h
  have hsl : s.data.toList.length = s.size := by simp
  unfold vals
  rw [List.length_map]
  refine ⟨?_, allK_len_le _ _ _ (by omega)⟩
  rw [allK_len]; exact Nat.pow_pos (sgsN_pos plain)
theorem ints_cells {B : Nat} {zs : List Int} {v : Value} {w : World} (h : Ints B zs v w) (hp : 0 < zs.length) :
    ∃ g cap z0, v = .slice (some ⟨g, 0, none⟩) zs.length cap ∧ g < w.heap.size ∧ (∀ i x, zs[i]? = some x → w.cell? ⟨g, i, none⟩ = some (.int .i64 x)) ∧ zs[0]? = some z0 := by
  rcases h.form with ⟨ao, cap, rfl, h0⟩ | ⟨g, cap, rfl, _, hg, hc, _⟩
  · omega
  · refine ⟨g, cap, zs[0], rfl, hg, fun i x hx => ?_, List.getElem?_eq_getElem hp⟩
    obtain ⟨hi, rfl⟩ := List.getElem?_eq_some_iff.1 hx
    rw [hc i hi, List.getD_eq_getElem?_getD, List.getElem?_eq_getElem hi]; rfl
theorem srt_mem (plain : Bool) (s : ByteArray) (x : Int) : x ∈ srt (keysOf (rsAll plain s)) ↔ x ∈ vals plain s := by
  rw [(srt_perm _).mem_iff, (keys_nodup _).2 x, vals_mem]
set_option maxRecDepth 100000 in
set_option maxHeartbeats 2000000 in
theorem sNr_any (s : ByteArray) (N : Int) (w : World) (hs : s.size ≤ maxLen) :
    Calls Try.prog 16 #[.string s, .int .i64 N] w fun e w' => ∃ b : Int, e = .returned (.tuple #[.int .i64 b, .bool (dgsB s.data.toList && numB N)]) ∧ NrA s N b ∧ Below w.heap.size w w' := by
  cases hd : (dgsB s.data.toList && numB N) with
  | false =>
    have HF : Hid (NrA s N 0) := by show NrA s N 0; exact ⟨fun _ => rfl, fun h => by rw [hd] at h; cases h⟩
    have HD := Lib.hid hd
    clear hd
    go_enter Try.func16, Try.ntmps16
    go_wp2_with (first | (go_at_call 30; go_must ((with_reducible refine (asked_b _ _ false _ hs HD.out).mono ?_); rintro e w' ⟨rfl, rfl⟩)))
    go_ret2
    exact ⟨0, rfl, HF.out, Below.refl _ _⟩
  | true =>
    have HDN := Lib.hid hd
    obtain ⟨hd1, hd2⟩ := Bool.and_eq_true_iff.1 hd
    have HL := Lib.hid (vals_len6 false s hd1)
    have HD := Lib.hid hd1
    have HNB := Lib.hid hd2
    obtain ⟨hN1, hN2⟩ : -100000000 ≤ N ∧ N ≤ 100000000 := by unfold numB at hd2; simpa using hd2
    clear hd hd1 hd2
    go_enter Try.func16, Try.ntmps16
    go_wp2_with (first | (go_at_call 30; go_must ((with_reducible refine (asked_b _ _ true _ hs HDN.out).mono ?_); rintro e w' ⟨rfl, rfl⟩)) | (go_at_call 25; go_must ((with_reducible refine (nums_any s false _ HD.out).mono ?_); rintro e w1 ⟨v, rfl, zs, hz, hp, hso, b1⟩; have HLEN := Lib.hid hp.length_eq; have HMEM : Hid (∀ x, x ∈ zs ↔ x ∈ vals false s) := (by show ∀ _, _; intro x; exact hp.mem_iff); have HSO := Lib.hid hso; clear hp hso; have HZL : Hid (0 < zs.length) := (by show 0 < _; rw [HLEN.out]; exact HL.out.1); obtain ⟨g, cap, z0, rfl, hg, hc, hz0⟩ := ints_cells hz HZL.out; obtain ⟨n, hnn⟩ : ∃ n, n = zs.length := ⟨_, rfl⟩; have HN := Lib.hid hnn; have hn : n ≤ 4096 := (by rw [hnn, HLEN.out]; exact HL.out.2); have hn0 : 0 < n := (by rw [hnn]; exact HZL.out); rw [← HN.out]; have HC := Lib.hid hc; have hc0 := hc 0 z0 hz0; have HZ0 := Lib.hid hz0; have HBD : Hid (∀ x ∈ zs, -30000000 ≤ x ∧ x ≤ 30000000) := (by show ∀ _ ∈ zs, _; intro x hx; exact vals_bd false s HD.out x ((HMEM.out x).1 hx)); have HZ0B : Hid (-30000000 ≤ z0 ∧ z0 ≤ 30000000) := HBD.out z0 (List.mem_of_getElem? hz0); clear hz hc hnn hz0)))
    go_loop [7, 21] (fun bv i => ∃ (k : Nat) (b : Int), k ≤ n ∧ i = .int .i64 k ∧ bv = .int .i64 b ∧ Hid (b = (zs.take k).foldl (nrS N) z0) ∧ -30000000 ≤ b ∧ b ≤ 30000000) (fun _ i => n - (intOf i).toNat)
    case atStart => exact ⟨0, z0, Nat.zero_le _, rfl, rfl, by show _ = _; simp, HZ0B.out.1, HZ0B.out.2⟩
    case round =>
      obtain ⟨k, b, hk, rfl, rfl, HB, hb1, hb2⟩ := hrel
      by_cases hlt : k < n
      · have hlr : k < zs.length := by rw [← HN.out]; exact hlt
        obtain ⟨x, hx⟩ : ∃ x, x = zs[k] := ⟨_, rfl⟩
        have hck := HC.out k x (by rw [hx]; exact List.getElem?_eq_getElem hlr)
        obtain ⟨hx1, hx2⟩ : -30000000 ≤ x ∧ x ≤ 30000000 := HBD.out x (by rw [hx]; exact List.getElem_mem _)
        have HE : Hid ((zs.take (k + 1)).foldl (nrS N) z0 = nrS N b x) := by
          show _ = _
          rw [List.take_succ_eq_append_getElem hlr, List.foldl_append, ← HB.out, hx]; rfl
        clear hx
        by_cases hxm : ab (x - N) < ab (b - N)
        · have HE2 : Hid (nrS N b x = x) := by show _ = _; unfold nrS; rw [if_pos hxm]
          go_wp2_with (go_at_call 31; go_must ((with_reducible refine (abs_any _ _ (by omega) (by omega)).mono ?_); rintro e w' ⟨rfl, rfl⟩))
          go_round
          case rel => exact ⟨k + 1, x, by omega, by go_num, rfl, by show _ = _; rw [HE.out, HE2.out], hx1, hx2⟩
          case measure => simp [intOf]; omega
        · have HE2 : Hid (nrS N b x = b) := by show _ = _; unfold nrS; rw [if_neg hxm]
          go_wp2_with (go_at_call 31; go_must ((with_reducible refine (abs_any _ _ (by omega) (by omega)).mono ?_); rintro e w' ⟨rfl, rfl⟩))
          go_round
          case rel => exact ⟨k + 1, b, by omega, by go_num, rfl, by show _ = _; rw [HE.out, HE2.out], hb1, hb2⟩
          case measure => simp [intOf]; omega
      · have HK : Hid (b = zs.foldl (nrS N) z0) := by show _ = _; rw [HB.out, List.take_of_length_le (by rw [← HN.out]; omega)]
        have HR : Hid (NrA s N b) := by
          show NrA s N b
          refine ⟨fun h => by simp [HD.out, HNB.out] at h, fun _ => ?_⟩
          rw [HK.out]
          exact isNr_of (nr_all HZ0.out HSO.out) HMEM.out
        go_wp2
        go_ret2
        exact ⟨b, rfl, HR.out, b1⟩
set_option maxRecDepth 100000 in
set_option maxHeartbeats 2000000 in
theorem iNr_any (s : ByteArray) (N : Int) (w : World) (hs : s.size ≤ maxLen) :
    Calls Try.prog 17 #[.string s, .int .i64 N] w fun e w' => ∃ b : Int, e = .returned (.tuple #[.int .i64 b, .bool (dgsB s.data.toList && numB N)]) ∧ NrA s N b ∧ Below w.heap.size w w' := by
  cases hd : dgsB s.data.toList with
  | false =>
    have HF : Hid (NrA s N 0) := by show NrA s N 0; exact ⟨fun _ => rfl, fun h => by rw [hd] at h; cases h⟩
    have HD := Lib.hid hd
    clear hd
    go_enter Try.func17, Try.ntmps17
    go_wp2_with (first | (go_at_call 26; go_must ((with_reducible refine (digs_b _ false _ hs HD.out).mono ?_); rintro e w' ⟨rfl, rfl⟩)))
    go_ret2
    exact ⟨0, rfl, HF.out, Below.refl _ _⟩
  | true =>
   cases hn : numB N with
   | false =>
    have HF : Hid (NrA s N 0) := by show NrA s N 0; exact ⟨fun _ => rfl, fun h => by rw [hn, Bool.and_false] at h; cases h⟩
    have HD := Lib.hid hd
    have HNB := Lib.hid hn
    clear hd hn
    go_enter Try.func17, Try.ntmps17
    go_wp2_with (first | (go_at_call 26; go_must ((with_reducible refine (digs_b _ true _ hs HD.out).mono ?_); rintro e w' ⟨rfl, rfl⟩)) | (go_at_call 32; go_must ((with_reducible refine (num_b _ false _ HNB.out).mono ?_); rintro e w' ⟨rfl, rfl⟩)))
    go_ret2
    exact ⟨0, rfl, HF.out, Below.refl _ _⟩
   | true =>
    have HL := Lib.hid (keys_le false s hd)
    have HL5 : Hid ((keysOf (rsAll false s)).length ≤ 5000) := by show _ ≤ _; have := (keys_le false s hd).2; omega
    have HD := Lib.hid hd
    have HNB := Lib.hid hn
    have HS : Hid ((⟨#[42, 43, 45, 32]⟩ : ByteArray) = sbs false) := rfl
    obtain ⟨hN1, hN2⟩ : -100000000 ≤ N ∧ N ≤ 100000000 := by unfold numB at hn; simpa using hn
    obtain ⟨zs, hzs⟩ : ∃ zs, zs = srt (keysOf (rsAll false s)) := ⟨_, rfl⟩
    have HZS := Lib.hid hzs
    have HLEN : Hid (zs.length = (keysOf (rsAll false s)).length) := by show _ = _; rw [hzs]; exact (srt_perm _).length_eq
    have HMEM : Hid (∀ x, x ∈ zs ↔ x ∈ vals false s) := by show ∀ _, _; intro x; rw [hzs]; exact srt_mem false s x
    have HSO : Hid (zs.Pairwise (fun x y => x ≤ y)) := by show List.Pairwise _ _; rw [hzs]; exact srt_le _
    clear hd hn hzs
    go_enter Try.func17, Try.ntmps17
    go_wp2_with (first | (go_at_call 26; go_must ((with_reducible refine (digs_b _ true _ hs HD.out).mono ?_); rintro e w' ⟨rfl, rfl⟩)) | (go_at_call 32; go_must ((with_reducible refine (num_b _ true _ HNB.out).mono ?_); rintro e w' ⟨rfl, rfl⟩)) | (go_at_call 27; go_must ((with_reducible refine (tal_any s _ false _ HD.out HS.out).mono ?_); rintro e w1 ⟨bm, nm, rfl, htal, hn5, hbw, b1⟩; have HTL := Lib.hid htal; clear htal)) | (go_at_call 29; go_must ((with_reducible refine (numsOf_any bm nm (rsAll false s) _ HTL.out HL5.out).mono ?_); rintro e w2 ⟨v, rfl, hz, b2⟩; rw [← HZS.out] at hz; have HZL : Hid (0 < zs.length) := (by show 0 < _; rw [HLEN.out]; exact HL.out.1); obtain ⟨g, cap, z0, rfl, hg, hc, hz0⟩ := ints_cells hz HZL.out; obtain ⟨n, hnn⟩ : ∃ n, n = zs.length := ⟨_, rfl⟩; have HN := Lib.hid hnn; have hn : n ≤ 4096 := (by rw [hnn, HLEN.out]; exact HL.out.2); have hn0 : 0 < n := (by rw [hnn]; exact HZL.out); rw [← HN.out]; have HC := Lib.hid hc; have hc0 := hc 0 z0 hz0; have HZ0 := Lib.hid hz0; have HBD : Hid (∀ x ∈ zs, -30000000 ≤ x ∧ x ≤ 30000000) := (by show ∀ _ ∈ zs, _; intro x hx; exact vals_bd false s HD.out x ((HMEM.out x).1 hx)); have HZ0B : Hid (-30000000 ≤ z0 ∧ z0 ≤ 30000000) := HBD.out z0 (List.mem_of_getElem? hz0); clear hz hc hnn hz0)))
    go_loop [7, 26] (fun bv i => ∃ (k : Nat) (b : Int), k ≤ n ∧ i = .int .i64 k ∧ bv = .int .i64 b ∧ Hid (b = (zs.take k).foldl (nrS N) z0) ∧ -30000000 ≤ b ∧ b ≤ 30000000) (fun _ i => n - (intOf i).toNat)
    case atStart => exact ⟨0, z0, Nat.zero_le _, rfl, rfl, by show _ = _; simp, HZ0B.out.1, HZ0B.out.2⟩
    case round =>
      obtain ⟨k, b, hk, rfl, rfl, HB, hb1, hb2⟩ := hrel
      by_cases hlt : k < n
      · have hlr : k < zs.length := by rw [← HN.out]; exact hlt
        obtain ⟨x, hx⟩ : ∃ x, x = zs[k] := ⟨_, rfl⟩
        have hck := HC.out k x (by rw [hx]; exact List.getElem?_eq_getElem hlr)
        obtain ⟨hx1, hx2⟩ : -30000000 ≤ x ∧ x ≤ 30000000 := HBD.out x (by rw [hx]; exact List.getElem_mem _)
        have HE : Hid ((zs.take (k + 1)).foldl (nrS N) z0 = nrS N b x) := by
          show _ = _
          rw [List.take_succ_eq_append_getElem hlr, List.foldl_append, ← HB.out, hx]; rfl
        clear hx
        by_cases hxm : ab (x - N) < ab (b - N)
        · have HE2 : Hid (nrS N b x = x) := by show _ = _; unfold nrS; rw [if_pos hxm]
          go_wp2_with (go_at_call 33; go_must ((with_reducible refine (dist_any _ _ _ (by omega) (by omega) (by omega) (by omega)).mono ?_); rintro e w' ⟨rfl, rfl⟩))
          go_round
          case rel => exact ⟨k + 1, x, by omega, by go_num, rfl, by show _ = _; rw [HE.out, HE2.out], hx1, hx2⟩
          case measure => simp [intOf]; omega
        · have HE2 : Hid (nrS N b x = b) := by show _ = _; unfold nrS; rw [if_neg hxm]
          go_wp2_with (go_at_call 33; go_must ((with_reducible refine (dist_any _ _ _ (by omega) (by omega) (by omega) (by omega)).mono ?_); rintro e w' ⟨rfl, rfl⟩))
          go_round
          case rel => exact ⟨k + 1, b, by omega, by go_num, rfl, by show _ = _; rw [HE.out, HE2.out], hb1, hb2⟩
          case measure => simp [intOf]; omega
      · have HK : Hid (b = zs.foldl (nrS N) z0) := by show _ = _; rw [HB.out, List.take_of_length_le (by rw [← HN.out]; omega)]
        have HR : Hid (NrA s N b) := by
          show NrA s N b
          refine ⟨fun h => by simp [HD.out, HNB.out] at h, fun _ => ?_⟩
          rw [HK.out]
          exact isNr_of (nr_all HZ0.out HSO.out) HMEM.out
        go_wp2
        go_ret2
        exact ⟨b, rfl, HR.out, chain b1 b2⟩
theorem FnExactNearestMade_law (s : ByteArray) (N : Int) (hs : s.size ≤ maxLen) (_hx : (Lit.int .i64 N).wf = true) (w : World) :
    Calls Try.prog 5 #[.string s, .int .i64 N] w fun e w' => e = .returned (.bool true) ∧ Below w.heap.size w w' := by
  have hm := hs
  unfold maxLen at hs
  by_cases hb : s.size ≤ 1048576
  · go_enter Try.func5, Try.ntmps5
    go_wp2_with (first | (go_at_call 16; go_must ((with_reducible refine (sNr_any _ _ _ hm).mono ?_); rintro e w1 ⟨b1, rfl, hA, k1⟩; have HA := Lib.hid hA; clear hA)) | (go_at_call 17; go_must ((with_reducible refine (iNr_any _ _ _ hm).mono ?_); rintro e w2 ⟨b2, rfl, hA2, k2⟩; obtain rfl : b2 = b1 := nrA_uniq hA2 HA.out; clear hA2)))
    go_ret
    exact ⟨rfl, chain k1 k2⟩
  · go_enter Try.func5, Try.ntmps5
    go_wp2_with fail
    go_ret
    exact ⟨rfl, Below.refl _ _⟩
end Go.Proofs.Ytlgleghofiflaab

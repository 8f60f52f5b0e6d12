/-
  The number made in the most ways: the law of MostWays.
-/
import Derived.Test.YtlgleghofiflaabSgKeys
import Derived.Test.YtlgleghofiflaabSgNr
import Derived.Test.YtlgleghofiflaabSgLn
import Derived.Deep.QuietTactic
namespace Go.Proofs.Ytlgleghofiflaab
open Go.RowKit

attribute [local go_sem] tidxL
/-- The least of those with the highest count. -/
def IsMc (c : Int → Int) (l : List Int) (b m : Int) : Prop := b ∈ l ∧ m = c b ∧ ∀ x ∈ l, c x ≤ m ∧ (c x = m → b ≤ x)
def cnt (l : List Int) (x : Int) : Int := ((l.count x : Nat) : Int)
theorem isMc_uniq {c : Int → Int} {l : List Int} {b m b' m' : Int} (h : IsMc c l b m) (h' : IsMc c l b' m') : b = b' ∧ m = m' := by
  obtain ⟨h1, h2, h3⟩ := h
  obtain ⟨h4, h5, h6⟩ := h'
  have a1 := h3 b' h4
  have a2 := h6 b h1
  have e : m = m' := by omega
  have := a1.2 (by omega)
  have := a2.2 (by omega)
  exact ⟨by omega, e⟩
theorem isMc_of {c c' : Int → Int} {l l' : List Int} {b m : Int} (h : IsMc c l b m) (hm : ∀ x, x ∈ l ↔ x ∈ l') (hc : ∀ x, c x = c' x) : IsMc c' l' b m :=
  ⟨(hm b).1 h.1, by rw [← hc]; exact h.2.1, fun x hx => by rw [← hc]; exact h.2.2 x ((hm x).2 hx)⟩
theorem cnt_pos {l : List Int} {x : Int} (h : x ∈ l) : 1 ≤ cnt l x := by
  have := List.count_pos_iff.2 h
  unfold cnt; omega
theorem cnt_zero {l : List Int} {x : Int} (h : x ∉ l) : cnt l x = 0 := by
  have := List.count_eq_zero.2 h
  unfold cnt; omega
theorem cnt_snoc (l : List Int) (n x : Int) : cnt (l ++ [n]) x = cnt l x + (if n = x then 1 else 0) := by
  unfold cnt
  rw [List.count_append, List.count_singleton]
  by_cases h : n = x
  · simp [h]
  · simp [h]
/-- Behind a part of the list in order: the best so far, its count, the count of the last. -/
def Mw (p : List Int) (b m r : Int) : Prop := (p = [] ∧ b = 0 ∧ m = 0 ∧ r = 0) ∨ (∃ l, p.getLast? = some l ∧ r = cnt p l ∧ IsMc (cnt p) p b m)
theorem mw_snoc (p : List Int) (n b m r r' : Int) (hs : (p ++ [n]).Pairwise (fun x y => x ≤ y)) (h : Mw p b m r) (hr : (p.getLast? = some n ∧ r' = r + 1) ∨ (p.getLast? ≠ some n ∧ r' = 1)) :
    (m < r' → Mw (p ++ [n]) n r' r') ∧ (¬ m < r' → Mw (p ++ [n]) b m r') := by
  rw [List.pairwise_append] at hs
  obtain ⟨s1, _, s3⟩ := hs
  have hle : ∀ u ∈ p, u ≤ n := fun u hu => s3 u hu n (by simp)
  have hcn : r' = cnt p n + 1 := by
    rcases h with ⟨rfl, rfl, rfl, rfl⟩ | ⟨l, h1, h2, _⟩
    · rcases hr with ⟨h, _⟩ | ⟨_, h⟩
      · cases h
      · rw [h]; rfl
    · rcases hr with ⟨h, h'⟩ | ⟨h, h'⟩
      · rw [h1] at h; cases h; rw [h', h2]
      · have hnp : n ∉ p := by
          intro hmem
          obtain ⟨p', rfl⟩ := List.getLast?_eq_some_iff.1 h1
          rw [List.pairwise_append] at s1
          have hln : l ≤ n := hle l (by simp)
          rcases List.mem_append.1 hmem with hm | hm
          · have := s1.2.2 n hm l (by simp)
            exact h (by rw [h1]; congr 1; omega)
          · simp at hm; exact h (by rw [h1, hm])
        rw [h', cnt_zero hnp]; rfl
  have hself : cnt (p ++ [n]) n = r' := by rw [cnt_snoc, if_pos rfl, hcn]
  have hoth : ∀ x, x ≠ n → cnt (p ++ [n]) x = cnt p x := fun x hx => by rw [cnt_snoc, if_neg (fun e => hx e.symm)]; omega
  have hlast : (p ++ [n]).getLast? = some n := by simp
  refine ⟨fun hgt => .inr ⟨n, hlast, hself.symm, by simp, hself.symm, fun x hx => ?_⟩, fun hng => .inr ⟨n, hlast, hself.symm, ?_⟩⟩
  · by_cases e : x = n
    · subst e; rw [hself]; exact ⟨Int.le_refl _, fun _ => Int.le_refl _⟩
    · rw [hoth x e]
      have hxp : x ∈ p := by
        rcases List.mem_append.1 hx with hx | hx
        · exact hx
        · simp at hx; exact absurd hx e
      rcases h with ⟨rfl, _⟩ | ⟨l, _, _, i1, i2, i3⟩
      · simp at hxp
      · have := i3 x hxp
        exact ⟨by omega, by intro e; omega⟩
  · rcases h with ⟨rfl, rfl, rfl, rfl⟩ | ⟨l, _, _, i1, i2, i3⟩
    · have : r' = 1 := by rw [hcn]; rfl
      omega
    · have hbn : b ≠ n := by
        intro e; subst e; omega
      refine ⟨List.mem_append.2 (.inl i1), by rw [hoth b hbn]; exact i2, fun x hx => ?_⟩
      by_cases e : x = n
      · subst e; rw [hself]; exact ⟨by omega, fun _ => hle b i1⟩
      · rw [hoth x e]
        refine i3 x ?_
        rcases List.mem_append.1 hx with hx | hx
        · exact hx
        · simp at hx; exact absurd hx e
/-- Behind a part of the numbers, each once: the best so far. -/
def Mk (c : Int → Int) (p : List Int) (b m : Int) : Prop := (p = [] ∧ b = 0 ∧ m = 0) ∨ IsMc c p b m
theorem mk_snoc (c : Int → Int) (p : List Int) (n b m : Int) (hs : (p ++ [n]).Pairwise (fun x y => x ≤ y)) (hp : 1 ≤ c n) (h : Mk c p b m) :
    (m < c n → Mk c (p ++ [n]) n (c n)) ∧ (¬ m < c n → Mk c (p ++ [n]) b m) := by
  rw [List.pairwise_append] at hs
  obtain ⟨s1, _, s3⟩ := hs
  have hle : ∀ u ∈ p, u ≤ n := fun u hu => s3 u hu n (by simp)
  refine ⟨fun hgt => .inr ⟨by simp, rfl, fun x hx => ?_⟩, fun hng => ?_⟩
  · rcases List.mem_append.1 hx with hx | hx
    · rcases h with ⟨rfl, _⟩ | ⟨i1, i2, i3⟩
      · simp at hx
      · have := i3 x hx
        exact ⟨by omega, by intro e; omega⟩
    · simp at hx; subst hx; exact ⟨Int.le_refl _, fun _ => Int.le_refl _⟩
  · rcases h with ⟨rfl, rfl, rfl⟩ | ⟨i1, i2, i3⟩
    · omega
    · refine .inr ⟨List.mem_append.2 (.inl i1), i2, fun x hx => ?_⟩
      rcases List.mem_append.1 hx with hx | hx
      · exact i3 x hx
      · simp at hx; subst hx; exact ⟨by omega, fun _ => hle b i1⟩
/-- What both answer. -/
def MwA (s : ByteArray) (b m : Int) : Prop := (dgsB s.data.toList = false → b = 0 ∧ m = 0) ∧ (dgsB s.data.toList = true → IsMc (cnt (vals true s)) (vals true s) b m)
theorem mwA_uniq {s : ByteArray} {b m b' m' : Int} (h : MwA s b m) (h' : MwA s b' m') : b = b' ∧ m = m' := by
  cases e : dgsB s.data.toList with
  | false => have h1 := h.1 e; have h2 := h'.1 e; omega
  | true => exact isMc_uniq (h.2 e) (h'.2 e)
theorem ret_iib {a b c d : Int} {p : Bool} (h : a = b ∧ c = d) : Ending.returned (.tuple #[.int .i64 a, .int .i64 c, .bool p]) = .returned (.tuple #[.int .i64 b, .int .i64 d, .bool p]) := by rw [h.1, h.2]
theorem look_run (w : World) (b n : Nat) (rs : List Sr) (hown : Tal w b n rs) (k : Int) (hk : (Lit.int .i64 k).wf = true) :
    (Instr.lookup 37 (.map (some b)) (.int .i64 k) false).run Try.prog w = .ok (.agg #[.int .i64 ((tly k rs).getD (0, 0)).1, .int .i64 ((tly k rs).getD (0, 0)).2]) w := by
  obtain ⟨D, h1, h2⟩ := hown
  obtain ⟨v, ps, hrun, hv⟩ := h1.lookup keyed Try.underlying37 (zeroT w) (pairE_mk (0, 0)) (Go.Maps.keyOf_int_mk Try.underlying3 hk)
  rw [(h2.1 k).2] at hv
  rw [pairE_inv hv] at hrun
  exact hrun
theorem Tal.drewN {w : World} {b n : Nat} {rs : List Sr} (h : Tal w b n rs) (q : Nat) : Tal (w.drewN q) b n rs := h.below (below_drewN (Below.refl _ _) q)
set_option maxRecDepth 100000 in
set_option maxHeartbeats 4000000 in
theorem sMw_any (s : ByteArray) (w : World) (hs : s.size ≤ maxLen) :
    Calls Try.prog 18 #[.string s] w fun e w' => ∃ b m : Int, e = .returned (.tuple #[.int .i64 b, .int .i64 m, .bool (dgsB s.data.toList)]) ∧ MwA s b m ∧ Below w.heap.size w w' := by
  cases hd : dgsB s.data.toList with
  | false =>
    have HF : Hid (MwA s 0 0) := by show MwA s 0 0; exact ⟨fun _ => ⟨rfl, rfl⟩, (fun h => by rw [hd] at h; cases h)⟩
    have HD := Lib.hid hd
    clear hd
    go_enter Try.func18, Try.ntmps18
    go_wp2_with (first | (go_at_call 24; go_must ((with_reducible refine (sgDigits_b _ false _ hs HD.out).mono ?_); rintro e w' ⟨rfl, rfl⟩)))
    go_ret3
    exact ⟨0, 0, rfl, HF.out, Below.refl _ _⟩
  | true =>
    have HL := Lib.hid (vals_len6 true s hd)
    have HD := Lib.hid hd
    clear hd
    go_enter Try.func18, Try.ntmps18
    go_wp2_with (first | (go_at_call 24; go_must ((with_reducible refine (sgDigits_b _ true _ hs HD.out).mono ?_); rintro e w' ⟨rfl, rfl⟩)) | (go_at_call 25; go_must ((with_reducible refine (nums_any s true _ HD.out).mono ?_); rintro e w1 ⟨v, rfl, zs, hz, hp, hso, b1⟩; have HLEN := Lib.hid hp.length_eq; have HP := Lib.hid hp; have HSO := Lib.hid hso; clear hp hso; have HZL : Hid (0 < zs.length) := (by show 0 < _; rw [HLEN.out]; exact HL.out.1); obtain ⟨g, cap, z0, rfl, hg, hc, hz0⟩ := ints_cells hz HZL.out; obtain ⟨n, hnn⟩ : ∃ n, n = zs.length := ⟨_, rfl⟩; have HN := Lib.hid hnn; have hn : n ≤ 4096 := (by rw [hnn, HLEN.out]; exact HL.out.2); have hn0 : 0 < n := (by rw [hnn]; exact HZL.out); rw [← HN.out]; have HC := Lib.hid hc; clear hz hc hnn hz0)))
    go_loop [5, 6, 7, 18] (fun bv mv rv i => ∃ (k : Nat) (b mo r : Int), k ≤ n ∧ i = .int .i64 k ∧ bv = .int .i64 b ∧ mv = .int .i64 mo ∧ rv = .int .i64 r ∧ Hid (Mw (zs.take k) b mo r) ∧ 0 ≤ r ∧ r ≤ (k : Int) ∧ 0 ≤ mo ∧ mo ≤ (k : Int)) (fun _ _ _ i => n - (intOf i).toNat)
    case atStart => exact ⟨0, 0, 0, 0, Nat.zero_le _, rfl, rfl, rfl, rfl, .inl ⟨rfl, rfl, rfl, rfl⟩, by omega, by omega, by omega, by omega⟩
    case round =>
      obtain ⟨k, b, mo, r, hk, rfl, rfl, rfl, rfl, HM, hr0, hr1, hm0, hm1⟩ := hrel
      by_cases hlt : k < n
      · have hlr : k < zs.length := by rw [← HN.out]; exact hlt
        obtain ⟨x, hx⟩ : ∃ x, x = zs[k] := ⟨_, rfl⟩
        have hck := HC.out k x (by rw [hx]; exact List.getElem?_eq_getElem hlr)
        have HTK : Hid (zs.take (k + 1) = zs.take k ++ [x]) := by show _ = _; rw [List.take_succ_eq_append_getElem hlr, hx]
        have HSS : Hid ((zs.take k ++ [x]).Pairwise (fun x y => x ≤ y)) := by show List.Pairwise _ _; rw [← HTK.out]; exact HSO.out.sublist (List.take_sublist _ _)
        clear hx
        rcases Nat.eq_zero_or_pos k with h0 | hpos
        · subst h0
          have HST := Lib.hid (mw_snoc (zs.take 0) x b mo r 1 HSS.out HM.out (.inr ⟨by simp, rfl⟩))
          have hmo : mo = 0 := by omega
          subst hmo
          have HN1 : Hid (Mw (zs.take (0 + 1)) x 1 1) := by show Mw _ _ _ _; rw [HTK.out]; exact HST.out.1 (by omega)
          clear hlr
          go_wp2
          go_round
          case rel => exact ⟨0 + 1, x, 1, 1, by omega, by go_num, rfl, rfl, rfl, HN1.out, by omega, by omega, by omega, by omega⟩
          case measure => simp [intOf]; omega
        · obtain ⟨j, hj⟩ : ∃ j, j = k - 1 := ⟨_, rfl⟩
          have hjr : j < zs.length := by omega
          obtain ⟨y, hy⟩ : ∃ y, y = zs[j] := ⟨_, rfl⟩
          have hcj := HC.out j y (by rw [hy]; exact List.getElem?_eq_getElem hjr)
          have hkm : (k : Int) - 1 = (j : Int) := by omega
          have hjn : (j : Int) < (n : Int) := by omega
          have hkp : (0 : Int) < (k : Int) := by omega
          have HLAST : Hid ((zs.take k).getLast? = some y) := by
            show _ = _
            have e : k = j + 1 := by omega
            rw [e, hy, List.take_succ_eq_append_getElem hjr]; exact List.getLast?_concat
          clear hy hjr hlr hj
          by_cases hyx : y = x
          · subst hyx
            have HST := Lib.hid (mw_snoc (zs.take k) y b mo r (r + 1) HSS.out HM.out (.inl ⟨HLAST.out, rfl⟩))
            by_cases hgt : mo < r + 1
            · have HN1 : Hid (Mw (zs.take (k + 1)) y (r + 1) (r + 1)) := by show Mw _ _ _ _; rw [HTK.out]; exact HST.out.1 hgt
              go_wp2
              go_round
              case rel => exact ⟨k + 1, y, r + 1, r + 1, by omega, by go_num, rfl, rfl, rfl, HN1.out, by omega, by omega, by omega, by omega⟩
              case measure => simp [intOf]; omega
            · have HN1 : Hid (Mw (zs.take (k + 1)) b mo (r + 1)) := by show Mw _ _ _ _; rw [HTK.out]; exact HST.out.2 hgt
              go_wp2
              go_round
              case rel => exact ⟨k + 1, b, mo, r + 1, by omega, by go_num, rfl, rfl, rfl, HN1.out, by omega, by omega, by omega, by omega⟩
              case measure => simp [intOf]; omega
          · have HST := Lib.hid (mw_snoc (zs.take k) x b mo r 1 HSS.out HM.out (.inr ⟨by rw [HLAST.out]; simpa using hyx, rfl⟩))
            by_cases hgt : mo < 1
            · have HN1 : Hid (Mw (zs.take (k + 1)) x 1 1) := by show Mw _ _ _ _; rw [HTK.out]; exact HST.out.1 hgt
              go_wp2
              go_round
              case rel => exact ⟨k + 1, x, 1, 1, by omega, by go_num, rfl, rfl, rfl, HN1.out, by omega, by omega, by omega, by omega⟩
              case measure => simp [intOf]; omega
            · have HN1 : Hid (Mw (zs.take (k + 1)) b mo 1) := by show Mw _ _ _ _; rw [HTK.out]; exact HST.out.2 hgt
              go_wp2
              go_round
              case rel => exact ⟨k + 1, b, mo, 1, by omega, by go_num, rfl, rfl, rfl, HN1.out, by omega, by omega, by omega, by omega⟩
              case measure => simp [intOf]; omega
      · have HR : Hid (MwA s b mo) := by
          show MwA s b mo
          refine ⟨(fun h => by rw [HD.out] at h; cases h), fun _ => ?_⟩
          have hM := HM.out
          rw [List.take_of_length_le (by rw [← HN.out]; omega)] at hM
          rcases hM with ⟨e, _⟩ | ⟨_, _, _, hI⟩
          · have := HZL.out; rw [e] at this; simp at this
          · exact isMc_of hI (fun x => HP.out.mem_iff) (fun x => by unfold cnt; rw [HP.out.count_eq])
        go_wp2
        go_ret3
        exact ⟨b, mo, rfl, HR.out, b1⟩
set_option maxRecDepth 100000 in
set_option maxHeartbeats 4000000 in
theorem iMw_any (s : ByteArray) (w : World) (hs : s.size ≤ maxLen) :
    Calls Try.prog 19 #[.string s] w fun e w' => ∃ b m : Int, e = .returned (.tuple #[.int .i64 b, .int .i64 m, .bool (dgsB s.data.toList)]) ∧ MwA s b m ∧ Below w.heap.size w w' := by
  cases hd : dgsB s.data.toList with
  | false =>
    have HF : Hid (MwA s 0 0) := by show MwA s 0 0; exact ⟨fun _ => ⟨rfl, rfl⟩, (fun h => by rw [hd] at h; cases h)⟩
    have HD := Lib.hid hd
    clear hd
    go_enter Try.func19, Try.ntmps19
    go_wp2_with (first | (go_at_call 26; go_must ((with_reducible refine (digs_b _ false _ hs HD.out).mono ?_); rintro e w' ⟨rfl, rfl⟩)))
    go_ret3
    exact ⟨0, 0, rfl, HF.out, Below.refl _ _⟩
  | true =>
    have HL := Lib.hid (keys_le true s hd)
    have HVL := Lib.hid (vals_len6 true s hd)
    have HL5 : Hid ((keysOf (rsAll true s)).length ≤ 5000) := by show _ ≤ _; have := (keys_le true s hd).2; omega
    have HD := Lib.hid hd
    have HS : Hid ((⟨#[43, 45, 32]⟩ : ByteArray) = sbs true) := rfl
    obtain ⟨zs, hzs⟩ : ∃ zs, zs = srt (keysOf (rsAll true s)) := ⟨_, rfl⟩
    have HZS := Lib.hid hzs
    have HLEN : Hid (zs.length = (keysOf (rsAll true s)).length) := by show _ = _; rw [hzs]; exact (srt_perm _).length_eq
    have HMEM : Hid (∀ x, x ∈ zs ↔ x ∈ vals true s) := by show ∀ _, _; intro x; rw [hzs]; exact srt_mem true s x
    have HSO : Hid (zs.Pairwise (fun x y => x ≤ y)) := by show List.Pairwise _ _; rw [hzs]; exact srt_le _
    clear hd hzs
    go_enter Try.func19, Try.ntmps19
    go_wp2_with (first | (go_at_call 26; go_must ((with_reducible refine (digs_b _ true _ hs HD.out).mono ?_); rintro e w' ⟨rfl, rfl⟩)) | (go_at_call 27; go_must ((with_reducible refine (tal_any s _ true _ HD.out HS.out).mono ?_); rintro e w1 ⟨bm, nm, rfl, htal, hn5, hbw, b1⟩; have HTL := Lib.hid htal; clear htal)) | (go_at_call 29; go_must ((with_reducible refine (numsOf_any bm nm (rsAll true s) _ HTL.out HL5.out).mono ?_); rintro e w2 ⟨v, rfl, hz, b2⟩; have HTL2 := Lib.hid (HTL.out.below b2); rw [← HZS.out] at hz; have HZL : Hid (0 < zs.length) := (by show 0 < _; rw [HLEN.out]; exact HL.out.1); obtain ⟨g, cap, z0, rfl, hg, hc, hz0⟩ := ints_cells hz HZL.out; obtain ⟨n, hnn⟩ : ∃ n, n = zs.length := ⟨_, rfl⟩; have HN := Lib.hid hnn; have hn : n ≤ 4096 := (by rw [hnn, HLEN.out]; exact HL.out.2); have hn0 : 0 < n := (by rw [hnn]; exact HZL.out); rw [← HN.out]; have HC := Lib.hid hc; clear hz hc hnn hz0)))
    go_loopw [6, 7, 18] (fun bv mv i wr => ∃ (k : Nat) (b mo : Int), k ≤ n ∧ i = .int .i64 k ∧ bv = .int .i64 b ∧ mv = .int .i64 mo ∧ Hid (Mk (cnt (vals true s)) (zs.take k) b mo) ∧ 0 ≤ mo ∧ Hid (∃ q, wr = w2.drewN q)) (fun _ _ i _ => n - (intOf i).toNat)
    case atStart => exact ⟨0, 0, 0, Nat.zero_le _, rfl, rfl, rfl, .inl ⟨rfl, rfl, rfl⟩, by omega, 0, rfl⟩
    case round =>
      obtain ⟨k, b, mo, hk, rfl, rfl, rfl, HM, hm0, HQ⟩ := hrel
      by_cases hlt : k < n
      · have hlr : k < zs.length := by rw [← HN.out]; exact hlt
        obtain ⟨x, hx⟩ : ∃ x, x = zs[k] := ⟨_, rfl⟩
        have hck : wr.cell? ⟨g, k, none⟩ = some (.int .i64 x) := by
          obtain ⟨q, hq⟩ := HQ.out
          rw [hq]
          exact HC.out k x (by rw [hx]; exact List.getElem?_eq_getElem hlr)
        have hxv : x ∈ vals true s := (HMEM.out x).1 (by rw [hx]; exact List.getElem_mem _)
        have HW : Hid ((Lit.int .i64 x).wf = true) := by show _ = _; have := vals_bd true s HD.out x hxv; exact WalkArith.wf_i64 (by omega)
        have HTK : Hid (zs.take (k + 1) = zs.take k ++ [x]) := by show _ = _; rw [List.take_succ_eq_append_getElem hlr, hx]
        have HSS : Hid ((zs.take k ++ [x]).Pairwise (fun x y => x ≤ y)) := by show List.Pairwise _ _; rw [← HTK.out]; exact HSO.out.sublist (List.take_sublist _ _)
        have HTR : Hid (Tal wr bm nm (rsAll true s)) := by
          show Tal _ _ _ _
          obtain ⟨q, hq⟩ := HQ.out
          rw [hq]; exact HTL2.out.drewN q
        obtain ⟨c, hc⟩ : ∃ c, c = ((tly x (rsAll true s)).getD (0, 0)).1 := ⟨_, rfl⟩
        obtain ⟨f, hf⟩ : ∃ f, f = ((tly x (rsAll true s)).getD (0, 0)).2 := ⟨_, rfl⟩
        have HCF := Lib.hid (And.intro hc hf)
        have hcc : c = cnt (vals true s) x := by rw [hc, tly_count, rs_vals]; rfl
        have HST : Hid ((mo < c → Mk (cnt (vals true s)) (zs.take (k + 1)) x c) ∧ (¬ mo < c → Mk (cnt (vals true s)) (zs.take (k + 1)) b mo)) := by
          show _ ∧ _
          rw [HTK.out, hcc]
          exact mk_snoc _ _ _ _ _ HSS.out (cnt_pos hxv) HM.out
        have hc1 : 1 ≤ c := by rw [hcc]; exact cnt_pos hxv
        clear hx hxv hcc hlr
        by_cases hgt : mo < c
        · have hrun : ∀ q, (Instr.lookup 37 (.map (some bm)) (.int .i64 x) false).run Try.prog (wr.drewN q) = .ok (.agg #[.int .i64 c, .int .i64 f]) (wr.drewN q) := fun q => by rw [hc, hf]; exact look_run _ bm nm _ (HTR.out.drewN q) x HW.out
          clear hc hf
          go_wp2_with (at_lookup; refine look_no _ rfl _ _ rfl bm nm (rsAll true s) rfl HTR.out x rfl HW.out ?_; rw [← HCF.out.1, ← HCF.out.2])
          go_quiet (fail)
          go_wp2
          go_roundw
          case rel => exact ⟨k + 1, x, c, by omega, by go_num, rfl, rfl, HST.out.1 hgt, by omega, by obtain ⟨q, hq⟩ := HQ.out; exact ⟨q + nq, by rw [hq, World.drewN_drewN]⟩⟩
          case measure => simp [intOf]; omega
        · clear hc hf
          go_wp2_with (at_lookup; refine look_no _ rfl _ _ rfl bm nm (rsAll true s) rfl HTR.out x rfl HW.out ?_; rw [← HCF.out.1, ← HCF.out.2])
          go_roundw
          case rel => exact ⟨k + 1, b, mo, by omega, by go_num, rfl, rfl, HST.out.2 hgt, hm0, HQ.out⟩
          case measure => simp [intOf]; omega
      · have HR : Hid (MwA s b mo) := by
          show MwA s b mo
          refine ⟨(fun h => by rw [HD.out] at h; cases h), fun _ => ?_⟩
          have hM := HM.out
          rw [List.take_of_length_le (by rw [← HN.out]; omega)] at hM
          rcases hM with ⟨e, _⟩ | hI
          · have := HZL.out; rw [e] at this; simp at this
          · exact isMc_of hI HMEM.out (fun x => rfl)
        go_wp2
        go_ret3
        refine ⟨b, mo, rfl, HR.out, ?_⟩
        obtain ⟨q, hq⟩ := HQ.out
        rw [hq]
        exact below_drewN (chain b1 b2) q
theorem FnExactMostWays_law (s : ByteArray) (hs : s.size ≤ maxLen) (w : World) :
    Calls Try.prog 6 #[.string s] w fun e w' => e = .returned (.bool true) ∧ Below w.heap.size w w' := by
  have hm := hs
  unfold maxLen at hs
  by_cases hb : s.size ≤ 1048576
  · go_enter Try.func6, Try.ntmps6
    go_wp2_with (first | (go_at_call 18; go_must ((with_reducible refine (sMw_any _ _ hm).mono ?_); rintro e w1 ⟨b1, m1, rfl, hA, k1⟩; have HA := Lib.hid hA; clear hA)) | (go_at_call 19; go_must ((with_reducible refine (iMw_any _ _ hm).mono ?_); rintro e w2 ⟨b2, m2, rfl, hA2, k2⟩; obtain ⟨rfl, rfl⟩ : b2 = b1 ∧ m2 = m1 := mwA_uniq hA2 HA.out; clear hA2)))
    go_ret
    exact ⟨rfl, chain k1 k2⟩
  · go_enter Try.func6, Try.ntmps6
    go_wp2_with fail
    go_ret
    exact ⟨rfl, Below.refl _ _⟩
end Go.Proofs.Ytlgleghofiflaab

/-
  Least numbers: GreatestSameDigits.
-/
import Derived.Test.YtghjpanabphbpaaDoorLeSs
namespace Go.Proofs.YtghjpanabphbpaaDoor
open Go.RowKit
set_option maxRecDepth 100000

theorem dec_e12 : Lib.decDigits 1000000000000 = [49, 48, 48, 48, 48, 48, 48, 48, 48, 48, 48, 48, 48] := by
  simp [dec_big, dec_small, dc]
theorem row_13 {n : Int} {s : ByteArray} (h1 : n ≤ 1000000000000) (hs : TxtOf n s) (h13 : s.size = 13) : ∀ j, j < 13 → ((s.data.toList.getD j 0).toNat : Int) = r13 j := by
  have hn : n.toNat = 1000000000000 := by
    by_cases h : n.toNat < 10 ^ (11 + 1)
    · have h2 := (dec_fits 11 n.toNat h).1
      rw [← hs] at h2
      have : s.data.toList.length = s.size := by simp
      omega
    · omega
  have e : s.data.toList = [49, 48, 48, 48, 48, 48, 48, 48, 48, 48, 48, 48, 48] := by rw [hs, hn, dec_e12]
  intro j hj
  rw [e]
  have c : j = 0 ∨ j = 1 ∨ j = 2 ∨ j = 3 ∨ j = 4 ∨ j = 5 ∨ j = 6 ∨ j = 7 ∨ j = 8 ∨ j = 9 ∨ j = 10 ∨ j = 11 ∨ j = 12 := by omega
  rcases c with c | c | c | c | c | c | c | c | c | c | c | c | c <;> subst c <;> rfl
theorem Sod.same {w w' : World} {g n a b : Nat} {f f2 f' : Nat → Int} (h : Sod w w' g n a b f f') (e : ∀ j, j < n → f j = f2 j) (hb : a = 0) (hbn : b = n) (he : ∀ j, n ≤ j → f j = f2 j) : Sod w w' g n a b f2 f' :=
  ⟨h.row, fun c => by rw [h.cnt, cw_same e], h.srt, fun j hj => by rw [h.out j hj]; exact he j (by omega), h.gr⟩
theorem sort_any (n : Int) (s : ByteArray) (h1 : n ≤ 1000000000000) (hs : TxtOf n s) (g c : Nat) (w : World) (h : BYt w g s.size (fun j => ((s.data.toList.getD j 0).toNat : Int))) :
    Calls Tryd.prog 78 #[.slice (some ⟨g, 0, none⟩) s.size c] w fun e w' => e = .returned (.tuple #[]) ∧ ∃ f', Sod w w' g s.size 0 s.size (fun j => 48 + dj s j) f' := by
  have hz := hs.size h1
  have hrow := h.same (g := fun j => 48 + dj s j) (fun j hj => dj_raw hj)
  by_cases h13 : s.size = 13
  · have hr := row_13 h1 hs h13
    have he : ∀ j, j < 13 → 48 + dj s j = r13 j := fun j hj => by rw [← hr j hj]; exact (dj_raw (by omega)).symm
    rw [h13] at hrow ⊢
    refine (sort_13 g c w (hrow.same he)).mono ?_
    rintro e w' ⟨rfl, f', hS⟩
    refine ⟨rfl, f', Sod.same hS (fun j hj => (he j hj).symm) rfl rfl (fun j hj => ?_)⟩
    unfold r13 dj
    rw [if_neg (by omega), List.getD_eq_getElem?_getD, List.getElem?_eq_none (by simp; omega)]
    decide
  · exact sort_12 g s.size c (fun j => 48 + dj s j) w (by omega) hrow
set_option maxHeartbeats 2000000 in
theorem rising_any (n : Int) (s : ByteArray) (w : World) (h0 : 0 ≤ n) (h1 : n ≤ 1000000000000) (hs : TxtOf n s) (htab : Tab w) :
    Calls Tryd.prog 57 #[.int .i64 n] w fun e w' => (∃ r, e = .returned (.string ⟨(byL s.size (fun j => 48 + r j)).toArray⟩) ∧ Rsd (dj s) r s.size) ∧ Below w.heap.size w w' := by
  have HI := Lib.hid (itoa_s n s w h0 h1 hs htab)
  have H09 := Lib.hid (dj_09 hs.dig)
  have HSo := Lib.hid (fun g c W h => sort_any n s h1 hs g c W h)
  have hcv := fun W => Lib.run_convert_string_bytes (P := Tryd.prog) W 9 49 5 s Tryd.underlying9 Tryd.underlying49 Tryd.underlying5
  clear hs htab
  go_enter Tryd.func57, Tryd.ntmps57
  go_wp2_with (first | (go_at_call 54; refine HI.out.mono ?_; rintro e w1 ⟨rfl, b1⟩) | (go_at_call 78; refine (HSo.out _ _ _ (bytes_new w1 s)).mono ?_; rintro e w2 ⟨rfl, f', hS⟩; have HR := Lib.hid (Rsd.ofSod H09.out hS); have hcb := fun c => conv_back w2 w1.heap.size s.size c f' hS.row (fun j hj => by have := HR.out.2 j hj; omega); have HG := Lib.hid hS.gr; clear hS))
  go_ret
  refine ⟨⟨_, ?_, HR.out.1⟩, ?_⟩
  · have e : byL s.size f' = byL s.size (fun j => 48 + (if j < s.size then f' j - 48 else 0)) := byL_same (fun j hj => by show f' j = 48 + (if j < s.size then f' j - 48 else 0); rw [if_pos hj]; omega)
    show _ = Ending.returned (.string ⟨(byL s.size (fun j => 48 + (if j < s.size then f' j - 48 else 0))).toArray⟩)
    rw [← e]; rfl
  · have hb : Below w1.heap.size w1 (Lib.bytesWorld w1 5 s) := ⟨rfl, rfl, rfl, by rw [Lib.bytesWorld_size]; omega, fun k hk => Lib.bytesWorld_at_old w1 _ s k hk⟩
    refine chain b1 (Below.grown hb HG.out hb.size (fun k h => by injection h with h; omega))
/-- What both answer. -/
def GsIs (n t : Int) (ok : Bool) : Prop := (nuB n = true ∧ ok = true ∧ ∃ r, Rsd (dj (txs n)) r (txs n).size ∧ t = nf (fun j => r ((txs n).size - 1 - j)) (txs n).size) ∨ (nuB n = false ∧ ok = false ∧ t = 0)
theorem GsIs.uniq {n t s : Int} {a b : Bool} (u : GsIs n t a) (v : GsIs n s b) : t = s ∧ a = b := by
  rcases u with ⟨u1, rfl, r, u2, rfl⟩ | ⟨u1, rfl, rfl⟩ <;> rcases v with ⟨v1, rfl, q, v2, rfl⟩ | ⟨v1, rfl, rfl⟩
  · exact ⟨nf_same (fun j hj => u2.uniq v2 _ (by omega)), rfl⟩
  · rw [u1] at v1; cases v1
  · rw [u1] at v1; cases v1
  · exact ⟨rfl, rfl⟩
set_option maxHeartbeats 1000000 in
theorem iGs_any (n : Int) (w : World) (htab : Tab w) :
    Calls Tryd.prog 31 #[.int .i64 n] w fun e w' => (∃ (t : Int) (ok : Bool), e = .returned (.tuple #[.int .i64 t, .bool ok]) ∧ GsIs n t ok) ∧ Below w.heap.size w w' := by
  have HZ := Lib.hid (fun W => isNumber_any n W)
  cases hb : nuB n with
  | false =>
    have HR : Hid (GsIs n 0 false) := .inr ⟨hb, rfl, rfl⟩
    rw [hb] at HZ
    clear hb htab
    go_enter Tryd.func31, Tryd.ntmps31
    go_wp2_with (go_at_call 52; (with_reducible refine (HZ.out _).mono ?_); rintro e w' ⟨rfl, rfl⟩)
    go_ret2
    exact ⟨⟨0, false, rfl, HR.out⟩, Below.refl _ _⟩
  | true =>
    obtain ⟨h0, h1⟩ := (nuB_iff n).1 hb
    have HG : Hid (∀ r t, Rsd (dj (txs n)) r (txs n).size → t = nf (fun j => r ((txs n).size - 1 - j)) (txs n).size → GsIs n t true) := fun r t h e => .inl ⟨hb, rfl, r, h, e⟩
    have hsz := (txs_of n).size h1
    have HI := Lib.hid (rising_any n (txs n) w h0 h1 (txs_of n) htab)
    obtain ⟨s, hs⟩ : ∃ s, txs n = s := ⟨_, rfl⟩
    rw [hs] at HG hsz HI
    have HT := Lib.hid (fun (r : Nat → Int) W => turned_any ⟨(byL s.size (fun j => 48 + r j)).toArray⟩ W (by rw [sz_of, byL_len]; omega))
    have HV : Hid (∀ r : Nat → Int, rv ⟨(byL s.size (fun j => 48 + r j)).toArray⟩ = byL s.size (fun j => 48 + r (s.size - 1 - j))) := fun r => byL_rev s.size (fun j => 48 + r j)
    have HN : Hid (∀ (r : Nat → Int) W, Rsd (dj s) r s.size → Calls Tryd.prog 39 #[.string ⟨(byL s.size (fun j => 48 + r (s.size - 1 - j))).toArray⟩] W fun e w' => e = .returned (.int .i64 (nf (fun j => r (s.size - 1 - j)) s.size)) ∧ W = w') := fun r W h => by
      have h2 := numL_any (byL s.size (fun j => 48 + r (s.size - 1 - j))) W (by rw [byL_len]; omega) (byL_dig (h := fun j => r (s.size - 1 - j)) (fun j => h.dig _) s.size)
      rw [dnum_byL (h := fun j => r (s.size - 1 - j)) (fun j => h.dig _) s.size] at h2
      exact h2
    rw [hb] at HZ
    clear hb htab hs
    go_enter Tryd.func31, Tryd.ntmps31
    go_wp2_with (first | (go_at_call 52; (with_reducible refine (HZ.out _).mono ?_); rintro e w' ⟨rfl, rfl⟩) | (go_at_call 57; refine HI.out.mono ?_; rintro e w1 ⟨⟨r, rfl, hr⟩, b1⟩; have HR := Lib.hid hr; clear hr) | (go_at_call 59; refine (HT.out r _).mono ?_; rintro e w2 ⟨rfl, b2⟩; rw [HV.out r]) | (go_at_call 39; refine (HN.out r _ HR.out).mono ?_; rintro e w3 ⟨rfl, rfl⟩))
    go_ret2
    exact ⟨⟨_, true, rfl, HG.out r _ HR.out rfl⟩, chain b1 b2⟩
set_option maxHeartbeats 1000000 in
theorem sGs_any (n : Int) (w : World) :
    Calls Tryd.prog 30 #[.int .i64 n] w fun e w' => (∃ (t : Int) (ok : Bool), e = .returned (.tuple #[.int .i64 t, .bool ok]) ∧ GsIs n t ok) ∧ Below w.heap.size w w' := by
  have HZ := Lib.hid (fun W => leNumber_any n W)
  cases hb : nuB n with
  | false =>
    have HR : Hid (GsIs n 0 false) := .inr ⟨hb, rfl, rfl⟩
    rw [hb] at HZ
    clear hb
    go_enter Tryd.func30, Tryd.ntmps30
    go_wp2_with (go_at_call 46; (with_reducible refine (HZ.out _).mono ?_); rintro e w' ⟨rfl, rfl⟩)
    go_ret2
    exact ⟨⟨0, false, rfl, HR.out⟩, Below.refl _ _⟩
  | true =>
    obtain ⟨h0, h1⟩ := (nuB_iff n).1 hb
    have HG : Hid (∀ r t, Rsd (dj (txs n)) r (txs n).size → t = nf (fun j => r ((txs n).size - 1 - j)) (txs n).size → GsIs n t true) := fun r t h e => .inl ⟨hb, rfl, r, h, e⟩
    have hsz := (txs_of n).size h1
    have hdg := (txs_of n).dig
    have hlL := leSorted_any n.toNat (txs n) w (by omega) (txs_of n)
    have hnn : ((n.toNat : Nat) : Int) = n := by omega
    rw [hnn] at hlL
    have HL := Lib.hid hlL
    obtain ⟨s, hs⟩ : ∃ s, txs n = s := ⟨_, rfl⟩
    rw [hs] at HG hsz HL hdg
    have H09 := Lib.hid (dj_09 hdg)
    rw [hb] at HZ
    obtain ⟨m, hm⟩ : ∃ m, s.size = m := ⟨_, rfl⟩
    rw [hm] at HG hsz HL
    clear hb hs hdg hnn hlL hm
    go_enter Tryd.func30, Tryd.ntmps30
    go_wp2_with (first | (go_at_call 46; (with_reducible refine (HZ.out _).mono ?_); rintro e w' ⟨rfl, rfl⟩) | (go_at_call 56; refine HL.out.mono ?_; rintro e w1 ⟨⟨v, xs, rfl, hi, hso⟩, b1⟩; obtain ⟨hR, hlen⟩ := Rsd.ofSoL H09.out hso; have HR := Lib.hid hR; have HI := Lib.hid hi; rcases hi.form with ⟨ao, cap', rfl, he⟩ | ⟨g, cap, rfl, hgb, hg, hc, _⟩))
    · omega
    · have HC : Hid (∀ i, i < m → w1.cell? ⟨g, i, none⟩ = some (.int .i64 (gx xs i))) := fun i hi => hc i (by rw [hlen]; exact hi)
      have HM := Lib.hid hlen
      clear hc hi hso hR
      try rw [hlen]
      go_loop [5, 6] (fun ov kv => ∃ (j : Nat) (S k : Int), j ≤ m ∧ ov = .int .i64 S ∧ kv = .int .i64 k ∧ k = (m : Int) - 1 - j ∧ Hid (S = nf (fun i => gx xs (m - 1 - i)) j)) (fun _ kv => (intOf kv + 1).toNat)
      case atStart => exact ⟨0, 0, (m : Int) - 1, Nat.zero_le _, rfl, rfl, by omega, rfl⟩
      case round =>
        obtain ⟨j, S, k, hj, rfl, rfl, hk, HS⟩ := hrel
        have hS := nf_bd (f := fun i => gx xs (m - 1 - i)) (fun i => HR.out.dig _) j
        rw [← HS.out] at hS
        have hp : (10 : Nat) ^ j ≤ 10 ^ 13 := Nat.pow_le_pow_right (by omega) (by omega)
        have hS0 := hS.1
        have hS1 : S ≤ 10000000000000 := by have := hS.2; omega
        clear hS hp
        by_cases hlt : j < m
        · obtain ⟨q, hq⟩ : ∃ q : Nat, m - 1 - j = q := ⟨_, rfl⟩
          have hkq : k = (q : Int) := by omega
          have hqm : q < m := by omega
          have c0 := HC.out q hqm
          have hx := HR.out.dig q
          obtain ⟨x, hx0⟩ : ∃ x, gx xs q = x := ⟨_, rfl⟩
          rw [hx0] at c0 hx
          have HS' : Hid (10 * S + x = nf (fun i => gx xs (m - 1 - i)) (j + 1)) := by show _ = _; rw [nf, ← HS.out]; show _ = _ + gx xs (m - 1 - j); rw [hq, hx0]; omega
          have HK := Lib.hid hk
          have hqmI : (q : Int) < (m : Int) := by omega
          subst hkq
          obtain ⟨hx1, hx2⟩ := hx
          clear hk hx0 hq
          go_wp2
          go_round
          case rel => exact ⟨j + 1, _, _, by omega, by go_num, rfl, by have := HK.out; push_cast; omega, HS'⟩
          case measure => simp [intOf]
        · have hjm : j = m := by omega
          have hk1 : k = -1 := by omega
          have HE : Hid (S = nf (fun i => gx xs (m - 1 - i)) m) := by show _ = _; rw [HS.out, hjm]
          subst hk1
          clear hk
          go_wp2
          go_ret2
          first | exact ⟨⟨S, true, rfl, HG.out _ _ HR.out HE.out⟩, b1⟩ | exact ⟨⟨S, .inr ⟨rfl, HG.out _ _ HR.out HE.out⟩⟩, b1⟩
theorem FnExactGreatestSameDigits_law (n : Int) (_h0 : (Lit.int .i64 n).wf = true) (w : World) (htab : Tab w) :
    Calls Tryd.prog 11 #[.int .i64 n] w fun e w' => e = .returned (.bool true) ∧ Below w.heap.size w w' := by
  have HT := Lib.hid (fun W hW => iGs_any n W (htab.keep hW))
  clear htab
  go_enter Tryd.func11, Tryd.ntmps11
  go_wp2_with (first | (go_at_call 30; go_must ((with_reducible refine (sGs_any _ _).mono ?_); rintro e w1 ⟨⟨l, a, rfl, hr⟩, b1⟩; have HR := Lib.hid hr; clear hr)) | (go_at_call 31; go_must ((refine (HT.out _ b1).mono ?_); rintro e w2 ⟨⟨q, o, rfl, hq⟩, b2⟩; have e0 := (HR.out.uniq hq).1; have e1 := (HR.out.uniq hq).2; subst e0; subst e1; clear hq)))
  go_ret
  exact ⟨rfl, chain b1 b2⟩
end Go.Proofs.YtghjpanabphbpaaDoor

/-
  Least numbers: LastSameDigits.
-/
import Derived.Test.YtghjpanabphbpaaDoorLeNsd
import Derived.Test.YtghjpanabphbpaaDoorLeBld
namespace Go.Proofs.YtghjpanabphbpaaDoor
open Go.RowKit
set_option maxRecDepth 100000

def nn (c : UInt8) : UInt8 := UInt8.ofNat (105 - c.toNat)
theorem nn_nat (c : UInt8) (h : (c.toNat : Int) ≤ 57) : ((nn c).toNat : Int) = 105 - (c.toNat : Int) := by
  unfold nn; simp; omega
theorem byteCells_snoc (l : List UInt8) (c : UInt8) : Lib.byteCells (l ++ [c]) = Lib.byteCells l ++ [.int .u8 c.toNat] := by simp [Lib.byteCells]
theorem bytes_len (l : List UInt8) (k : Nat) : (Lib.byteCells (l.take k)).length ≤ k := by simp [Lib.byteCells]; omega
def nines (s : ByteArray) : List UInt8 := s.data.toList.map nn
theorem nines_snoc (s : ByteArray) (k : Nat) (h : k < s.size) : (nines s).take (k + 1) = (nines s).take k ++ [nn s[k]] := by
  unfold nines
  rw [← List.map_take, ← List.map_take, take_snoc s k h, List.map_append]; rfl
theorem nines_all (s : ByteArray) : (nines s).take s.size = nines s := List.take_of_length_le (by simp [nines])
set_option maxHeartbeats 400000 in
theorem nines_any (s : ByteArray) (w : World) (hs : s.size ≤ 13) (hd : digB s.data.toList = true) :
    Calls Tryd.prog 55 #[.string s] w fun e w' => e = .returned (.string ⟨(nines s).toArray⟩) ∧ Below w.heap.size w w' := by
  have HD := Lib.hid hd; clear hd
  go_enter Tryd.func55, Tryd.ntmps55
  go_wp2
  go_loopw [7] (fun i wr => ∃ k : Nat, k ≤ s.size ∧ i = .int .i64 k ∧ Lib.IsBuilder 53 5 w.heap.size w.heap.size (Lib.byteCells ((nines s).take k)) wr ∧ Below w.heap.size w wr ∧ w.heap.size ≤ wr.heap.size) (fun i _ => s.size - (intOf i).toNat)
  case atStart => exact ⟨0, Nat.zero_le _, rfl, Lib.fresh_isBuilder 53 5 w, by go_grown, by simp⟩
  case round =>
    obtain ⟨k, hk, rfl, hbld, hbl, hsz⟩ := hrel
    have HB := Lib.hid hbld
    clear hbld
    by_cases hlt : k < s.size
    · have hc := digB_get s k hlt HD.out
      obtain ⟨hx1, hx2⟩ := hc
      have HN := Lib.hid (nn_nat s[k] hx2)
      go_wp2_with (go_at_call 76; go_must (refine (wb_any w.heap.size _ _ _ _ HB.out (by have := bytes_len (nines s) k; omega) hsz).mono ?_); rintro e w1 ⟨rfl, h1, b1, _⟩; have H1 := Lib.hid h1; have hz := b1.size; have hb := hbl.trans (b1.mono (by omega)); clear b1 h1)
      go_roundw
      case rel => exact ⟨k + 1, by omega, by go_num, by rw [nines_snoc s k hlt, byteCells_snoc, HN.out]; exact .inr H1.out, hb, by omega⟩
      case measure => simp [intOf]; omega
    · have he : (nines s).take k = nines s := by rw [show k = s.size by omega]; exact nines_all s
      have HE := Lib.hid he; clear he
      go_wp2_with (go_at_call 77; go_must (refine (bstr_any w.heap.size _ _ _ HB.out hsz).mono ?_); rintro e w1 ⟨rfl, b1⟩)
      go_ret
      exact ⟨by rw [HE.out]; rfl, hbl.trans (b1.mono (by omega))⟩
theorem nines_u (s : ByteArray) (w : World) (hs : s.size ≤ 13) (hd : digB s.data.toList = true) :
    Calls Tryd.prog 55 #[.string s] w fun e w' => (∃ u : ByteArray, e = .returned (.string u) ∧ u.data.toList = nines s) ∧ Below w.heap.size w w' := by
  refine (nines_any s w hs hd).mono ?_
  rintro e w' ⟨rfl, b⟩
  exact ⟨⟨_, rfl, rfl⟩, b⟩
theorem byL_nn {h : Nat → Int} (hb : ∀ j, 0 ≤ h j ∧ h j ≤ 9) (m : Nat) : (byL m (fun j => 48 + h j)).map nn = byL m (fun j => 48 + (9 - h j)) := by
  induction m with
  | zero => rfl
  | succ m ih =>
    rw [byL_snoc, byL_snoc, List.map_append, ih]
    congr 1
    have := hb m
    simp only [List.map_cons, List.map_nil, List.cons.injEq, and_true]
    apply UInt8.toNat.inj
    unfold nn
    simp; omega
/-- What both answer to digits f. -/
def LsA (f : Nat → Int) (m : Nat) (t : Int) (ok : Bool) : Prop :=
  (∃ k o, IsPl (fun i => 9 - f i) m k ∧ IsOt (fun i => 9 - f i) m k o ∧ ((nxo f m k o 0 ≠ 0 ∧ ok = true ∧ t = nf (nxo f m k o) m) ∨ (nxo f m k o 0 = 0 ∧ ok = false ∧ t = 0))) ∨ (NoPl (fun i => 9 - f i) m ∧ ok = false ∧ t = 0)
theorem LsA.uniq {f : Nat → Int} {m : Nat} {t s : Int} {a b : Bool} (u : LsA f m t a) (v : LsA f m s b) : t = s ∧ a = b := by
  rcases u with ⟨k, o, u1, u2, u3⟩ | ⟨u1, rfl, rfl⟩ <;> rcases v with ⟨l, p, v1, v2, v3⟩ | ⟨v1, rfl, rfl⟩
  · have e := u1.uniq v1; subst e
    have e := u2.uniq v2; subst e
    rcases u3 with ⟨c1, rfl, rfl⟩ | ⟨c1, rfl, rfl⟩ <;> rcases v3 with ⟨d1, rfl, rfl⟩ | ⟨d1, rfl, rfl⟩
    · exact ⟨rfl, rfl⟩
    · exact (c1 d1).elim
    · exact (d1 c1).elim
    · exact ⟨rfl, rfl⟩
  · exact (u1.no v1).elim
  · exact (v1.no u1).elim
  · exact ⟨rfl, rfl⟩
def LsIs (n t : Int) (ok : Bool) : Prop := (nuB n = true ∧ LsA (dj (txs n)) (txs n).size t ok) ∨ (nuB n = false ∧ ok = false ∧ t = 0)
theorem LsIs.uniq {n t s : Int} {a b : Bool} (u : LsIs n t a) (v : LsIs n s b) : t = s ∧ a = b := by
  rcases u with ⟨u1, u2⟩ | ⟨u1, rfl, rfl⟩ <;> rcases v with ⟨v1, v2⟩ | ⟨v1, rfl, rfl⟩
  · exact u2.uniq v2
  · rw [u1] at v1; cases v1
  · rw [u1] at v1; cases v1
  · exact ⟨rfl, rfl⟩
theorem nines_raw {s : ByteArray} (hd : digB s.data.toList = true) {u : ByteArray} (hu : u.data.toList = nines s) : u.size = s.size ∧ ∀ j, j < s.size → ((u.data.toList.getD j 0).toNat : Int) = 48 + (9 - dj s j) := by
  have hsz : u.size = s.size := by
    have : u.data.toList.length = s.data.toList.length := by rw [hu]; simp [nines]
    simpa using this
  refine ⟨hsz, fun j hj => ?_⟩
  have hl : j < s.data.toList.length := by simpa using hj
  have h9 := dj_bd hd hj
  have hr := dj_raw hj
  rw [List.getD_eq_getElem?_getD, List.getElem?_eq_getElem hl] at hr
  simp only [Option.getD_some] at hr
  rw [hu, nines, List.getD_eq_getElem?_getD, List.getElem?_map, List.getElem?_eq_getElem hl]
  simp only [Option.map_some, Option.getD_some]
  rw [nn_nat _ (by omega)]; omega
theorem ls_cases {s v : ByteArray} {l : List UInt8} {ok : Bool} (H09 : ∀ j, 0 ≤ dj s j ∧ dj s j ≤ 9) (h1 : 1 ≤ s.size) (h : NtA (fun i => 9 - dj s i) s.size l ok) (hv : v.data.toList = nines ⟨l.toArray⟩) :
    (∃ k o, ∃ hv0 : 0 < v.size, IsPl (fun i => 9 - dj s i) s.size k ∧ IsOt (fun i => 9 - dj s i) s.size k o ∧ ok = true ∧ nxo (dj s) s.size k o 0 = 0 ∧ (v[0]'hv0).toNat = 48 ∧ (v[0]'hv0) = 48) ∨
    (∃ k o, ∃ hv0 : 0 < v.size, IsPl (fun i => 9 - dj s i) s.size k ∧ IsOt (fun i => 9 - dj s i) s.size k o ∧ ok = true ∧ nxo (dj s) s.size k o 0 ≠ 0 ∧ (((v[0]'hv0).toNat = 48) = False) ∧ ((((v[0]'hv0).toNat : Int) == 48) = false) ∧ v.size = s.size ∧ digB v.data.toList = true ∧ dnum v.data.toList = nf (nxo (dj s) s.size k o) s.size) ∨
    (NoPl (fun i => 9 - dj s i) s.size ∧ ok = false) := by
  rcases h with ⟨k, o, h5, h6, rfl, he⟩ | ⟨h5, rfl, he⟩
  · have h7 := nxo_09 H09 s.size k o
    have H90 : ∀ j, 0 ≤ (fun i => 9 - dj s i) j ∧ (fun i => 9 - dj s i) j ≤ 9 := fun j => by have := H09 j; show 0 ≤ 9 - dj s j ∧ 9 - dj s j ≤ 9; omega
    have hvl : v.data.toList = byL s.size (fun j => 48 + nxo (dj s) s.size k o j) := by
      rw [hv, nines]
      show l.map nn = _
      rw [he, byL_nn (nxo_09 H90 s.size k o)]
      exact byL_same (fun j hj => by rw [nxo_neg (dj s) s.size k o j hj]; omega)
    have hvs : v.size = s.size := by
      have : v.data.toList.length = s.size := by rw [hvl, byL_len]
      simpa using this
    have hv0 : 0 < v.size := by omega
    have hv1 : ((v[0]'hv0).toNat : Int) = 48 + nxo (dj s) s.size k o 0 := by
      have h8 := byL_get (n := s.size) (g := fun j => 48 + nxo (dj s) s.size k o j) (j := 0) (by omega) (by have := h7 0; omega) (by have := h7 0; omega)
      rw [← hvl, List.getD_eq_getElem?_getD, List.getElem?_eq_getElem (by simpa using hv0)] at h8
      exact h8
    have h70 := h7 0
    by_cases hz : nxo (dj s) s.size k o 0 = 0
    · have e1 : (v[0]'hv0).toNat = 48 := by omega
      exact .inl ⟨k, o, hv0, h5, h6, rfl, hz, e1, UInt8.toNat.inj e1⟩
    · exact .inr (.inl ⟨k, o, hv0, h5, h6, rfl, hz, eq_false (by omega), beq_eq_false_iff_ne.2 (by omega), hvs, by rw [hvl]; exact byL_dig h7 s.size, by rw [hvl]; exact dnum_byL h7 s.size⟩)
  · exact .inr (.inr ⟨h5, rfl⟩)
set_option maxHeartbeats 1000000 in
theorem iLs_any (n : Int) (w : World) (htab : Tab w) :
    Calls Tryd.prog 27 #[.int .i64 n] w fun e w' => (∃ (t : Int) (ok : Bool), e = .returned (.tuple #[.int .i64 t, .bool ok]) ∧ LsIs n t ok) ∧ Below w.heap.size w w' := by
  have HZ := Lib.hid (fun W => isNumber_any n W)
  cases hb : nuB n with
  | false =>
    have HR : Hid (LsIs n 0 false) := .inr ⟨hb, rfl, rfl⟩
    rw [hb] at HZ
    clear hb htab
    go_enter Tryd.func27, Tryd.ntmps27
    go_wp2_with (go_at_call 52; (with_reducible refine (HZ.out _).mono ?_); rintro e w' ⟨rfl, rfl⟩)
    go_ret2
    exact ⟨⟨0, false, rfl, HR.out⟩, Below.refl _ _⟩
  | true =>
    obtain ⟨h0, h1⟩ := (nuB_iff n).1 hb
    have HG : Hid (∀ t ok, LsA (dj (txs n)) (txs n).size t ok → LsIs n t ok) := fun t ok h => .inl ⟨hb, h⟩
    have hdg := (txs_of n).dig
    have hsz := (txs_of n).size h1
    have HI := Lib.hid (itoa_s n (txs n) w h0 h1 (txs_of n) htab)
    obtain ⟨s, hs⟩ : ∃ s, txs n = s := ⟨_, rfl⟩
    rw [hs] at HG hdg hsz HI
    have H09 := Lib.hid (dj_09 hdg)
    have H90 : Hid (∀ j, 0 ≤ (fun i => 9 - dj s i) j ∧ (fun i => 9 - dj s i) j ≤ 9) := fun j => by have := H09.out j; show 0 ≤ 9 - dj s j ∧ 9 - dj s j ≤ 9; omega
    have HV := Lib.hid (fun W => nines_u s W hsz.2 hdg)
    have HR := Lib.hid (fun (u : ByteArray) (hu : u.data.toList = nines s) => nines_raw hdg hu)
    have HN := Lib.hid (fun (u : ByteArray) W (hu : u.data.toList = nines s) => nextText_any u s.size (fun i => 9 - dj s i) W (HR.out u hu).1 hsz.1 (by omega) (HR.out u hu).2 H90.out)
    have HV2 := Lib.hid (fun l W (h : List.length l ≤ s.size) (hd : digB l = true) => nines_u ⟨l.toArray⟩ W (by rw [sz_of]; omega) hd)
    rw [hb] at HZ
    clear hb htab hs hdg
    go_enter Tryd.func27, Tryd.ntmps27
    go_wp2_with (first | (go_at_call 52; (with_reducible refine (HZ.out _).mono ?_); rintro e w' ⟨rfl, rfl⟩) | (go_at_call 54; refine HI.out.mono ?_; rintro e w1 ⟨rfl, b1⟩) | (go_at_call 55; (with_reducible refine (HV.out _).mono ?_); rintro e w2 ⟨⟨u, rfl, hu⟩, b2⟩; have HU := Lib.hid hu; clear hu) | (go_at_call 53; (with_reducible refine (HN.out _ _ HU.out).mono ?_); rintro e w3 ⟨⟨l, ok, rfl, hl⟩, b3⟩; have HL := Lib.hid hl; clear hl) | (go_at_call 55; (with_reducible refine (HV2.out _ _ HL.out.len (HL.out.dig H90.out)).mono ?_); rintro e w4 ⟨⟨v, rfl, hv⟩, b4⟩; have HW := Lib.hid hv; clear hv; rcases ls_cases H09.out hsz.1 HL.out HW.out with ⟨k, o, hv0, h5, h6, rfl, hz, e1, e2⟩ | ⟨k, o, hv0, h5, h6, rfl, hz, e1, e2, hvs, hvd, hvn⟩ | ⟨h5, rfl⟩) | (go_at_call 39; (with_reducible refine (numberIn_any _ _ (by omega) hvd).mono ?_); rintro e w5 ⟨rfl, rfl⟩))
    · go_ret2
      exact ⟨⟨0, false, rfl, HG.out _ _ (.inl ⟨k, o, h5, h6, .inr ⟨hz, rfl, rfl⟩⟩)⟩, chain (chain (chain b1 b2) b3) b4⟩
    · go_ret2
      exact ⟨⟨_, true, rfl, HG.out _ _ (.inl ⟨k, o, h5, h6, .inl ⟨hz, rfl, by first | rfl | exact hvn⟩⟩)⟩, chain (chain (chain b1 b2) b3) b4⟩
    · go_ret2
      exact ⟨⟨0, false, rfl, HG.out _ _ (.inr ⟨h5, rfl, rfl⟩)⟩, chain (chain (chain b1 b2) b3) b4⟩
set_option maxHeartbeats 1000000 in
theorem sLs_any (n : Int) (w : World) :
    Calls Tryd.prog 26 #[.int .i64 n] w fun e w' => (∃ (t : Int) (ok : Bool), e = .returned (.tuple #[.int .i64 t, .bool ok]) ∧ LsIs n t ok) ∧ Below w.heap.size w w' := by
  have HZ := Lib.hid (fun W => leNumber_any n W)
  cases hb : nuB n with
  | false =>
    have HR : Hid (LsIs n 0 false) := .inr ⟨hb, rfl, rfl⟩
    rw [hb] at HZ
    clear hb
    go_enter Tryd.func26, Tryd.ntmps26
    go_wp2_with (go_at_call 46; (with_reducible refine (HZ.out _).mono ?_); rintro e w' ⟨rfl, rfl⟩)
    go_ret2
    exact ⟨⟨0, false, rfl, HR.out⟩, Below.refl _ _⟩
  | true =>
    obtain ⟨h0, h1⟩ := (nuB_iff n).1 hb
    have HG : Hid (∀ t ok, LsA (dj (txs n)) (txs n).size t ok → LsIs n t ok) := fun t ok h => .inl ⟨hb, h⟩
    have hdg := (txs_of n).dig
    have hsz := (txs_of n).size h1
    have hlL := leList_any n.toNat w (by omega)
    have hnn : ((n.toNat : Nat) : Int) = n := by omega
    rw [hnn] at hlL
    have hD : Lib.decDigits n.toNat = (txs n).data.toList := rfl
    rw [hD] at hlL
    have HL := Lib.hid hlL
    obtain ⟨s, hs⟩ : ∃ s, txs n = s := ⟨_, rfl⟩
    rw [hs] at HG hdg hsz HL
    have H09 := Lib.hid (dj_09 hdg)
    have HT := Lib.hid (fun B v W (h : Ints B (s.data.toList.map dv) v W) => leTurn_f B s.size (dj s) (s.data.toList.map dv) v W (by simp) hsz.1 (by omega) (fun j hj => map_getD _ j (by simpa using hj)) (fun j _ => H09.out j) h)
    rw [hb] at HZ
    clear hb hs hdg hnn hD hlL
    have hs0 : 0 < s.size := by omega
    have hs0I : (0 : Int) < (s.size : Int) := by omega
    go_enter Tryd.func26, Tryd.ntmps26
    go_wp2_with (first | (go_at_call 46; (with_reducible refine (HZ.out _).mono ?_); rintro e w' ⟨rfl, rfl⟩) | (go_at_call 50; refine HL.out.mono ?_; rintro e w1 ⟨⟨v, rfl, hi⟩, b1⟩) | (go_at_call 49; (with_reducible refine (HT.out _ _ _ hi).mono ?_); rintro e w2 ⟨hq, b2⟩; rcases hq with ⟨k, o, g, c, h1, h2, rfl, h4⟩ | ⟨h1, rfl⟩; all_goals (first | (have c0 := h4.cell 0 hs0; obtain ⟨z, hz⟩ : ∃ z, nxo (dj s) s.size k o 0 = z := ⟨_, rfl⟩; rw [hz] at c0; have HA := Lib.hid hz; clear hz; by_cases hz0 : z = 0 <;> first | subst hz0 | have hz1 : (z == 0) = false := beq_eq_false_iff_ne.2 hz0) | skip)) | (go_at_call 51; (with_reducible refine (leOf_any g s.size c (nxo (dj s) s.size k o) w2 (by omega) (nxo_09 H09.out _ k o) h4).mono ?_); rintro e w3 ⟨rfl, rfl⟩))
    · go_ret2
      exact ⟨⟨0, false, rfl, HG.out _ _ (.inl ⟨k, o, h1, h2, .inr ⟨HA.out, rfl, rfl⟩⟩)⟩, chain b1 b2⟩
    · go_ret2
      exact ⟨⟨_, true, rfl, HG.out _ _ (.inl ⟨k, o, h1, h2, .inl ⟨by rw [HA.out]; exact hz0, rfl, rfl⟩⟩)⟩, chain b1 b2⟩
    · go_ret2
      exact ⟨⟨0, false, rfl, HG.out _ _ (.inr ⟨h1, rfl, rfl⟩)⟩, chain b1 b2⟩
theorem FnExactLastSameDigits_law (n : Int) (_h0 : (Lit.int .i64 n).wf = true) (w : World) (htab : Tab w) :
    Calls Tryd.prog 9 #[.int .i64 n] w fun e w' => e = .returned (.bool true) ∧ Below w.heap.size w w' := by
  have HT := Lib.hid (fun W hW => iLs_any n W (htab.keep hW))
  clear htab
  go_enter Tryd.func9, Tryd.ntmps9
  go_wp2_with (first | (go_at_call 26; go_must ((with_reducible refine (sLs_any _ _).mono ?_); rintro e w1 ⟨⟨l, a, rfl, hr⟩, b1⟩; have HR := Lib.hid hr; clear hr)) | (go_at_call 27; go_must ((refine (HT.out _ b1).mono ?_); rintro e w2 ⟨⟨q, o, rfl, hq⟩, b2⟩; have e0 := (HR.out.uniq hq).1; have e1 := (HR.out.uniq hq).2; subst e0; subst e1; clear hq)))
  go_ret
  exact ⟨rfl, chain b1 b2⟩
end Go.Proofs.YtghjpanabphbpaaDoor

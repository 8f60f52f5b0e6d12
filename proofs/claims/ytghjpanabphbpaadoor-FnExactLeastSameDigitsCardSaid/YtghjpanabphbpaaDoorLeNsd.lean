/-
  Least numbers: NextSameDigits.
-/
import Derived.Test.YtghjpanabphbpaaDoorLeNxo
import Derived.Test.YtghjpanabphbpaaDoorLeTn
import Derived.Test.YtghjpanabphbpaaDoorLeNum
namespace Go.Proofs.YtghjpanabphbpaaDoor
open Go.RowKit
set_option maxRecDepth 100000

theorem nxo_48 (f : Nat → Int) (n k o j : Nat) (h : j < n) : nxo (fun i => 48 + f i) n k o j = 48 + nxo f n k o j := by
  unfold nxo xch
  repeat' split
  all_goals first | rfl | omega
theorem nxo_09 {f : Nat → Int} (h : ∀ j, 0 ≤ f j ∧ f j ≤ 9) (n k o j : Nat) : 0 ≤ nxo f n k o j ∧ nxo f n k o j ≤ 9 := by
  unfold nxo xch
  repeat' split
  all_goals exact h _
theorem byL_snoc (n : Nat) (g : Nat → Int) : byL (n + 1) g = byL n g ++ [UInt8.ofNat (g n).toNat] := by
  unfold byL; rw [List.range_succ, List.map_append]; rfl
theorem byL_dig {h : Nat → Int} (hb : ∀ j, 0 ≤ h j ∧ h j ≤ 9) (n : Nat) : digB (byL n (fun j => 48 + h j)) = true := by
  induction n with
  | zero => rfl
  | succ n ih =>
    rw [byL_snoc, digB_snoc, ih]
    have := hb n
    simp only [Bool.true_and]
    rw [dgB_iff]
    simp; omega
theorem dnum_byL {h : Nat → Int} (hb : ∀ j, 0 ≤ h j ∧ h j ≤ 9) (n : Nat) : dnum (byL n (fun j => 48 + h j)) = nf h n := by
  induction n with
  | zero => rfl
  | succ n ih =>
    rw [byL_snoc, dnum_snoc, ih, nf]
    have := hb n
    unfold dv; simp; omega
/-- The text of the order that comes next. -/
def NtA (f : Nat → Int) (m : Nat) (l : List UInt8) (ok : Bool) : Prop :=
  (∃ k o, IsPl f m k ∧ IsOt f m k o ∧ ok = true ∧ l = byL m (fun j => 48 + nxo f m k o j)) ∨ (NoPl f m ∧ ok = false ∧ l = [])
theorem NtA.len {f : Nat → Int} {m : Nat} {l : List UInt8} {ok : Bool} (h : NtA f m l ok) : l.length ≤ m := by
  rcases h with ⟨k, o, _, _, _, rfl⟩ | ⟨_, _, rfl⟩
  · rw [byL_len]; exact Nat.le_refl _
  · exact Nat.zero_le _
theorem NtA.dig {f : Nat → Int} {m : Nat} {l : List UInt8} {ok : Bool} (h : NtA f m l ok) (hb : ∀ j, 0 ≤ f j ∧ f j ≤ 9) : digB l = true := by
  rcases h with ⟨k, o, _, _, _, rfl⟩ | ⟨_, _, rfl⟩
  · exact byL_dig (nxo_09 hb m k o) m
  · rfl
theorem nextText_any (s : ByteArray) (m : Nat) (f : Nat → Int) (w : World) (hn : s.size = m) (hn1 : 1 ≤ m) (hn2 : m ≤ 100) (hf : ∀ j, j < m → ((s.data.toList.getD j 0).toNat : Int) = 48 + f j) (hb : ∀ j, 0 ≤ f j ∧ f j ≤ 9) :
    Calls Tryd.prog 53 #[.string s] w fun e w' => (∃ l ok, e = .returned (.tuple #[.string ⟨l.toArray⟩, .bool ok]) ∧ NtA f m l ok) ∧ Below w.heap.size w w' := by
  refine (nextOrder_any s m (fun j => 48 + f j) w hn hn1 hn2 hf (fun j _ => by have := hb j; omega)).mono ?_
  rintro e w' ⟨⟨k, o, h1, h2, rfl⟩ | ⟨h1, rfl⟩, b⟩
  · refine ⟨⟨_, true, rfl, .inl ⟨k, o, ⟨h1.lt, by have := h1.up; omega, fun j a c => by have := h1.rest j a c; omega⟩, ⟨h2.gt, h2.lt, by have := h2.up; omega, fun j a c => by have := h2.rest j a c; omega⟩, rfl, ?_⟩⟩, b⟩
    exact byL_same (fun j hj => nxo_48 f m k o j hj)
  · exact ⟨⟨[], false, rfl, .inr ⟨fun j hj => by have : 48 + f (j + 1) ≤ 48 + f j := h1 j hj; omega, rfl, rfl⟩⟩, b⟩
theorem dj_09 {s : ByteArray} (h : digB s.data.toList = true) (j : Nat) : 0 ≤ dj s j ∧ dj s j ≤ 9 := by
  by_cases hj : j < s.size
  · exact dj_bd h hj
  · unfold dj
    rw [List.getD_eq_getElem?_getD, List.getElem?_eq_none (by simp; omega)]
    decide
theorem dj_raw {s : ByteArray} {j : Nat} (hj : j < s.size) : ((s.data.toList.getD j 0).toNat : Int) = 48 + dj s j := by
  have hl : j < s.data.toList.length := by simpa using hj
  unfold dj dv
  rw [List.getD_eq_getElem?_getD, List.getD_eq_getElem?_getD, List.getElem?_eq_getElem hl]
  simp only [Option.getD_some]; omega
/-- The digits of a number as a text. -/
def txs (n : Int) : ByteArray := ⟨(Lib.decDigits n.toNat).toArray⟩
theorem txs_of (n : Int) : TxtOf n (txs n) := rfl
/-- What both answer to digits f. -/
def NsA (f : Nat → Int) (m : Nat) (t : Int) (ok : Bool) : Prop :=
  (∃ k o, IsPl f m k ∧ IsOt f m k o ∧ ok = true ∧ t = nf (nxo f m k o) m) ∨ (NoPl f m ∧ ok = false ∧ t = 0)
theorem NsA.uniq {f : Nat → Int} {m : Nat} {t s : Int} {a b : Bool} (u : NsA f m t a) (v : NsA f m s b) : t = s ∧ a = b := by
  rcases u with ⟨k, o, u1, u2, rfl, rfl⟩ | ⟨u1, rfl, rfl⟩ <;> rcases v with ⟨l, p, v1, v2, rfl, rfl⟩ | ⟨v1, rfl, rfl⟩
  · have e := u1.uniq v1; subst e
    have e := u2.uniq v2; subst e
    exact ⟨rfl, rfl⟩
  · exact (u1.no v1).elim
  · exact (v1.no u1).elim
  · exact ⟨rfl, rfl⟩
theorem NtA.num {f : Nat → Int} {m : Nat} {l : List UInt8} {ok : Bool} (h : NtA f m l ok) (hb : ∀ j, 0 ≤ f j ∧ f j ≤ 9) : NsA f m (dnum l) ok := by
  rcases h with ⟨k, o, h1, h2, rfl, rfl⟩ | ⟨h1, rfl, rfl⟩
  · exact .inl ⟨k, o, h1, h2, rfl, dnum_byL (nxo_09 hb m k o) m⟩
  · exact .inr ⟨h1, rfl, rfl⟩
def NsIs (n t : Int) (ok : Bool) : Prop := (nuB n = true ∧ NsA (dj (txs n)) (txs n).size t ok) ∨ (nuB n = false ∧ ok = false ∧ t = 0)
theorem NsIs.uniq {n t s : Int} {a b : Bool} (u : NsIs n t a) (v : NsIs n s b) : t = s ∧ a = b := by
  rcases u with ⟨u1, u2⟩ | ⟨u1, rfl, rfl⟩ <;> rcases v with ⟨v1, v2⟩ | ⟨v1, rfl, rfl⟩
  · exact u2.uniq v2
  · rw [u1] at v1; cases v1
  · rw [u1] at v1; cases v1
  · exact ⟨rfl, rfl⟩
set_option maxHeartbeats 1000000 in
theorem iNs_any (n : Int) (w : World) (htab : Tab w) :
    Calls Tryd.prog 25 #[.int .i64 n] w fun e w' => (∃ (t : Int) (ok : Bool), e = .returned (.tuple #[.int .i64 t, .bool ok]) ∧ NsIs n t ok) ∧ Below w.heap.size w w' := by
  have HZ := Lib.hid (fun W => isNumber_any n W)
  cases hb : nuB n with
  | false =>
    have HR : Hid (NsIs n 0 false) := .inr ⟨hb, rfl, rfl⟩
    rw [hb] at HZ
    clear hb htab
    go_enter Tryd.func25, Tryd.ntmps25
    go_wp2_with (go_at_call 52; (with_reducible refine (HZ.out _).mono ?_); rintro e w' ⟨rfl, rfl⟩)
    go_ret2
    exact ⟨⟨0, false, rfl, HR.out⟩, Below.refl _ _⟩
  | true =>
    obtain ⟨h0, h1⟩ := (nuB_iff n).1 hb
    have HG : Hid (∀ t ok, NsA (dj (txs n)) (txs n).size t ok → NsIs n t ok) := fun t ok h => .inl ⟨hb, h⟩
    have hdg := (txs_of n).dig
    have hsz := (txs_of n).size h1
    have HI := Lib.hid (itoa_s n (txs n) w h0 h1 (txs_of n) htab)
    obtain ⟨s, hs⟩ : ∃ s, txs n = s := ⟨_, rfl⟩
    rw [hs] at HG hdg hsz HI
    have H09 := Lib.hid (dj_09 hdg)
    have HN := Lib.hid (fun W => nextText_any s s.size (dj s) W rfl hsz.1 (by omega) (fun j hj => dj_raw hj) H09.out)
    rw [hb] at HZ
    clear hb htab hs hdg
    go_enter Tryd.func25, Tryd.ntmps25
    go_wp2_with (first | (go_at_call 52; (with_reducible refine (HZ.out _).mono ?_); rintro e w' ⟨rfl, rfl⟩) | (go_at_call 54; refine HI.out.mono ?_; rintro e w1 ⟨rfl, b1⟩) | (go_at_call 53; (with_reducible refine (HN.out _).mono ?_); rintro e w2 ⟨⟨l, ok, rfl, hl⟩, b2⟩; have HL := Lib.hid hl; clear hl) | (go_at_call 39; (with_reducible refine (numL_any _ _ (by have := HL.out.len; omega) (HL.out.dig H09.out)).mono ?_); rintro e w3 ⟨rfl, rfl⟩))
    go_ret2
    exact ⟨⟨_, ok, rfl, HG.out _ _ (HL.out.num H09.out)⟩, chain b1 b2⟩
set_option maxHeartbeats 1000000 in
theorem sNs_any (n : Int) (w : World) :
    Calls Tryd.prog 24 #[.int .i64 n] w fun e w' => (∃ (t : Int) (ok : Bool), e = .returned (.tuple #[.int .i64 t, .bool ok]) ∧ NsIs n t ok) ∧ Below w.heap.size w w' := by
  have HZ := Lib.hid (fun W => leNumber_any n W)
  cases hb : nuB n with
  | false =>
    have HR : Hid (NsIs n 0 false) := .inr ⟨hb, rfl, rfl⟩
    rw [hb] at HZ
    clear hb
    go_enter Tryd.func24, Tryd.ntmps24
    go_wp2_with (go_at_call 46; (with_reducible refine (HZ.out _).mono ?_); rintro e w' ⟨rfl, rfl⟩)
    go_ret2
    exact ⟨⟨0, false, rfl, HR.out⟩, Below.refl _ _⟩
  | true =>
    obtain ⟨h0, h1⟩ := (nuB_iff n).1 hb
    have HG : Hid (∀ t ok, NsA (dj (txs n)) (txs n).size t ok → NsIs n t ok) := fun t ok h => .inl ⟨hb, h⟩
    have hdg := (txs_of n).dig
    have hsz := (txs_of n).size h1
    have hlL := leList_any n.toNat w (by omega)
    have hnn : ((n.toNat : Nat) : Int) = n := by omega
    rw [hnn] at hlL
    have hD : Lib.decDigits n.toNat = (txs n).data.toList := rfl
    rw [hD] at hlL
    have HL := Lib.hid hlL
    obtain ⟨s, hs⟩ : ∃ s, txs n = s := ⟨_, rfl⟩
    rw [hs] at HG hdg hsz HL
    have H09 := Lib.hid (dj_09 hdg)
    have HT := Lib.hid (fun B v W (h : Ints B (s.data.toList.map dv) v W) => leTurn_t B s.size (dj s) (s.data.toList.map dv) v W (by simp) hsz.1 (by omega) (fun j hj => map_getD _ j (by simpa using hj)) (fun j _ => H09.out j) h)
    rw [hb] at HZ
    clear hb hs hdg hnn hD hlL
    go_enter Tryd.func24, Tryd.ntmps24
    go_wp2_with (first | (go_at_call 46; (with_reducible refine (HZ.out _).mono ?_); rintro e w' ⟨rfl, rfl⟩) | (go_at_call 50; refine HL.out.mono ?_; rintro e w1 ⟨⟨v, rfl, hi⟩, b1⟩) | (go_at_call 49; (with_reducible refine (HT.out _ _ _ hi).mono ?_); rintro e w2 ⟨⟨k, o, g, c, h1, h2, rfl, h4⟩ | ⟨h1, rfl⟩, b2⟩))
    · have HO := Lib.hid (leOf_any g s.size c (nxo (dj s) s.size k o) w2 (by omega) (nxo_09 H09.out _ k o) h4)
      go_wp2_with (go_at_call 51; (with_reducible refine HO.out.mono ?_); rintro e w3 ⟨rfl, rfl⟩)
      go_ret2
      exact ⟨⟨_, true, rfl, HG.out _ _ (.inl ⟨k, o, h1, h2, rfl, rfl⟩)⟩, chain b1 b2⟩
    · go_wp2
      go_ret2
      exact ⟨⟨0, false, rfl, HG.out _ _ (.inr ⟨h1, rfl, rfl⟩)⟩, chain b1 b2⟩
theorem FnExactNextSameDigits_law (n : Int) (_h0 : (Lit.int .i64 n).wf = true) (w : World) (htab : Tab w) :
    Calls Tryd.prog 8 #[.int .i64 n] w fun e w' => e = .returned (.bool true) ∧ Below w.heap.size w w' := by
  have HT := Lib.hid (fun W hW => iNs_any n W (htab.keep hW))
  clear htab
  go_enter Tryd.func8, Tryd.ntmps8
  go_wp2_with (first | (go_at_call 24; go_must ((with_reducible refine (sNs_any _ _).mono ?_); rintro e w1 ⟨⟨l, a, rfl, hr⟩, b1⟩; have HR := Lib.hid hr; clear hr)) | (go_at_call 25; go_must ((refine (HT.out _ b1).mono ?_); rintro e w2 ⟨⟨q, o, rfl, hq⟩, b2⟩; have e0 := (HR.out.uniq hq).1; have e1 := (HR.out.uniq hq).2; subst e0; subst e1; clear hq)))
  go_ret
  exact ⟨rfl, chain b1 b2⟩
end Go.Proofs.YtghjpanabphbpaaDoor

/-
  The signed digits at a place of the list.
-/
import Derived.Test.YtlgleghofiflaaaSgRec
namespace Go.Proofs.Ytlgleghofiflaaa
open Go.RowKit

theorem ret_str2 {a b : List UInt8} (h : a = b) : Ending.returned (.string ⟨a.toArray⟩) = .returned (.string ⟨b.toArray⟩) := by rw [h]
theorem allK_last (plain : Bool) (ds : List UInt8) (r p : Nat) (hr : r < ds.length) (hp : p < sgsN plain ^ r) : ∃ pre, (allK plain ds r).getD p [] = pre ++ [ds.getD r 0] := by
  cases r with
  | zero =>
    refine ⟨[], ?_⟩
    have hp0 : p = 0 := by simpa using hp
    subst hp0
    match ds, hr with
    | c :: ds, _ => rfl
  | succ r => exact ⟨_, allK_get plain ds r p hp⟩
/-- How far the text is told from its end. -/
def AtInv (plain : Bool) (ds full : List UInt8) (r p : Nat) (x : List UInt8) : Prop := p < sgsN plain ^ r ∧ ∃ pre, (allK plain ds r).getD p [] = pre ++ [ds.getD r 0] ∧ full = pre ++ x
theorem at_step {plain : Bool} {ds full : List UInt8} {r p : Nat} {x : List UInt8} (hr : r + 1 < ds.length) (h : AtInv plain ds full (r + 1) p x) :
    AtInv plain ds full r (p / sgsN plain) ([ds.getD r 0] ++ ((sgs plain).getD (p % sgsN plain) [] ++ x)) := by
  obtain ⟨h1, pre, h2, h3⟩ := h
  have hp : p / sgsN plain < sgsN plain ^ r := by rw [Nat.div_lt_iff_lt_mul (sgsN_pos plain), ← Nat.pow_succ]; exact h1
  obtain ⟨pre2, h4⟩ := allK_last plain ds r (p / sgsN plain) (by omega) hp
  refine ⟨hp, pre2, h4, ?_⟩
  rw [allK_get plain ds r p h1, h4] at h2
  have := List.append_inj_left' h2 rfl
  rw [h3, ← this]; simp
theorem sgs_sbs (plain : Bool) (g : ByteArray) (hg : g = sbs plain) (m : Nat) (hm : m < g.size) :
    ((g[m].toNat : Int) = 32 ∧ (sgs plain).getD m [] = []) ∨ ((g[m].toNat : Int) = 42 ∧ (sgs plain).getD m [] = [42]) ∨ ((g[m].toNat : Int) = 43 ∧ (sgs plain).getD m [] = [43]) ∨ ((g[m].toNat : Int) = 45 ∧ (sgs plain).getD m [] = [45]) := by
  subst hg
  cases plain with
  | true =>
    match m, hm with
    | 0, _ => exact .inr (.inr (.inl ⟨rfl, rfl⟩))
    | 1, _ => exact .inr (.inr (.inr ⟨rfl, rfl⟩))
    | 2, _ => exact .inl ⟨rfl, rfl⟩
  | false =>
    match m, hm with
    | 0, _ => exact .inr (.inl ⟨rfl, rfl⟩)
    | 1, _ => exact .inr (.inr (.inl ⟨rfl, rfl⟩))
    | 2, _ => exact .inr (.inr (.inr ⟨rfl, rfl⟩))
    | 3, _ => exact .inl ⟨rfl, rfl⟩
theorem str_pre (s : ByteArray) (i : Nat) (h : i < s.size) (x : List UInt8) : s.extract i (i + 1) ++ ⟨x.toArray⟩ = (⟨([s[i]] ++ x).toArray⟩ : ByteArray) := by
  apply ByteArray.ext
  have hk : i < s.data.toList.length := by simpa using h
  apply Array.ext'
  simp only [ByteArray.data_append, ByteArray.data_extract, Array.toList_append, Array.toList_extract, List.extract_eq_take_drop, List.drop_eq_getElem_cons hk, Nat.add_sub_cancel_left, List.take_succ_cons, List.take_zero]
  rfl
theorem str_cat (u x : List UInt8) : (⟨u.toArray⟩ : ByteArray) ++ ⟨x.toArray⟩ = ⟨(u ++ x).toArray⟩ := by
  apply ByteArray.ext
  simp [ByteArray.data_append]
theorem str_end (s : ByteArray) (h : 1 ≤ s.size) : s.extract (s.size - 1) s.size = ⟨[s[s.size - 1]].toArray⟩ := by
  have e : s.extract (s.size - 1) s.size = s.extract (s.size - 1) (s.size - 1 + 1) := by rw [Nat.sub_add_cancel h]
  rw [e]
  apply ByteArray.ext
  have hk : s.size - 1 < s.data.toList.length := by simp; omega
  apply Array.ext'
  simp only [ByteArray.data_extract, Array.toList_extract, List.extract_eq_take_drop, List.drop_eq_getElem_cons hk, Nat.add_sub_cancel_left, List.take_succ_cons, List.take_zero]
  rfl
theorem getD_at (s : ByteArray) (i : Nat) (h : i < s.size) : s.data.toList.getD i 0 = s[i] := by
  rw [List.getD_eq_getElem?_getD, List.getElem?_eq_getElem (by simpa using h)]; rfl
set_option maxHeartbeats 1000000 in
theorem at_any (s g : ByteArray) (plain : Bool) (p : Nat) (w : World) (hg : dgsB s.data.toList = true) (hgs : g = sbs plain) (hp : p < sgsN plain ^ (s.size - 1)) :
    Calls Try.prog 56 #[.string s, .string g, .int .i64 p] w fun e w' => e = .returned (.string ⟨((allK plain s.data.toList (s.size - 1)).getD p []).toArray⟩) ∧ Below w.heap.size w w' := by
  have hsl : s.data.toList.length = s.size := by simp
  have HG := Lib.hid hg
  have HSL := Lib.hid hsl
  obtain ⟨hl1, hl2, hd⟩ := dgs_len hg
  rw [hsl] at hl1 hl2
  have HGS := Lib.hid hgs
  have hgz : g.size = sgsN plain := by rw [hgs, sbs_size]
  have hg4 : g.size ≤ 4 := by rw [hgz]; cases plain <;> decide
  have hg3 : 3 ≤ g.size := by rw [hgz]; cases plain <;> decide
  have HGZ := Lib.hid hgz
  have hp4 : p ≤ 4096 := by
    have h1 : sgsN plain ^ (s.size - 1) ≤ 4 ^ (s.size - 1) := Nat.pow_le_pow_left (by cases plain <;> decide) _
    have h2 : 4 ^ (s.size - 1) ≤ 4 ^ 6 := Nat.pow_le_pow_right (by omega) (by omega)
    omega
  obtain ⟨full, hfull⟩ : ∃ full, full = (allK plain s.data.toList (s.size - 1)).getD p [] := ⟨_, rfl⟩
  rw [← hfull]
  have HS : Hid (AtInv plain s.data.toList full (s.size - 1) p [s[s.size - 1]]) := by
    obtain ⟨pre, h1⟩ := allK_last plain s.data.toList (s.size - 1) p (by rw [hsl]; omega) hp
    rw [getD_at s (s.size - 1) (by omega)] at h1
    exact ⟨hp, pre, by rw [getD_at s (s.size - 1) (by omega)]; exact h1, by rw [hfull, h1]⟩
  have HEND := Lib.hid (str_end s hl1)
  clear hg hsl hd hgs hgz hfull hp
  have hn1 : ((s.size : Int) - 1).toNat = s.size - 1 := by omega
  go_enter Try.func56, Try.ntmps56
  go_wp2
  go_loopw [2, 8, 9] (fun pv t i wr => ∃ (r q : Nat) (x : List UInt8), r < s.size ∧ i = .int .i64 ((r : Int) - 1) ∧ pv = .int .i64 q ∧ q ≤ 4096 ∧ t = .string ⟨x.toArray⟩ ∧ x.length ≤ 2 * (s.size - r) ∧ Hid (AtInv plain s.data.toList full r q x) ∧ Below w.heap.size w wr) (fun _ _ i _ => (intOf i + 1).toNat)
  case atStart =>
    refine ⟨s.size - 1, p, _, by omega, val_int (by omega), rfl, hp4, ?_, ?_, HS.out, Below.refl _ _⟩
    · rw [← HEND.out]
    · simp; omega
  case round =>
    obtain ⟨r, q, x, hr, rfl, rfl, hq, rfl, hx, HA, hbl⟩ := hrel
    by_cases hr0 : 1 ≤ r
    · obtain ⟨y, hy⟩ : ∃ y, r = y + 1 := ⟨r - 1, by omega⟩
      have hyi : (r : Int) - 1 = (y : Int) := by omega
      have hys : y < s.size := by omega
      rw [hyi]
      obtain ⟨m, hm⟩ : ∃ m, m = q % g.size := ⟨_, rfl⟩
      obtain ⟨q', hq'⟩ : ∃ q', q' = q / g.size := ⟨_, rfl⟩
      have hms : m < g.size := by rw [hm]; exact Nat.mod_lt _ (by omega)
      have hq4 : q' ≤ 4096 := by rw [hq']; exact Nat.le_trans (Nat.div_le_self _ _) hq
      have HN2 : Hid (AtInv plain s.data.toList full y q' ([s[y]] ++ ((sgs plain).getD m [] ++ x))) := by
        have h1 := HA.out
        rw [hy] at h1
        have := at_step (by rw [HSL.out]; omega) h1
        rw [getD_at s y hys, ← HGZ.out, ← hq', ← hm] at this
        exact this
      have HC := Lib.hid (sgs_sbs plain g HGS.out m hms)
      have hxy : x.length + 2 ≤ 2 * (s.size - y) := by omega
      have hN : g.size = 3 ∨ g.size = 4 := by omega
      have S0 := Lib.hid (fun z => str_pre s y hys z)
      clear hn1 hyi HA hy
      have hnb1 : ¬ 9223372036854775807 < 1 + x.length := by omega
      have hnb2 : ¬ 9223372036854775807 < min (y + 1) s.size - y + (1 + x.length) := by omega
      have hnb3 : ¬ 9223372036854775807 < min (y + 1) s.size - y + x.length := by omega
      have he42 : Utf8.encode 42 = ⟨#[42]⟩ := by decide
      have he43 : Utf8.encode 43 = ⟨#[43]⟩ := by decide
      have he45 : Utf8.encode 45 = ⟨#[45]⟩ := by decide
      rcases hN with hN | hN
      · have hrem : (q : Int) % 3 = (m : Int) := by rw [hm, hN]; omega
        have hquo : (q : Int) / 3 = (q' : Int) := by rw [hq', hN]; omega
        clear hm hq' hg4 hg3
        rcases HC.out with ⟨hc, hs0⟩ | ⟨hc, hs0⟩ | ⟨hc, hs0⟩ | ⟨hc, hs0⟩
        · have HS0 := Lib.hid hs0
          clear hs0
          go_wp2
          refine ⟨⟨y, q', [s[y]] ++ ([] ++ x), by omega, val_int (by omega), rfl, hq4, by rw [S0.out]; rfl, by simp; omega, by have := HN2.out; rw [HS0.out] at this; exact this, hbl⟩, by simp [intOf]⟩
        · have HS0 := Lib.hid hs0
          clear hs0
          go_wp2
          refine ⟨⟨y, q', [s[y]] ++ ([42] ++ x), by omega, val_int (by omega), rfl, hq4, by rw [str_cat [42] x, S0.out], by simp; omega, by have := HN2.out; rw [HS0.out] at this; exact this, hbl⟩, by simp [intOf]⟩
        · have HS0 := Lib.hid hs0
          clear hs0
          go_wp2
          refine ⟨⟨y, q', [s[y]] ++ ([43] ++ x), by omega, val_int (by omega), rfl, hq4, by rw [str_cat [43] x, S0.out], by simp; omega, by have := HN2.out; rw [HS0.out] at this; exact this, hbl⟩, by simp [intOf]⟩
        · have HS0 := Lib.hid hs0
          clear hs0
          go_wp2
          refine ⟨⟨y, q', [s[y]] ++ ([45] ++ x), by omega, val_int (by omega), rfl, hq4, by rw [str_cat [45] x, S0.out], by simp; omega, by have := HN2.out; rw [HS0.out] at this; exact this, hbl⟩, by simp [intOf]⟩
      · have hrem : (q : Int) % 4 = (m : Int) := by rw [hm, hN]; omega
        have hquo : (q : Int) / 4 = (q' : Int) := by rw [hq', hN]; omega
        clear hm hq' hg4 hg3
        rcases HC.out with ⟨hc, hs0⟩ | ⟨hc, hs0⟩ | ⟨hc, hs0⟩ | ⟨hc, hs0⟩
        · have HS0 := Lib.hid hs0
          clear hs0
          go_wp2
          refine ⟨⟨y, q', [s[y]] ++ ([] ++ x), by omega, val_int (by omega), rfl, hq4, by rw [S0.out]; rfl, by simp; omega, by have := HN2.out; rw [HS0.out] at this; exact this, hbl⟩, by simp [intOf]⟩
        · have HS0 := Lib.hid hs0
          clear hs0
          go_wp2
          refine ⟨⟨y, q', [s[y]] ++ ([42] ++ x), by omega, val_int (by omega), rfl, hq4, by rw [str_cat [42] x, S0.out], by simp; omega, by have := HN2.out; rw [HS0.out] at this; exact this, hbl⟩, by simp [intOf]⟩
        · have HS0 := Lib.hid hs0
          clear hs0
          go_wp2
          refine ⟨⟨y, q', [s[y]] ++ ([43] ++ x), by omega, val_int (by omega), rfl, hq4, by rw [str_cat [43] x, S0.out], by simp; omega, by have := HN2.out; rw [HS0.out] at this; exact this, hbl⟩, by simp [intOf]⟩
        · have HS0 := Lib.hid hs0
          clear hs0
          go_wp2
          refine ⟨⟨y, q', [s[y]] ++ ([45] ++ x), by omega, val_int (by omega), rfl, hq4, by rw [str_cat [45] x, S0.out], by simp; omega, by have := HN2.out; rw [HS0.out] at this; exact this, hbl⟩, by simp [intOf]⟩
    · have hr00 : r = 0 := by omega
      have HE : Hid (full = x) := by
        obtain ⟨h1, pre, h2, h3⟩ := HA.out
        rw [hr00] at h1 h2
        have hq0 : q = 0 := by simpa using h1
        rw [hq0] at h2
        have hpre : pre = [] := by
          have e : (allK plain s.data.toList 0).getD 0 [] = s.data.toList.take 1 := rfl
          rw [e] at h2
          have hlen := congrArg List.length h2
          rw [List.length_take, List.length_append] at hlen
          simp only [List.length_singleton] at hlen
          exact List.eq_nil_of_length_eq_zero (by omega)
        rw [h3, hpre]; rfl
      have hir : (r : Int) - 1 = -1 := by omega
      rw [hir]
      clear hir hn1 HA
      go_wp2
      go_ret
      exact ⟨ret_str2 HE.out.symm, hbl⟩
end Go.Proofs.Ytlgleghofiflaaa

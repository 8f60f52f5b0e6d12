/-
  Plain facts on numbers that are put in order by halves; nothing of the program.
-/
import Derived.WalkKit
namespace Go.Proofs.Ytlgleghofiflaab

/-- The numbers from a place to another. -/
def sgm (z : Nat → Int) (a b : Nat) : List Int := (List.range' a (b - a)).map z
theorem sgm_self (z : Nat → Int) (a : Nat) : sgm z a a = [] := by simp [sgm]
theorem sgm_succ (z : Nat → Int) {a b : Nat} (h : a ≤ b) : sgm z a (b + 1) = sgm z a b ++ [z b] := by
  unfold sgm
  rw [show b + 1 - a = (b - a) + 1 by omega, List.range'_concat, List.map_append]
  simp; congr 1; omega
theorem sgm_split (z : Nat → Int) {a m b : Nat} (h1 : a ≤ m) (h2 : m ≤ b) : sgm z a b = sgm z a m ++ sgm z m b := by
  unfold sgm
  rw [← List.map_append]
  congr 1
  have := List.range'_append_1 (s := a) (m := m - a) (n := b - m)
  rw [show a + (m - a) = m by omega] at this
  rw [this]; congr 1; omega
theorem sgm_len (z : Nat → Int) (a b : Nat) : (sgm z a b).length = b - a := by simp [sgm]
theorem sgm_all (zs : List Int) : sgm (fun i => zs.getD i 0) 0 zs.length = zs := by
  apply List.ext_getElem
  · simp [sgm]
  · intro i h1 h2
    simp [sgm, List.getElem?_eq_getElem h2]
/-- Both halves as far as they are put together. -/
structure Mg (z : Nat → Int) (f mid en i k : Nat) (ms : List Int) : Prop where
  fi : f ≤ i
  im : i ≤ mid
  mm : mid ≤ k
  ke : k ≤ en
  pm : ms.Perm (sgm z f i ++ sgm z mid k)
  so : ms.Pairwise (fun a b => a ≤ b)
  l1 : i < mid → ∀ v ∈ ms, v ≤ z i
  l2 : k < en → ∀ v ∈ ms, v ≤ z k
theorem mg_start (z : Nat → Int) {f mid en : Nat} (h1 : f ≤ mid) (h2 : mid ≤ en) : Mg z f mid en f mid [] :=
  ⟨Nat.le_refl _, h1, Nat.le_refl _, h2, by rw [sgm_self, sgm_self]; exact List.Perm.refl _, List.Pairwise.nil, fun _ _ h => by simp at h, fun _ _ h => by simp at h⟩
theorem pair_snoc {ms : List Int} {v : Int} (h : ms.Pairwise (fun a b => a ≤ b)) (hv : ∀ u ∈ ms, u ≤ v) : (ms ++ [v]).Pairwise (fun a b => a ≤ b) := by
  rw [List.pairwise_append]
  exact ⟨h, by simp, fun a ha b hb => by simp at hb; subst hb; exact hv a ha⟩
theorem mg_left {z : Nat → Int} {f mid en i k : Nat} {ms : List Int} (h : Mg z f mid en i k ms) (hs : ∀ a b, f ≤ a → a ≤ b → b < mid → z a ≤ z b) (hi : i < mid) (hc : k < en → z i ≤ z k) : Mg z f mid en (i + 1) k (ms ++ [z i]) := by
  refine ⟨by have := h.fi; omega, by omega, h.mm, h.ke, ?_, pair_snoc h.so (h.l1 hi), ?_, ?_⟩
  · rw [sgm_succ z h.fi]
    refine (h.pm.append_right [z i]).trans ?_
    rw [List.append_assoc, List.append_assoc]
    exact List.Perm.append_left _ List.perm_append_comm
  · intro hi2 v hv
    rcases List.mem_append.1 hv with hv | hv
    · exact Int.le_trans (h.l1 hi v hv) (hs i (i + 1) h.fi (by omega) hi2)
    · simp at hv; subst hv; exact hs i (i + 1) h.fi (by omega) hi2
  · intro hk v hv
    rcases List.mem_append.1 hv with hv | hv
    · exact h.l2 hk v hv
    · simp at hv; subst hv; exact hc hk
theorem mg_right {z : Nat → Int} {f mid en i k : Nat} {ms : List Int} (h : Mg z f mid en i k ms) (hs : ∀ a b, mid ≤ a → a ≤ b → b < en → z a ≤ z b) (hk : k < en) (hc : i < mid → z k ≤ z i) : Mg z f mid en i (k + 1) (ms ++ [z k]) := by
  refine ⟨h.fi, h.im, by have := h.mm; omega, by omega, ?_, pair_snoc h.so (h.l2 hk), ?_, ?_⟩
  · rw [sgm_succ z h.mm, ← List.append_assoc]
    exact h.pm.append_right [z k]
  · intro hi v hv
    rcases List.mem_append.1 hv with hv | hv
    · exact h.l1 hi v hv
    · simp at hv; subst hv; exact hc hi
  · intro hk2 v hv
    rcases List.mem_append.1 hv with hv | hv
    · exact Int.le_trans (h.l2 hk v hv) (hs k (k + 1) h.mm (by omega) hk2)
    · simp at hv; subst hv; exact hs k (k + 1) h.mm (by omega) hk2
theorem mg_end {z : Nat → Int} {f mid en : Nat} {ms : List Int} (h : Mg z f mid en mid en ms) : ms.Perm (sgm z f en) ∧ ms.Pairwise (fun a b => a ≤ b) := by
  refine ⟨?_, h.so⟩
  rw [sgm_split z h.fi h.mm]
  exact h.pm
/-- Blocks of one size are in order. -/
def Blk (S : Nat) (zs : List Int) : Prop := ∀ i j, i ≤ j → j < zs.length → i / S = j / S → zs.getD i 0 ≤ zs.getD j 0
theorem blk_one (zs : List Int) : Blk 1 zs := by
  intro i j h1 _ h3
  simp at h3
  subst h3; exact Int.le_refl _
theorem blk_all {S : Nat} {zs : List Int} (h : Blk S zs) (hS : zs.length ≤ S) : zs.Pairwise (fun a b => a ≤ b) := by
  rw [List.pairwise_iff_getElem]
  intro i j hi hj hij
  have := h i j (by omega) hj (by rw [Nat.div_eq_of_lt (by omega), Nat.div_eq_of_lt (by omega)])
  rw [List.getD_eq_getElem?_getD, List.getD_eq_getElem?_getD, List.getElem?_eq_getElem hi, List.getElem?_eq_getElem hj] at this
  exact this
theorem two_div {S f : Nat} (hf : f % (2 * S) = 0) : 2 * S * (f / (2 * S)) = f := by
  have := Nat.div_add_mod f (2 * S)
  omega
theorem gD_l (a b : List Int) (i : Nat) (h : i < a.length) : (a ++ b).getD i 0 = a.getD i 0 := by
  rw [List.getD_eq_getElem?_getD, List.getElem?_append_left h, ← List.getD_eq_getElem?_getD]
theorem gD_r (a b : List Int) (i : Nat) (h : a.length ≤ i) : (a ++ b).getD i 0 = b.getD (i - a.length) 0 := by
  rw [List.getD_eq_getElem?_getD, List.getElem?_append_right h, ← List.getD_eq_getElem?_getD]
theorem blk_lo {S f n : Nat} {zs : List Int} (hz : zs.length = n) (h : Blk S zs) (hS : 1 ≤ S) (hf : f % (2 * S) = 0) : ∀ a b, f ≤ a → a ≤ b → b < min (f + S) n → zs.getD a 0 ≤ zs.getD b 0 := by
  intro a b h1 h2 h3
  refine h a b h2 (by omega) ?_
  obtain ⟨c, hc⟩ : ∃ c, f = S * (2 * c) := ⟨f / (2 * S), by rw [← Nat.mul_assoc, Nat.mul_comm S 2]; exact (two_div hf).symm⟩
  have e : ∀ x, f ≤ x → x < f + S → x / S = 2 * c := by
    intro x hx1 hx2
    rw [hc] at hx1 hx2
    rw [Nat.div_eq_iff (by omega)]
    have e1 : 2 * c * S = S * (2 * c) := Nat.mul_comm _ _
    omega
  rw [e a h1 (by omega), e b (by omega) (by omega)]
theorem blk_hi {S f n : Nat} {zs : List Int} (hz : zs.length = n) (h : Blk S zs) (hS : 1 ≤ S) (hf : f % (2 * S) = 0) : ∀ a b, min (f + S) n ≤ a → a ≤ b → b < min (f + 2 * S) n → zs.getD a 0 ≤ zs.getD b 0 := by
  intro a b h1 h2 h3
  refine h a b h2 (by omega) ?_
  obtain ⟨c, hc⟩ : ∃ c, f = S * (2 * c) := ⟨f / (2 * S), by rw [← Nat.mul_assoc, Nat.mul_comm S 2]; exact (two_div hf).symm⟩
  have e : ∀ x, f + S ≤ x → x < f + 2 * S → x / S = 2 * c + 1 := by
    intro x hx1 hx2
    rw [hc] at hx1 hx2
    rw [Nat.div_eq_iff (by omega)]
    have e1 : (2 * c + 1) * S = S * (2 * c) + S := by rw [Nat.add_mul, Nat.mul_comm (2 * c) S]; omega
    omega
  rw [e a (by omega) (by omega), e b (by omega) (by omega)]
/-- How far one pass has come. -/
structure Fr (zs : List Int) (S f : Nat) (ns : List Int) : Prop where
  fm : f % (2 * S) = 0
  pm : ns.Perm (sgm (fun i => zs.getD i 0) 0 (min f zs.length))
  bl : Blk (2 * S) ns
theorem fr_start (zs : List Int) (S : Nat) : Fr zs S 0 [] :=
  ⟨Nat.zero_mod _, by rw [Nat.zero_min, sgm_self], fun _ _ _ h => by simp at h⟩
theorem fr_step {zs : List Int} {S f : Nat} {ns ms : List Int} (h : Fr zs S f ns) (hS : 1 ≤ S) (hf : f < zs.length)
    (hm : Mg (fun i => zs.getD i 0) f (min (f + S) zs.length) (min (f + 2 * S) zs.length) (min (f + S) zs.length) (min (f + 2 * S) zs.length) ms) : Fr zs S (f + 2 * S) (ns ++ ms) := by
  obtain ⟨h1, h2⟩ := mg_end hm
  have hnl : ns.length = f := by have := h.pm.length_eq; rw [sgm_len] at this; omega
  have hml : ms.length = min (f + 2 * S) zs.length - f := by have := h1.length_eq; rw [sgm_len] at this; exact this
  refine ⟨by rw [Nat.add_mod_right]; exact h.fm, ?_, ?_⟩
  · rw [sgm_split _ (Nat.zero_le f) (show f ≤ min (f + 2 * S) zs.length by omega)]
    have := h.pm
    rw [show min f zs.length = f by omega] at this
    exact this.append h1
  · intro i j hij hj hd
    rw [List.length_append] at hj
    by_cases hjf : j < f
    · rw [gD_l _ _ _ (by omega), gD_l _ _ _ (by omega)]
      exact h.bl i j hij (by omega) hd
    · by_cases hif : i < f
      · exfalso
        have e1 : i / (2 * S) < f / (2 * S) := by
          rw [Nat.div_lt_iff_lt_mul (by omega)]
          have := Nat.div_add_mod f (2 * S)
          rw [h.fm, Nat.add_zero, Nat.mul_comm] at this
          omega
        have e2 : f / (2 * S) ≤ j / (2 * S) := Nat.div_le_div_right (by omega)
        omega
      · rw [gD_r _ _ _ (by omega), gD_r _ _ _ (by omega)]
        rcases Nat.lt_or_ge i j with hlt | hge
        · rw [List.pairwise_iff_getElem] at h2
          have := h2 (i - ns.length) (j - ns.length) (by omega) (by omega) (by omega)
          rw [List.getD_eq_getElem?_getD, List.getD_eq_getElem?_getD, List.getElem?_eq_getElem (by omega), List.getElem?_eq_getElem (by omega)]
          exact this
        · have : i = j := by omega
          subst this; exact Int.le_refl _
theorem fr_end {zs : List Int} {S f : Nat} {ns : List Int} (h : Fr zs S f ns) (hf : zs.length ≤ f) : ns.Perm zs ∧ Blk (2 * S) ns := by
  refine ⟨?_, h.bl⟩
  have := h.pm
  rw [show min f zs.length = zs.length by omega, sgm_all] at this
  exact this
end Go.Proofs.Ytlgleghofiflaab

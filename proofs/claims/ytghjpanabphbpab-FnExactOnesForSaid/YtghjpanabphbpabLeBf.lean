/-
  Least numbers: texts by their rests, shorter ones first. Nothing of the program.
-/
import Derived.Test.YtghjpanabphbpabMath
namespace Go.Proofs.Ytghjpanabphbpab

/-- The texts so far, each with its rest; the rests that were met. -/
structure QS where
  q : List (List Nat × Nat)
  m : Nat → Bool
/-- One digit behind a text. -/
def pd (n : Nat) (tr : List Nat × Nat) (st : QS) (d : Nat) : Sum (List Nat) QS :=
  if tr.1 = [] ∧ d = 0 then .inr st
  else if (tr.2 * 10 + d) % n = 0 then .inl (tr.1 ++ [d])
  else if st.m ((tr.2 * 10 + d) % n) = true then .inr st
  else .inr ⟨st.q ++ [(tr.1 ++ [d], (tr.2 * 10 + d) % n)], fun x => if x = (tr.2 * 10 + d) % n then true else st.m x⟩
/-- The first j of the digits. -/
def pdk (n : Nat) (ds : List Nat) (tr : List Nat × Nat) (st : QS) : Nat → Sum (List Nat) QS
  | 0 => .inr st
  | j + 1 => match pdk n ds tr st j with
    | .inl x => .inl x
    | .inr s => pd n tr s (ds.getD j 0)
/-- The first i of the texts. -/
def sq (n : Nat) (ds : List Nat) : Nat → Sum (List Nat) QS
  | 0 => .inr ⟨[([], 0)], fun _ => false⟩
  | i + 1 => match sq n ds i with
    | .inl x => .inl x
    | .inr s => if i < s.q.length then pdk n ds (s.q.getD i ([], 0)) s ds.length else .inr s
theorem pdk_inl {n : Nat} {ds : List Nat} {tr : List Nat × Nat} {st : QS} {j : Nat} {x : List Nat} (h : pdk n ds tr st j = .inl x) (k : Nat) : pdk n ds tr st (j + k) = .inl x := by
  induction k with
  | zero => exact h
  | succ k ih => rw [← Nat.add_assoc, pdk, ih]
theorem pdk_inr {n : Nat} {ds : List Nat} {tr : List Nat × Nat} {st s : QS} {j : Nat} (h : pdk n ds tr st j = .inr s) : pdk n ds tr st (j + 1) = pd n tr s (ds.getD j 0) := by
  rw [pdk, h]
theorem sq_inl {n : Nat} {ds : List Nat} {i : Nat} {x : List Nat} (h : sq n ds i = .inl x) (k : Nat) : sq n ds (i + k) = .inl x := by
  induction k with
  | zero => exact h
  | succ k ih => rw [← Nat.add_assoc, sq, ih]
theorem sq_inr {n : Nat} {ds : List Nat} {i : Nat} {s : QS} (h : sq n ds i = .inr s) (hi : i < s.q.length) : sq n ds (i + 1) = pdk n ds (s.q.getD i ([], 0)) s ds.length := by
  rw [sq, h]; simp only []; rw [if_pos hi]
theorem sq_end {n : Nat} {ds : List Nat} {i : Nat} {s : QS} (h : sq n ds i = .inr s) (hi : s.q.length ≤ i) (k : Nat) : sq n ds (i + k) = .inr s := by
  induction k with
  | zero => exact h
  | succ k ih => rw [← Nat.add_assoc, sq, ih]; simp only []; rw [if_neg (by omega)]
/-- What is found. -/
def Res (n : Nat) (ds : List Nat) (t : List Nat) (ok : Bool) : Prop :=
  (ok = true ∧ ∃ i, sq n ds i = .inl t) ∨ (ok = false ∧ t = [] ∧ ∃ i s, sq n ds i = .inr s ∧ s.q.length ≤ i)
theorem Res.uniq {n : Nat} {ds t u : List Nat} {a b : Bool} (h : Res n ds t a) (g : Res n ds u b) : t = u ∧ a = b := by
  rcases h with ⟨rfl, i, h⟩ | ⟨rfl, rfl, i, s, h, h2⟩ <;> rcases g with ⟨rfl, j, g⟩ | ⟨rfl, rfl, j, r, g, g2⟩
  · have e1 := sq_inl h j
    have e2 := sq_inl g i
    rw [Nat.add_comm j i, e1] at e2
    cases e2; exact ⟨rfl, rfl⟩
  · have e1 := sq_inl h j
    have e2 := sq_end g g2 i
    rw [Nat.add_comm j i, e1] at e2
    cases e2
  · have e1 := sq_end h h2 j
    have e2 := sq_inl g i
    rw [Nat.add_comm j i, e1] at e2
    cases e2
  · exact ⟨rfl, rfl⟩
/-- How many rests were met. -/
def cm (m : Nat → Bool) : Nat → Nat
  | 0 => 0
  | k + 1 => cm m k + (if m k = true then 1 else 0)
theorem cm_same {m m' : Nat → Bool} {k : Nat} (h : ∀ i, i < k → m i = m' i) : cm m k = cm m' k := by
  induction k with
  | zero => rfl
  | succ k ih => rw [cm, cm, ih (fun i hi => h i (by omega)), h k (by omega)]
theorem cm_put {m : Nat → Bool} {x k : Nat} (hx : x < k) (h : ¬ m x = true) : cm (fun y => if y = x then true else m y) k = cm m k + 1 := by
  induction k with
  | zero => omega
  | succ k ih =>
    rw [cm, cm]
    by_cases e : x = k
    · subst e
      rw [if_pos (by simp), if_neg h, cm_same (m' := m) (fun i hi => by rw [if_neg (by omega)])]
    · rw [ih (by omega), if_neg (show ¬ k = x by omega)]; omega
theorem cm_le {m : Nat → Bool} (h0 : ¬ m 0 = true) (k : Nat) : cm m (k + 1) ≤ k := by
  induction k with
  | zero => rw [cm, if_neg h0]; exact Nat.le_refl _
  | succ k ih => rw [cm]; split <;> omega
/-- What holds of all of them. -/
structure QInv (n : Nat) (s : QS) : Prop where
  m0 : s.m 0 = false
  len : s.q.length = cm s.m n + 1
  rest : ∀ k, k < s.q.length → (s.q.getD k ([], 0)).2 < n
  size : ∀ k, k < s.q.length → (s.q.getD k ([], 0)).1.length ≤ k
  dig : ∀ k, k < s.q.length → ∀ d ∈ (s.q.getD k ([], 0)).1, d ≤ 9
theorem QInv.le {n : Nat} {s : QS} (h : QInv n s) (hn : 1 ≤ n) : s.q.length ≤ n := by
  obtain ⟨k, rfl⟩ : ∃ k, n = k + 1 := ⟨n - 1, by omega⟩
  rw [h.len]
  have := cm_le (m := s.m) (by rw [h.m0]; simp) k
  omega
theorem QInv.first (n : Nat) (hn : 1 ≤ n) : QInv n ⟨[([], 0)], fun _ => false⟩ := by
  refine ⟨rfl, ?_, ?_, ?_, ?_⟩
  · have : cm (fun _ => false) n = 0 := by
      clear hn
      induction n with
      | zero => rfl
      | succ n ih => rw [cm, ih]; rfl
    show 1 = cm (fun _ => false) n + 1; omega
  · intro k hk
    have : k = 0 := by simpa using hk
    subst this; show 0 < n; omega
  · intro k hk
    have : k = 0 := by simpa using hk
    subst this; exact Nat.le_refl _
  · intro k hk
    have : k = 0 := by simpa using hk
    subst this; intro d hd; cases hd
theorem getD_snoc {α : Type} (l : List α) (x z : α) (k : Nat) (h : k < (l ++ [x]).length) : (l ++ [x]).getD k z = if k = l.length then x else l.getD k z := by
  rw [List.length_append, List.length_singleton] at h
  rw [List.getD_eq_getElem?_getD, List.getD_eq_getElem?_getD]
  by_cases e : k = l.length
  · subst e; rw [if_pos rfl]; simp
  · rw [if_neg e, List.getElem?_append_left (by omega)]
theorem QInv.pd {n : Nat} {s s' : QS} {tr : List Nat × Nat} {d : Nat} (h : QInv n s) (hn : 1 ≤ n) (hd : d ≤ 9) (ht : tr.1.length < s.q.length) (htd : ∀ x ∈ tr.1, x ≤ 9) (e : pd n tr s d = .inr s') : QInv n s' ∧ s.q.length ≤ s'.q.length ∧ ∀ k, k < s.q.length → s'.q.getD k ([], 0) = s.q.getD k ([], 0) := by
  unfold Go.Proofs.Ytghjpanabphbpab.pd at e
  split at e
  · cases e; exact ⟨h, Nat.le_refl _, fun _ _ => rfl⟩
  · split at e
    · cases e
    · rename_i hr0
      split at e
      · cases e; exact ⟨h, Nat.le_refl _, fun _ _ => rfl⟩
      · rename_i hm
        cases e
        have hrn : (tr.2 * 10 + d) % n < n := Nat.mod_lt _ hn
        obtain ⟨r, hr⟩ : ∃ r, (tr.2 * 10 + d) % n = r := ⟨_, rfl⟩
        rw [hr] at hrn hm hr0 ⊢
        have hg := fun k hk => getD_snoc s.q (tr.1 ++ [d], r) ([], 0) k hk
        refine ⟨⟨?_, ?_, ?_, ?_, ?_⟩, by simp, ?_⟩
        · show (if 0 = r then true else s.m 0) = false
          rw [if_neg (by omega), h.m0]
        · show (s.q ++ [(tr.1 ++ [d], r)]).length = _
          rw [List.length_append, List.length_singleton, h.len, cm_put hrn hm]
        · intro k hk
          show ((s.q ++ [(tr.1 ++ [d], r)]).getD k ([], 0)).2 < n
          rw [hg k hk]
          split
          · exact hrn
          · rename_i hne
            have hk' : k < (s.q ++ [(tr.1 ++ [d], r)]).length := hk
            rw [List.length_append, List.length_singleton] at hk'
            exact h.rest k (by omega)
        · intro k hk
          show ((s.q ++ [(tr.1 ++ [d], r)]).getD k ([], 0)).1.length ≤ k
          rw [hg k hk]
          split
          · rename_i he
            show (tr.1 ++ [d]).length ≤ k
            rw [List.length_append, List.length_singleton]; omega
          · rename_i hne
            have hk' : k < (s.q ++ [(tr.1 ++ [d], r)]).length := hk
            rw [List.length_append, List.length_singleton] at hk'
            exact h.size k (by omega)
        · intro k hk
          show ∀ x ∈ ((s.q ++ [(tr.1 ++ [d], r)]).getD k ([], 0)).1, x ≤ 9
          rw [hg k hk]
          split
          · intro x hx
            rcases List.mem_append.1 hx with hx | hx
            · exact htd x hx
            · have : x = d := by simpa using hx
              omega
          · rename_i hne
            have hk' : k < (s.q ++ [(tr.1 ++ [d], r)]).length := hk
            rw [List.length_append, List.length_singleton] at hk'
            exact h.dig k (by omega)
        · intro k hk
          show (s.q ++ [(tr.1 ++ [d], r)]).getD k ([], 0) = _
          rw [hg k (by rw [List.length_append]; omega), if_neg (by omega)]
theorem QInv.pdk {n : Nat} {ds : List Nat} {tr : List Nat × Nat} {s : QS} (h : QInv n s) (hn : 1 ≤ n) (hd : ∀ d ∈ ds, d ≤ 9) (ht : tr.1.length < s.q.length) (htd : ∀ x ∈ tr.1, x ≤ 9) :
    ∀ (j : Nat) (s' : QS), Go.Proofs.Ytghjpanabphbpab.pdk n ds tr s j = .inr s' → QInv n s' ∧ s.q.length ≤ s'.q.length ∧ ∀ k, k < s.q.length → s'.q.getD k ([], 0) = s.q.getD k ([], 0) := by
  intro j
  induction j with
  | zero => intro s' e; cases e; exact ⟨h, Nat.le_refl _, fun _ _ => rfl⟩
  | succ j ih =>
    intro s' e
    rw [Go.Proofs.Ytghjpanabphbpab.pdk] at e
    split at e
    · cases e
    · rename_i s1 hs1
      obtain ⟨i1, i2, i3⟩ := ih s1 hs1
      have hd9 : ds.getD j 0 ≤ 9 := by
        rw [List.getD_eq_getElem?_getD]
        cases hj : ds[j]? with
        | none => exact Nat.zero_le _
        | some x => exact hd x (List.mem_of_getElem? hj)
      obtain ⟨k1, k2, k3⟩ := i1.pd hn hd9 (by omega) htd e
      exact ⟨k1, by omega, fun k hk => by rw [k3 k (by omega), i3 k hk]⟩
theorem QInv.sq {n : Nat} {ds : List Nat} (hn : 1 ≤ n) (hd : ∀ d ∈ ds, d ≤ 9) : ∀ (i : Nat) (s : QS), Go.Proofs.Ytghjpanabphbpab.sq n ds i = .inr s → QInv n s := by
  intro i
  induction i with
  | zero => intro s e; cases e; exact QInv.first n hn
  | succ i ih =>
    intro s e
    rw [Go.Proofs.Ytghjpanabphbpab.sq] at e
    split at e
    · cases e
    · rename_i s1 hs1
      have i1 := ih s1 hs1
      split at e
      · rename_i hi
        exact (i1.pdk hn hd (by have := i1.size i hi; omega) (i1.dig i hi) _ s e).1
      · cases e; exact i1
end Go.Proofs.Ytghjpanabphbpab

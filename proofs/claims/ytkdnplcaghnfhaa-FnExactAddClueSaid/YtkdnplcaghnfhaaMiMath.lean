/-
  Plain facts on readings: all texts of a kind in their order, ranks among them, the first one behind a text. Nothing of the program.
-/
import Derived.Test.YtkdnplcaghnfhaaMath
import Derived.Sort.Walk0
namespace Go.Proofs.Ytkdnplcaghnfhaa

/-- The sign of a digit. -/
def dc (u : Nat) : UInt8 := UInt8.ofNat (48 + u)
theorem dc_nat {u : Nat} (h : u ≤ 9) : (dc u).toNat = 48 + u := by unfold dc; rw [UInt8.toNat_ofNat']; omega
theorem dc_inj {u v : Nat} (hu : u ≤ 9) (hv : v ≤ 9) : dc u = dc v ↔ u = v := by
  constructor
  · intro h; have := congrArg UInt8.toNat h; rw [dc_nat hu, dc_nat hv] at this; omega
  · intro h; rw [h]
theorem dc_of {c : UInt8} (h : dgB c = true) : ∃ u, u ≤ 9 ∧ c = dc u := by
  have := (dgB_iff c).1 h
  refine ⟨c.toNat - 48, by omega, ?_⟩
  apply UInt8.toNat_inj.1
  rw [dc_nat (by omega)]; omega
theorem dg_dc {u : Nat} (h : u ≤ 9) : dgB (dc u) = true := by rw [dgB_iff, dc_nat h]; omega

/-- All texts of a kind that begin so, with so many digits behind, in order. -/
def LK (I : List UInt8 → Bool) : Nat → List UInt8 → List (List UInt8)
  | 0, b => if I b then [b] else []
  | l + 1, b => (List.range 10).flatMap (fun d => LK I l (b ++ [dc d]))
def cK (I : List UInt8 → Bool) (l : Nat) (b : List UInt8) : Nat := (LK I l b).length
/-- The sum over the first ones. -/
def sm (f : Nat → Nat) : Nat → Nat
  | 0 => 0
  | k + 1 => sm f k + f k
theorem sm_mono (f : Nat → Nat) {a b : Nat} (h : a ≤ b) : sm f a ≤ sm f b := by
  induction b with
  | zero => have : a = 0 := by omega
            rw [this]; exact Nat.le_refl _
  | succ b ih =>
    rcases Nat.lt_or_ge b a with h1 | h1
    · have : a = b + 1 := by omega
      rw [this]; exact Nat.le_refl _
    · have := ih h1; simp only [sm]; omega
theorem sm_congr (f g : Nat → Nat) (n : Nat) (h : ∀ d, d < n → f d = g d) : sm f n = sm g n := by
  induction n with
  | zero => rfl
  | succ n ih => simp only [sm]; rw [ih (fun d hd => h d (by omega)), h n (by omega)]
theorem len_flat (f : Nat → List (List UInt8)) (n : Nat) : ((List.range n).flatMap f).length = sm (fun d => (f d).length) n := by
  induction n with
  | zero => rfl
  | succ n ih => rw [List.range_succ, List.flatMap_append, List.length_append, ih]; simp [sm]
theorem cK_succ (I : List UInt8 → Bool) (l : Nat) (b : List UInt8) : cK I (l + 1) b = sm (fun d => cK I l (b ++ [dc d])) 10 := by
  rw [cK, LK, len_flat]; rfl
/-- The place in a list that is made of ten. -/
theorem flat_at (f : Nat → List (List UInt8)) (n d r : Nat) (hd : d < n) (h1 : sm (fun d => (f d).length) d ≤ r) (h2 : r < sm (fun d => (f d).length) (d + 1)) : ((List.range n).flatMap f)[r]? = (f d)[r - sm (fun d => (f d).length) d]? := by
  induction n with
  | zero => omega
  | succ n ih =>
    rw [List.range_succ, List.flatMap_append]
    rcases Nat.lt_or_ge d n with h | h
    · have hm := sm_mono (fun d => (f d).length) (show d + 1 ≤ n by omega)
      rw [List.getElem?_append_left (by rw [len_flat]; omega)]
      exact ih h
    · have hdn : d = n := by omega
      subst hdn
      rw [List.getElem?_append_right (by rw [len_flat]; omega), len_flat]
      simp
theorem LK_at (I : List UInt8 → Bool) (l : Nat) (b : List UInt8) (d r : Nat) (hd : d < 10) (h1 : sm (fun d => cK I l (b ++ [dc d])) d ≤ r) (h2 : r < sm (fun d => cK I l (b ++ [dc d])) (d + 1)) : (LK I (l + 1) b)[r]? = (LK I l (b ++ [dc d]))[r - sm (fun d => cK I l (b ++ [dc d])) d]? :=
  flat_at (fun d => LK I l (b ++ [dc d])) 10 d r hd h1 h2

/-- Those before a text. -/
def LB (I : List UInt8 → Bool) : List UInt8 → List UInt8 → List (List UInt8)
  | [], _ => []
  | c :: rs, b => (List.range (c.toNat - 48)).flatMap (fun d => LK I rs.length (b ++ [dc d])) ++ LB I rs (b ++ [c])
/-- Those behind a text. -/
def LG (I : List UInt8 → Bool) : List UInt8 → List UInt8 → List (List UInt8)
  | [], _ => []
  | c :: rs, b => LG I rs (b ++ [c]) ++ ((List.range (57 - c.toNat)).map (fun i => c.toNat - 47 + i)).flatMap (fun d => LK I rs.length (b ++ [dc d]))
/-- How many come before. -/
def rb (I : List UInt8 → Bool) : List UInt8 → List UInt8 → Nat
  | [], _ => 0
  | c :: rs, b => sm (fun d => cK I rs.length (b ++ [dc d])) (c.toNat - 48) + rb I rs (b ++ [c])
theorem len_LB (I : List UInt8 → Bool) (rs : List UInt8) : ∀ b, (LB I rs b).length = rb I rs b := by
  induction rs with
  | nil => intro b; rfl
  | cons c rs ih => intro b; rw [LB, List.length_append, len_flat, ih]; rfl
theorem range_ten (c : Nat) (h : c ≤ 9) : List.range 10 = List.range c ++ [c] ++ (List.range (9 - c)).map (fun i => c + 1 + i) := by
  have : c = 0 ∨ c = 1 ∨ c = 2 ∨ c = 3 ∨ c = 4 ∨ c = 5 ∨ c = 6 ∨ c = 7 ∨ c = 8 ∨ c = 9 := by omega
  rcases this with h | h | h | h | h | h | h | h | h | h <;> subst h <;> decide
theorem LK_split (I : List UInt8 → Bool) (rs : List UInt8) : ∀ b, digB rs = true → LK I rs.length b = LB I rs b ++ (if I (b ++ rs) then [b ++ rs] else []) ++ LG I rs b := by
  induction rs with
  | nil => intro b _; simp [LK, LB, LG]
  | cons c rs ih =>
    intro b hd
    have h' : dgB c = true ∧ digB rs = true := by simpa [digB] using hd
    obtain ⟨u, hu, rfl⟩ := dc_of h'.1
    rw [List.length_cons, LK, range_ten u hu, List.flatMap_append, List.flatMap_append, LB, LG]
    have e1 : (dc u).toNat - 48 = u := by rw [dc_nat hu]; omega
    have e2 : 57 - (dc u).toNat = 9 - u := by rw [dc_nat hu]; omega
    have e3 : (dc u).toNat - 47 = u + 1 := by rw [dc_nat hu]; omega
    rw [e1, e2, e3]
    have e4 : List.flatMap (fun d => LK I rs.length (b ++ [dc d])) [u] = LK I rs.length (b ++ [dc u]) := by simp
    rw [e4, ih (b ++ [dc u]) h'.2]
    simp [List.append_assoc]

theorem LK_mem (I : List UInt8 → Bool) (l : Nat) : ∀ b t, t ∈ LK I l b → I t = true ∧ ∃ r, t = b ++ r ∧ r.length = l ∧ digB r = true := by
  induction l with
  | zero =>
    intro b t h
    rw [LK] at h
    split at h
    · rename_i hi
      have : t = b := by simpa using h
      subst this
      exact ⟨hi, [], by simp, rfl, rfl⟩
    · cases h
  | succ l ih =>
    intro b t h
    rw [LK, List.mem_flatMap] at h
    obtain ⟨d, hd, ht⟩ := h
    have hd' : d < 10 := List.mem_range.1 hd
    obtain ⟨h1, r, h2, h3, h4⟩ := ih _ _ ht
    refine ⟨h1, dc d :: r, by simp [h2], by simp [h3], ?_⟩
    simp only [digB, List.all_cons, Bool.and_eq_true]
    exact ⟨dg_dc (by omega), h4⟩
/-- One text is less than another one. -/
abbrev bl (a b : List UInt8) : Bool := Op.bytesLess a b
theorem bl_iff (a b : List UInt8) : bl a b = true ↔ a < b := by unfold bl; rw [bytesLess_eq]; simp
theorem bl_irr (a : List UInt8) : bl a a = false := by
  cases h : bl a a with
  | false => rfl
  | true => exact absurd ((bl_iff a a).1 h) (List.lt_irrefl a)
theorem bl_asym {a b : List UInt8} (h : bl a b = true) : bl b a = false := by
  cases h' : bl b a with
  | false => rfl
  | true => exact absurd ((bl_iff _ _).1 h') (List.lt_asymm ((bl_iff _ _).1 h))
theorem bl_cons {c d : UInt8} (x y : List UInt8) (h : c < d) : bl (c :: x) (d :: y) = true := (bl_iff _ _).2 (List.cons_lt_cons_iff.2 (.inl h))
theorem bl_pre (b x y : List UInt8) : bl (b ++ x) (b ++ y) = bl x y := by
  induction b with
  | nil => rfl
  | cons c b ih =>
    rw [← ih]
    have : (c :: b ++ x < c :: b ++ y) ↔ (b ++ x < b ++ y) := by simp
    cases h : bl (b ++ x) (b ++ y) with
    | true => exact (bl_iff _ _).2 (this.2 ((bl_iff _ _).1 h))
    | false =>
      cases h2 : bl (c :: b ++ x) (c :: b ++ y) with
      | false => rfl
      | true => have := (bl_iff _ _).2 (this.1 ((bl_iff _ _).1 h2)); rw [h] at this; cases this
/-- What is less stays so, whatever follows. -/
theorem bl_ext (a : List UInt8) : ∀ (b x y : List UInt8), a.length = b.length → bl a b = true → bl (a ++ x) (b ++ y) = true := by
  induction a with
  | nil => intro b x y h hb; have : b = [] := List.length_eq_zero_iff.1 h.symm; subst this; exact absurd hb (by decide)
  | cons c a ih =>
    intro b x y h hb
    cases b with
    | nil => simp at h
    | cons d b =>
      have h1 := List.cons_lt_cons_iff.1 ((bl_iff _ _).1 hb)
      rcases h1 with h1 | ⟨h1, h2⟩
      · exact bl_cons _ _ h1
      · subst h1
        have := ih b x y (by simpa using h) ((bl_iff _ _).2 h2)
        exact (bl_iff _ _).2 (List.cons_lt_cons_iff.2 (.inr ⟨rfl, (bl_iff _ _).1 this⟩))
theorem bl_tri (a b : List UInt8) (h : bl a b = false) (h2 : bl b a = false) : a = b := by
  apply List.le_antisymm
  · exact List.not_lt.1 (fun h' => by rw [(bl_iff _ _).2 h'] at h2; cases h2)
  · exact List.not_lt.1 (fun h' => by rw [(bl_iff _ _).2 h'] at h; cases h)
theorem dc_lt {u v : Nat} (h : u < v) (hv : v ≤ 9) : dc u < dc v := by
  rw [UInt8.lt_iff_toNat_lt, dc_nat (by omega), dc_nat hv]; omega
theorem LB_less (I : List UInt8 → Bool) (rs : List UInt8) : ∀ b t, digB rs = true → t ∈ LB I rs b → bl t (b ++ rs) = true := by
  induction rs with
  | nil => intro b t _ h; cases h
  | cons c rs ih =>
    intro b t hd h
    have h' : dgB c = true ∧ digB rs = true := by simpa [digB] using hd
    obtain ⟨u, hu, rfl⟩ := dc_of h'.1
    rw [LB, List.mem_append] at h
    rcases h with h | h
    · rw [List.mem_flatMap] at h
      obtain ⟨d, hd, ht⟩ := h
      have hd' : d < u := by have := List.mem_range.1 hd; rw [dc_nat hu] at this; omega
      obtain ⟨_, r, hr, _, _⟩ := LK_mem _ _ _ _ ht
      rw [hr, List.append_assoc, bl_pre]
      exact bl_cons _ _ (dc_lt hd' hu)
    · have := ih _ _ h'.2 h
      rwa [List.append_assoc] at this
theorem LG_less (I : List UInt8 → Bool) (rs : List UInt8) : ∀ b t, digB rs = true → t ∈ LG I rs b → bl (b ++ rs) t = true := by
  induction rs with
  | nil => intro b t _ h; cases h
  | cons c rs ih =>
    intro b t hd h
    have h' : dgB c = true ∧ digB rs = true := by simpa [digB] using hd
    obtain ⟨u, hu, rfl⟩ := dc_of h'.1
    rw [LG, List.mem_append] at h
    rcases h with h | h
    · have := ih _ _ h'.2 h
      rwa [List.append_assoc] at this
    · rw [List.mem_flatMap] at h
      obtain ⟨d, hd, ht⟩ := h
      obtain ⟨i, hi, rfl⟩ := List.mem_map.1 hd
      have hi' := List.mem_range.1 hi
      rw [dc_nat hu] at hi'
      obtain ⟨_, r, hr, _, _⟩ := LK_mem _ _ _ _ ht
      rw [hr, List.append_assoc, bl_pre]
      refine bl_cons _ _ (dc_lt ?_ ?_)
      · rw [dc_nat hu]; omega
      · rw [dc_nat hu]; omega
/-- Those behind a text, in the list of all. -/
theorem filter_gt (I : List UInt8 → Bool) (s : List UInt8) (hd : digB s = true) : (LK I s.length []).filter (fun t => bl s t) = (LK I s.length []).drop (rb I s [] + (if I s then 1 else 0)) := by
  have e := LK_split I s [] hd
  rw [List.nil_append] at e
  rw [e, List.filter_append, List.filter_append]
  have f1 : (LB I s []).filter (fun t => bl s t) = [] := by
    rw [List.filter_eq_nil_iff]
    intro t ht; have := LB_less I s [] t hd ht; rw [List.nil_append] at this; rw [bl_asym this]; simp
  have f2 : (LG I s []).filter (fun t => bl s t) = LG I s [] := by
    rw [List.filter_eq_self]
    intro t ht; have := LG_less I s [] t hd ht; rwa [List.nil_append] at this
  have f3 : (if I s = true then [s] else []).filter (fun t => bl s t) = [] := by
    split <;> simp [bl_irr]
  rw [f1, f2, f3, List.nil_append, List.nil_append]
  have hl : rb I s [] + (if I s then 1 else 0) = (LB I s [] ++ (if I s = true then [s] else [])).length := by
    rw [List.length_append, len_LB]; split <;> rfl
  rw [hl, List.drop_left]
theorem filter_lt (I : List UInt8 → Bool) (s : List UInt8) (hd : digB s = true) : ((LK I s.length []).filter (fun t => bl t s)).length = rb I s [] := by
  have e := LK_split I s [] hd
  rw [List.nil_append] at e
  rw [e, List.filter_append, List.filter_append]
  have f1 : (LB I s []).filter (fun t => bl t s) = LB I s [] := by
    rw [List.filter_eq_self]
    intro t ht; have := LB_less I s [] t hd ht; rwa [List.nil_append] at this
  have f2 : (LG I s []).filter (fun t => bl t s) = [] := by
    rw [List.filter_eq_nil_iff]
    intro t ht; have := LG_less I s [] t hd ht; rw [List.nil_append] at this; rw [bl_asym this]; simp
  have f3 : (if I s = true then [s] else []).filter (fun t => bl t s) = [] := by
    split <;> simp [bl_irr]
  rw [f1, f2, f3, List.append_nil, List.append_nil, len_LB]
theorem rb_at (I : List UInt8 → Bool) (s : List UInt8) (hd : digB s = true) (hi : I s = true) : (LK I s.length [])[rb I s []]? = some s := by
  have e := LK_split I s [] hd
  rw [List.nil_append, if_pos hi] at e
  rw [e, List.append_assoc, List.getElem?_append_right (by rw [len_LB]; exact Nat.le_refl _), len_LB]
  simp
/-- There is just one. -/
theorem LK_one (I : List UInt8 → Bool) (b r : List UInt8) (hd : digB r = true) (hi : I (b ++ r) = true) (hu : ∀ t, I t = true → (∃ x, t = b ++ x ∧ x.length = r.length ∧ digB x = true) → t = b ++ r) : LK I r.length b = [b ++ r] := by
  have e := LK_split I r b hd
  rw [if_pos hi] at e
  have hm : ∀ t, t ∈ LK I r.length b → t = b ++ r := fun t ht => hu t (LK_mem I _ _ _ ht).1 (LK_mem I _ _ _ ht).2
  have f1 : LB I r b = [] := by
    apply List.eq_nil_iff_forall_not_mem.2
    intro t ht
    have h1 := hm t (by rw [e]; simp [ht])
    have h2 := LB_less I r b t hd ht
    rw [h1, bl_irr] at h2; cases h2
  have f2 : LG I r b = [] := by
    apply List.eq_nil_iff_forall_not_mem.2
    intro t ht
    have h1 := hm t (by rw [e]; simp [ht])
    have h2 := LG_less I r b t hd ht
    rw [h1, bl_irr] at h2; cases h2
  rw [e, f1, f2]; rfl
theorem rb_le (I : List UInt8 → Bool) (s : List UInt8) (b : List UInt8) (hd : digB s = true) : rb I s b + (if I (b ++ s) then 1 else 0) ≤ cK I s.length b := by
  have e := congrArg List.length (LK_split I s b hd)
  rw [List.length_append, List.length_append, len_LB] at e
  have : (if I (b ++ s) = true then [b ++ s] else []).length = if I (b ++ s) then 1 else 0 := by split <;> rfl
  rw [this] at e
  unfold cK; omega

/-- The first one behind a text, or an empty one. -/
def hdl (L : List (List UInt8)) : List UInt8 := L.head?.getD []
/-- Those that begin so, behind a text. -/
def LF (I : List UInt8 → Bool) (l : Nat) (b beh : List UInt8) : List (List UInt8) := (LK I l b).filter (fun t => bl beh t)
theorem LF_succ (I : List UInt8 → Bool) (l : Nat) (b beh : List UInt8) : LF I (l + 1) b beh = (List.range 10).flatMap (fun d => LF I l (b ++ [dc d]) beh) := by
  unfold LF; rw [LK, List.filter_flatMap]
theorem LF_pre (I : List UInt8 → Bool) (l : Nat) (b beh : List UInt8) (hl : b.length ≤ beh.length) (h : bl b (beh.take b.length) = true) : LF I l b beh = [] := by
  unfold LF
  rw [List.filter_eq_nil_iff]
  intro t ht
  obtain ⟨_, r, hr, _, _⟩ := LK_mem _ _ _ _ ht
  have h1 := bl_ext b (beh.take b.length) r (beh.drop b.length) (by simp; omega) h
  rw [List.take_append_drop, ← hr] at h1
  rw [bl_asym h1]; simp
/-- Rounds before the first that finds one. -/
theorem hd_flat (f : Nat → List (List UInt8)) (n d : Nat) (hd : d < n) (h0 : ∀ e, e < d → f e = []) (h1 : f d ≠ []) : hdl ((List.range n).flatMap f) = hdl (f d) := by
  induction n with
  | zero => omega
  | succ n ih =>
    rw [List.range_succ, List.flatMap_append]
    rcases Nat.lt_or_ge d n with h | h
    · have hne : (List.range n).flatMap f ≠ [] := by
        intro he
        rw [List.flatMap_eq_nil_iff] at he
        exact h1 (he d (List.mem_range.2 h))
      rw [← ih h]
      unfold hdl
      cases hx : (List.range n).flatMap f with
      | nil => exact absurd hx hne
      | cons a L => rfl
    · have : d = n := by omega
      subst this
      have : (List.range d).flatMap f = [] := by
        rw [List.flatMap_eq_nil_iff]; intro e he; exact h0 e (List.mem_range.1 he)
      rw [this]; simp
theorem hd_none (f : Nat → List (List UInt8)) (n : Nat) (h0 : ∀ e, e < n → f e = []) : (List.range n).flatMap f = [] := by
  rw [List.flatMap_eq_nil_iff]; intro e he; exact h0 e (List.mem_range.1 he)
theorem hd_nil {L : List (List UInt8)} (hne : ∀ t, t ∈ L → t ≠ []) : hdl L = [] ↔ L = [] := by
  cases L with
  | nil => simp [hdl]
  | cons a L => simp [hdl]; exact hne a (by simp)
/-- The next one, as the dial goes round. -/
def nx (I : List UInt8 → Bool) (s : List UInt8) : List UInt8 :=
  if LF I s.length [] s = [] then hdl (LK I s.length []) else hdl (LF I s.length [] s)
/-- Its rank. -/
def nrk (I : List UInt8 → Bool) (s : List UInt8) : Nat :=
  if rb I s [] + (if I s then 1 else 0) = cK I s.length [] then 0 else rb I s [] + (if I s then 1 else 0)
theorem nx_rank (I : List UInt8 → Bool) (s : List UInt8) (hd : digB s = true) (hc : 0 < cK I s.length []) : (LK I s.length [])[nrk I s]? = some (nx I s) := by
  have hl := rb_le I s [] hd
  rw [List.nil_append] at hl
  have hf : LF I s.length [] s = (LK I s.length []).drop (rb I s [] + (if I s then 1 else 0)) := filter_gt I s hd
  unfold nx nrk
  rw [hf]
  obtain ⟨R, hR⟩ : ∃ R, R = rb I s [] + (if I s then 1 else 0) := ⟨_, rfl⟩
  rw [← hR] at hl ⊢
  by_cases h : R = cK I s.length []
  · rw [if_pos h, if_pos (by rw [h]; unfold cK; exact List.drop_length)]
    unfold cK at hc
    unfold hdl
    rw [List.head?_eq_getElem?]
    cases hx : (LK I s.length [])[0]? with
    | none => rw [List.getElem?_eq_none_iff] at hx; omega
    | some t => rfl
  · have hlt : R < (LK I s.length []).length := by unfold cK at hl h; omega
    rw [if_neg h, if_neg (by intro he; have := List.drop_eq_nil_iff.1 he; omega)]
    unfold hdl
    rw [List.head?_drop, List.getElem?_eq_getElem hlt]
    rfl
theorem nrk_lt (I : List UInt8 → Bool) (s : List UInt8) (hd : digB s = true) (hc : 0 < cK I s.length []) : nrk I s < cK I s.length [] := by
  have hl := rb_le I s [] hd
  rw [List.nil_append] at hl
  unfold nrk
  generalize (if I s = true then 1 else 0) = R at hl ⊢
  split <;> omega
end Go.Proofs.Ytkdnplcaghnfhaa

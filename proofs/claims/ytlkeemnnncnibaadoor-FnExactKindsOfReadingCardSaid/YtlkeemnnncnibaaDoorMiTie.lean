/-
  Plain facts: mirrored readings and those upside down are what they are told to be; readings by number. Nothing of the program.
-/
import Derived.Test.YtlkeemnnncnibaaDoorMiOpp
namespace Go.Proofs.YtlkeemnnncnibaaDoor

theorem Io_all (o : Nat → Nat) (hinv : ∀ u v, u ≤ 9 → v ≤ 9 → o u = v → o v = u) (b : List UInt8) (hd : digB b = true) : Io o b = true ↔ ∀ p u v, p < b.length → u ≤ 9 → v ≤ 9 → b[p]? = some (dc u) → b[b.length - 1 - p]? = some (dc v) → o u = v := by
  rw [Io_iff o b hd]
  constructor
  · intro h p u v hp hu hv h1 h2
    rcases Nat.lt_or_ge p ((b.length + 1) / 2) with hlt | hge
    · exact h p u v hlt hu hv h1 h2
    · refine hinv v u hv hu (h (b.length - 1 - p) v u (by omega) hv hu h2 ?_)
      rw [show b.length - 1 - (b.length - 1 - p) = p by omega]; exact h1
  · intro h p u v hp hu hv h1 h2
    exact h p u v (by omega) hu hv h1 h2
theorem mir_inv (u v : Nat) (_ : u ≤ 9) (_ : v ≤ 9) (h : mir u = v) : mir v = u := by unfold mir at *; omega
theorem ups_inv (u v : Nat) (hu : u ≤ 9) (hv : v ≤ 9) (h : ups u = v) : ups v = u := by
  have : ∀ u : Fin 10, ∀ v : Fin 10, ups u.val = v.val → ups v.val = u.val := by decide
  exact this ⟨u, by omega⟩ ⟨v, by omega⟩ h
theorem rev_at (b : List UInt8) (p : Nat) (hp : p < b.length) : b.reverse[p]? = b[b.length - 1 - p]? := by
  rw [List.getElem?_reverse hp]
theorem Io_mir (b : List UInt8) (hd : digB b = true) : Io mir b = (b.reverse == b) := by
  rw [Bool.eq_iff_iff, Io_all mir mir_inv b hd]
  constructor
  · intro h
    rw [beq_iff_eq]
    apply List.ext_getElem?
    intro p
    rcases Nat.lt_or_ge p b.length with hp | hp
    · obtain ⟨u, hu, h1⟩ := dig_at b hd p hp
      obtain ⟨v, hv, h2⟩ := dig_at b hd (b.length - 1 - p) (by omega)
      rw [rev_at b p hp, h1, h2, ← h p u v hp hu hv h1 h2]; rfl
    · rw [List.getElem?_eq_none (by simpa using hp), List.getElem?_eq_none hp]
  · intro h p u v hp hu hv h1 h2
    rw [beq_iff_eq] at h
    have := rev_at b p hp
    rw [h, h1, h2] at this
    exact (dc_inj hu hv).1 (by simpa using this)
/-- What a digit is upside down. -/
def upc (c : UInt8) : UInt8 := dc (ups (c.toNat - 48))
def upD (c : UInt8) : Bool := decide (ups (c.toNat - 48) ≤ 9)
def upB (t : List UInt8) : Bool := t.all upD
def upL (t : List UInt8) : List UInt8 := t.reverse.map upc
theorem upc_dc {u : Nat} (h : u ≤ 9) : upc (dc u) = dc (ups u) := by unfold upc; rw [dc_nat h, show 48 + u - 48 = u by omega]
theorem upD_dc {u : Nat} (h : u ≤ 9) : upD (dc u) = decide (ups u ≤ 9) := by unfold upD; rw [dc_nat h, show 48 + u - 48 = u by omega]
theorem ups_le (u : Nat) : ups u ≤ 10 := by unfold ups; (repeat' split) <;> omega
theorem Io_ups (b : List UInt8) (hd : digB b = true) : Io ups b = (upB b && (upL b == b)) := by
  rw [Bool.eq_iff_iff, Io_all ups ups_inv b hd, Bool.and_eq_true, beq_iff_eq]
  constructor
  · intro h
    constructor
    · unfold upB
      rw [List.all_eq_true]
      intro c hc
      obtain ⟨p, hp, hpc⟩ := List.getElem_of_mem hc
      obtain ⟨u, hu, h1⟩ := dig_at b hd p hp
      obtain ⟨v, hv, h2⟩ := dig_at b hd (b.length - 1 - p) (by omega)
      have := h p u v hp hu hv h1 h2
      have hcu : c = dc u := by rw [List.getElem?_eq_getElem hp] at h1; rw [← hpc]; simpa using h1
      rw [hcu, upD_dc hu]; simp; omega
    · apply List.ext_getElem?
      intro p
      unfold upL
      rcases Nat.lt_or_ge p b.length with hp | hp
      · obtain ⟨u, hu, h1⟩ := dig_at b hd p hp
        obtain ⟨v, hv, h2⟩ := dig_at b hd (b.length - 1 - p) (by omega)
        rw [List.getElem?_map, rev_at b p hp, h1, h2, Option.map_some, upc_dc hv, ups_inv u v hu hv (h p u v hp hu hv h1 h2)]
      · rw [List.getElem?_eq_none (by simpa using hp), List.getElem?_eq_none hp]
  · rintro ⟨ha, he⟩ p u v hp hu hv h1 h2
    have h3 : b[p]? = (upL b)[p]? := by rw [he]
    unfold upL at h3
    rw [List.getElem?_map, rev_at b p hp, h1, h2, Option.map_some, upc_dc hv] at h3
    have hv9 : ups v ≤ 9 := by
      have hm : dc v ∈ b := List.mem_of_getElem? h2
      unfold upB at ha
      have := List.all_eq_true.1 ha _ hm
      rw [upD_dc hv] at this; simpa using this
    have : u = ups v := (dc_inj hu hv9).1 (by simpa using h3)
    exact ups_inv v u hv hu this.symm

/-- The last k digits of a number. -/
def dg : Nat → Nat → List UInt8
  | 0, _ => []
  | k + 1, n => dg k (n / 10) ++ [dc (n % 10)]
theorem dg_len (k : Nat) : ∀ n, (dg k n).length = k := by
  induction k with
  | zero => intro n; rfl
  | succ k ih => intro n; simp [dg, ih]
theorem dg_dig (k : Nat) : ∀ n, digB (dg k n) = true := by
  induction k with
  | zero => intro n; rfl
  | succ k ih => intro n; rw [dg, digB_snoc, ih, dg_dc (by omega)]; rfl
/-- The number that digits tell. -/
def nu (l : List UInt8) : Nat := l.foldl (fun n c => n * 10 + (c.toNat - 48)) 0
theorem nu_snoc (l : List UInt8) (c : UInt8) : nu (l ++ [c]) = nu l * 10 + (c.toNat - 48) := by simp [nu, List.foldl_append]
theorem nu_dg (k : Nat) : ∀ n, n < 10 ^ k → nu (dg k n) = n := by
  induction k with
  | zero => intro n h; simp at h; subst h; rfl
  | succ k ih =>
    intro n h
    rw [dg, nu_snoc, ih (n / 10) (by rw [Nat.pow_succ] at h; omega), dc_nat (by omega)]; omega
theorem nu_lt (n : Nat) : ∀ l : List UInt8, l.length = n → digB l = true → nu l < 10 ^ n := by
  induction n with
  | zero => intro l hl _; have : l = [] := List.length_eq_zero_iff.1 hl; subst this; decide
  | succ n ih =>
    intro l hl hd
    obtain ⟨a, c, rfl⟩ : ∃ a c, l = a ++ [c] := ⟨l.dropLast, l.getLast (by intro e; subst e; simp at hl), (List.dropLast_concat_getLast _).symm⟩
    rw [digB_snoc] at hd; simp at hd hl
    have h1 := ih a hl hd.1
    have h2 := (dgB_iff c).1 hd.2
    rw [nu_snoc, Nat.pow_succ]; omega
theorem dg_nu (n : Nat) : ∀ l : List UInt8, l.length = n → digB l = true → dg n (nu l) = l := by
  induction n with
  | zero => intro l hl _; have : l = [] := List.length_eq_zero_iff.1 hl; subst this; rfl
  | succ n ih =>
    intro l hl hd
    obtain ⟨a, c, rfl⟩ : ∃ a c, l = a ++ [c] := ⟨l.dropLast, l.getLast (by intro e; subst e; simp at hl), (List.dropLast_concat_getLast _).symm⟩
    rw [digB_snoc] at hd; simp at hd hl
    have h1 := ih a hl hd.1
    obtain ⟨u, hu, rfl⟩ := dc_of hd.2
    rw [nu_snoc, dg, dc_nat hu, show (nu a * 10 + (48 + u - 48)) / 10 = nu a by omega, show (nu a * 10 + (48 + u - 48)) % 10 = u by omega, h1]
theorem nu_app (a : List UInt8) : ∀ r : List UInt8, nu (a ++ r) = nu a * 10 ^ r.length + nu r := by
  intro r
  obtain ⟨q, rfl⟩ : ∃ q : List UInt8, r = q.reverse := ⟨r.reverse, by simp⟩
  induction q with
  | nil => simp [nu]
  | cons c q ih =>
    rw [List.reverse_cons, ← List.append_assoc, nu_snoc, ih, nu_snoc, List.length_append, List.length_singleton, Nat.pow_succ, Nat.add_mul, Nat.mul_assoc, Nat.add_assoc]

/-- All texts. -/
def TT (_ : List UInt8) : Bool := true
theorem sm_const (x n : Nat) : sm (fun _ => x) n = n * x := by
  induction n with
  | zero => simp [sm]
  | succ n ih => simp only [sm]; rw [ih, Nat.succ_mul]
theorem cK_TT (l : Nat) : ∀ b, cK TT l b = 10 ^ l := by
  induction l with
  | zero => intro b; rfl
  | succ l ih => intro b; rw [cK_succ, sm_congr _ _ 10 (fun d _ => ih _), sm_const, Nat.pow_succ, Nat.mul_comm]
theorem rb_TT (s : List UInt8) : ∀ b, digB s = true → rb TT s b = nu s := by
  induction s with
  | nil => intro b _; rfl
  | cons c s ih =>
    intro b hd
    rw [digB_cons] at hd; simp at hd
    rw [rb, ih _ hd.2, sm_congr _ _ _ (fun d _ => cK_TT _ _), sm_const]
    have := nu_app [c] s
    rw [List.singleton_append] at this
    rw [this]
    have e : nu [c] = c.toNat - 48 := by simp [nu]
    rw [e]
theorem TT_at (k r : Nat) (hr : r < 10 ^ k) : (LK TT k [])[r]? = some (dg k r) := by
  have := rb_at TT (dg k r) (dg_dig k r) rfl
  rwa [dg_len, rb_TT _ _ (dg_dig k r), nu_dg k r hr] at this

/-- The mirrored reading with a first half. -/
def mirL (n : Nat) (h : List UInt8) : List UInt8 := h ++ (h.take (n / 2)).reverse
theorem mirL_rev (n : Nat) (h : List UInt8) (hl : h.length = (n + 1) / 2) : (mirL n h).reverse = mirL n h := by
  unfold mirL
  rw [List.reverse_append, List.reverse_reverse]
  rcases (show (n + 1) / 2 = n / 2 ∨ (n + 1) / 2 = n / 2 + 1 by omega) with hm | hm
  · rw [List.take_of_length_le (by omega)]
  · obtain ⟨a, c, rfl⟩ : ∃ a c, h = a ++ [c] := ⟨h.dropLast, h.getLast (by intro e; subst e; simp at hl; omega), (List.dropLast_concat_getLast _).symm⟩
    simp at hl
    have : a.length = n / 2 := by omega
    rw [← this, List.take_left]
    simp
theorem mirL_len (n : Nat) (h : List UInt8) (hl : h.length = (n + 1) / 2) : (mirL n h).length = n := by
  unfold mirL
  rw [List.length_append, List.length_reverse, List.length_take]; omega
theorem digB_rev (l : List UInt8) : digB l.reverse = digB l := by unfold digB; rw [List.all_reverse]
theorem mirL_dig (n : Nat) (h : List UInt8) (hd : digB h = true) : digB (mirL n h) = true := by
  unfold mirL
  rw [digB_append, hd, digB_rev, digB_take _ _ hd]; rfl
theorem mirL_Io (n : Nat) (h : List UInt8) (hl : h.length = (n + 1) / 2) (hd : digB h = true) : Io mir (mirL n h) = true := by
  rw [Io_mir _ (mirL_dig n h hd), mirL_rev n h hl]; simp
theorem LK_mir_one (n : Nat) (b : List UInt8) (hl : b.length = (n + 1) / 2) (hd : digB b = true) : LK (Io mir) (n - (n + 1) / 2) b = [mirL n b] := by
  have hlen : (b.take (n / 2)).reverse.length = n - (n + 1) / 2 := by rw [List.length_reverse, List.length_take]; omega
  rw [← hlen]
  refine LK_one (Io mir) b _ (by rw [digB_rev, digB_take _ _ hd]) (mirL_Io n b hl hd) ?_
  rintro t ht ⟨x, hx, hxl, hxd⟩
  have htd : digB t = true := by rw [hx, digB_append, hd, hxd]; rfl
  have hr : t.reverse = t := by
    have := ht
    rw [Io_mir t htd] at this; simpa using this
  have htl : t.length = n := by rw [hx, List.length_append, hxl, hlen]; omega
  have h1 : t.drop ((n + 1) / 2) = x := by rw [hx, ← hl, List.drop_left]
  have h2 : t.reverse.drop ((n + 1) / 2) = (b.take (n / 2)).reverse := by
    rw [List.drop_reverse, htl, hx, show n - (n + 1) / 2 = n / 2 by omega, List.take_append_of_le_length (by omega)]
  rw [hr, h1] at h2
  rw [hx, h2]
theorem flat_congr (f g : Nat → List (List UInt8)) (n : Nat) (h : ∀ d, d < n → f d = g d) : (List.range n).flatMap f = (List.range n).flatMap g := by
  induction n with
  | zero => rfl
  | succ n ih => rw [List.range_succ, List.flatMap_append, List.flatMap_append, ih (fun d hd => h d (by omega))]; simp [h n (by omega)]
theorem LK_mir (n k : Nat) : ∀ b, digB b = true → b.length + k = (n + 1) / 2 → LK (Io mir) (n - b.length) b = (LK TT k b).map (mirL n) := by
  induction k with
  | zero =>
    intro b hd hl
    rw [show n - b.length = n - (n + 1) / 2 by omega, LK_mir_one n b (by omega) hd]
    rfl
  | succ k ih =>
    intro b hd hl
    obtain ⟨m, hm⟩ : ∃ m, n - b.length = m + 1 := ⟨n - b.length - 1, by omega⟩
    rw [hm, LK, LK, List.map_flatMap]
    refine flat_congr _ _ 10 (fun d h => ?_)
    rw [← ih (b ++ [dc d]) (digB_dc hd h) (by simp; omega)]
    congr 1
    simp; omega
/-- The mirrored readings, by rank. -/
theorem mir_count (n : Nat) : cK (Io mir) n [] = 10 ^ ((n + 1) / 2) := by
  have := LK_mir n ((n + 1) / 2) [] rfl (by simp)
  rw [List.length_nil, Nat.sub_zero] at this
  have h2 := cK_TT ((n + 1) / 2) []
  unfold cK at h2 ⊢
  rw [this, List.length_map, h2]
theorem mir_at (n r : Nat) (hr : r < 10 ^ ((n + 1) / 2)) : (LK (Io mir) n [])[r]? = some (mirL n (dg ((n + 1) / 2) r)) := by
  have := LK_mir n ((n + 1) / 2) [] rfl (by simp)
  rw [List.length_nil, Nat.sub_zero] at this
  rw [this, List.getElem?_map, TT_at _ r hr]; rfl
/-- How many mirrored ones come before a reading. -/
theorem mir_rank (s : List UInt8) (hd : digB s = true) : rb (Io mir) s [] = nu (s.take ((s.length + 1) / 2)) + if bl (mirL s.length (s.take ((s.length + 1) / 2))) s then 1 else 0 := by
  obtain ⟨n, hn⟩ : ∃ n, n = s.length := ⟨_, rfl⟩
  obtain ⟨h, hh⟩ : ∃ h, h = s.take ((n + 1) / 2) := ⟨_, rfl⟩
  have hL := LK_mir n ((n + 1) / 2) [] rfl (by simp)
  rw [List.length_nil, Nat.sub_zero] at hL
  have hhl : h.length = (n + 1) / 2 := by rw [hh, List.length_take]; omega
  have hhd : digB h = true := by rw [hh]; exact digB_take _ _ hd
  have hs : s = h ++ s.drop ((n + 1) / 2) := by rw [hh, List.take_append_drop]
  rw [← filter_lt (Io mir) s hd, ← hn, ← hh, hL, List.filter_map, List.length_map]
  have e := LK_split TT h [] hhd
  rw [hhl, List.nil_append] at e
  rw [e, List.filter_append, List.filter_append]
  have f1 : (LB TT h []).filter ((fun t => bl t s) ∘ mirL n) = LB TT h [] := by
    rw [List.filter_eq_self]
    intro t ht
    have h1 := LB_less TT h [] t hhd ht
    rw [List.nil_append] at h1
    have htm : t ∈ LK TT ((n + 1) / 2) [] := by rw [e]; simp [ht]
    obtain ⟨_, r, hr, hrl, _⟩ := LK_mem TT _ _ _ htm
    rw [List.nil_append] at hr; subst hr
    show bl (mirL n t) s = true
    rw [hs]
    exact bl_ext t h _ _ (by omega) h1
  have f2 : (LG TT h []).filter ((fun t => bl t s) ∘ mirL n) = [] := by
    rw [List.filter_eq_nil_iff]
    intro t ht
    have h1 := LG_less TT h [] t hhd ht
    rw [List.nil_append] at h1
    have htm : t ∈ LK TT ((n + 1) / 2) [] := by rw [e]; simp [ht]
    obtain ⟨_, r, hr, hrl, _⟩ := LK_mem TT _ _ _ htm
    rw [List.nil_append] at hr; subst hr
    have h2 : bl s (mirL n t) = true := by
      rw [hs]
      exact bl_ext h t _ _ (by omega) h1
    show ¬ bl (mirL n t) s = true
    rw [bl_asym h2]; simp
  rw [f1, f2, List.append_nil, List.length_append, len_LB, rb_TT h [] hhd]
  congr 1
  rw [show (if TT h = true then [h] else []) = [h] from rfl]
  cases hb : bl (mirL n h) s with
  | true => rw [List.filter_cons_of_pos (by simpa using hb)]; rfl
  | false => rw [List.filter_cons_of_neg (by simpa using hb)]; rfl
end Go.Proofs.YtlkeemnnncnibaaDoor

/-
  Plain facts on all signed digits with some digits, in order; nothing of the program.
-/
import Derived.Test.YtpmkdpkegmbleaaSgMath2
namespace Go.Proofs.Ytpmkdpkegmbleaa

/-- What may stand between two digits, in order. -/
def sgs (plain : Bool) : List (List UInt8) := if plain then [[43], [45], []] else [[42], [43], [45], []]
def sgsN (plain : Bool) : Nat := if plain then 3 else 4
theorem sgs_len (plain : Bool) : (sgs plain).length = sgsN plain := by cases plain <;> rfl
theorem sgsN_pos (plain : Bool) : 0 < sgsN plain := by cases plain <;> decide
/-- One digit more. -/
def ext (plain : Bool) (d : UInt8) (ts : List (List UInt8)) : List (List UInt8) := ts.flatMap (fun t => (sgs plain).map (fun s => t ++ s ++ [d]))
/-- All signed digits with the first k + 1 of these digits. -/
def allK (plain : Bool) (ds : List UInt8) : Nat → List (List UInt8)
  | 0 => [ds.take 1]
  | k + 1 => ext plain (ds.getD (k + 1) 0) (allK plain ds k)
theorem ext_len (plain : Bool) (d : UInt8) (ts : List (List UInt8)) : (ext plain d ts).length = ts.length * sgsN plain := by
  induction ts with
  | nil => simp [ext]
  | cons t ts ih =>
    have : ext plain d (t :: ts) = (sgs plain).map (fun s => t ++ s ++ [d]) ++ ext plain d ts := by simp [ext]
    rw [this, List.length_append, ih, List.length_map, sgs_len, List.length_cons, Nat.succ_mul]; omega
theorem allK_len (plain : Bool) (ds : List UInt8) (k : Nat) : (allK plain ds k).length = sgsN plain ^ k := by
  induction k with
  | zero => simp [allK]
  | succ k ih => rw [allK, ext_len, ih, Nat.pow_succ]
theorem allK_len_le (plain : Bool) (ds : List UInt8) (k : Nat) (hk : k ≤ 6) : (allK plain ds k).length ≤ 4096 := by
  rw [allK_len]
  have h1 : sgsN plain ^ k ≤ 4 ^ k := Nat.pow_le_pow_left (by cases plain <;> decide) k
  have h2 : 4 ^ k ≤ 4 ^ 6 := Nat.pow_le_pow_right (by omega) hk
  omega
theorem ext_mem {plain : Bool} {d : UInt8} {ts : List (List UInt8)} {t : List UInt8} (h : t ∈ ext plain d ts) : ∃ u ∈ ts, ∃ s ∈ sgs plain, t = u ++ s ++ [d] := by
  simp only [ext, List.mem_flatMap, List.mem_map] at h
  obtain ⟨u, hu, s, hs, rfl⟩ := h
  exact ⟨u, hu, s, hs, rfl⟩
theorem sgs_cases {plain : Bool} {s : List UInt8} (h : s ∈ sgs plain) : s = [42] ∨ s = [43] ∨ s = [45] ∨ s = [] := by
  cases plain <;> simp [sgs] at h <;> rcases h with h | h | h <;> simp_all
theorem getD_dg (ds : List UInt8) (k : Nat) (hk : k < ds.length) (hd : digB ds = true) : dgB (ds.getD k 0) = true := by
  rw [List.getD_eq_getElem?_getD, List.getElem?_eq_getElem hk]
  simp only [digB, List.all_eq_true] at hd
  exact hd _ (List.getElem_mem hk)
/-- What is known of each. -/
def Nice (k : Nat) (t : List UInt8) : Prop := okSt t = some true ∧ nDig t = k
theorem nice_ext {k : Nat} {u s : List UInt8} {d : UInt8} (hu : Nice k u) (hd : dgB d = true) (hs : s = [42] ∨ s = [43] ∨ s = [45] ∨ s = []) : Nice (k + 1) (u ++ s ++ [d]) := by
  obtain ⟨h1, h2⟩ := hu
  refine ⟨?_, ?_⟩
  · rw [okSt_snoc]
    rcases hs with rfl | rfl | rfl | rfl
    · rw [okSt_snoc, h1]
      have : okStep (some true) 42 = some false := by decide
      rw [this]; simp [okStep, hd]
    · rw [okSt_snoc, h1]
      have : okStep (some true) 43 = some false := by decide
      rw [this]; simp [okStep, hd]
    · rw [okSt_snoc, h1]
      have : okStep (some true) 45 = some false := by decide
      rw [this]; simp [okStep, hd]
    · simp [h1, okStep, hd]
  · rw [nDig_snoc, nDig_append, h2, hd]
    rcases hs with rfl | rfl | rfl | rfl <;> simp [nDig] <;> decide
theorem allK_nice (plain : Bool) (ds : List UInt8) (hd : digB ds = true) (k : Nat) (hk : k < ds.length) : ∀ t ∈ allK plain ds k, Nice (k + 1) t := by
  induction k with
  | zero =>
    intro t ht
    simp only [allK, List.mem_singleton] at ht
    subst ht
    match ds, hk, hd with
    | c :: ds, _, hd =>
      have : dgB c = true := by simp [digB] at hd; exact hd.1
      simp [Nice, okSt, okStep, this, nDig]
  | succ k ih =>
    intro t ht
    rw [allK] at ht
    obtain ⟨u, hu, s, hs, rfl⟩ := ext_mem ht
    exact nice_ext (ih (by omega) u hu) (getD_dg ds (k + 1) hk hd) (sgs_cases hs)
theorem Nice.fine {k : Nat} {t : List UInt8} (h : Nice k t) (hk : k ≤ 7) : (rk t).Fine := rk_fine t true h.1 (by rw [h.2]; exact hk)
theorem Nice.len {k : Nat} {t : List UInt8} (h : Nice k t) : t.length + 1 ≤ 2 * k := by
  have := okSt_len t true h.1
  rw [h.2] at this; simpa using this
/-- One of a list of blocks of one length. -/
theorem flat_get {α β : Type} (m : Nat) (hm : 0 < m) (f : α → List β) (hf : ∀ t, (f t).length = m) (ts : List α) : ∀ p, (ts.flatMap f)[p]? = (ts[p / m]?).bind (fun t => (f t)[p % m]?) := by
  induction ts with
  | nil => intro p; simp
  | cons t ts ih =>
    intro p
    rw [List.flatMap_cons]
    by_cases h : p < m
    · rw [List.getElem?_append_left (by rw [hf]; exact h), Nat.div_eq_of_lt h, Nat.mod_eq_of_lt h]; rfl
    · obtain ⟨q, rfl⟩ : ∃ q, p = q + m := ⟨p - m, by omega⟩
      rw [List.getElem?_append_right (by rw [hf]; omega), hf, Nat.add_sub_cancel, ih q, Nat.add_div_right _ hm, Nat.add_mod_right, List.getElem?_cons_succ]
theorem allK_get (plain : Bool) (ds : List UInt8) (k p : Nat) (hp : p < sgsN plain ^ (k + 1)) : (allK plain ds (k + 1)).getD p [] = (allK plain ds k).getD (p / sgsN plain) [] ++ (sgs plain).getD (p % sgsN plain) [] ++ [ds.getD (k + 1) 0] := by
  have h1 : p / sgsN plain < (allK plain ds k).length := by
    rw [allK_len, Nat.div_lt_iff_lt_mul (sgsN_pos plain), ← Nat.pow_succ]; exact hp
  have h2 : p % sgsN plain < (sgs plain).length := by rw [sgs_len]; exact Nat.mod_lt _ (sgsN_pos plain)
  rw [List.getD_eq_getElem?_getD, allK, ext, flat_get (sgsN plain) (sgsN_pos plain) _ (fun t => by rw [List.length_map, sgs_len])]
  rw [List.getElem?_eq_getElem h1]
  simp only [Option.bind_some, List.getElem?_map, List.getElem?_eq_getElem h2, Option.map_some, Option.getD_some, List.getD_eq_getElem?_getD, List.getElem?_eq_getElem h1]
/-- The steps of the reckoning. -/
theorem rk_times (t : List UInt8) (d : UInt8) (hd : dgB d = true) : rk (t ++ [42] ++ [d]) = ⟨(rk t).S, (rk t).P * (rk t).N, dv d⟩ := by
  have h := (dgB_iff d).1 hd
  rw [rk_snoc, rk_snoc, show rkStep (rk t) 42 = ⟨(rk t).S, (rk t).P * (rk t).N, 0⟩ from rfl]
  unfold rkStep; rw [if_neg (by omega), if_neg (by omega), if_neg (by omega)]; simp
theorem rk_plus (t : List UInt8) (d : UInt8) (hd : dgB d = true) : rk (t ++ [43] ++ [d]) = ⟨(rk t).S + (rk t).P * (rk t).N, 1, dv d⟩ := by
  have h := (dgB_iff d).1 hd
  rw [rk_snoc, rk_snoc, show rkStep (rk t) 43 = ⟨(rk t).S + (rk t).P * (rk t).N, 1, 0⟩ from rfl]
  unfold rkStep; rw [if_neg (by omega), if_neg (by omega), if_neg (by omega)]; simp
theorem rk_minus (t : List UInt8) (d : UInt8) (hd : dgB d = true) : rk (t ++ [45] ++ [d]) = ⟨(rk t).S + (rk t).P * (rk t).N, -1, dv d⟩ := by
  have h := (dgB_iff d).1 hd
  rw [rk_snoc, rk_snoc, show rkStep (rk t) 45 = ⟨(rk t).S + (rk t).P * (rk t).N, -1, 0⟩ from rfl]
  unfold rkStep; rw [if_neg (by omega), if_neg (by omega), if_neg (by omega)]; simp
theorem rk_none (t : List UInt8) (d : UInt8) (hd : dgB d = true) : rk (t ++ [d]) = ⟨(rk t).S, (rk t).P, 10 * (rk t).N + dv d⟩ := by
  have h := (dgB_iff d).1 hd
  rw [rk_snoc]
  unfold rkStep; rw [if_neg (by omega), if_neg (by omega), if_neg (by omega)]
theorem nSg_dig (t : List UInt8) (d : UInt8) (hd : dgB d = true) : nSg (t ++ [d]) = nSg t := by
  rw [nSg_snoc, dg_not_sg hd]; simp
theorem nSg_sd (t : List UInt8) (c d : UInt8) (hc : sgB c = true) (hd : dgB d = true) : nSg (t ++ [c] ++ [d]) = nSg t + 1 := by
  rw [nSg_dig _ _ hd, nSg_snoc, hc]; simp
end Go.Proofs.Ytpmkdpkegmbleaa

/-
  Readings: the greatest gap between mirrored ones. Nothing of the program.
-/
import Derived.Test.YtlkeemnnncnibabMiTie
namespace Go.Proofs.Ytlkeemnnncnibab

/-- How many miles it is. -/
def mtg (n : Nat) (f t : List UInt8) : Nat := (nu t + 10 ^ n - nu f) % 10 ^ n
/-- The mirrored reading of a rank. -/
def mT (n r : Nat) : List UInt8 := mirL n (dg ((n + 1) / 2) r)
/-- The gap behind it. -/
def gG (n r : Nat) : Nat := mtg n (mT n r) (mT n ((r + 1) % 10 ^ ((n + 1) / 2)))
/-- The rank of the first one with the greatest gap; the gap. -/
def gR (n : Nat) : Nat := if n = 3 ∨ n = 5 ∨ n = 7 ∨ n = 9 then 9 else 0
def gM (n : Nat) : Nat := if n = 1 then 1 else if n = 2 ∨ n = 3 then 11 else if n = 4 ∨ n = 5 then 110 else if n = 6 ∨ n = 7 then 1100 else 11000
theorem dg_step (k q x : Nat) (h : x ≤ 9) : dg (k + 1) (10 * q + x) = dg k q ++ [dc x] := by
  rw [dg, show (10 * q + x) / 10 = q by omega, show (10 * q + x) % 10 = x by omega]
theorem mT_1 (a : Nat) (ha : a ≤ 9) : nu (mT 1 (a)) = 1 * a := by
  unfold mT
  have eqd : dg ((1 + 1) / 2) (a) = [dc a] := by
    show dg 1 _ = _
    rw [dg, show a % 10 = a by omega]
    rfl
  rw [eqd]
  have f1 : ∀ x : Nat, x ≤ 9 → (dc x).toNat - 48 = x := fun x hx => by rw [dc_nat hx]; omega
  simp only [mirL, List.take, List.reverse, List.reverseAux, nu, List.foldl, List.cons_append, List.nil_append, Nat.reduceDiv, f1 a ha]
  omega
theorem gG_1 (r : Nat) (hr : r < 10) : gG 1 r ≤ 1 ∧ (r = 0 → gG 1 r = 1) ∧ (r < 0 → gG 1 r < 1) ∧ 0 < gG 1 r := by
  obtain ⟨a, ha, hrr⟩ : ∃ a : Nat, a ≤ 9 ∧ r = a := ⟨r / 1 % 10, by omega, by omega⟩
  have hG : gG 1 r = (nu (mT 1 ((r + 1) % 10)) + 10 - nu (mT 1 r)) % 10 := rfl
  have h0 : nu (mT 1 r) = 1 * a := by rw [hrr]; exact mT_1 a ha
  by_cases q0 : a < 9
  · have h1 : (r + 1) % 10 = (a + 1) := by omega
    have h2 := mT_1 (a + 1) (by omega)
    rw [hG, h1, h2, h0]
    omega
  have h1 : (r + 1) % 10 = 0 := by omega
  have h2 := mT_1 0 (by omega)
  rw [hG, h1, h2, h0]
  omega
theorem mT_2 (a : Nat) (ha : a ≤ 9) : nu (mT 2 (a)) = 11 * a := by
  unfold mT
  have eqd : dg ((2 + 1) / 2) (a) = [dc a] := by
    show dg 1 _ = _
    rw [dg, show a % 10 = a by omega]
    rfl
  rw [eqd]
  have f1 : ∀ x : Nat, x ≤ 9 → (dc x).toNat - 48 = x := fun x hx => by rw [dc_nat hx]; omega
  simp only [mirL, List.take, List.reverse, List.reverseAux, nu, List.foldl, List.cons_append, List.nil_append, Nat.reduceDiv, f1 a ha]
  omega
theorem gG_2 (r : Nat) (hr : r < 10) : gG 2 r ≤ 11 ∧ (r = 0 → gG 2 r = 11) ∧ (r < 0 → gG 2 r < 11) ∧ 0 < gG 2 r := by
  obtain ⟨a, ha, hrr⟩ : ∃ a : Nat, a ≤ 9 ∧ r = a := ⟨r / 1 % 10, by omega, by omega⟩
  have hG : gG 2 r = (nu (mT 2 ((r + 1) % 10)) + 100 - nu (mT 2 r)) % 100 := rfl
  have h0 : nu (mT 2 r) = 11 * a := by rw [hrr]; exact mT_2 a ha
  by_cases q0 : a < 9
  · have h1 : (r + 1) % 10 = (a + 1) := by omega
    have h2 := mT_2 (a + 1) (by omega)
    rw [hG, h1, h2, h0]
    omega
  have h1 : (r + 1) % 10 = 0 := by omega
  have h2 := mT_2 0 (by omega)
  rw [hG, h1, h2, h0]
  omega
theorem mT_3 (a b : Nat) (ha : a ≤ 9) (hb : b ≤ 9) : nu (mT 3 (10 * (a) + b)) = 101 * a + 10 * b := by
  unfold mT
  have eqd : dg ((3 + 1) / 2) (10 * (a) + b) = [dc a, dc b] := by
    show dg 2 _ = _
    rw [dg_step _ _ b hb]
    rw [dg, show a % 10 = a by omega]
    rfl
  rw [eqd]
  have f1 : ∀ x : Nat, x ≤ 9 → (dc x).toNat - 48 = x := fun x hx => by rw [dc_nat hx]; omega
  simp only [mirL, List.take, List.reverse, List.reverseAux, nu, List.foldl, List.cons_append, List.nil_append, Nat.reduceDiv, f1 a ha, f1 b hb]
  omega
theorem gG_3 (r : Nat) (hr : r < 100) : gG 3 r ≤ 11 ∧ (r = 9 → gG 3 r = 11) ∧ (r < 9 → gG 3 r < 11) ∧ 0 < gG 3 r := by
  obtain ⟨a, b, ha, hb, hrr⟩ : ∃ a b : Nat, a ≤ 9 ∧ b ≤ 9 ∧ r = 10 * (a) + b := ⟨r / 10 % 10, r / 1 % 10, by omega, by omega, by omega⟩
  have hG : gG 3 r = (nu (mT 3 ((r + 1) % 100)) + 1000 - nu (mT 3 r)) % 1000 := rfl
  have h0 : nu (mT 3 r) = 101 * a + 10 * b := by rw [hrr]; exact mT_3 a b ha hb
  by_cases q0 : b < 9
  · have h1 : (r + 1) % 100 = 10 * (a) + (b + 1) := by omega
    have h2 := mT_3 a (b + 1) ha (by omega)
    rw [hG, h1, h2, h0]
    omega
  by_cases q1 : a < 9
  · have h1 : (r + 1) % 100 = 10 * ((a + 1)) + 0 := by omega
    have h2 := mT_3 (a + 1) 0 (by omega) (by omega)
    rw [hG, h1, h2, h0]
    omega
  have h1 : (r + 1) % 100 = 10 * (0) + 0 := by omega
  have h2 := mT_3 0 0 (by omega) (by omega)
  rw [hG, h1, h2, h0]
  omega
theorem mT_4 (a b : Nat) (ha : a ≤ 9) (hb : b ≤ 9) : nu (mT 4 (10 * (a) + b)) = 1001 * a + 110 * b := by
  unfold mT
  have eqd : dg ((4 + 1) / 2) (10 * (a) + b) = [dc a, dc b] := by
    show dg 2 _ = _
    rw [dg_step _ _ b hb]
    rw [dg, show a % 10 = a by omega]
    rfl
  rw [eqd]
  have f1 : ∀ x : Nat, x ≤ 9 → (dc x).toNat - 48 = x := fun x hx => by rw [dc_nat hx]; omega
  simp only [mirL, List.take, List.reverse, List.reverseAux, nu, List.foldl, List.cons_append, List.nil_append, Nat.reduceDiv, f1 a ha, f1 b hb]
  omega
theorem gG_4 (r : Nat) (hr : r < 100) : gG 4 r ≤ 110 ∧ (r = 0 → gG 4 r = 110) ∧ (r < 0 → gG 4 r < 110) ∧ 0 < gG 4 r := by
  obtain ⟨a, b, ha, hb, hrr⟩ : ∃ a b : Nat, a ≤ 9 ∧ b ≤ 9 ∧ r = 10 * (a) + b := ⟨r / 10 % 10, r / 1 % 10, by omega, by omega, by omega⟩
  have hG : gG 4 r = (nu (mT 4 ((r + 1) % 100)) + 10000 - nu (mT 4 r)) % 10000 := rfl
  have h0 : nu (mT 4 r) = 1001 * a + 110 * b := by rw [hrr]; exact mT_4 a b ha hb
  by_cases q0 : b < 9
  · have h1 : (r + 1) % 100 = 10 * (a) + (b + 1) := by omega
    have h2 := mT_4 a (b + 1) ha (by omega)
    rw [hG, h1, h2, h0]
    omega
  by_cases q1 : a < 9
  · have h1 : (r + 1) % 100 = 10 * ((a + 1)) + 0 := by omega
    have h2 := mT_4 (a + 1) 0 (by omega) (by omega)
    rw [hG, h1, h2, h0]
    omega
  have h1 : (r + 1) % 100 = 10 * (0) + 0 := by omega
  have h2 := mT_4 0 0 (by omega) (by omega)
  rw [hG, h1, h2, h0]
  omega
theorem mT_5 (a b c : Nat) (ha : a ≤ 9) (hb : b ≤ 9) (hc : c ≤ 9) : nu (mT 5 (10 * (10 * (a) + b) + c)) = 10001 * a + 1010 * b + 100 * c := by
  unfold mT
  have eqd : dg ((5 + 1) / 2) (10 * (10 * (a) + b) + c) = [dc a, dc b, dc c] := by
    show dg 3 _ = _
    rw [dg_step _ _ c hc]
    rw [dg_step _ _ b hb]
    rw [dg, show a % 10 = a by omega]
    rfl
  rw [eqd]
  have f1 : ∀ x : Nat, x ≤ 9 → (dc x).toNat - 48 = x := fun x hx => by rw [dc_nat hx]; omega
  simp only [mirL, List.take, List.reverse, List.reverseAux, nu, List.foldl, List.cons_append, List.nil_append, Nat.reduceDiv, f1 a ha, f1 b hb, f1 c hc]
  omega
theorem gG_5 (r : Nat) (hr : r < 1000) : gG 5 r ≤ 110 ∧ (r = 9 → gG 5 r = 110) ∧ (r < 9 → gG 5 r < 110) ∧ 0 < gG 5 r := by
  obtain ⟨a, b, c, ha, hb, hc, hrr⟩ : ∃ a b c : Nat, a ≤ 9 ∧ b ≤ 9 ∧ c ≤ 9 ∧ r = 10 * (10 * (a) + b) + c := ⟨r / 100 % 10, r / 10 % 10, r / 1 % 10, by omega, by omega, by omega, by omega⟩
  have hG : gG 5 r = (nu (mT 5 ((r + 1) % 1000)) + 100000 - nu (mT 5 r)) % 100000 := rfl
  have h0 : nu (mT 5 r) = 10001 * a + 1010 * b + 100 * c := by rw [hrr]; exact mT_5 a b c ha hb hc
  by_cases q0 : c < 9
  · have h1 : (r + 1) % 1000 = 10 * (10 * (a) + b) + (c + 1) := by omega
    have h2 := mT_5 a b (c + 1) ha hb (by omega)
    rw [hG, h1, h2, h0]
    omega
  by_cases q1 : b < 9
  · have h1 : (r + 1) % 1000 = 10 * (10 * (a) + (b + 1)) + 0 := by omega
    have h2 := mT_5 a (b + 1) 0 ha (by omega) (by omega)
    rw [hG, h1, h2, h0]
    omega
  by_cases q2 : a < 9
  · have h1 : (r + 1) % 1000 = 10 * (10 * ((a + 1)) + 0) + 0 := by omega
    have h2 := mT_5 (a + 1) 0 0 (by omega) (by omega) (by omega)
    rw [hG, h1, h2, h0]
    omega
  have h1 : (r + 1) % 1000 = 10 * (10 * (0) + 0) + 0 := by omega
  have h2 := mT_5 0 0 0 (by omega) (by omega) (by omega)
  rw [hG, h1, h2, h0]
  omega
theorem mT_6 (a b c : Nat) (ha : a ≤ 9) (hb : b ≤ 9) (hc : c ≤ 9) : nu (mT 6 (10 * (10 * (a) + b) + c)) = 100001 * a + 10010 * b + 1100 * c := by
  unfold mT
  have eqd : dg ((6 + 1) / 2) (10 * (10 * (a) + b) + c) = [dc a, dc b, dc c] := by
    show dg 3 _ = _
    rw [dg_step _ _ c hc]
    rw [dg_step _ _ b hb]
    rw [dg, show a % 10 = a by omega]
    rfl
  rw [eqd]
  have f1 : ∀ x : Nat, x ≤ 9 → (dc x).toNat - 48 = x := fun x hx => by rw [dc_nat hx]; omega
  simp only [mirL, List.take, List.reverse, List.reverseAux, nu, List.foldl, List.cons_append, List.nil_append, Nat.reduceDiv, f1 a ha, f1 b hb, f1 c hc]
  omega
theorem gG_6 (r : Nat) (hr : r < 1000) : gG 6 r ≤ 1100 ∧ (r = 0 → gG 6 r = 1100) ∧ (r < 0 → gG 6 r < 1100) ∧ 0 < gG 6 r := by
  obtain ⟨a, b, c, ha, hb, hc, hrr⟩ : ∃ a b c : Nat, a ≤ 9 ∧ b ≤ 9 ∧ c ≤ 9 ∧ r = 10 * (10 * (a) + b) + c := ⟨r / 100 % 10, r / 10 % 10, r / 1 % 10, by omega, by omega, by omega, by omega⟩
  have hG : gG 6 r = (nu (mT 6 ((r + 1) % 1000)) + 1000000 - nu (mT 6 r)) % 1000000 := rfl
  have h0 : nu (mT 6 r) = 100001 * a + 10010 * b + 1100 * c := by rw [hrr]; exact mT_6 a b c ha hb hc
  by_cases q0 : c < 9
  · have h1 : (r + 1) % 1000 = 10 * (10 * (a) + b) + (c + 1) := by omega
    have h2 := mT_6 a b (c + 1) ha hb (by omega)
    rw [hG, h1, h2, h0]
    omega
  by_cases q1 : b < 9
  · have h1 : (r + 1) % 1000 = 10 * (10 * (a) + (b + 1)) + 0 := by omega
    have h2 := mT_6 a (b + 1) 0 ha (by omega) (by omega)
    rw [hG, h1, h2, h0]
    omega
  by_cases q2 : a < 9
  · have h1 : (r + 1) % 1000 = 10 * (10 * ((a + 1)) + 0) + 0 := by omega
    have h2 := mT_6 (a + 1) 0 0 (by omega) (by omega) (by omega)
    rw [hG, h1, h2, h0]
    omega
  have h1 : (r + 1) % 1000 = 10 * (10 * (0) + 0) + 0 := by omega
  have h2 := mT_6 0 0 0 (by omega) (by omega) (by omega)
  rw [hG, h1, h2, h0]
  omega
theorem mT_7 (a b c d : Nat) (ha : a ≤ 9) (hb : b ≤ 9) (hc : c ≤ 9) (hd : d ≤ 9) : nu (mT 7 (10 * (10 * (10 * (a) + b) + c) + d)) = 1000001 * a + 100010 * b + 10100 * c + 1000 * d := by
  unfold mT
  have eqd : dg ((7 + 1) / 2) (10 * (10 * (10 * (a) + b) + c) + d) = [dc a, dc b, dc c, dc d] := by
    show dg 4 _ = _
    rw [dg_step _ _ d hd]
    rw [dg_step _ _ c hc]
    rw [dg_step _ _ b hb]
    rw [dg, show a % 10 = a by omega]
    rfl
  rw [eqd]
  have f1 : ∀ x : Nat, x ≤ 9 → (dc x).toNat - 48 = x := fun x hx => by rw [dc_nat hx]; omega
  simp only [mirL, List.take, List.reverse, List.reverseAux, nu, List.foldl, List.cons_append, List.nil_append, Nat.reduceDiv, f1 a ha, f1 b hb, f1 c hc, f1 d hd]
  omega
theorem gG_7 (r : Nat) (hr : r < 10000) : gG 7 r ≤ 1100 ∧ (r = 9 → gG 7 r = 1100) ∧ (r < 9 → gG 7 r < 1100) ∧ 0 < gG 7 r := by
  obtain ⟨a, b, c, d, ha, hb, hc, hd, hrr⟩ : ∃ a b c d : Nat, a ≤ 9 ∧ b ≤ 9 ∧ c ≤ 9 ∧ d ≤ 9 ∧ r = 10 * (10 * (10 * (a) + b) + c) + d := ⟨r / 1000 % 10, r / 100 % 10, r / 10 % 10, r / 1 % 10, by omega, by omega, by omega, by omega, by omega⟩
  have hG : gG 7 r = (nu (mT 7 ((r + 1) % 10000)) + 10000000 - nu (mT 7 r)) % 10000000 := rfl
  have h0 : nu (mT 7 r) = 1000001 * a + 100010 * b + 10100 * c + 1000 * d := by rw [hrr]; exact mT_7 a b c d ha hb hc hd
  by_cases q0 : d < 9
  · have h1 : (r + 1) % 10000 = 10 * (10 * (10 * (a) + b) + c) + (d + 1) := by omega
    have h2 := mT_7 a b c (d + 1) ha hb hc (by omega)
    rw [hG, h1, h2, h0]
    omega
  by_cases q1 : c < 9
  · have h1 : (r + 1) % 10000 = 10 * (10 * (10 * (a) + b) + (c + 1)) + 0 := by omega
    have h2 := mT_7 a b (c + 1) 0 ha hb (by omega) (by omega)
    rw [hG, h1, h2, h0]
    omega
  by_cases q2 : b < 9
  · have h1 : (r + 1) % 10000 = 10 * (10 * (10 * (a) + (b + 1)) + 0) + 0 := by omega
    have h2 := mT_7 a (b + 1) 0 0 ha (by omega) (by omega) (by omega)
    rw [hG, h1, h2, h0]
    omega
  by_cases q3 : a < 9
  · have h1 : (r + 1) % 10000 = 10 * (10 * (10 * ((a + 1)) + 0) + 0) + 0 := by omega
    have h2 := mT_7 (a + 1) 0 0 0 (by omega) (by omega) (by omega) (by omega)
    rw [hG, h1, h2, h0]
    omega
  have h1 : (r + 1) % 10000 = 10 * (10 * (10 * (0) + 0) + 0) + 0 := by omega
  have h2 := mT_7 0 0 0 0 (by omega) (by omega) (by omega) (by omega)
  rw [hG, h1, h2, h0]
  omega
theorem mT_8 (a b c d : Nat) (ha : a ≤ 9) (hb : b ≤ 9) (hc : c ≤ 9) (hd : d ≤ 9) : nu (mT 8 (10 * (10 * (10 * (a) + b) + c) + d)) = 10000001 * a + 1000010 * b + 100100 * c + 11000 * d := by
  unfold mT
  have eqd : dg ((8 + 1) / 2) (10 * (10 * (10 * (a) + b) + c) + d) = [dc a, dc b, dc c, dc d] := by
    show dg 4 _ = _
    rw [dg_step _ _ d hd]
    rw [dg_step _ _ c hc]
    rw [dg_step _ _ b hb]
    rw [dg, show a % 10 = a by omega]
    rfl
  rw [eqd]
  have f1 : ∀ x : Nat, x ≤ 9 → (dc x).toNat - 48 = x := fun x hx => by rw [dc_nat hx]; omega
  simp only [mirL, List.take, List.reverse, List.reverseAux, nu, List.foldl, List.cons_append, List.nil_append, Nat.reduceDiv, f1 a ha, f1 b hb, f1 c hc, f1 d hd]
  omega
theorem gG_8 (r : Nat) (hr : r < 10000) : gG 8 r ≤ 11000 ∧ (r = 0 → gG 8 r = 11000) ∧ (r < 0 → gG 8 r < 11000) ∧ 0 < gG 8 r := by
  obtain ⟨a, b, c, d, ha, hb, hc, hd, hrr⟩ : ∃ a b c d : Nat, a ≤ 9 ∧ b ≤ 9 ∧ c ≤ 9 ∧ d ≤ 9 ∧ r = 10 * (10 * (10 * (a) + b) + c) + d := ⟨r / 1000 % 10, r / 100 % 10, r / 10 % 10, r / 1 % 10, by omega, by omega, by omega, by omega, by omega⟩
  have hG : gG 8 r = (nu (mT 8 ((r + 1) % 10000)) + 100000000 - nu (mT 8 r)) % 100000000 := rfl
  have h0 : nu (mT 8 r) = 10000001 * a + 1000010 * b + 100100 * c + 11000 * d := by rw [hrr]; exact mT_8 a b c d ha hb hc hd
  by_cases q0 : d < 9
  · have h1 : (r + 1) % 10000 = 10 * (10 * (10 * (a) + b) + c) + (d + 1) := by omega
    have h2 := mT_8 a b c (d + 1) ha hb hc (by omega)
    rw [hG, h1, h2, h0]
    omega
  by_cases q1 : c < 9
  · have h1 : (r + 1) % 10000 = 10 * (10 * (10 * (a) + b) + (c + 1)) + 0 := by omega
    have h2 := mT_8 a b (c + 1) 0 ha hb (by omega) (by omega)
    rw [hG, h1, h2, h0]
    omega
  by_cases q2 : b < 9
  · have h1 : (r + 1) % 10000 = 10 * (10 * (10 * (a) + (b + 1)) + 0) + 0 := by omega
    have h2 := mT_8 a (b + 1) 0 0 ha (by omega) (by omega) (by omega)
    rw [hG, h1, h2, h0]
    omega
  by_cases q3 : a < 9
  · have h1 : (r + 1) % 10000 = 10 * (10 * (10 * ((a + 1)) + 0) + 0) + 0 := by omega
    have h2 := mT_8 (a + 1) 0 0 0 (by omega) (by omega) (by omega) (by omega)
    rw [hG, h1, h2, h0]
    omega
  have h1 : (r + 1) % 10000 = 10 * (10 * (10 * (0) + 0) + 0) + 0 := by omega
  have h2 := mT_8 0 0 0 0 (by omega) (by omega) (by omega) (by omega)
  rw [hG, h1, h2, h0]
  omega
theorem mT_9 (a b c d e : Nat) (ha : a ≤ 9) (hb : b ≤ 9) (hc : c ≤ 9) (hd : d ≤ 9) (he : e ≤ 9) : nu (mT 9 (10 * (10 * (10 * (10 * (a) + b) + c) + d) + e)) = 100000001 * a + 10000010 * b + 1000100 * c + 101000 * d + 10000 * e := by
  unfold mT
  have eqd : dg ((9 + 1) / 2) (10 * (10 * (10 * (10 * (a) + b) + c) + d) + e) = [dc a, dc b, dc c, dc d, dc e] := by
    show dg 5 _ = _
    rw [dg_step _ _ e he]
    rw [dg_step _ _ d hd]
    rw [dg_step _ _ c hc]
    rw [dg_step _ _ b hb]
    rw [dg, show a % 10 = a by omega]
    rfl
  rw [eqd]
  have f1 : ∀ x : Nat, x ≤ 9 → (dc x).toNat - 48 = x := fun x hx => by rw [dc_nat hx]; omega
  simp only [mirL, List.take, List.reverse, List.reverseAux, nu, List.foldl, List.cons_append, List.nil_append, Nat.reduceDiv, f1 a ha, f1 b hb, f1 c hc, f1 d hd, f1 e he]
  omega
theorem gG_9 (r : Nat) (hr : r < 100000) : gG 9 r ≤ 11000 ∧ (r = 9 → gG 9 r = 11000) ∧ (r < 9 → gG 9 r < 11000) ∧ 0 < gG 9 r := by
  obtain ⟨a, b, c, d, e, ha, hb, hc, hd, he, hrr⟩ : ∃ a b c d e : Nat, a ≤ 9 ∧ b ≤ 9 ∧ c ≤ 9 ∧ d ≤ 9 ∧ e ≤ 9 ∧ r = 10 * (10 * (10 * (10 * (a) + b) + c) + d) + e := ⟨r / 10000 % 10, r / 1000 % 10, r / 100 % 10, r / 10 % 10, r / 1 % 10, by omega, by omega, by omega, by omega, by omega, by omega⟩
  have hG : gG 9 r = (nu (mT 9 ((r + 1) % 100000)) + 1000000000 - nu (mT 9 r)) % 1000000000 := rfl
  have h0 : nu (mT 9 r) = 100000001 * a + 10000010 * b + 1000100 * c + 101000 * d + 10000 * e := by rw [hrr]; exact mT_9 a b c d e ha hb hc hd he
  by_cases q0 : e < 9
  · have h1 : (r + 1) % 100000 = 10 * (10 * (10 * (10 * (a) + b) + c) + d) + (e + 1) := by omega
    have h2 := mT_9 a b c d (e + 1) ha hb hc hd (by omega)
    rw [hG, h1, h2, h0]
    omega
  by_cases q1 : d < 9
  · have h1 : (r + 1) % 100000 = 10 * (10 * (10 * (10 * (a) + b) + c) + (d + 1)) + 0 := by omega
    have h2 := mT_9 a b c (d + 1) 0 ha hb hc (by omega) (by omega)
    rw [hG, h1, h2, h0]
    omega
  by_cases q2 : c < 9
  · have h1 : (r + 1) % 100000 = 10 * (10 * (10 * (10 * (a) + b) + (c + 1)) + 0) + 0 := by omega
    have h2 := mT_9 a b (c + 1) 0 0 ha hb (by omega) (by omega) (by omega)
    rw [hG, h1, h2, h0]
    omega
  by_cases q3 : b < 9
  · have h1 : (r + 1) % 100000 = 10 * (10 * (10 * (10 * (a) + (b + 1)) + 0) + 0) + 0 := by omega
    have h2 := mT_9 a (b + 1) 0 0 0 ha (by omega) (by omega) (by omega) (by omega)
    rw [hG, h1, h2, h0]
    omega
  by_cases q4 : a < 9
  · have h1 : (r + 1) % 100000 = 10 * (10 * (10 * (10 * ((a + 1)) + 0) + 0) + 0) + 0 := by omega
    have h2 := mT_9 (a + 1) 0 0 0 0 (by omega) (by omega) (by omega) (by omega) (by omega)
    rw [hG, h1, h2, h0]
    omega
  have h1 : (r + 1) % 100000 = 10 * (10 * (10 * (10 * (0) + 0) + 0) + 0) + 0 := by omega
  have h2 := mT_9 0 0 0 0 0 (by omega) (by omega) (by omega) (by omega) (by omega)
  rw [hG, h1, h2, h0]
  omega
theorem gG_all (n r : Nat) (h1 : 1 ≤ n) (h9 : n ≤ 9) (hr : r < 10 ^ ((n + 1) / 2)) : gG n r ≤ gM n ∧ (r = gR n → gG n r = gM n) ∧ (r < gR n → gG n r < gM n) ∧ 0 < gG n r := by
  have : n = 1 ∨ n = 2 ∨ n = 3 ∨ n = 4 ∨ n = 5 ∨ n = 6 ∨ n = 7 ∨ n = 8 ∨ n = 9 := by omega
  rcases this with h | h | h | h | h | h | h | h | h <;> subst h
  · exact gG_1 r hr
  · exact gG_2 r hr
  · exact gG_3 r hr
  · exact gG_4 r hr
  · exact gG_5 r hr
  · exact gG_6 r hr
  · exact gG_7 r hr
  · exact gG_8 r hr
  · exact gG_9 r hr
/-- What is found among the first ones. -/
def bst (g : Nat → Nat) : Nat → Option Nat × Nat
  | 0 => (none, 0)
  | k + 1 => if (bst g k).2 < g k then (some k, g k) else bst g k
theorem bst_le (g : Nat → Nat) (M N : Nat) (h : ∀ r, r < N → g r ≤ M) : ∀ k, k ≤ N → (bst g k).2 ≤ M := by
  intro k
  induction k with
  | zero => intro _; exact Nat.zero_le _
  | succ k ih =>
    intro hk
    simp only [bst]
    split
    · exact h k (by omega)
    · exact ih (by omega)
theorem bst_lt (g : Nat → Nat) (M R : Nat) (hM : 0 < M) (h : ∀ r, r < R → g r < M) : ∀ k, k ≤ R → (bst g k).2 < M := by
  intro k
  induction k with
  | zero => intro _; exact hM
  | succ k ih =>
    intro hk
    simp only [bst]
    split
    · exact h k (by omega)
    · exact ih (by omega)
theorem bst_eq (g : Nat → Nat) (M N R : Nat) (hM : 0 < M) (h1 : ∀ r, r < N → g r ≤ M) (h2 : g R = M) (h3 : ∀ r, r < R → g r < M) : ∀ k, R < k → k ≤ N → bst g k = (some R, M) := by
  intro k
  induction k with
  | zero => intro h _; omega
  | succ k ih =>
    intro hR hk
    by_cases he : k = R
    · subst he
      have := bst_lt g M k hM h3 k (Nat.le_refl _)
      simp only [bst]
      rw [h2, if_pos this]
    · have e := ih (by omega) (by omega)
      simp only [bst]
      rw [e, if_neg (by have := h1 k (by omega); simp; omega)]
/-- What is found among all of them. -/
theorem gap_all (n : Nat) (h1 : 1 ≤ n) (h9 : n ≤ 9) : bst (gG n) (10 ^ ((n + 1) / 2)) = (some (gR n), gM n) := by
  have hR : gR n < 10 ^ ((n + 1) / 2) := by
    have : n = 1 ∨ n = 2 ∨ n = 3 ∨ n = 4 ∨ n = 5 ∨ n = 6 ∨ n = 7 ∨ n = 8 ∨ n = 9 := by omega
    rcases this with h | h | h | h | h | h | h | h | h <;> subst h <;> decide
  have hM : 0 < gM n := by unfold gM; (repeat' split) <;> omega
  exact bst_eq (gG n) (gM n) _ (gR n) hM (fun r hr => (gG_all n r h1 h9 hr).1) ((gG_all n _ h1 h9 hR).2.1 rfl) (fun r hr => (gG_all n r h1 h9 (by omega)).2.2.1 hr) _ hR (Nat.le_refl _)
/-- The ranks at which the program looks. -/
def nin : Nat → Nat
  | 0 => 0
  | j + 1 => 10 * nin j + 9
def pst (n : Nat) : Nat → Option Nat × Nat
  | 0 => (none, 0)
  | j + 1 => if (pst n j).2 < gG n (nin j) then (some (nin j), gG n (nin j)) else pst n j
theorem nin_pow (j : Nat) : nin j + 1 = 10 ^ j := by
  induction j with
  | zero => rfl
  | succ j ih => rw [nin, Nat.pow_succ]; omega
theorem gap_pst (n : Nat) (h1 : 1 ≤ n) (h9 : n ≤ 9) : pst n ((n + 1) / 2 + 1) = (some (gR n), gM n) := by
  have : n = 1 ∨ n = 2 ∨ n = 3 ∨ n = 4 ∨ n = 5 ∨ n = 6 ∨ n = 7 ∨ n = 8 ∨ n = 9 := by omega
  rcases this with h | h | h | h | h | h | h | h | h <;> subst h <;> decide +kernel
end Go.Proofs.Ytlkeemnnncnibab

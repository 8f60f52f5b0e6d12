/-
  Readings: the law of MilesToDigits.
-/
import Derived.Test.YtlkeemnnncnibabMiSp10
namespace Go.Proofs.Ytlkeemnnncnibab
open Go.RowKit

theorem split_ge (I : List UInt8 → Bool) (s : List UInt8) (hd : digB s = true) : LE I s.length [] s = (if I s then [s] else []) ++ LG I s [] := by
  have e := LK_split I s [] hd
  rw [List.nil_append] at e
  unfold LE
  rw [e, List.filter_append, List.filter_append]
  have f1 : (LB I s []).filter (fun t => !bl t s) = [] := by
    rw [List.filter_eq_nil_iff]
    intro t ht; have := LB_less I s [] t hd ht; rw [List.nil_append] at this; rw [this]; simp
  have f2 : (LG I s []).filter (fun t => !bl t s) = LG I s [] := by
    rw [List.filter_eq_self]
    intro t ht; have := LG_less I s [] t hd ht; rw [List.nil_append] at this; rw [bl_asym this]; rfl
  have f3 : (if I s = true then [s] else []).filter (fun t => !bl t s) = (if I s = true then [s] else []) := by
    split <;> simp [bl_irr]
  rw [f1, f2, f3, List.nil_append]
theorem split_gt (I : List UInt8 → Bool) (s : List UInt8) (hd : digB s = true) : LF I s.length [] s = LG I s [] := by
  have e := LK_split I s [] hd
  rw [List.nil_append] at e
  unfold LF
  rw [e, List.filter_append, List.filter_append]
  have f1 : (LB I s []).filter (fun t => bl s t) = [] := by
    rw [List.filter_eq_nil_iff]
    intro t ht; have := LB_less I s [] t hd ht; rw [List.nil_append] at this; rw [bl_asym this]; simp
  have f2 : (LG I s []).filter (fun t => bl s t) = LG I s [] := by
    rw [List.filter_eq_self]
    intro t ht; have := LG_less I s [] t hd ht; rwa [List.nil_append] at this
  have f3 : (if I s = true then [s] else []).filter (fun t => bl s t) = [] := by
    split <;> simp [bl_irr]
  rw [f1, f2, f3]; rfl
/-- The first one that is not before a reading, as the dial goes round. -/
def ge (I : List UInt8 → Bool) (s : List UInt8) : List UInt8 := if LE I s.length [] s = [] then hdl (LK I s.length []) else hdl (LE I s.length [] s)
theorem ge_own {I : List UInt8 → Bool} {s : List UInt8} (hd : digB s = true) (hi : I s = true) : ge I s = s := by
  unfold ge
  rw [split_ge I s hd, if_pos hi]
  simp [hdl]
theorem ge_nx {I : List UInt8 → Bool} {s : List UInt8} (hd : digB s = true) (hi : I s = false) : ge I s = nx I s := by
  unfold ge nx
  rw [split_ge I s hd, split_gt I s hd, hi]; rfl
theorem dg_zero (k : Nat) : dg k 0 = List.replicate k 48 := by
  induction k with
  | zero => rfl
  | succ k ih => rw [dg, Nat.zero_div, ih, List.replicate_succ']; rfl
theorem not_less_zero (t : List UInt8) : ∀ k, digB t = true → t.length = k → bl t (List.replicate k 48) = false := by
  induction t with
  | nil => intro k _ hk; subst hk; rfl
  | cons c t ih =>
    intro k hd hk
    rw [digB_cons] at hd; simp at hd
    obtain ⟨u, hu, rfl⟩ := dc_of hd.1
    obtain ⟨j, rfl⟩ : ∃ j, k = j + 1 := ⟨t.length, by simpa using hk.symm⟩
    rw [List.replicate_succ]
    cases h : bl (dc u :: t) (48 :: List.replicate j 48) with
    | false => rfl
    | true =>
      have h1 := List.cons_lt_cons_iff.1 ((bl_iff _ _).1 h)
      rcases h1 with h1 | ⟨_, h2⟩
      · rw [UInt8.lt_iff_toNat_lt, dc_nat hu] at h1
        have : (48 : UInt8).toNat = 48 := rfl
        omega
      · have := ih j hd.2 (by simpa using hk)
        rw [(bl_iff _ _).2 h2] at this; cases this
theorem LE_zero (I : List UInt8 → Bool) (n : Nat) : LE I n [] (dg n 0) = LK I n [] := by
  unfold LE
  rw [List.filter_eq_self]
  intro t ht
  obtain ⟨_, r, hr, hl, hd⟩ := LK_mem _ _ _ _ ht
  rw [List.nil_append] at hr
  rw [dg_zero, hr, not_less_zero r n hd hl]; rfl
/-- There are a reading and a number of digits that it has. -/
def mdB (s : ByteArray) (m : Int) : Bool := rdB s && decide (1 ≤ m ∧ m ≤ (s.size : Int))
def mdA (s : ByteArray) (m : Int) : Int := if mdB s m then (mto s.data.toList (ge (Id m.toNat) s.data.toList) : Nat) else 0
theorem mdA_no {s : ByteArray} {m : Int} (h : mdB s m = false) : mdA s m = 0 := by unfold mdA; rw [h]; rfl
theorem mdA_yes {s : ByteArray} {m : Int} (h : mdB s m = true) : mdA s m = (mto s.data.toList (ge (Id m.toNat) s.data.toList) : Nat) := by unfold mdA; rw [h]; rfl
theorem len_of' (s : ByteArray) : s.data.toList.length = s.size := by simp
theorem cK_Id_pos (n m : Nat) (h1 : 1 ≤ m) (hm : m ≤ n) (h9 : n ≤ 9) : 0 < cK (Id m) n [] := by
  rw [cK_dif m n [] rfl]
  have h : ∀ n : Fin 10, ∀ m : Fin 10, 1 ≤ m.val → m.val ≤ n.val → 0 < wd n.val 0 m.val := by decide +kernel
  exact h ⟨n, by omega⟩ ⟨m, by omega⟩ h1 hm
theorem cK_Id_no (n m : Nat) (hm : n < m) : cK (Id m) n [] = 0 := by
  rw [cK_dif m n [] rfl]
  exact wd_no n 0 m (.inr (by omega))
theorem ge_mem {I : List UInt8 → Bool} {s : List UInt8} (hc : 0 < cK I s.length []) : (ge I s).length = s.length ∧ digB (ge I s) = true := by
  have hm : ge I s ∈ LK I s.length [] := by
    unfold ge
    by_cases h : LE I s.length [] s = []
    · rw [if_pos h]
      cases hx : LK I s.length [] with
      | nil => unfold cK at hc; rw [hx] at hc; simp at hc
      | cons a L => simp [hdl]
    · rw [if_neg h]
      cases hx : LE I s.length [] s with
      | nil => exact absurd hx h
      | cons a L =>
        have : a ∈ LE I s.length [] s := by rw [hx]; simp
        simp only [hdl, List.head?_cons, Option.getD_some]
        exact (List.mem_filter.1 this).1
  obtain ⟨_, r, h4, h5, h6⟩ := LK_mem I _ _ _ hm
  rw [List.nil_append] at h4
  rw [h4]; exact ⟨h5, h6⟩
set_option maxHeartbeats 2000000 in
theorem sMilesToDigits_any (s : ByteArray) (m : Int) (w : World) (hs : s.size ≤ maxLen) :
    Calls Try.prog 13 #[.string s, .int .i64 m] w fun e w' => e = .returned (.tuple #[.int .i64 (mdA s m), .bool (mdB s m)]) ∧ Below w.heap.size w w' := by
  have HG := Lib.hid (fun W => miGood_any s W hs)
  cases hb : rdB s with
  | false =>
    have hn : mdB s m = false := by unfold mdB; rw [hb]; rfl
    have HA := Lib.hid (mdA_no hn)
    have HN := Lib.hid hn
    rw [hb] at HG
    clear hb hn
    go_enter Try.func13, Try.ntmps13
    go_wp2_with (go_at_call 27; (with_reducible refine (HG.out _).mono ?_); rintro e w1 ⟨rfl, rfl⟩)
    go_ret2
    exact ⟨ret_ib HA.out.symm HN.out.symm, Below.refl _ _⟩
  | true =>
    rw [hb] at HG
    cases hq : decide (1 ≤ m ∧ m ≤ (s.size : Int)) with
    | false =>
      have hn : mdB s m = false := by unfold mdB; rw [hb, hq]; rfl
      have HA := Lib.hid (mdA_no hn)
      have HN := Lib.hid hn
      have HQ := Lib.hid hq
      clear hb hn hq
      go_enter Try.func13, Try.ntmps13
      go_wp2_with (first | (go_at_call 27; (with_reducible refine (HG.out _).mono ?_); rintro e w1 ⟨rfl, rfl⟩) | (go_at_call 31; refine (in_b _ _ _ false _ HQ.out).mono ?_; rintro e w' ⟨rfl, rfl⟩))
      go_ret2
      exact ⟨ret_ib HA.out.symm HN.out.symm, Below.refl _ _⟩
    | true =>
      have hn : mdB s m = true := by unfold mdB; rw [hb, hq]; rfl
      have HN := Lib.hid hn
      have HQ := Lib.hid hq
      have hmm := of_decide_eq_true hq
      obtain ⟨M, hM⟩ : ∃ M : Nat, m = (M : Int) := ⟨m.toNat, by omega⟩
      subst hM
      obtain ⟨h1, h9, hd⟩ := (rdB_iff s).1 hb
      have hA := mdA_yes hn
      rw [show ((M : Nat) : Int).toNat = M by omega] at hA
      have hc := cK_Id_pos s.size M (by omega) (by omega) h9
      have hge := ge_mem (I := Id M) (s := s.data.toList) (by rw [len_of']; exact hc)
      rw [len_of'] at hge
      have hto := fun W => miTo_any s.data.toList (ge (Id M) s.data.toList) W (by rw [len_of']; exact h9) (by rw [len_of']; exact hge.1) hd hge.2
      have hs1 := fun W => miSome_any s.size M s.data.toList h9 (by omega) (len_of' s) s.size [] W (by simp) rfl
      have hs2 := fun W => miSome_any s.size M (dg s.size 0) h9 (by omega) (dg_len _ _) s.size [] W (by simp) rfl
      have htx := fun W => miText_any s.size 0 0 W (by omega) (by omega) rfl
      have hem := som_empty (m := M) (l := s.size) (b := []) (fr := s.data.toList) (by simpa using h1)
      have hgv : ge (Id M) s.data.toList = if LE (Id M) s.size [] s.data.toList = [] then hdl (LK (Id M) s.size []) else hdl (LE (Id M) s.size [] s.data.toList) := by
        unfold ge; rw [len_of']
      rw [lst] at hto hs1
      obtain ⟨X, hX⟩ : ∃ X : ByteArray, X = som M s.size [] s.data.toList := ⟨_, rfl⟩
      obtain ⟨Y, hY⟩ : ∃ Y : ByteArray, Y = som M s.size [] (dg s.size 0) := ⟨_, rfl⟩
      obtain ⟨Z, hZ⟩ : ∃ Z : ByteArray, Z = ⟨(dg s.size 0).toArray⟩ := ⟨_, rfl⟩
      obtain ⟨G, hG⟩ : ∃ G : ByteArray, G = ⟨(ge (Id M) s.data.toList).toArray⟩ := ⟨_, rfl⟩
      have HS1 : Hid (∀ W, Calls Try.prog 32 #[.string s, .string ⟨#[]⟩, .int .i64 M] W fun e w' => e = .returned (.string X) ∧ Below W.heap.size W w') := by rw [hX]; exact hs1
      have HS2 : Hid (∀ W, Calls Try.prog 32 #[.string Z, .string ⟨#[]⟩, .int .i64 M] W fun e w' => e = .returned (.string Y) ∧ Below W.heap.size W w') := by rw [hY, hZ]; exact hs2
      have HTX : Hid (∀ W, Calls Try.prog 33 #[.int .i64 s.size, .int .i64 0] W fun e w' => e = .returned (.string Z) ∧ Below W.heap.size W w') := by rw [hZ]; exact htx
      rw [← hG] at hto
      rw [← hX] at hem
      obtain ⟨V, hV⟩ : ∃ V, V = mto s.data.toList (ge (Id M) s.data.toList) := ⟨_, rfl⟩
      rw [← hV] at hto hA
      have HA := Lib.hid hA
      by_cases hl : LE (Id M) s.size [] s.data.toList = []
      · rw [decide_eq_true hl] at hem
        have hYG : Y = G := by rw [hY, hG, hgv, if_pos hl]; unfold som; rw [LE_zero]
        subst hYG
        have HTO := Lib.hid hto
        clear hto hs1 hs2 htx hX hY hZ hG hV hA hl hgv hge hc hn hb hq hmm hd
        go_enter Try.func13, Try.ntmps13
        go_wp2_with (first | (go_at_call 27; (with_reducible refine (HG.out _).mono ?_); rintro e w1 ⟨rfl, rfl⟩) | (go_at_call 31; refine (in_b _ _ _ true _ HQ.out).mono ?_; rintro e w' ⟨rfl, rfl⟩) | (go_at_call 33; (with_reducible refine (HTX.out _).mono ?_); rintro e w3 ⟨rfl, b3⟩) | (go_at_call 34; (with_reducible refine (HTO.out _).mono ?_); rintro e w5 ⟨rfl, rfl⟩) | (go_at_call 32; (first | ((with_reducible refine (HS1.out _).mono ?_); rintro e w1 ⟨rfl, b1⟩) | ((with_reducible refine (HS2.out _).mono ?_); rintro e w2 ⟨rfl, b2⟩))))
        go_ret2
        exact ⟨ret_ib HA.out.symm HN.out.symm, chain (chain b1 b3) b2⟩
      · rw [decide_eq_false hl] at hem
        have hXG : X = G := by rw [hX, hG, hgv, if_neg hl]; rfl
        subst hXG
        have HTO := Lib.hid hto
        clear hto hs1 hs2 htx hX hY hZ hG hV hA hl hgv hge hc hn hb hq hmm hd
        go_enter Try.func13, Try.ntmps13
        go_wp2_with (first | (go_at_call 27; (with_reducible refine (HG.out _).mono ?_); rintro e w1 ⟨rfl, rfl⟩) | (go_at_call 31; refine (in_b _ _ _ true _ HQ.out).mono ?_; rintro e w' ⟨rfl, rfl⟩) | (go_at_call 34; (with_reducible refine (HTO.out _).mono ?_); rintro e w5 ⟨rfl, rfl⟩) | (go_at_call 32; (with_reducible refine (HS1.out _).mono ?_); rintro e w1 ⟨rfl, b1⟩))
        go_ret2
        exact ⟨ret_ib HA.out.symm HN.out.symm, b1⟩
theorem mkdif_any (m : Int) (w : World) :
    Calls Try.prog 37 #[.int .i64 m] w fun e w' => e = .returned (.func (.func 60) #[] #[.pointer (some ⟨w.heap.size, 0, none⟩)]) ∧ w' = w.alloc (.cells #[.int .i64 m] 3) := by
  go_enter Try.func37, Try.ntmps37
  go_wp2
  go_ret
  exact ⟨rfl, rfl⟩
theorem cnts_dif_new (m : Nat) (n : Nat) (w : World) (hm : m ≤ 10) (hn : n ≤ 9) : Cnts 60 #[] #[.pointer (some ⟨w.heap.size, 0, none⟩)] n (Id m) (w.alloc (.cells #[.int .i64 (m : Int)] 3)) :=
  cnts_dif m n _ _ (by simp) (by simp) hm hn
theorem nu_inj (a b : List UInt8) (ha : digB a = true) (hb : digB b = true) (hl : a.length = b.length) (h : nu a = nu b) : a = b := by
  rw [← dg_nu a.length a rfl ha, ← dg_nu b.length b rfl hb, h, hl]
theorem mlt_mto' (f t : List UInt8) (hf : digB f = true) (ht : digB t = true) (hl : t.length = f.length) (hne : t ≠ f) : mlt f t = mto f t := by
  have h1 := nu_lt f.length f rfl hf
  have h2 := nu_lt f.length t hl ht
  have h3 : nu t ≠ nu f := fun h => hne (nu_inj t f ht hf hl h)
  unfold mlt mto
  obtain ⟨R, hR⟩ : ∃ R, R = 10 ^ f.length := ⟨_, rfl⟩
  rw [← hR] at h1 h2 ⊢
  rcases Nat.lt_or_ge (nu t) (nu f) with h | h
  · rw [Nat.mod_eq_of_lt (by omega), Nat.mod_eq_of_lt (by omega)]; omega
  · rw [show nu t + R - nu f - 1 = (nu t - nu f - 1) + R by omega, show nu t + R - nu f = (nu t - nu f) + R by omega, Nat.add_mod_right, Nat.add_mod_right, Nat.mod_eq_of_lt (by omega), Nat.mod_eq_of_lt (by omega)]; omega
theorem mto_own (f : List UInt8) : mto f f = 0 := by
  unfold mto
  rw [Nat.add_sub_cancel_left, Nat.mod_self]
set_option maxHeartbeats 2000000 in
theorem iMilesToDigits_any (s : ByteArray) (m : Int) (w : World) (hs : s.size ≤ maxLen) :
    Calls Try.prog 14 #[.string s, .int .i64 m] w fun e w' => e = .returned (.tuple #[.int .i64 (mdA s m), .bool (mdB s m)]) ∧ Below w.heap.size w w' := by
  have HG := Lib.hid (fun W => iIsReading_any s W hs)
  have HZ := Lib.hid (fun W => isDial_any m W)
  cases hb : rdB s with
  | false =>
    have hn : mdB s m = false := by unfold mdB; rw [hb]; rfl
    have HA := Lib.hid (mdA_no hn)
    have HN := Lib.hid hn
    rw [hb] at HG
    clear hb hn
    go_enter Try.func14, Try.ntmps14
    go_wp2_with (go_at_call 29; (with_reducible refine (HG.out _).mono ?_); rintro e w1 ⟨rfl, rfl⟩)
    go_ret2
    exact ⟨ret_ib HA.out.symm HN.out.symm, Below.refl _ _⟩
  | true =>
    rw [hb] at HG
    obtain ⟨h1, h9, hd⟩ := (rdB_iff s).1 hb
    cases hz : zB m with
    | false =>
      have hn : mdB s m = false := by
        unfold mdB; rw [hb]
        unfold zB at hz
        have := of_decide_eq_false hz
        rw [decide_eq_false (by omega)]; rfl
      have HA := Lib.hid (mdA_no hn)
      have HN := Lib.hid hn
      rw [hz] at HZ
      clear hb hn hz
      go_enter Try.func14, Try.ntmps14
      go_wp2_with (first | (go_at_call 29; (with_reducible refine (HG.out _).mono ?_); rintro e w1 ⟨rfl, rfl⟩) | (go_at_call 35; (with_reducible refine (HZ.out _).mono ?_); rintro e w1 ⟨rfl, rfl⟩))
      go_ret2
      exact ⟨ret_ib HA.out.symm HN.out.symm, Below.refl _ _⟩
    | true =>
      rw [hz] at HZ
      have hzz := hz
      unfold zB at hzz
      have hm := of_decide_eq_true hzz
      obtain ⟨M, hM⟩ : ∃ M : Nat, m = (M : Int) := ⟨m.toNat, by omega⟩
      subst hM
      have hdd := fun W => differentDigits_any s W hs
      have hdfl := df_le s.data.toList
      rw [len_of'] at hdfl
      have HMK := Lib.hid (fun W => mkdif_any (M : Int) W)
      have HCN := Lib.hid (fun W => cnts_dif_new M s.size W (by omega) h9)
      by_cases hgt : s.size < M
      · have hn : mdB s (M : Int) = false := by unfold mdB; rw [hb, decide_eq_false (by omega)]; rfl
        have HA := Lib.hid (mdA_no hn)
        have HN := Lib.hid hn
        have HNR : Hid (∀ (W W' : World), Cnts 60 #[] #[.pointer (some ⟨W.heap.size, 0, none⟩)] s.size (Id M) W' → Calls Try.prog 36 #[.func (.func 60) #[] #[.pointer (some ⟨W.heap.size, 0, none⟩)], .string s] W' fun e w' => e = .returned (.tuple #[.int .i64 0, .bool false]) ∧ Below W'.heap.size W' w') := by
          intro W W' hc
          have := milesToNext_no _ _ _ (Id M) s.data.toList W' ent_dif (by rw [len_of']; exact hc) hd (by rw [len_of']; exact h9) (by rw [len_of']; exact cK_Id_no _ _ hgt)
          rw [lst] at this; exact this
        obtain ⟨D, hD⟩ : ∃ D, D = df s.data.toList := ⟨_, rfl⟩
        rw [← hD] at hdd hdfl
        have HDD := Lib.hid hdd
        have hne : ((D : Int) == (M : Int)) = false := beq_eq_false_iff_ne.2 (by omega)
        clear hb hn hz hzz hdd hD hd
        go_enter Try.func14, Try.ntmps14
        go_wp2_with (first | (go_at_call 29; (with_reducible refine (HG.out _).mono ?_); rintro e w1 ⟨rfl, rfl⟩) | (go_at_call 35; (with_reducible refine (HZ.out _).mono ?_); rintro e w1 ⟨rfl, rfl⟩) | (go_at_call 30; (with_reducible refine (HDD.out _).mono ?_); rintro e w1 ⟨rfl, rfl⟩) | (go_at_call 37; (with_reducible refine (HMK.out _).mono ?_); rintro e w1 ⟨rfl, rfl⟩) | (go_at_call 36; refine (HNR.out w _ (HCN.out w)).mono ?_; rintro e w3 ⟨rfl, b3⟩))
        go_ret2
        exact ⟨ret_ib HA.out.symm HN.out.symm, chain (w := w) (by go_grown) b3⟩
      · have hn : mdB s (M : Int) = true := by unfold mdB; rw [hb, decide_eq_true (by omega)]; rfl
        have hA := mdA_yes hn
        rw [show ((M : Nat) : Int).toNat = M by omega] at hA
        have HN := Lib.hid hn
        have hc := cK_Id_pos s.size M (by omega) (by omega) h9
        by_cases heq : df s.data.toList = M
        · have hi : Id M s.data.toList = true := by unfold Id; rw [heq]; simp
          rw [ge_own hd hi, mto_own] at hA
          have HA := Lib.hid hA
          rw [heq] at hdd
          have HDD := Lib.hid hdd
          clear hb hn hz hzz hdd hd hA heq hi
          go_enter Try.func14, Try.ntmps14
          go_wp2_with (first | (go_at_call 29; (with_reducible refine (HG.out _).mono ?_); rintro e w1 ⟨rfl, rfl⟩) | (go_at_call 35; (with_reducible refine (HZ.out _).mono ?_); rintro e w1 ⟨rfl, rfl⟩) | (go_at_call 30; (with_reducible refine (HDD.out _).mono ?_); rintro e w1 ⟨rfl, rfl⟩))
          go_ret2
          exact ⟨ret_ib HA.out.symm HN.out.symm, Below.refl _ _⟩
        · have hi : Id M s.data.toList = false := by unfold Id; exact decide_eq_false heq
          rw [ge_nx hd hi] at hA
          have hcl : 0 < cK (Id M) s.data.toList.length [] := by rw [len_of']; exact hc
          obtain ⟨l1, l2, l3⟩ := nx_len (Id M) s.data.toList hd hcl
          rw [← mlt_mto' _ _ hd l2 l1 (fun h => by rw [h, hi] at l3; cases l3)] at hA
          have HNR : Hid (∀ (W W' : World), Cnts 60 #[] #[.pointer (some ⟨W.heap.size, 0, none⟩)] s.size (Id M) W' → Calls Try.prog 36 #[.func (.func 60) #[] #[.pointer (some ⟨W.heap.size, 0, none⟩)], .string s] W' fun e w' => e = .returned (.tuple #[.int .i64 (mdA s (M : Int)), .bool true]) ∧ Below W'.heap.size W' w') := by
            intro W W' hcn
            have := milesToNext_any _ _ _ (Id M) s.data.toList W' ent_dif (by rw [len_of']; exact hcn) hd (by rw [len_of']; exact h1) (by rw [len_of']; exact h9) hcl
            rw [lst] at this
            rw [hA]; exact this
          obtain ⟨D, hD⟩ : ∃ D, D = df s.data.toList := ⟨_, rfl⟩
          rw [← hD] at hdd heq
          have HDD := Lib.hid hdd
          have hne : ((D : Int) == (M : Int)) = false := beq_eq_false_iff_ne.2 (by omega)
          clear hb hn hz hzz hdd hD hd hA hi hcl l1 l2 l3
          go_enter Try.func14, Try.ntmps14
          go_wp2_with (first | (go_at_call 29; (with_reducible refine (HG.out _).mono ?_); rintro e w1 ⟨rfl, rfl⟩) | (go_at_call 35; (with_reducible refine (HZ.out _).mono ?_); rintro e w1 ⟨rfl, rfl⟩) | (go_at_call 30; (with_reducible refine (HDD.out _).mono ?_); rintro e w1 ⟨rfl, rfl⟩) | (go_at_call 37; (with_reducible refine (HMK.out _).mono ?_); rintro e w1 ⟨rfl, rfl⟩) | (go_at_call 36; refine (HNR.out w _ (HCN.out w)).mono ?_; rintro e w3 ⟨rfl, b3⟩))
          go_ret2
          exact ⟨ret_ib rfl HN.out.symm, chain (w := w) (by go_grown) b3⟩
set_option maxHeartbeats 1000000 in
theorem FnExactMilesToDigits_law (z0 : ByteArray) (p1 : Int) (hz0 : z0.size ≤ maxLen) (_hp1 : (Lit.int .i64 p1).wf = true) (w : World) :
    Calls Try.prog 4 #[.string z0, .int .i64 p1] w fun e w' => e = .returned (.bool true) ∧ Below w.heap.size w w' := by
  have hz0' := hz0
  unfold maxLen at hz0'
  have hs1 : ∀ W, Calls Try.prog 13 #[.string z0, .int .i64 p1] W fun e w' => e = .returned (.tuple #[.int .i64 (mdA z0 p1), .bool (mdB z0 p1)]) ∧ Below W.heap.size W w' := fun W => sMilesToDigits_any z0 p1 W hz0
  have hi1 : ∀ W, Calls Try.prog 14 #[.string z0, .int .i64 p1] W fun e w' => e = .returned (.tuple #[.int .i64 (mdA z0 p1), .bool (mdB z0 p1)]) ∧ Below W.heap.size W w' := fun W => iMilesToDigits_any z0 p1 W hz0
  obtain ⟨A0, hA0⟩ : ∃ A0 : Int, A0 = mdA z0 p1 := ⟨_, rfl⟩
  obtain ⟨A1, hA1⟩ : ∃ A1 : Bool, A1 = mdB z0 p1 := ⟨_, rfl⟩
  rw [← hA0, ← hA1] at hs1 hi1
  have HS := Lib.hid hs1
  have HI := Lib.hid hi1
  clear hs1 hi1 hA0 hA1
  by_cases hb0 : (z0.size : Int) ≤ 1048576
  case neg =>
    go_enter Try.func4, Try.ntmps4
    go_wp2
    go_ret
    exact ⟨rfl, Below.refl _ _⟩
  case pos =>
    go_enter Try.func4, Try.ntmps4
    go_wp2_with (first | (go_at_call 13; (with_reducible refine (HS.out _).mono ?_); rintro e w1 ⟨rfl, b1⟩) | (go_at_call 14; (with_reducible refine (HI.out _).mono ?_); rintro e w2 ⟨rfl, b2⟩))
    go_ret
    exact ⟨rfl, chain b1 b2⟩
end Go.Proofs.Ytlkeemnnncnibab

/-
  Readings: the laws of CountOfKind, FirstOfKind and LastOfKind.
-/
import Derived.Test.YtlkeemnnncnibaaMiIm9
import Derived.Test.YtlkeemnnncnibaaMiSp9
namespace Go.Proofs.Ytlkeemnnncnibaa
open Go.RowKit

theorem ch_stepU (t i : Nat) (ht : t ≤ 9) (hi : i ≤ 9) : ((ch (t + i) i : Int) * ((t : Int) + ((i : Int) + 1))) / ((i : Int) + 1) = (ch (t + (i + 1)) (i + 1) : Int) := by
  have h1 : ∀ t : Fin 10, ∀ i : Fin 10, ((ch (t.val + i.val) i.val : Int) * ((t.val : Int) + ((i.val : Int) + 1))) / ((i.val : Int) + 1) = (ch (t.val + (i.val + 1)) (i.val + 1) : Int) := by decide +kernel
  exact h1 ⟨t, by omega⟩ ⟨i, by omega⟩
theorem ch_bdU (t i : Nat) (ht : t ≤ 9) (hi : i ≤ 10) : ch (t + i) i ≤ 100000 := by
  have h1 : ∀ t : Fin 10, ∀ i : Fin 11, ch (t.val + i.val) i.val ≤ 100000 := by decide +kernel
  exact h1 ⟨t, by omega⟩ ⟨i, by omega⟩
theorem miChoose_any (n : Nat) (w : World) (h1 : 1 ≤ n) (hn : n ≤ 9) :
    Calls Try.prog 68 #[.int .i64 n] w fun e w' => e = .returned (.int .i64 ((ch 10 n : Nat) : Int)) ∧ w = w' := by
  obtain ⟨t, ht⟩ : ∃ t, t + n = 10 := ⟨10 - n, by omega⟩
  have hti : (10 : Int) - (n : Int) = (t : Int) := by omega
  have HT := Lib.hid ht
  have ht9 : t ≤ 9 := by omega
  clear ht
  go_enter Try.func68, Try.ntmps68
  go_wp2
  go_loop [3, 4] (fun o i => ∃ (k S : Nat), k ≤ n ∧ i = .int .i64 ((k : Int) + 1) ∧ o = .int .i64 S ∧ Hid (S = ch (t + k) k)) (fun _ i => (n + 1) - (intOf i).toNat)
  case atStart => exact ⟨0, 1, Nat.zero_le _, rfl, rfl, by show _ = _; rw [ch.eq_def]⟩
  case round =>
    obtain ⟨k, S, hk, rfl, rfl, HS⟩ := hrel
    by_cases hlt : (k : Int) + 1 ≤ (n : Int)
    · have hb : S ≤ 100000 := by rw [HS.out]; exact ch_bdU t k ht9 (by omega)
      have hst := ch_stepU t k ht9 (by omega)
      rw [← HS.out] at hst
      have hnn : 0 ≤ (S : Int) * ((t : Int) + ((k : Int) + 1)) := Int.mul_nonneg (by omega) (by omega)
      have hup : (S : Int) * ((t : Int) + ((k : Int) + 1)) ≤ 100000 * 20 := Int.mul_le_mul (by omega) (by omega) (by omega) (by omega)
      have hb2 := ch_bdU t (k + 1) ht9 (by omega)
      have HN : Hid (((S : Int) * ((t : Int) + ((k : Int) + 1))) / ((k : Int) + 1) = ((ch (t + (k + 1)) (k + 1) : Nat) : Int)) := hst
      have hd0 : 0 ≤ ((S : Int) * ((t : Int) + ((k : Int) + 1))) / ((k : Int) + 1) := by rw [HN.out]; omega
      have hd1 : ((S : Int) * ((t : Int) + ((k : Int) + 1))) / ((k : Int) + 1) ≤ 100000 := by rw [HN.out]; omega
      clear hst hb2
      go_wp2
      go_round
      case rel => exact ⟨k + 1, ch (t + (k + 1)) (k + 1), by omega, by go_num, val_int HN.out, rfl⟩
      case measure => simp [intOf]; omega
    · have HR : Hid ((S : Int) = ((ch 10 n : Nat) : Int)) := by show _ = _; rw [HS.out, show k = n by omega, HT.out]
      go_wp2
      go_ret
      exact ⟨ret_int HR.out, rfl⟩
/-- How many of a kind there are. -/
def cka (n : Nat) : Nat := wd n 0 1
theorem cnt_a (n : Nat) (h1 : 1 ≤ n) (h9 : n ≤ 9) : cK (KI n ⟨#[97]⟩) n [] = 10 := by
  rw [KI_a, cK_dif 1 n [] rfl]
  have h : ∀ n : Fin 10, 0 < n.val → wd n.val 0 1 = 10 := by decide +kernel
  exact h ⟨n, by omega⟩ (by show 0 < n; omega)
theorem cnt_m (n : Nat) (_h9 : n ≤ 9) : cK (KI n ⟨#[109]⟩) n [] = 10 ^ ((n + 1) / 2) := by
  rw [KI_m]; exact mir_count n
theorem cnt_u (n : Nat) (h9 : n ≤ 9) : cK (KI n ⟨#[117]⟩) n [] = 5 ^ (n / 2) * (if n % 2 = 1 then 3 else 1) := by
  rw [KI_u, cK_opp ups n [] rfl]
  have h : ∀ n : Fin 10, co ups (0 + n.val) [] = 5 ^ (n.val / 2) * (if n.val % 2 = 1 then 3 else 1) := by decide +kernel
  exact h ⟨n, by omega⟩
theorem cnt_r (n : Nat) (h9 : n ≤ 9) : cK (KI n ⟨#[114]⟩) n [] = ch 10 n := by
  rw [KI_r, cK_ris n h9 [] rfl]; rfl
theorem cnt_f (n : Nat) (h9 : n ≤ 9) : cK (KI n ⟨#[102]⟩) n [] = ch 10 n := by
  rw [KI_f, cK_fal n h9 [] rfl]; rfl
def ff : Nat → Nat
  | 0 => 1
  | k + 1 => ff k * (10 - k)
theorem cnt_d (n : Nat) (h9 : n ≤ 9) : cK (KI n ⟨#[100]⟩) n [] = ff n := by
  rw [KI_d, cK_dif n n [] rfl]
  have h : ∀ n : Fin 10, wd n.val 0 n.val = ff n.val := by decide +kernel
  exact h ⟨n, by omega⟩
theorem ff_bd (k : Nat) (h : k ≤ 9) : ff k ≤ 10000000 := by
  have h1 : ∀ k : Fin 10, ff k.val ≤ 10000000 := by decide +kernel
  exact h1 ⟨k, by omega⟩
theorem five_bd (k : Nat) (h : k ≤ 5) : 5 ^ k ≤ 3125 := Nat.le_trans (Nat.pow_le_pow_right (by omega) h) (by decide)
set_option maxHeartbeats 2000000 in
theorem miCount_any (n : Nat) (k : ByteArray) (w : World) (h1 : 1 ≤ n) (h9 : n ≤ 9) (hk : kB k = true) :
    Calls Try.prog 45 #[.int .i64 n, .string k] w fun e w' => e = .returned (.int .i64 ((cK (KI n k) n [] : Nat) : Int)) ∧ w = w' := by
  rcases kB_of hk with e | e | e | e | e | e <;> subst e
  · rw [cnt_a n h1 h9]
    go_enter Try.func45, Try.ntmps45
    go_wp2
    go_ret
    exact ⟨rfl, rfl⟩
  · rw [cnt_m n h9]
    obtain ⟨h, hh⟩ : ∃ h, h = (n + 1) / 2 := ⟨_, rfl⟩
    have hall : ∀ W, Calls Try.prog 42 #[.int .i64 (((n : Int) + 1) / 2)] W fun e w' => e = .returned (.int .i64 ((10 ^ h : Nat) : Int)) ∧ W = w' := by
      intro W; rw [show ((n : Int) + 1) / 2 = (h : Int) by omega]; exact miAll_any h W (by omega)
    rw [← hh]
    obtain ⟨P, hP⟩ : ∃ P, P = 10 ^ h := ⟨_, rfl⟩
    rw [← hP] at hall ⊢
    have HALL := Lib.hid hall
    clear hall hh hP
    go_enter Try.func45, Try.ntmps45
    go_wp2_with (go_at_call 42; (with_reducible refine (HALL.out _).mono ?_); rintro e w1 ⟨rfl, rfl⟩)
    go_ret
    exact ⟨rfl, rfl⟩
  · rw [cnt_u n h9]
    obtain ⟨h, hh⟩ : ∃ h, h = n / 2 := ⟨_, rfl⟩
    have HH := Lib.hid hh
    have hh5 : h ≤ 5 := by omega
    have HRES : Hid ((if n % 2 = 1 then ((5 ^ h * 3 : Nat) : Int) else ((5 ^ h : Nat) : Int)) = ((5 ^ (n / 2) * (if n % 2 = 1 then 3 else 1) : Nat) : Int)) := by
      show _ = _
      rw [← hh]; by_cases hp : n % 2 = 1 <;> simp [hp]
    obtain ⟨Z, hZ⟩ : ∃ Z, Z = 5 ^ (n / 2) * (if n % 2 = 1 then 3 else 1) := ⟨_, rfl⟩
    rw [← hZ] at HRES ⊢
    clear hh hZ
    go_enter Try.func45, Try.ntmps45
    go_wp2
    go_loop [5, 6] (fun c i => ∃ (j S : Nat), j ≤ h ∧ i = .int .i64 j ∧ c = .int .i64 S ∧ Hid (S = 5 ^ j)) (fun _ i => h - (intOf i).toNat)
    case atStart => exact ⟨0, 1, Nat.zero_le _, rfl, rfl, rfl⟩
    case round =>
      obtain ⟨j, S, hj, rfl, rfl, HS⟩ := hrel
      have hS : S ≤ 3125 := by rw [HS.out]; exact five_bd j (by omega)
      by_cases hlt : (j : Int) < (n : Int) / 2
      · have HJ : Hid (j + 1 ≤ h) := by show _ ≤ _; have := HH.out; omega
        go_wp2
        go_round
        case rel => exact ⟨j + 1, S * 5, HJ.out, by go_num, val_int (by omega), by show _ = _; rw [HS.out, Nat.pow_succ]⟩
        case measure => have := HJ.out; simp [intOf]; omega
      · have hjh : j = h := by have := HH.out; omega
        by_cases hp : (n : Int) % 2 = 1
        · have HR : Hid ((S : Int) * 3 = (Z : Int)) := by
            show _ = _
            rw [← HRES.out, if_pos (by omega), HS.out, hjh]; push_cast; rfl
          have hpb : ((n : Int) % 2 == 1) = true := by rw [beq_iff_eq]; exact hp
          clear hjh
          go_wp2
          go_ret
          exact ⟨ret_int HR.out, rfl⟩
        · have HR : Hid ((S : Int) = (Z : Int)) := by
            show _ = _
            rw [← HRES.out, if_neg (by omega), HS.out, hjh]
          have hpb : ((n : Int) % 2 == 1) = false := beq_eq_false_iff_ne.2 hp
          clear hjh
          go_wp2
          go_ret
          exact ⟨ret_int HR.out, rfl⟩
  · rw [cnt_r n h9]
    have HC := Lib.hid (fun W => miChoose_any n W h1 h9)
    obtain ⟨Z, hZ⟩ : ∃ Z, Z = ch 10 n := ⟨_, rfl⟩
    rw [← hZ] at HC ⊢
    clear hZ
    go_enter Try.func45, Try.ntmps45
    go_wp2_with (go_at_call 68; (with_reducible refine (HC.out _).mono ?_); rintro e w1 ⟨rfl, rfl⟩)
    go_ret
    exact ⟨rfl, rfl⟩
  · rw [cnt_f n h9]
    have HC := Lib.hid (fun W => miChoose_any n W h1 h9)
    obtain ⟨Z, hZ⟩ : ∃ Z, Z = ch 10 n := ⟨_, rfl⟩
    rw [← hZ] at HC ⊢
    clear hZ
    go_enter Try.func45, Try.ntmps45
    go_wp2_with (go_at_call 68; (with_reducible refine (HC.out _).mono ?_); rintro e w1 ⟨rfl, rfl⟩)
    go_ret
    exact ⟨rfl, rfl⟩
  · rw [cnt_d n h9]
    obtain ⟨Z, hZ⟩ : ∃ Z, Z = ff n := ⟨_, rfl⟩
    have HZ := Lib.hid hZ
    rw [← hZ]
    clear hZ
    go_enter Try.func45, Try.ntmps45
    go_wp2
    go_loop [7, 8] (fun c i => ∃ (j S : Nat), j ≤ n ∧ i = .int .i64 j ∧ c = .int .i64 S ∧ Hid (S = ff j)) (fun _ i => n - (intOf i).toNat)
    case atStart => exact ⟨0, 1, Nat.zero_le _, rfl, rfl, rfl⟩
    case round =>
      obtain ⟨j, S, hj, rfl, rfl, HS⟩ := hrel
      have hS : S ≤ 10000000 := by rw [HS.out]; exact ff_bd j (by omega)
      by_cases hlt : j < n
      · have q1 : 0 ≤ (S : Int) * (10 - (j : Int)) := Int.mul_nonneg (by omega) (by omega)
        have q2 : (S : Int) * (10 - (j : Int)) ≤ 10000000 * 10 := Int.mul_le_mul (by omega) (by omega) (by omega) (by omega)
        have HV : Hid ((S : Int) * (10 - (j : Int)) = ((S * (10 - j) : Nat) : Int)) := by show _ = _; push_cast; rw [Int.ofNat_sub (by omega)]; rfl
        go_wp2
        go_round
        case rel => exact ⟨j + 1, S * (10 - j), by omega, by go_num, val_int HV.out, by show _ = _; rw [HS.out]; rfl⟩
        case measure => simp [intOf]; omega
      · have HR : Hid ((S : Int) = (Z : Int)) := by show _ = _; rw [HZ.out, HS.out, show j = n by omega]
        go_wp2
        go_ret
        exact ⟨ret_int HR.out, rfl⟩
/-- There are a number of digits and a kind. -/
def ckB (d : Int) (k : ByteArray) : Bool := zB d && kB k
def ckA (d : Int) (k : ByteArray) : Int := if ckB d k then (cK (KI d.toNat k) d.toNat [] : Nat) else 0
theorem ckA_no {d : Int} {k : ByteArray} (h : ckB d k = false) : ckA d k = 0 := by unfold ckA; rw [h]; rfl
theorem ckA_yes {d : Int} {k : ByteArray} (h : ckB d k = true) : ckA d k = (cK (KI d.toNat k) d.toNat [] : Nat) := by unfold ckA; rw [h]; rfl
theorem zB_nat {d : Int} (h : zB d = true) : ∃ n : Nat, d = (n : Int) ∧ 1 ≤ n ∧ n ≤ 9 := by
  unfold zB at h
  rw [decide_eq_true_iff] at h
  exact ⟨d.toNat, by omega, by omega, by omega⟩
theorem sCountOfKind_any (d : Int) (k : ByteArray) (w : World) :
    Calls Try.prog 21 #[.int .i64 d, .string k] w fun e w' => e = .returned (.tuple #[.int .i64 (ckA d k), .bool (ckB d k)]) ∧ Below w.heap.size w w' := by
  have HG := Lib.hid (fun W => miSize_any d W)
  have HK := Lib.hid (fun W => miKind_any k W)
  cases hb : zB d with
  | false =>
    have hn : ckB d k = false := by unfold ckB; rw [hb]; rfl
    have HA := Lib.hid (ckA_no hn)
    have HN := Lib.hid hn
    rw [hb] at HG
    clear hb hn
    go_enter Try.func21, Try.ntmps21
    go_wp2_with (go_at_call 44; (with_reducible refine (HG.out _).mono ?_); rintro e w1 ⟨rfl, rfl⟩)
    go_ret2
    exact ⟨ret_ib HA.out.symm HN.out.symm, Below.refl _ _⟩
  | true =>
    rw [hb] at HG
    cases hk : kB k with
    | false =>
      have hn : ckB d k = false := by unfold ckB; rw [hb, hk]; rfl
      have HA := Lib.hid (ckA_no hn)
      have HN := Lib.hid hn
      rw [hk] at HK
      clear hb hn hk
      go_enter Try.func21, Try.ntmps21
      go_wp2_with (first | (go_at_call 44; (with_reducible refine (HG.out _).mono ?_); rintro e w1 ⟨rfl, rfl⟩) | (go_at_call 38; (with_reducible refine (HK.out _).mono ?_); rintro e w1 ⟨rfl, b1⟩))
      go_ret2
      exact ⟨ret_ib HA.out.symm HN.out.symm, b1⟩
    | true =>
      have hn : ckB d k = true := by unfold ckB; rw [hb, hk]; rfl
      have HA := Lib.hid (ckA_yes hn)
      have HN := Lib.hid hn
      rw [hk] at HK
      obtain ⟨n, rfl, h1, h9⟩ := zB_nat hb
      have HC := Lib.hid (fun W => miCount_any n k W h1 h9 hk)
      have HX : Hid (((cK (KI n k) n [] : Nat) : Int) = ckA (n : Int) k) := by show _ = _; rw [HA.out]; rfl
      obtain ⟨C, hC⟩ : ∃ C, C = cK (KI n k) n [] := ⟨_, rfl⟩
      rw [← hC] at HC HX
      clear hb hn hk hC HA
      go_enter Try.func21, Try.ntmps21
      go_wp2_with (first | (go_at_call 44; (with_reducible refine (HG.out _).mono ?_); rintro e w1 ⟨rfl, rfl⟩) | (go_at_call 38; (with_reducible refine (HK.out _).mono ?_); rintro e w1 ⟨rfl, b1⟩) | (go_at_call 45; (with_reducible refine (HC.out _).mono ?_); rintro e w2 ⟨rfl, rfl⟩))
      go_ret2
      exact ⟨ret_ib HX.out HN.out.symm, b1⟩
set_option maxHeartbeats 1000000 in
theorem iCountOfKind_any (d : Int) (k : ByteArray) (w : World) :
    Calls Try.prog 22 #[.int .i64 d, .string k] w fun e w' => e = .returned (.tuple #[.int .i64 (ckA d k), .bool (ckB d k)]) ∧ Below w.heap.size w w' := by
  have HG := Lib.hid (fun W => isDial_any d W)
  cases hk : kB k with
  | false =>
    have hn : ckB d k = false := by unfold ckB; rw [hk]; simp
    have HA := Lib.hid (ckA_no hn)
    have HN := Lib.hid hn
    have HK := Lib.hid (fun W => kindOf_no k W hk)
    clear hn hk
    go_enter Try.func22, Try.ntmps22
    go_wp2_with (go_at_call 40; (with_reducible refine (HK.out _).mono ?_); rintro e w1 ⟨rfl, rfl⟩)
    go_ret2
    exact ⟨ret_ib HA.out.symm HN.out.symm, Below.refl _ _⟩
  | true =>
    cases hb : zB d with
    | false =>
      have hn : ckB d k = false := by unfold ckB; rw [hb]; rfl
      have HA := Lib.hid (ckA_no hn)
      have HN := Lib.hid hn
      have HK := Lib.hid (fun W => kindOf_yes k 9 W (by omega) hk)
      rw [hb] at HG
      clear hb hn hk
      go_enter Try.func22, Try.ntmps22
      go_wp2_with (first | (go_at_call 40; (with_reducible refine (HK.out _).mono ?_); rintro e w1 ⟨⟨g, pre, cb, rfl, eg, hg⟩, b1⟩) | (go_at_call 46; (with_reducible refine (HG.out _).mono ?_); rintro e w2 ⟨rfl, rfl⟩))
      go_ret2
      exact ⟨ret_ib HA.out.symm HN.out.symm, b1⟩
    | true =>
      have hn : ckB d k = true := by unfold ckB; rw [hb, hk]; rfl
      have HA := Lib.hid (ckA_yes hn)
      have HN := Lib.hid hn
      obtain ⟨n, rfl, h1, h9⟩ := zB_nat hb
      have HK := Lib.hid (fun W => kindOf_yes k n W h9 hk)
      rw [hb] at HG
      have HX : Hid (((cK (KI n k) n [] : Nat) : Int) = ckA (n : Int) k) := by show _ = _; rw [HA.out]; rfl
      have HCC : Hid (∀ g pre cb W W', Cnts g pre cb n (KI n k) W → Below W.heap.size W W' → Calls Try.prog g (pre ++ (#[.string ⟨#[]⟩, .int .i64 n] ++ cb)) W' fun e w' => e = .returned (.int .i64 ((cK (KI n k) n [] : Nat) : Int)) ∧ Below W'.heap.size W' w') := by
        intro g pre cb W W' hg hW
        have := hg [] W' rfl (Nat.zero_le _) hW
        rw [List.length_nil, Nat.sub_zero] at this
        exact this
      obtain ⟨C, hC⟩ : ∃ C, C = cK (KI n k) n [] := ⟨_, rfl⟩
      rw [← hC] at HCC HX
      clear hb hn hk hC HA
      go_enter Try.func22, Try.ntmps22
      go_wp2_with (go_at_call 40; (with_reducible refine (HK.out _).mono ?_); rintro e w1 ⟨⟨g, pre, cb, rfl, eg, hg⟩, b1⟩; have e1 : ∀ args w, (callFunc g args).run Try.prog w = .ok (.enter g args) w := eg; have HGG := Lib.hid hg; clear eg hg)
      go_wp2_with (first | (go_at_call 46; (with_reducible refine (HG.out _).mono ?_); rintro e w2 ⟨rfl, rfl⟩) | (go_at_fn g; refine (HCC.out _ _ _ _ _ HGG.out (Below.refl _ _)).mono ?_; rintro e w3 ⟨rfl, b3⟩))
      go_ret2
      exact ⟨ret_ib HX.out HN.out.symm, chain b1 b3⟩
set_option maxHeartbeats 1000000 in
theorem FnExactCountOfKind_law (p0 : Int) (z1 : ByteArray) (_hp0 : (Lit.int .i64 p0).wf = true) (hz1 : z1.size ≤ maxLen) (w : World) :
    Calls Try.prog 7 #[.int .i64 p0, .string z1] w fun e w' => e = .returned (.bool true) ∧ Below w.heap.size w w' := by
  have hz1' := hz1
  unfold maxLen at hz1'
  have hs1 : ∀ W, Calls Try.prog 21 #[.int .i64 p0, .string z1] W fun e w' => e = .returned (.tuple #[.int .i64 (ckA p0 z1), .bool (ckB p0 z1)]) ∧ Below W.heap.size W w' := fun W => sCountOfKind_any p0 z1 W
  have hi1 : ∀ W, Calls Try.prog 22 #[.int .i64 p0, .string z1] W fun e w' => e = .returned (.tuple #[.int .i64 (ckA p0 z1), .bool (ckB p0 z1)]) ∧ Below W.heap.size W w' := fun W => iCountOfKind_any p0 z1 W
  obtain ⟨A0, hA0⟩ : ∃ A0 : Int, A0 = ckA p0 z1 := ⟨_, rfl⟩
  obtain ⟨A1, hA1⟩ : ∃ A1 : Bool, A1 = ckB p0 z1 := ⟨_, rfl⟩
  rw [← hA0, ← hA1] at hs1 hi1
  have HS := Lib.hid hs1
  have HI := Lib.hid hi1
  clear hs1 hi1 hA0 hA1
  by_cases hb1 : (z1.size : Int) ≤ 1048576
  case neg =>
    go_enter Try.func7, Try.ntmps7
    go_wp2
    go_ret
    exact ⟨rfl, Below.refl _ _⟩
  case pos =>
    go_enter Try.func7, Try.ntmps7
    go_wp2_with (first | (go_at_call 21; (with_reducible refine (HS.out _).mono ?_); rintro e w1 ⟨rfl, b1⟩) | (go_at_call 22; (with_reducible refine (HI.out _).mono ?_); rintro e w2 ⟨rfl, b2⟩))
    go_ret
    exact ⟨rfl, chain b1 b2⟩
def fkA (d : Int) (k : ByteArray) : ByteArray := if ckB d k then ⟨(hdl (LK (KI d.toNat k) d.toNat [])).toArray⟩ else ⟨#[]⟩
theorem fkA_no {d : Int} {k : ByteArray} (h : ckB d k = false) : fkA d k = ⟨#[]⟩ := by unfold fkA; rw [h]; rfl
theorem fkA_yes {d : Int} {k : ByteArray} (h : ckB d k = true) : fkA d k = ⟨(hdl (LK (KI d.toNat k) d.toNat [])).toArray⟩ := by unfold fkA; rw [h]; rfl
theorem sFirstOfKind_any (d : Int) (k : ByteArray) (w : World) :
    Calls Try.prog 23 #[.int .i64 d, .string k] w fun e w' => e = .returned (.tuple #[.string (fkA d k), .bool (ckB d k)]) ∧ Below w.heap.size w w' := by
  have HG := Lib.hid (fun W => miSize_any d W)
  have HK := Lib.hid (fun W => miKind_any k W)
  cases hb : zB d with
  | false =>
    have hn : ckB d k = false := by unfold ckB; rw [hb]; rfl
    have HA := Lib.hid (fkA_no hn)
    have HN := Lib.hid hn
    rw [hb] at HG
    clear hb hn
    go_enter Try.func23, Try.ntmps23
    go_wp2_with (go_at_call 44; (with_reducible refine (HG.out _).mono ?_); rintro e w1 ⟨rfl, rfl⟩)
    go_ret2
    exact ⟨ret_sb HA.out.symm HN.out.symm, Below.refl _ _⟩
  | true =>
    rw [hb] at HG
    cases hk : kB k with
    | false =>
      have hn : ckB d k = false := by unfold ckB; rw [hb, hk]; rfl
      have HA := Lib.hid (fkA_no hn)
      have HN := Lib.hid hn
      rw [hk] at HK
      clear hb hn hk
      go_enter Try.func23, Try.ntmps23
      go_wp2_with (first | (go_at_call 44; (with_reducible refine (HG.out _).mono ?_); rintro e w1 ⟨rfl, rfl⟩) | (go_at_call 38; (with_reducible refine (HK.out _).mono ?_); rintro e w1 ⟨rfl, b1⟩))
      go_ret2
      exact ⟨ret_sb HA.out.symm HN.out.symm, b1⟩
    | true =>
      have hn : ckB d k = true := by unfold ckB; rw [hb, hk]; rfl
      have HA := Lib.hid (fkA_yes hn)
      have HN := Lib.hid hn
      rw [hk] at HK
      obtain ⟨n, rfl, h1, h9⟩ := zB_nat hb
      have hf := fun W => miFirst_any n k [] h1 h9 hk (.inl rfl) n [] W (by simp) rfl
      have HX : Hid (fst (KI n k) n [] [] = fkA (n : Int) k) := by show _ = _; rw [HA.out]; unfold fst; rw [LF_all _ _ h1]; rfl
      obtain ⟨X, hX⟩ : ∃ X, X = fst (KI n k) n [] [] := ⟨_, rfl⟩
      have HF : Hid (∀ W, Calls Try.prog 47 #[.int .i64 n, .string ⟨#[]⟩, .string k, .string ⟨#[]⟩] W fun e w' => e = .returned (.string X) ∧ Below W.heap.size W w') := by rw [hX]; exact hf
      rw [← hX] at HX
      clear hb hn hk hf hX HA
      go_enter Try.func23, Try.ntmps23
      go_wp2_with (first | (go_at_call 44; (with_reducible refine (HG.out _).mono ?_); rintro e w1 ⟨rfl, rfl⟩) | (go_at_call 38; (with_reducible refine (HK.out _).mono ?_); rintro e w1 ⟨rfl, b1⟩) | (go_at_call 47; (with_reducible refine (HF.out _).mono ?_); rintro e w2 ⟨rfl, b2⟩))
      go_ret2
      exact ⟨ret_sb HX.out HN.out.symm, chain b1 b2⟩
theorem hd_at {L : List (List UInt8)} (h : 0 < L.length) : L[0]? = some (hdl L) := by
  unfold hdl
  cases L with
  | nil => simp at h
  | cons a L => rfl
set_option maxHeartbeats 1000000 in
theorem iFirstOfKind_any (d : Int) (k : ByteArray) (w : World) :
    Calls Try.prog 24 #[.int .i64 d, .string k] w fun e w' => e = .returned (.tuple #[.string (fkA d k), .bool (ckB d k)]) ∧ Below w.heap.size w w' := by
  have HG := Lib.hid (fun W => isDial_any d W)
  cases hk : kB k with
  | false =>
    have hn : ckB d k = false := by unfold ckB; rw [hk]; simp
    have HA := Lib.hid (fkA_no hn)
    have HN := Lib.hid hn
    have HK := Lib.hid (fun W => kindOf_no k W hk)
    clear hn hk
    go_enter Try.func24, Try.ntmps24
    go_wp2_with (go_at_call 40; (with_reducible refine (HK.out _).mono ?_); rintro e w1 ⟨rfl, rfl⟩)
    go_ret2
    exact ⟨ret_sb HA.out.symm HN.out.symm, Below.refl _ _⟩
  | true =>
    cases hb : zB d with
    | false =>
      have hn : ckB d k = false := by unfold ckB; rw [hb]; rfl
      have HA := Lib.hid (fkA_no hn)
      have HN := Lib.hid hn
      have HK := Lib.hid (fun W => kindOf_yes k 9 W (by omega) hk)
      rw [hb] at HG
      clear hb hn hk
      go_enter Try.func24, Try.ntmps24
      go_wp2_with (first | (go_at_call 40; (with_reducible refine (HK.out _).mono ?_); rintro e w1 ⟨⟨g, pre, cb, rfl, eg, hg⟩, b1⟩) | (go_at_call 46; (with_reducible refine (HG.out _).mono ?_); rintro e w2 ⟨rfl, rfl⟩))
      go_ret2
      exact ⟨ret_sb HA.out.symm HN.out.symm, b1⟩
    | true =>
      have hn : ckB d k = true := by unfold ckB; rw [hb, hk]; rfl
      have HA := Lib.hid (fkA_yes hn)
      have HN := Lib.hid hn
      obtain ⟨n, rfl, h1, h9⟩ := zB_nat hb
      have HK := Lib.hid (fun W => kindOf_yes k n W h9 hk)
      rw [hb] at HG
      have HR : Hid (∀ g pre cb W, Ent g → Cnts g pre cb n (KI n k) W → Calls Try.prog 48 #[.func (.func g) pre cb, .int .i64 n, .int .i64 0] W fun e w' => e = .returned (.tuple #[.string (fkA (n : Int) k), .bool true]) ∧ Below W.heap.size W w') := by
        intro g pre cb W eg hg
        have := rdRank_any g pre cb (KI n k) n 0 _ 0 W eg hg h9 rfl (hd_at (cK_pos n k h1 h9 hk))
        rw [HA.out]; exact this
      clear hb hn hk HA
      go_enter Try.func24, Try.ntmps24
      go_wp2_with (first | (go_at_call 40; (with_reducible refine (HK.out _).mono ?_); rintro e w1 ⟨⟨g, pre, cb, rfl, eg, hg⟩, b1⟩; have EG := Lib.hid eg; have HGG := Lib.hid hg; clear eg hg) | (go_at_call 46; (with_reducible refine (HG.out _).mono ?_); rintro e w2 ⟨rfl, rfl⟩) | (go_at_call 48; (with_reducible refine (HR.out _ _ _ _ EG.out HGG.out).mono ?_); rintro e w3 ⟨rfl, b3⟩))
      go_ret2
      exact ⟨ret_sb rfl HN.out.symm, chain b1 b3⟩
set_option maxHeartbeats 1000000 in
theorem FnExactFirstOfKind_law (p0 : Int) (z1 : ByteArray) (_hp0 : (Lit.int .i64 p0).wf = true) (hz1 : z1.size ≤ maxLen) (w : World) :
    Calls Try.prog 8 #[.int .i64 p0, .string z1] w fun e w' => e = .returned (.bool true) ∧ Below w.heap.size w w' := by
  have hz1' := hz1
  unfold maxLen at hz1'
  have hs1 : ∀ W, Calls Try.prog 23 #[.int .i64 p0, .string z1] W fun e w' => e = .returned (.tuple #[.string (fkA p0 z1), .bool (ckB p0 z1)]) ∧ Below W.heap.size W w' := fun W => sFirstOfKind_any p0 z1 W
  have hi1 : ∀ W, Calls Try.prog 24 #[.int .i64 p0, .string z1] W fun e w' => e = .returned (.tuple #[.string (fkA p0 z1), .bool (ckB p0 z1)]) ∧ Below W.heap.size W w' := fun W => iFirstOfKind_any p0 z1 W
  obtain ⟨A0, hA0⟩ : ∃ A0 : ByteArray, A0 = fkA p0 z1 := ⟨_, rfl⟩
  obtain ⟨A1, hA1⟩ : ∃ A1 : Bool, A1 = ckB p0 z1 := ⟨_, rfl⟩
  rw [← hA0, ← hA1] at hs1 hi1
  have HS := Lib.hid hs1
  have HI := Lib.hid hi1
  clear hs1 hi1 hA0 hA1
  by_cases hb1 : (z1.size : Int) ≤ 1048576
  case neg =>
    go_enter Try.func8, Try.ntmps8
    go_wp2
    go_ret
    exact ⟨rfl, Below.refl _ _⟩
  case pos =>
    go_enter Try.func8, Try.ntmps8
    go_wp2_with (first | (go_at_call 23; (with_reducible refine (HS.out _).mono ?_); rintro e w1 ⟨rfl, b1⟩) | (go_at_call 24; (with_reducible refine (HI.out _).mono ?_); rintro e w2 ⟨rfl, b2⟩))
    go_ret
    exact ⟨rfl, chain b1 b2⟩
end Go.Proofs.Ytlkeemnnncnibaa

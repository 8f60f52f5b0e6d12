/-
  Readings: the laws of NextOfKind and MilesToKind.
-/
import Derived.Test.YtlkeemnnncnibaaMiIm9
import Derived.Test.YtlkeemnnncnibaaMiSp9
namespace Go.Proofs.Ytlkeemnnncnibaa
open Go.RowKit

/-- There are a reading and a kind. -/
def nkB (s k : ByteArray) : Bool := rdB s && kB k
def nkA (s k : ByteArray) : ByteArray := if nkB s k then ⟨(nx (KI s.size k) s.data.toList).toArray⟩ else ⟨#[]⟩
theorem nkA_no {s k : ByteArray} (h : nkB s k = false) : nkA s k = ⟨#[]⟩ := by unfold nkA; rw [h]; rfl
theorem nkA_yes {s k : ByteArray} (h : nkB s k = true) : nkA s k = ⟨(nx (KI s.size k) s.data.toList).toArray⟩ := by unfold nkA; rw [h]; rfl
theorem len_of' (s : ByteArray) : s.data.toList.length = s.size := by simp
set_option maxHeartbeats 1000000 in
theorem sNextOfKind_any (s k : ByteArray) (w : World) (hs : s.size ≤ maxLen) :
    Calls Try.prog 17 #[.string s, .string k] w fun e w' => e = .returned (.tuple #[.string (nkA s k), .bool (nkB s k)]) ∧ Below w.heap.size w w' := by
  have HG := Lib.hid (fun W => miGood_any s W hs)
  have HK := Lib.hid (fun W => miKind_any k W)
  cases hb : rdB s with
  | false =>
    have hn : nkB s k = false := by unfold nkB; rw [hb]; rfl
    have HA := Lib.hid (nkA_no hn)
    have HN := Lib.hid hn
    rw [hb] at HG
    clear hb hn
    go_enter Try.func17, Try.ntmps17
    go_wp2_with (go_at_call 33; (with_reducible refine (HG.out _).mono ?_); rintro e w1 ⟨rfl, rfl⟩)
    go_ret2
    exact ⟨ret_sb HA.out.symm HN.out.symm, Below.refl _ _⟩
  | true =>
    rw [hb] at HG
    cases hk : kB k with
    | false =>
      have hn : nkB s k = false := by unfold nkB; rw [hb, hk]; rfl
      have HA := Lib.hid (nkA_no hn)
      have HN := Lib.hid hn
      rw [hk] at HK
      clear hb hn hk
      go_enter Try.func17, Try.ntmps17
      go_wp2_with (first | (go_at_call 33; (with_reducible refine (HG.out _).mono ?_); rintro e w1 ⟨rfl, rfl⟩) | (go_at_call 38; (with_reducible refine (HK.out _).mono ?_); rintro e w1 ⟨rfl, b1⟩))
      go_ret2
      exact ⟨ret_sb HA.out.symm HN.out.symm, b1⟩
    | true =>
      have hn : nkB s k = true := by unfold nkB; rw [hb, hk]; rfl
      have HA := Lib.hid (nkA_yes hn)
      have HN := Lib.hid hn
      rw [hk] at HK
      obtain ⟨h1, h9, hd⟩ := (rdB_iff s).1 hb
      have hnx := fun W => miNext_any s.data.toList k W (by rw [len_of']; exact h1) (by rw [len_of']; exact h9) hk
      have hlen := nx_len (KI s.data.toList.length k) s.data.toList hd (by rw [len_of']; exact cK_pos _ _ h1 h9 hk)
      rw [len_of'] at hlen
      rw [lst, len_of'] at hnx
      obtain ⟨X, hX⟩ : ∃ X : ByteArray, X = ⟨(nx (KI s.size k) s.data.toList).toArray⟩ := ⟨_, rfl⟩
      rw [← hX] at hnx
      have HX : Hid (nkA s k = X) := by show _ = _; rw [HA.out, hX]
      have hXe : (X.toList == []) = false := by
        rw [hX, toL, beq_eq_false_iff_ne]; intro he
        have := hlen.1
        rw [he] at this; simp at this; omega
      have HNX := Lib.hid hnx
      clear hb hn hk hnx hX hd hlen HA
      go_enter Try.func17, Try.ntmps17
      go_wp2_with (first | (go_at_call 33; (with_reducible refine (HG.out _).mono ?_); rintro e w1 ⟨rfl, rfl⟩) | (go_at_call 38; (with_reducible refine (HK.out _).mono ?_); rintro e w1 ⟨rfl, b1⟩) | (go_at_call 39; (with_reducible refine (HNX.out _).mono ?_); rintro e w2 ⟨rfl, b2⟩))
      go_ret2
      exact ⟨ret_sb HX.out.symm HN.out.symm, chain b1 b2⟩
set_option maxHeartbeats 1000000 in
theorem iNextOfKind_any (s k : ByteArray) (w : World) (hs : s.size ≤ maxLen) :
    Calls Try.prog 18 #[.string s, .string k] w fun e w' => e = .returned (.tuple #[.string (nkA s k), .bool (nkB s k)]) ∧ Below w.heap.size w w' := by
  have HG := Lib.hid (fun W => iIsReading_any s W hs)
  cases hk : kB k with
  | false =>
    have hn : nkB s k = false := by unfold nkB; rw [hk]; simp
    have HA := Lib.hid (nkA_no hn)
    have HN := Lib.hid hn
    have HK := Lib.hid (fun W => kindOf_no k W hk)
    clear hn hk
    go_enter Try.func18, Try.ntmps18
    go_wp2_with (go_at_call 40; (with_reducible refine (HK.out _).mono ?_); rintro e w1 ⟨rfl, rfl⟩)
    go_ret2
    exact ⟨ret_sb HA.out.symm HN.out.symm, Below.refl _ _⟩
  | true =>
    cases hb : rdB s with
    | false =>
      have hn : nkB s k = false := by unfold nkB; rw [hb]; rfl
      have HA := Lib.hid (nkA_no hn)
      have HN := Lib.hid hn
      have HK := Lib.hid (fun W => kindOf_yes k 9 W (by omega) hk)
      rw [hb] at HG
      clear hb hn hk
      go_enter Try.func18, Try.ntmps18
      go_wp2_with (first | (go_at_call 40; (with_reducible refine (HK.out _).mono ?_); rintro e w1 ⟨⟨g, pre, cb, rfl, eg, hg⟩, b1⟩) | (go_at_call 14; (with_reducible refine (HG.out _).mono ?_); rintro e w2 ⟨rfl, rfl⟩))
      go_ret2
      exact ⟨ret_sb HA.out.symm HN.out.symm, b1⟩
    | true =>
      have hn : nkB s k = true := by unfold nkB; rw [hb, hk]; rfl
      have HA := Lib.hid (nkA_yes hn)
      have HN := Lib.hid hn
      obtain ⟨h1, h9, hd⟩ := (rdB_iff s).1 hb
      have HK := Lib.hid (fun W => kindOf_yes k s.size W h9 hk)
      rw [hb] at HG
      have HNR : Hid (∀ g pre cb W, Ent g → Cnts g pre cb s.size (KI s.size k) W → Calls Try.prog 41 #[.func (.func g) pre cb, .string s] W fun e w' => e = .returned (.tuple #[.string (nkA s k), .bool true]) ∧ Below W.heap.size W w') := by
        intro g pre cb W eg hg
        have := nextReading_any g pre cb (KI s.size k) s.data.toList W eg (by rw [len_of']; exact hg) hd (by rw [len_of']; exact h9) (by rw [len_of']; exact cK_pos _ _ h1 h9 hk)
        rw [lst] at this
        rw [HA.out]; exact this
      clear hb hn hk hd HA
      go_enter Try.func18, Try.ntmps18
      go_wp2_with (first | (go_at_call 40; (with_reducible refine (HK.out _).mono ?_); rintro e w1 ⟨⟨g, pre, cb, rfl, eg, hg⟩, b1⟩; have EG := Lib.hid eg; have HGG := Lib.hid hg; clear eg hg) | (go_at_call 14; (with_reducible refine (HG.out _).mono ?_); rintro e w2 ⟨rfl, rfl⟩) | (go_at_call 41; (with_reducible refine (HNR.out _ _ _ _ EG.out HGG.out).mono ?_); rintro e w3 ⟨rfl, b3⟩))
      go_ret2
      exact ⟨ret_sb rfl HN.out.symm, chain b1 b3⟩
set_option maxHeartbeats 1000000 in
theorem FnExactNextOfKind_law (z0 : ByteArray) (z1 : ByteArray) (hz0 : z0.size ≤ maxLen) (hz1 : z1.size ≤ maxLen) (w : World) :
    Calls Try.prog 5 #[.string z0, .string z1] w fun e w' => e = .returned (.bool true) ∧ Below w.heap.size w w' := by
  have hz0' := hz0
  unfold maxLen at hz0'
  have hz1' := hz1
  unfold maxLen at hz1'
  have hs1 : ∀ W, Calls Try.prog 17 #[.string z0, .string z1] W fun e w' => e = .returned (.tuple #[.string (nkA z0 z1), .bool (nkB z0 z1)]) ∧ Below W.heap.size W w' := fun W => sNextOfKind_any z0 z1 W hz0
  have hi1 : ∀ W, Calls Try.prog 18 #[.string z0, .string z1] W fun e w' => e = .returned (.tuple #[.string (nkA z0 z1), .bool (nkB z0 z1)]) ∧ Below W.heap.size W w' := fun W => iNextOfKind_any z0 z1 W hz0
  obtain ⟨A0, hA0⟩ : ∃ A0 : ByteArray, A0 = nkA z0 z1 := ⟨_, rfl⟩
  obtain ⟨A1, hA1⟩ : ∃ A1 : Bool, A1 = nkB z0 z1 := ⟨_, rfl⟩
  rw [← hA0, ← hA1] at hs1 hi1
  have HS := Lib.hid hs1
  have HI := Lib.hid hi1
  clear hs1 hi1 hA0 hA1
  by_cases hb0 : (z0.size : Int) ≤ 1048576
  case neg =>
    go_enter Try.func5, Try.ntmps5
    go_wp2
    go_ret
    exact ⟨rfl, Below.refl _ _⟩
  case pos =>
    by_cases hb1 : (z1.size : Int) ≤ 1048576
    case neg =>
      go_enter Try.func5, Try.ntmps5
      go_wp2
      go_ret
      exact ⟨rfl, Below.refl _ _⟩
    case pos =>
      go_enter Try.func5, Try.ntmps5
      go_wp2_with (first | (go_at_call 17; (with_reducible refine (HS.out _).mono ?_); rintro e w1 ⟨rfl, b1⟩) | (go_at_call 18; (with_reducible refine (HI.out _).mono ?_); rintro e w2 ⟨rfl, b2⟩))
      go_ret
      exact ⟨rfl, chain b1 b2⟩
def mkA (s k : ByteArray) : Int := if nkB s k then (mlt s.data.toList (nx (KI s.size k) s.data.toList) : Nat) else 0
theorem mkA_no {s k : ByteArray} (h : nkB s k = false) : mkA s k = 0 := by unfold mkA; rw [h]; rfl
theorem mkA_yes {s k : ByteArray} (h : nkB s k = true) : mkA s k = (mlt s.data.toList (nx (KI s.size k) s.data.toList) : Nat) := by unfold mkA; rw [h]; rfl
theorem mlt_of (f t : List UInt8) (hf : digB f = true) (_hl : 1 ≤ f.length) : (mto f t = 0 → mlt f t = 10 ^ f.length) ∧ (mto f t ≠ 0 → mlt f t = mto f t) := by
  have h := nu_lt f.length f rfl hf
  have hR : 0 < 10 ^ f.length := Nat.pos_of_ne_zero (by simp)
  unfold mto mlt
  obtain ⟨R, hRR⟩ : ∃ R, R = 10 ^ f.length := ⟨_, rfl⟩
  rw [← hRR] at h hR ⊢
  obtain ⟨x, hx⟩ : ∃ x, x = nu t + R - nu f - 1 := ⟨_, rfl⟩
  rw [show nu t + R - nu f = x + 1 by omega, show x + 1 - 1 = x by omega]
  have hm := Nat.mod_lt x hR
  rw [Nat.add_mod x 1 R]
  by_cases hR1 : R = 1
  · subst hR1
    exact ⟨fun _ => by omega, fun h => by omega⟩
  · rw [Nat.mod_eq_of_lt (show 1 < R by omega)]
    by_cases hq : x % R + 1 = R
    · rw [hq, Nat.mod_self]; exact ⟨fun _ => rfl, fun h => absurd rfl h⟩
    · rw [Nat.mod_eq_of_lt (show x % R + 1 < R by omega)]
      exact ⟨fun h => by omega, fun _ => rfl⟩
set_option maxHeartbeats 1000000 in
theorem sMilesToKind_any (s k : ByteArray) (w : World) (hs : s.size ≤ maxLen) :
    Calls Try.prog 19 #[.string s, .string k] w fun e w' => e = .returned (.tuple #[.int .i64 (mkA s k), .bool (nkB s k)]) ∧ Below w.heap.size w w' := by
  have HNK := Lib.hid (fun W => sNextOfKind_any s k W hs)
  cases hn : nkB s k with
  | false =>
    have HA := Lib.hid (mkA_no hn)
    have HB := Lib.hid (nkA_no hn)
    rw [hn] at HNK
    clear hn
    go_enter Try.func19, Try.ntmps19
    go_wp2_with (go_at_call 17; (with_reducible refine (HNK.out _).mono ?_); rintro e w1 ⟨rfl, b1⟩)
    go_ret2
    exact ⟨ret_ib HA.out.symm rfl, b1⟩
  | true =>
    have HA := Lib.hid (mkA_yes hn)
    have hB := nkA_yes hn
    rw [hn] at HNK
    unfold nkB at hn
    rw [Bool.and_eq_true] at hn
    obtain ⟨hb, hk⟩ := hn
    obtain ⟨h1, h9, hd⟩ := (rdB_iff s).1 hb
    have hlen := nx_len (KI s.data.toList.length k) s.data.toList hd (by rw [len_of']; exact cK_pos _ _ h1 h9 hk)
    rw [len_of'] at hlen
    obtain ⟨l1, l2, _⟩ := hlen
    have hto := fun W => miTo_any s.data.toList (nx (KI s.size k) s.data.toList) W (by rw [len_of']; exact h9) (by rw [len_of']; exact l1) hd l2
    have hml := mlt_of s.data.toList (nx (KI s.size k) s.data.toList) hd (by rw [len_of']; exact h1)
    rw [len_of'] at hml
    rw [lst, ← hB] at hto
    have hmt : mto s.data.toList (nx (KI s.size k) s.data.toList) ≤ 1000000000 := by
      unfold mto
      rw [len_of']
      have := Nat.mod_lt (nu (nx (KI s.size k) s.data.toList) + 10 ^ s.size - nu s.data.toList) (show 0 < 10 ^ s.size from Nat.pos_of_ne_zero (by simp))
      have := (pow_bd' s.size h9).2
      omega
    obtain ⟨X, hX⟩ : ∃ X, X = nkA s k := ⟨_, rfl⟩
    rw [← hX] at HNK hto
    obtain ⟨M, hM⟩ : ∃ M, M = mto s.data.toList (nx (KI s.size k) s.data.toList) := ⟨_, rfl⟩
    rw [← hM] at hto hml hmt
    have HTO := Lib.hid hto
    have HALL := Lib.hid (fun W => miAll_any s.size W (by omega))
    by_cases hM0 : M = 0
    · have HX : Hid (((10 ^ s.size : Nat) : Int) = mkA s k) := by show _ = _; rw [HA.out, hml.1 hM0]
      obtain ⟨P, hP⟩ : ∃ P, P = 10 ^ s.size := ⟨_, rfl⟩
      rw [← hP] at HX HALL
      subst hM0
      clear hto hX hM hml hB hb hk hd l1 l2 hP h1
      go_enter Try.func19, Try.ntmps19
      go_wp2_with (first | (go_at_call 17; (with_reducible refine (HNK.out _).mono ?_); rintro e w1 ⟨rfl, b1⟩) | (go_at_call 35; (with_reducible refine (HTO.out _).mono ?_); rintro e w2 ⟨rfl, rfl⟩) | (go_at_call 42; (with_reducible refine (HALL.out _).mono ?_); rintro e w3 ⟨rfl, rfl⟩))
      go_ret2
      exact ⟨ret_ib HX.out rfl, b1⟩
    · have HX : Hid ((M : Int) = mkA s k) := by show _ = _; rw [HA.out, hml.2 hM0]
      have hMb : ((M : Int) == 0) = false := beq_eq_false_iff_ne.2 (by omega)
      clear hto hX hM hml hB hb hk hd l1 l2 h1 hM0
      go_enter Try.func19, Try.ntmps19
      go_wp2_with (first | (go_at_call 17; (with_reducible refine (HNK.out _).mono ?_); rintro e w1 ⟨rfl, b1⟩) | (go_at_call 35; (with_reducible refine (HTO.out _).mono ?_); rintro e w2 ⟨rfl, rfl⟩))
      go_ret2
      exact ⟨ret_ib HX.out rfl, b1⟩
set_option maxHeartbeats 1000000 in
theorem iMilesToKind_any (s k : ByteArray) (w : World) (hs : s.size ≤ maxLen) :
    Calls Try.prog 20 #[.string s, .string k] w fun e w' => e = .returned (.tuple #[.int .i64 (mkA s k), .bool (nkB s k)]) ∧ Below w.heap.size w w' := by
  have HG := Lib.hid (fun W => iIsReading_any s W hs)
  cases hk : kB k with
  | false =>
    have hn : nkB s k = false := by unfold nkB; rw [hk]; simp
    have HA := Lib.hid (mkA_no hn)
    have HN := Lib.hid hn
    have HK := Lib.hid (fun W => kindOf_no k W hk)
    clear hn hk
    go_enter Try.func20, Try.ntmps20
    go_wp2_with (go_at_call 40; (with_reducible refine (HK.out _).mono ?_); rintro e w1 ⟨rfl, rfl⟩)
    go_ret2
    exact ⟨ret_ib HA.out.symm HN.out.symm, Below.refl _ _⟩
  | true =>
    cases hb : rdB s with
    | false =>
      have hn : nkB s k = false := by unfold nkB; rw [hb]; rfl
      have HA := Lib.hid (mkA_no hn)
      have HN := Lib.hid hn
      have HK := Lib.hid (fun W => kindOf_yes k 9 W (by omega) hk)
      rw [hb] at HG
      clear hb hn hk
      go_enter Try.func20, Try.ntmps20
      go_wp2_with (first | (go_at_call 40; (with_reducible refine (HK.out _).mono ?_); rintro e w1 ⟨⟨g, pre, cb, rfl, eg, hg⟩, b1⟩) | (go_at_call 14; (with_reducible refine (HG.out _).mono ?_); rintro e w2 ⟨rfl, rfl⟩))
      go_ret2
      exact ⟨ret_ib HA.out.symm HN.out.symm, b1⟩
    | true =>
      have hn : nkB s k = true := by unfold nkB; rw [hb, hk]; rfl
      have HA := Lib.hid (mkA_yes hn)
      have HN := Lib.hid hn
      obtain ⟨h1, h9, hd⟩ := (rdB_iff s).1 hb
      have HK := Lib.hid (fun W => kindOf_yes k s.size W h9 hk)
      rw [hb] at HG
      have HNR : Hid (∀ g pre cb W, Ent g → Cnts g pre cb s.size (KI s.size k) W → Calls Try.prog 43 #[.func (.func g) pre cb, .string s] W fun e w' => e = .returned (.tuple #[.int .i64 (mkA s k), .bool true]) ∧ Below W.heap.size W w') := by
        intro g pre cb W eg hg
        have := milesToNext_any g pre cb (KI s.size k) s.data.toList W eg (by rw [len_of']; exact hg) hd (by rw [len_of']; exact h1) (by rw [len_of']; exact h9) (by rw [len_of']; exact cK_pos _ _ h1 h9 hk)
        rw [lst] at this
        rw [HA.out]; exact this
      clear hb hn hk hd HA
      go_enter Try.func20, Try.ntmps20
      go_wp2_with (first | (go_at_call 40; (with_reducible refine (HK.out _).mono ?_); rintro e w1 ⟨⟨g, pre, cb, rfl, eg, hg⟩, b1⟩; have EG := Lib.hid eg; have HGG := Lib.hid hg; clear eg hg) | (go_at_call 14; (with_reducible refine (HG.out _).mono ?_); rintro e w2 ⟨rfl, rfl⟩) | (go_at_call 43; (with_reducible refine (HNR.out _ _ _ _ EG.out HGG.out).mono ?_); rintro e w3 ⟨rfl, b3⟩))
      go_ret2
      exact ⟨ret_ib rfl HN.out.symm, chain b1 b3⟩
set_option maxHeartbeats 1000000 in
theorem FnExactMilesToKind_law (z0 : ByteArray) (z1 : ByteArray) (hz0 : z0.size ≤ maxLen) (hz1 : z1.size ≤ maxLen) (w : World) :
    Calls Try.prog 6 #[.string z0, .string z1] w fun e w' => e = .returned (.bool true) ∧ Below w.heap.size w w' := by
  have hz0' := hz0
  unfold maxLen at hz0'
  have hz1' := hz1
  unfold maxLen at hz1'
  have hs1 : ∀ W, Calls Try.prog 19 #[.string z0, .string z1] W fun e w' => e = .returned (.tuple #[.int .i64 (mkA z0 z1), .bool (nkB z0 z1)]) ∧ Below W.heap.size W w' := fun W => sMilesToKind_any z0 z1 W hz0
  have hi1 : ∀ W, Calls Try.prog 20 #[.string z0, .string z1] W fun e w' => e = .returned (.tuple #[.int .i64 (mkA z0 z1), .bool (nkB z0 z1)]) ∧ Below W.heap.size W w' := fun W => iMilesToKind_any z0 z1 W hz0
  obtain ⟨A0, hA0⟩ : ∃ A0 : Int, A0 = mkA z0 z1 := ⟨_, rfl⟩
  obtain ⟨A1, hA1⟩ : ∃ A1 : Bool, A1 = nkB z0 z1 := ⟨_, rfl⟩
  rw [← hA0, ← hA1] at hs1 hi1
  have HS := Lib.hid hs1
  have HI := Lib.hid hi1
  clear hs1 hi1 hA0 hA1
  by_cases hb0 : (z0.size : Int) ≤ 1048576
  case neg =>
    go_enter Try.func6, Try.ntmps6
    go_wp2
    go_ret
    exact ⟨rfl, Below.refl _ _⟩
  case pos =>
    by_cases hb1 : (z1.size : Int) ≤ 1048576
    case neg =>
      go_enter Try.func6, Try.ntmps6
      go_wp2
      go_ret
      exact ⟨rfl, Below.refl _ _⟩
    case pos =>
      go_enter Try.func6, Try.ntmps6
      go_wp2_with (first | (go_at_call 19; (with_reducible refine (HS.out _).mono ?_); rintro e w1 ⟨rfl, b1⟩) | (go_at_call 20; (with_reducible refine (HI.out _).mono ?_); rintro e w2 ⟨rfl, b2⟩))
      go_ret
      exact ⟨rfl, chain b1 b2⟩
end Go.Proofs.Ytlkeemnnncnibaa

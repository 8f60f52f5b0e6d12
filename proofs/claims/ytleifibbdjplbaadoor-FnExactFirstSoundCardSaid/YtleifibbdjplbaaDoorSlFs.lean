/-
  The first sound number: the program's numbers as texts.
-/
import Derived.Test.YtleifibbdjplbaaDoorSlFsM
import Derived.Test.YtleifibbdjplbaaDoorShelf
namespace Go.Proofs.YtleifibbdjplbaaDoor
open Go.RowKit

theorem nT_eq (q n : Nat) : nT (q + 2) n = zer q ++ [UInt8.ofNat (48 + n / 10), UInt8.ofNat (48 + n % 10)] := by
  have h0 : zer (q + 2) = zer q ++ [48, 48] := by unfold zer; rw [← List.replicate_append_replicate]; rfl
  have hl : (zer q).length = q := by simp [zer]
  have e1 : putD (zer (q + 2)) q (n / 10) = zer q ++ [UInt8.ofNat (48 + n / 10), 48] := by
    unfold putD
    rw [h0, List.take_left' hl, List.drop_append, hl, show q + 1 - q = 1 by omega, List.drop_of_length_le (by omega)]
    rfl
  unfold nT
  rw [show q + 2 - 2 = q by omega, show q + 2 - 1 = q + 1 by omega, e1]
  unfold putD
  rw [List.take_append, hl, show q + 1 - q = 1 by omega, List.take_of_length_le (by omega), List.drop_append, hl, show q + 1 + 1 - q = 2 by omega, List.drop_of_length_le (by omega)]
  simp
theorem dec_two (n : Nat) (h : n < 100) : Lib.decDigits n = if n < 10 then [dc n] else [dc (n / 10), dc (n % 10)] := by
  by_cases h10 : n < 10
  · rw [if_pos h10, dec_dig n (by omega)]
  · rw [if_neg h10, Lib.decDigits, dif_neg h10, dec_dig (n / 10) (by omega)]
    rfl
/-- A number below 100 as a text of L places. -/
def nS (L n : Nat) : ByteArray := ⟨(nT L n).toArray⟩
theorem nS_list (L n : Nat) : (nS L n).data.toList = nT L n := rfl
theorem nS_size (L n : Nat) (h : 2 ≤ L) : (nS L n).size = L := by show (nT L n).toArray.size = L; simp [nT_len L n h]
theorem nS_app (L n q : Nat) (h : n < 100) (hq : q + (Lib.decDigits n).length = L) (h2 : 2 ≤ L) : (⟨(zer q).toArray⟩ : ByteArray) ++ ⟨(Lib.decDigits n).toArray⟩ = nS L n := by
  apply ByteArray.ext
  rw [ByteArray.data_append]
  apply Array.ext'
  show ((zer q).toArray ++ (Lib.decDigits n).toArray).toList = ((nT L n).toArray).toList
  rw [Array.toList_append]
  show zer q ++ Lib.decDigits n = nT L n
  rw [dec_two n h] at hq ⊢
  by_cases h10 : n < 10
  · rw [if_pos h10] at hq ⊢
    obtain ⟨r, rfl⟩ : ∃ r, q = r + 1 := ⟨q - 1, by simp at hq; omega⟩
    rw [show L = r + 2 by simp at hq; omega, nT_eq, show n / 10 = 0 by omega, show n % 10 = n by omega]
    have : zer (r + 1) = zer r ++ [48] := by unfold zer; rw [List.replicate_succ']
    rw [this, List.append_assoc]
    rfl
  · rw [if_neg h10] at hq ⊢
    rw [show L = q + 2 by simp at hq; omega, nT_eq]
    rfl
set_option maxHeartbeats 1000000 in
theorem digitsN_any (n L : Nat) (w : World) (h1 : n < 100) (h2 : 2 ≤ L) (hL : L ≤ 12) :
    Calls Tryd.prog 45 #[.int .i64 n, .int .i64 L] w fun e w' => e = .returned (.string (nS L n)) ∧ Below w.heap.size w w' := by
  have hit : ∀ W : World, Calls Tryd.prog 67 #[.int .i64 n] W fun e w' => e = .returned (.string ⟨(Lib.decDigits n).toArray⟩) ∧ w' = W := fun W => Tryd.strconv_Itoa_small n h1 W
  have hdl : (Lib.decDigits n).length = 1 ∨ (Lib.decDigits n).length = 2 := by
    rw [dec_two n h1]
    by_cases h10 : n < 10
    · rw [if_pos h10]; exact .inl rfl
    · rw [if_neg h10]; exact .inr rfl
  obtain ⟨q, hq⟩ : ∃ q, q + (Lib.decDigits n).length = L := ⟨L - (Lib.decDigits n).length, by omega⟩
  have hA := nS_app L n q h1 hq h2
  obtain ⟨tx, htx⟩ : ∃ tx : ByteArray, tx = ⟨(Lib.decDigits n).toArray⟩ := ⟨_, rfl⟩
  have hsz : tx.size = (Lib.decDigits n).length := by rw [htx]; show (Lib.decDigits n).toArray.size = _; simp
  rw [← htx] at hit hA
  have hsum : (L : Int) - (tx.size : Int) = (q : Int) := by rw [hsz]; omega
  have hwq : IntKind.i64.wrap (q : Int) = (q : Int) := IntWalk.i64_in _ (by omega)
  have hzq : (⟨(zer q).toArray⟩ : ByteArray).size = q := zS_size q
  have hmax : max (0 : Int) (q : Int) = (q : Int) := by omega
  have htx2 : tx.size ≤ 2 := by rw [hsz]; omega
  have hq12 : q ≤ 12 := by omega
  have HZ : Hid (nS L n = (⟨(zer q).toArray⟩ : ByteArray) ++ tx) := hA.symm
  rw [HZ.out]
  have HIT := Lib.hid hit
  clear hit hA htx hsz hq hdl
  go_enter Tryd.func45, Tryd.ntmps45
  go_wp2_with (first | (go_at_call 67; (with_reducible refine (HIT.out _).mono ?_); rintro e w1 ⟨rfl, rfl⟩) | (go_at_call 68; (with_reducible refine (rep_any q _ hq12).mono ?_); rintro e w2 ⟨rfl, b2⟩))
  go_ret
  exact ⟨rfl, b2⟩
/-- The first n at or behind a place, of so many, for which something holds. -/
def fsF (P : Nat → Bool) : Nat → Nat → Nat
  | 0, n => n
  | f + 1, n => if P n = true then n else fsF P f (n + 1)
theorem fsF_at (P : Nat → Bool) (f : Nat) : ∀ n N, n ≤ N → N ≤ n + f → P N = true → (∀ j, n ≤ j → j < N → P j = false) → fsF P f n = N := by
  induction f with
  | zero => intro n N h1 h2 _ _; show n = N; omega
  | succ f ih =>
    intro n N h1 h2 h3 h4
    rw [fsF]
    by_cases e : n = N
    · rw [e, if_pos h3]
    · rw [if_neg (by rw [h4 n (Nat.le_refl _) (by omega)]; simp)]
      exact ih (n + 1) N (by omega) (by omega) h3 (fun j h5 h6 => h4 j (by omega) h6)
/-- What FirstSound answers. -/
def fsK (xs : List Int) (m : Int) : Nat := fsF (fun n => sndB xs m (nT xs.length n)) 99 1
def fsA (xs : List Int) (m : Int) : ByteArray := if chkB xs m = true then nS xs.length (fsK xs m) else ⟨#[]⟩
theorem fsK_spec {xs : List Int} {m : Int} (h : chkB xs m = true) : 1 ≤ fsK xs m ∧ fsK xs m < 100 ∧ sndB xs m (nT xs.length (fsK xs m)) = true ∧ ∀ j, 1 ≤ j → j < fsK xs m → sndB xs m (nT xs.length j) = false := by
  obtain ⟨h2, ho⟩ := (chkB_iff _ _).1 h
  obtain ⟨n, h1, h100, hn⟩ := ex_sound xs m h2 ho
  obtain ⟨k, hk1, hkn, hk, hl⟩ := first_least (fun n => sndB xs m (nT xs.length n) = true) h1 hn
  have hK : fsK xs m = k := fsF_at _ 99 1 k hk1 (by omega) hk (fun j hj hjk => by simpa using hl j hj hjk)
  rw [hK]
  exact ⟨hk1, by omega, hk, fun j hj hjk => by simpa using hl j hj hjk⟩
set_option maxHeartbeats 2000000 in
theorem iFs_any (xs : List Int) (m : Int) (v : Value) (w : World) (hn : xs.length ≤ 1048576) (h : RdI xs v w) :
    Calls Tryd.prog 15 #[.agg #[v, .int .i64 m]] w fun e w' => e = .returned (.tuple #[.string (fsA xs m), .bool (chkB xs m)]) ∧ Below w.heap.size w w' := by
  have HV := Lib.hid h
  obtain ⟨a, cap, rfl, _⟩ := h
  have HG := Lib.hid (fun W hr => isCheck_any xs m _ W hn hr : ∀ W, RdI xs (.slice a xs.length cap) W → _)
  obtain ⟨n, hnn⟩ : ∃ n, n = xs.length := ⟨_, rfl⟩
  cases hb : chkB xs m with
  | false =>
    have HZ : Hid (⟨#[]⟩ = fsA xs m) := by show _ = _; unfold fsA; rw [if_neg (by simp [hb])]
    rw [hb] at HG
    rw [← hnn] at HV HG ⊢
    clear hb hnn
    go_enter Tryd.func15, Tryd.ntmps15
    go_wp2_with (go_at_call 44; (with_reducible refine (HG.out _ (HV.out.below (by go_grown))).mono ?_); rintro e w1 ⟨rfl, b1⟩)
    go_ret2
    exact ⟨ret_sb HZ.out rfl, chain (w := w) (by go_grown) b1⟩
  | true =>
    obtain ⟨h2, ho⟩ := (chkB_iff _ _).1 hb
    have hn12 : xs.length ≤ 12 := ho.len
    obtain ⟨hN1, hN100, hNs, hNl⟩ := fsK_spec hb
    have HZ : Hid (fsA xs m = nS xs.length (fsK xs m)) := by show _ = _; unfold fsA; rw [if_pos hb]
    have HS : Hid (∀ k W, k < 100 → RdI xs (.slice a xs.length cap) W → Calls Tryd.prog 46 #[.agg #[.slice a xs.length cap, .int .i64 m], .string (nS xs.length k)] W fun e w' => e = .returned (.bool (sndB xs m (nT xs.length k))) ∧ Below W.heap.size W w') := fun k W hk hr => iSound_any xs m (nS xs.length k) _ W ho (nS_size _ _ h2) (nT_dig _ _ hk) hr
    obtain ⟨N, hN⟩ : ∃ N, N = fsK xs m := ⟨_, rfl⟩
    rw [← hN] at hN1 hN100 hNs hNl HZ
    rw [hb] at HG
    have HNS := Lib.hid hNs
    have HNL := Lib.hid hNl
    rw [← hnn] at HV HG h2 hn12 HNS HNL HZ HS ⊢
    clear hb hnn hN hNs hNl ho
    go_enter Tryd.func15, Tryd.ntmps15
    go_wp2_with (go_at_call 44; (with_reducible refine (HG.out _ (HV.out.below (by go_grown))).mono ?_); rintro e w1 ⟨rfl, b1⟩; have B1 : Below w.heap.size w w1 := chain (w := w) (by go_grown) b1; obtain ⟨c0, c1, hz⟩ := box2_kept b1)
    have HB1 := Lib.hid B1
    clear B1 b1
    go_loopw [4] (fun iv wr => ∃ k : Nat, 1 ≤ k ∧ k ≤ N ∧ iv = .int .i64 k ∧ Below w1.heap.size w1 wr) (fun iv _ => N - (intOf iv).toNat)
    case atStart => exact ⟨1, Nat.le_refl _, hN1, rfl, Below.refl _ _⟩
    case round =>
      obtain ⟨k, hk1, hkN, rfl, hb⟩ := hrel
      obtain ⟨wo, rfl⟩ : ∃ wo : World, wo = wr := ⟨_, rfl⟩
      obtain ⟨e0, e1, ez⟩ := keep2 hz c0 c1 hb
      have HBo := Lib.hid hb
      have HVo : Hid (RdI xs (.slice a n cap) wo) := HV.out.below (chain HB1.out hb)
      have hS := fun W hr => HS.out k W (by omega) hr
      have hns : (nS n k).size = n := nS_size n k h2
      by_cases hlt : k < N
      · rw [HNL.out k hk1 hlt] at hS
        have HSS := Lib.hid hS
        clear hS
        go_wp2_with (first
          | (go_at_call 45; (with_reducible refine (digitsN_any k n _ (by omega) h2 hn12).mono ?_); rintro e w3 ⟨rfl, b3⟩; obtain ⟨k0, k1, kz⟩ := keep2 ez e0 e1 b3)
          | (go_at_call 46; (with_reducible refine (HSS.out _ (HVo.out.below b3)).mono ?_); rintro e w4 ⟨rfl, b4⟩))
        go_roundw
        case rel => exact ⟨k + 1, by omega, by omega, by go_num, chain HBo.out (chain b3 b4)⟩
        case measure => simp [intOf]; omega
      · have hkn : k = N := by omega
        subst hkn
        rw [HNS.out] at hS
        have HSS := Lib.hid hS
        clear hS
        go_wp2_with (first
          | (go_at_call 45; (with_reducible refine (digitsN_any k n _ (by omega) h2 hn12).mono ?_); rintro e w3 ⟨rfl, b3⟩; obtain ⟨k0, k1, kz⟩ := keep2 ez e0 e1 b3)
          | (go_at_call 46; (with_reducible refine (HSS.out _ (HVo.out.below b3)).mono ?_); rintro e w4 ⟨rfl, b4⟩))
        go_ret2
        exact ⟨ret_sb HZ.out.symm rfl, chain HB1.out (chain HBo.out (chain b3 b4))⟩
end Go.Proofs.YtleifibbdjplbaaDoor

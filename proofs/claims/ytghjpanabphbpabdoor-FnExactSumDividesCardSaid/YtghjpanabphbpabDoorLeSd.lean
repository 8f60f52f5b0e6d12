/-
  Least numbers: the law of SumDivides.
-/
import Derived.Test.YtghjpanabphbpabDoorLeList
import Derived.Test.YtghjpanabphbpabDoorLeBsM
namespace Go.Proofs.YtghjpanabphbpabDoor
open Go.RowKit
set_option maxRecDepth 100000

/-- Its digit sum divides a number. -/
def sdB (x : Int) : Bool := decide (x % nsum x = 0)
/-- What both answer. -/
def SdIs (n h : Int) (ok : Bool) : Prop := (nuB n = true ∧ LeastIs sdB (max 1 n) 1000000000000 h ok) ∨ (nuB n = false ∧ ok = false ∧ h = 0)
theorem SdIs.uniq {n t s : Int} {a b : Bool} (u : SdIs n t a) (v : SdIs n s b) : t = s ∧ a = b := by
  rcases u with ⟨u1, u2⟩ | ⟨u1, rfl, rfl⟩ <;> rcases v with ⟨v1, v2⟩ | ⟨v1, rfl, rfl⟩
  · exact u2.uniq v2
  · rw [u1] at v1; cases v1
  · rw [u1] at v1; cases v1
  · exact ⟨rfl, rfl⟩
theorem nsum_top : nsum 1000000000000 = 1 := by
  have := nsum_ds (n := 1000000000000) (by omega)
  rw [show ((1000000000000 : Nat) : Int) = 1000000000000 from rfl] at this
  rw [this]; decide +kernel
theorem nsum_pos {x : Int} (h1 : 1 ≤ x) (h2 : x ≤ 1000000000000) : 1 ≤ nsum x ∧ nsum x ≤ 1000000000000 := by
  obtain ⟨m, rfl⟩ : ∃ m : Nat, x = (m : Int) := ⟨x.toNat, by omega⟩
  have h3 := ds_pos (n := m) (by omega) (by omega)
  rw [nsum_ds (n := m) (by omega)]
  have h4 := dsk_le 13 m (by omega)
  unfold ds at *; omega
theorem sd_end {x : Int} (h1 : 1 ≤ x) (h2 : x ≤ 1000000000000) (h : ¬ x % nsum x = 0) : x < 1000000000000 := by
  rcases Int.lt_or_le x 1000000000000 with c | c
  · exact c
  · have : x = 1000000000000 := by omega
    subst this
    exfalso; apply h; rw [nsum_top]; rfl
theorem sd_yes {n x : Int} (h0 : max 1 n ≤ x) (h2 : x ≤ 1000000000000) (h : x % nsum x = 0) (hb : ∀ y, max 1 n ≤ y → y < x → sdB y = false) : LeastIs sdB (max 1 n) 1000000000000 x true :=
  .inl ⟨rfl, h0, h2, by unfold sdB; rw [h]; rfl, hb⟩
theorem sd_next {a x : Int} (h : ¬ x % nsum x = 0) (hb : ∀ y, a ≤ y → y < x → sdB y = false) : ∀ y, a ≤ y → y < x + 1 → sdB y = false := fun y h1 h2 => by
  rcases Int.lt_or_le y x with c | c
  · exact hb y h1 c
  · have : y = x := by omega
    subst this; unfold sdB; rw [decide_eq_false h]
set_option maxHeartbeats 1000000 in
theorem iSd_any (n : Int) (w : World) (htab : Tab w) :
    Calls Tryd.prog 12 #[.int .i64 n] w fun e w' => (∃ (h : Int) (ok : Bool), e = .returned (.tuple #[.int .i64 h, .bool ok]) ∧ SdIs n h ok) ∧ Below w.heap.size w w' := by
  have HZ := Lib.hid (fun W => isNumber_any n W)
  cases hb : nuB n with
  | false =>
    have HR : Hid (SdIs n 0 false) := .inr ⟨hb, rfl, rfl⟩
    rw [hb] at HZ
    clear hb
    go_enter Tryd.func12, Tryd.ntmps12
    go_wp2_with (go_at_call 27; (with_reducible refine (HZ.out _).mono ?_); rintro e w' ⟨rfl, rfl⟩)
    go_ret2
    exact ⟨⟨0, false, rfl, HR.out⟩, Below.refl _ _⟩
  | true =>
    obtain ⟨h0, h1⟩ := (nuB_iff n).1 hb
    have HG : Hid (∀ h, LeastIs sdB (max 1 n) 1000000000000 h true → SdIs n h true) := fun h u => .inl ⟨hb, u⟩
    rw [hb] at HZ
    have HT := Lib.hid htab
    have hm1 : 1 ≤ max 1 n := by omega
    have hm2 : max 1 n ≤ 1000000000000 := by omega
    obtain ⟨m, hm⟩ : ∃ m, max 1 n = m := ⟨_, rfl⟩
    rw [hm] at HG hm1 hm2
    have HM := Lib.hid hm
    clear hb htab
    go_enter Tryd.func12, Tryd.ntmps12
    go_wp2_with (go_at_call 27; (with_reducible refine (HZ.out _).mono ?_); rintro e w' ⟨rfl, rfl⟩)
    go_loopw [4] (fun xv wr => ∃ x : Int, xv = .int .i64 x ∧ m ≤ x ∧ x ≤ 1000000000000 ∧ Hid (∀ y, m ≤ y → y < x → sdB y = false) ∧ Below w.heap.size w wr) (fun xv _ => (1000000000000 - intOf xv).toNat)
    case atStart => exact ⟨m, val_int (by first | exact HM.out | omega), Int.le_refl _, hm2, fun y a b => by omega, Below.refl _ _⟩
    case round =>
      obtain ⟨x, rfl, hx0, hx1, HB, hbl⟩ := hrel
      obtain ⟨t1, t2⟩ := nsum_pos (x := x) (by omega) hx1
      have HD := Lib.hid (digitSum_any x wr (by omega) hx1 (HT.out.keep hbl))
      by_cases hz : x % nsum x = 0
      · have HR := Lib.hid (HG.out x (by rw [← HM.out]; exact sd_yes (by rw [HM.out]; exact hx0) hx1 hz (by rw [HM.out]; exact HB.out)))
        obtain ⟨t, ht⟩ : ∃ t, nsum x = t := ⟨_, rfl⟩
        rw [ht] at t1 t2 HD hz
        have hne : (x % t != 0) = false := by simp [hz]
        have ht0 : t ≠ 0 := by omega
        clear ht HB hm
        go_wp2_with (go_at_call 28; (with_reducible refine HD.out.mono ?_); rintro e w1 ⟨rfl, b1⟩)
        go_ret2
        first | exact ⟨⟨x, true, rfl, HR.out⟩, hbl.trans (b1.mono hbl.size)⟩ | exact ⟨HR.out, hbl.trans (b1.mono hbl.size)⟩
      · have hlt := sd_end (by omega) hx1 hz
        have HB' := Lib.hid (sd_next hz HB.out)
        obtain ⟨t, ht⟩ : ∃ t, nsum x = t := ⟨_, rfl⟩
        rw [ht] at t1 t2 HD hz
        have hne : (x % t != 0) = true := by simp [hz]
        have ht0 : t ≠ 0 := by omega
        clear ht HB hm
        go_wp2_with (go_at_call 28; (with_reducible refine HD.out.mono ?_); rintro e w1 ⟨rfl, b1⟩)
        go_roundw
        case rel => exact ⟨x + 1, rfl, by omega, by omega, HB', hbl.trans (b1.mono hbl.size)⟩
        case measure => simp [intOf]; omega
theorem nsum_eq (n : Nat) : nsum (n : Int) = dsum (Lib.decDigits n) := by unfold nsum; rw [Int.toNat_natCast]
theorem take_getD' (D : List UInt8) (k : Nat) (h : k < D.length) : D.take (k + 1) = D.take k ++ [D.getD k 48] := by
  rw [List.take_succ_eq_append_getElem h, List.getD_eq_getElem?_getD, List.getElem?_eq_getElem h]; rfl
theorem getD_dig' {D : List UInt8} (hd : digB D = true) {k : Nat} (h : k < D.length) : 0 ≤ dv (D.getD k 48) ∧ dv (D.getD k 48) ≤ 9 := by
  refine dv_bd ?_
  rw [List.getD_eq_getElem?_getD, List.getElem?_eq_getElem h]
  unfold digB at hd
  rw [List.all_eq_true] at hd
  exact hd _ (List.getElem_mem _)
theorem dsum_13 (l : List UInt8) (h : digB l = true) (hl : l.length ≤ 13) : 0 ≤ dsum l ∧ dsum l ≤ 117 := by
  have := dsum_bd l h; omega
set_option maxHeartbeats 2000000 in
theorem sSd_yes (n : Nat) (w : World) (hn : n ≤ 1000000000000) (hb : nuB (n : Int) = true) :
    Calls Tryd.prog 11 #[.int .i64 n] w fun e w' => (∃ (h : Int) (ok : Bool), e = .returned (.tuple #[.int .i64 h, .bool ok]) ∧ SdIs n h ok) ∧ Below w.heap.size w w' := by
  have hz := fun W => leNumber_any (n : Int) W
  rw [hb] at hz
  have HZ := Lib.hid hz
  have HG : Hid (∀ h, LeastIs sdB (max 1 (n : Int)) 1000000000000 h true → SdIs n h true) := fun h u => .inl ⟨hb, u⟩
  obtain ⟨m, hm⟩ : ∃ m : Nat, max 1 (n : Int) = (m : Int) := ⟨max 1 n, by omega⟩
  have hm1 : 1 ≤ m := by omega
  have hm2 : m ≤ 1000000000000 := by omega
  rw [hm] at HG
  have HM := Lib.hid hm
  clear hb hz hm
  go_enter Tryd.func11, Tryd.ntmps11
  go_wp2_with (first | (go_at_call 15; (with_reducible refine (HZ.out _).mono ?_); rintro e w' ⟨rfl, rfl⟩) | (go_at_call 25; (with_reducible refine (mostI_any _ _ _).mono ?_); rintro e w' ⟨rfl, rfl⟩; rw [HM.out]))
  go_loopw [0] (fun xv wr => ∃ x : Nat, xv = .int .i64 x ∧ m ≤ x ∧ x ≤ 1000000000000 ∧ Hid (∀ y, (m : Int) ≤ y → y < (x : Int) → sdB y = false) ∧ Below w.heap.size w wr) (fun xv _ => (1000000000000 - intOf xv).toNat)
  case atStart => exact ⟨m, rfl, Nat.le_refl _, hm2, fun y a b => by omega, Below.refl _ _⟩
  case round =>
    obtain ⟨x, rfl, hx0, hx1, HB, hbl⟩ := hrel
    obtain ⟨wo, rfl⟩ : ∃ wo : World, wo = wr := ⟨_, rfl⟩
    obtain ⟨t1, t2⟩ := nsum_pos (x := (x : Int)) (by omega) (by omega)
    have HL := Lib.hid (leList_any x wo hx1)
    have hdg := dec_dig x
    have hl13 := dec_13 hx1
    have hl0 := dec_pos x
    have HE : Hid (nsum (x : Int) = dsum (Lib.decDigits x)) := nsum_eq x
    obtain ⟨D, hD⟩ : ∃ D, Lib.decDigits x = D := ⟨_, rfl⟩
    rw [hD] at hdg hl13 hl0 HL HE
    have HDG := Lib.hid hdg
    clear hD hdg
    go_wp2_with (go_at_call 26; refine HL.out.mono ?_; rintro e w1 ⟨⟨v, rfl, hi⟩, b1⟩; rcases hi.form with ⟨ao, cap', rfl, he⟩ | ⟨g, cap, rfl, _, hg, hc, _⟩)
    · rw [map_len] at he; omega
    · rw [map_len] at hc
      have HC := Lib.hid hc
      obtain ⟨l, hl⟩ : ∃ l, D.length = l := ⟨_, rfl⟩
      rw [hl] at hl13 hl0 HC ⊢
      have HLn := Lib.hid hl
      have hb2 := hbl.trans (b1.mono hbl.size)
      clear hc hi hl b1 hbl
      go_wp2
      go_loop [4, 17] (fun t i => ∃ (k : Nat) (S : Int), k ≤ l ∧ i = .int .i64 k ∧ t = .int .i64 S ∧ Hid (S = dsum (D.take k))) (fun _ i => l - (intOf i).toNat)
      case atStart => exact ⟨0, 0, Nat.zero_le _, rfl, rfl, rfl⟩
      case round =>
        obtain ⟨k, S, hk, rfl, rfl, HS⟩ := hrel
        have hSb := dsum_13 (D.take k) (digB_take _ _ HDG.out) (by have : (D.take k).length ≤ k := List.length_take_le _ _; omega)
        rw [← HS.out] at hSb
        obtain ⟨hS0, hS1⟩ := hSb
        by_cases hlt : k < l
        · have hkD : k < D.length := by rw [HLn.out]; exact hlt
          have hjb := getD_dig' HDG.out hkD
          have c0 := HC.out k hlt
          rw [map_getD D k hkD] at c0
          obtain ⟨z, hx⟩ : ∃ z : Int, dv (D.getD k 48) = z := ⟨_, rfl⟩
          rw [hx] at hjb c0
          obtain ⟨hz0, hz1⟩ := hjb
          have HS' : Hid (S + z = dsum (D.take (k + 1))) := by show _ = _; rw [take_getD' D k hkD, dsum_snoc, HS.out, ← hx]
          clear hx
          go_wp2
          go_round
          case rel => exact ⟨k + 1, _, by omega, by go_num, rfl, HS'⟩
          case measure => simp [intOf]; omega
        · have HR : Hid (S = nsum (x : Int)) := by show _ = _; rw [HE.out, HS.out, show k = D.length by rw [HLn.out]; omega, List.take_length]
          rw [← HR.out] at t1 t2
          have ht0 : S ≠ 0 := by omega
          by_cases hz : (x : Int) % S = 0
          · have HF := Lib.hid (HG.out (x : Int) (by rw [← HM.out]; exact sd_yes (by rw [HM.out]; omega) (by omega) (by rw [← HR.out]; exact hz) (by rw [HM.out]; exact HB.out)))
            clear HR HB
            go_wp2
            go_ret2
            first | exact ⟨⟨(x : Int), true, rfl, HF.out⟩, hb2⟩ | exact ⟨⟨(x : Int), .inr ⟨rfl, HF.out⟩⟩, hb2⟩ | exact ⟨⟨(x : Int), rfl, HF.out⟩, hb2⟩ | exact ⟨HF.out, hb2⟩
          · have hlt2 := sd_end (x := (x : Int)) (by omega) (by omega) (by rw [← HR.out]; exact hz)
            have HB' := Lib.hid (sd_next (x := (x : Int)) (by rw [← HR.out]; exact hz) HB.out)
            have hq : ((x : Int) % S == 0) = false := by simpa using hz
            clear HR HB hz
            go_wp2
            go_roundw
            case rel => exact ⟨x + 1, by go_num, by omega, by omega, by first | exact HB' | (show ∀ y, _; push_cast; exact HB'.out), hb2⟩
            case measure => simp [intOf]; omega
theorem sSd_any (n : Int) (w : World) :
    Calls Tryd.prog 11 #[.int .i64 n] w fun e w' => (∃ (h : Int) (ok : Bool), e = .returned (.tuple #[.int .i64 h, .bool ok]) ∧ SdIs n h ok) ∧ Below w.heap.size w w' := by
  cases hb : nuB n with
  | false =>
    have hz := fun W => leNumber_any n W
    rw [hb] at hz
    have HZ := Lib.hid hz
    have HR : Hid (SdIs n 0 false) := .inr ⟨hb, rfl, rfl⟩
    clear hb hz
    go_enter Tryd.func11, Tryd.ntmps11
    go_wp2_with (go_at_call 15; (with_reducible refine (HZ.out _).mono ?_); rintro e w' ⟨rfl, rfl⟩)
    go_ret2
    exact ⟨⟨0, false, rfl, HR.out⟩, Below.refl _ _⟩
  | true =>
    obtain ⟨h0, h1⟩ := (nuB_iff n).1 hb
    obtain ⟨m, rfl⟩ : ∃ m : Nat, n = (m : Int) := ⟨n.toNat, by omega⟩
    exact sSd_yes m w (by omega) hb
theorem FnExactSumDivides_law (n : Int) (_h0 : (Lit.int .i64 n).wf = true) (w : World) (htab : Tab w) :
    Calls Tryd.prog 5 #[.int .i64 n] w fun e w' => e = .returned (.bool true) ∧ Below w.heap.size w w' := by
  have HT := Lib.hid (fun W hW => iSd_any n W (htab.keep hW))
  clear htab
  go_enter Tryd.func5, Tryd.ntmps5
  go_wp2_with (first | (go_at_call 11; go_must ((with_reducible refine (sSd_any _ _).mono ?_); rintro e w1 ⟨⟨l, a, rfl, hr⟩, b1⟩; have HR := Lib.hid hr; clear hr)) | (go_at_call 12; go_must ((refine (HT.out _ b1).mono ?_); rintro e w2 ⟨⟨q, o, rfl, hq⟩, b2⟩; have e0 := (HR.out.uniq hq).1; have e1 := (HR.out.uniq hq).2; subst e0; subst e1; clear hq)))
  go_ret
  exact ⟨rfl, chain b1 b2⟩
end Go.Proofs.YtghjpanabphbpabDoor

/-
  Both functions tell alike whether every second digit makes the other ones' sum.
-/
import Derived.Test.YtapeohnjjmokkaaLucky2
import Derived.Test.YtapeohnjjmokkaaTwo
namespace Go.Proofs.Ytapeohnjjmokkaa
open Go.RowKit

/-- Every second byte of the first 2n ones: from the first one on (o = 0), from the second one on (o = 1). -/
def alt (s : ByteArray) (o : Nat) : Nat → List UInt8
  | 0 => []
  | n + 1 => alt s o n ++ [s.data.toList.getD (2 * n + o) 0]
theorem alt_len (s : ByteArray) (o n : Nat) : (alt s o n).length = n := by
  induction n with
  | zero => rfl
  | succ n ih => simp [alt, ih]
theorem get_alt (s : ByteArray) (k : Nat) (h : k < s.size) : s.data.toList.getD k 0 = s[k] := by
  have hk : k < s.data.toList.length := by simpa using h
  rw [List.getD_eq_getElem?_getD, List.getElem?_eq_getElem hk]; rfl
theorem alt_next (s : ByteArray) (o n : Nat) (h : 2 * n + o < s.size) : alt s o (n + 1) = alt s o n ++ [s[2 * n + o]] := by rw [alt, get_alt s _ h]
theorem alt_0 (s : ByteArray) (j k : Nat) (hk : k = 2 * j) (h : k < s.size) : alt s 0 (j + 1) = alt s 0 j ++ [s[k]] := by subst hk; exact alt_next s 0 j h
theorem alt_1 (s : ByteArray) (j k : Nat) (hk : k = 2 * j) (h : k + 1 < s.size) : alt s 1 (j + 1) = alt s 1 j ++ [s[k + 1]] := by subst hk; exact alt_next s 1 j h
theorem alt_dig (s : ByteArray) (o n : Nat) (ho : o ≤ 1) (h : 2 * n ≤ s.size) (hd : digB s.data.toList = true) : digB (alt s o n) = true := by
  induction n with
  | zero => rfl
  | succ n ih =>
    rw [alt_next s o n (by omega), digB_snoc, ih (by omega), Bool.true_and]
    exact (dgB_iff _).2 (digB_get s _ (by omega) hd)
/-- What IsEverySecond answers. -/
def evr (s : ByteArray) : Bool := decide (dsum (alt s 0 (s.size / 2)) = dsum (alt s 1 (s.size / 2)))

theorem evr_at (s : ByteArray) (j : Nat) (h : j = s.size / 2) : decide (dsum (alt s 0 j) = dsum (alt s 1 j)) = evr s := by subst h; rfl

theorem sEvery_yes (s : ByteArray) (w : World) (hs : s.size ≤ maxLen) (hg : goodB s = true) :
    Calls Try.prog 20 #[.string s] w fun e w' => e = .returned (.tuple #[.bool (evr s), .bool true]) ∧ Below w.heap.size w w' := by
  have hm := hs
  have h12 := good_le hg
  have hev := good_even hg
  have HD := Lib.hid (good_dig hg)
  unfold maxLen at hs
  go_enter Try.func20, Try.ntmps20
  go_wp2_with (first | (go_at_call 36; go_must ((with_reducible refine (tkGood_any _ _ hm).mono ?_); rintro e w' ⟨rfl, rfl⟩)))
  go_loopw [4, 5] (fun t i wr => ∃ j k : Nat, k = 2 * j ∧ k ≤ s.size ∧ i = .int .i64 k ∧ t = .int .i64 (dsum (alt s 0 j) - dsum (alt s 1 j)) ∧ Below w.heap.size w wr) (fun _ i _ => s.size - (intOf i).toNat)
  case atStart => exact ⟨0, 0, rfl, Nat.zero_le _, rfl, rfl, Below.refl _ _⟩
  case round =>
    obtain ⟨j, k, hkj, hk, rfl, rfl, hbl⟩ := hrel
    have hx := dsum_bd _ (alt_dig s 0 j (by omega) (by omega) HD.out)
    have hy := dsum_bd _ (alt_dig s 1 j (by omega) (by omega) HD.out)
    rw [alt_len] at hx hy
    obtain ⟨hx1, hx2⟩ := hx
    obtain ⟨hy1, hy2⟩ := hy
    by_cases hlt : k < s.size
    · have hlt1 : k + 1 < s.size := by omega
      obtain ⟨p1, p2⟩ := digB_get s k hlt HD.out
      obtain ⟨q1, q2⟩ := digB_get s (k + 1) hlt1 HD.out
      have E0 := Lib.hid (alt_0 s j k hkj hlt)
      have E1 := Lib.hid (alt_1 s j k hkj hlt1)
      have HK := Lib.hid hkj
      have hj5 : j ≤ 500 := by omega
      clear hkj
      have hb1 : (0 : Int) ≤ (k : Int) + 1 := by omega
      have hb2 : (k : Int) + 1 < (s.size : Int) := by omega
      have w1 : IntKind.i64.wrap ((k : Int) + 1) = (k : Int) + 1 := IntWalk.i64_in _ (by omega)
      have w2 : IntKind.i64.wrap (s[k].toNat : Int) = (s[k].toNat : Int) := IntWalk.i64_in _ (by omega)
      have w3 : IntKind.i64.wrap (s[k + 1].toNat : Int) = (s[k + 1].toNat : Int) := IntWalk.i64_in _ (by omega)
      have w4 : IntKind.i64.wrap ((s[k].toNat : Int) - (s[k + 1].toNat : Int)) = (s[k].toNat : Int) - (s[k + 1].toNat : Int) := IntWalk.i64_in _ (by omega)
      have w5 : IntKind.i64.wrap (dsum (alt s 0 j) - dsum (alt s 1 j) + ((s[k].toNat : Int) - (s[k + 1].toNat : Int))) = dsum (alt s 0 j) - dsum (alt s 1 j) + ((s[k].toNat : Int) - (s[k + 1].toNat : Int)) := IntWalk.i64_in _ (by omega)
      go_wp2_with fail
      go_quiet (fail)
      go_wp2
      go_roundw
      case rel => exact ⟨j + 1, k + 2, by have := HK.out; omega, by omega, by go_num, val_int (by rw [E0.out, E1.out, dsum_snoc, dsum_snoc, dv, dv]; omega), below_drewN hbl _⟩
      case measure => simp [intOf]; omega
    · have he : j = s.size / 2 := by omega
      have HK := Lib.hid hkj
      subst he
      clear hkj
      by_cases hd : dsum (alt s 0 (s.size / 2)) = dsum (alt s 1 (s.size / 2))
      · have hev : evr s = true := by simp [evr, hd]
        have HV := Lib.hid hev
        have hz : (dsum (alt s 0 (s.size / 2)) - dsum (alt s 1 (s.size / 2)) == 0) = true := by rw [hd]; simp
        have HDq := Lib.hid hd
        clear hd hev
        go_wp2_with fail
        go_ret2
        exact ⟨by rw [HV.out]; rfl, hbl⟩
      · have hev : evr s = false := by simp [evr, hd]
        have HV := Lib.hid hev
        have hz : (dsum (alt s 0 (s.size / 2)) - dsum (alt s 1 (s.size / 2)) == 0) = false := by simp; omega
        have HDq := Lib.hid hd
        clear hd hev
        go_wp2_with fail
        go_ret2
        exact ⟨by rw [HV.out]; rfl, hbl⟩
theorem fresh_two (B : Nat) (w : World) (hB : w.heap.size = B) : Two B B (B + 1) [] [] ((w.alloc (.cells #[.pointer none, .slice none 0 0] 70)).alloc (.cells #[.pointer none, .slice none 0 0] 70)) := by
  subst hB
  have h1 := Lib.fresh_isBuilder 70 5 w
  have hk : ((w.alloc (.cells #[.pointer none, .slice none 0 0] 70)).alloc (.cells #[.pointer none, .slice none 0 0] 70)).heap[w.heap.size]? = some (.cells #[.pointer none, .slice none 0 0] 70 (0, 0)) := by
    rw [Lib.alloc_old _ _ _ (by simp)]
    show (w.heap.push _)[w.heap.size]? = _
    simp
  have hk2 : ((w.alloc (.cells #[.pointer none, .slice none 0 0] 70)).alloc (.cells #[.pointer none, .slice none 0 0] 70)).heap[w.heap.size + 1]? = some (.cells #[.pointer none, .slice none 0 0] 70 (0, 0)) := by
    show ((w.heap.push _).push _)[w.heap.size + 1]? = _
    rw [Array.getElem?_push]
    simp
  have r1 := rowOf_at hk
  have r2 := rowOf_at hk2
  refine ⟨by omega, .inl ⟨Nat.le_refl _, _, hk, World.ownsRow_nil _ _ _ _, by simp [Value.ownBlock]⟩, .inl ⟨by omega, _, hk2, World.ownsRow_nil _ _ _ _, by simp [Value.ownBlock]⟩, ?_, ?_, ?_⟩
  · rw [r1]; simp [Value.ownBlock]
  · rw [r2]; simp [Value.ownBlock]
  · intro g h; rw [r1] at h; simp [Value.ownBlock] at h
theorem box_cell (a b c d : Int) (s : ByteArray) (w : World) : (((w.alloc (.cells #[.int .i64 a, .int .i64 b, .int .i64 c, .int .i64 d, .string s] 49)).alloc (.cells #[.pointer none, .slice none 0 0] 70)).alloc (.cells #[.pointer none, .slice none 0 0] 70)).cell? ⟨w.heap.size, 4, none⟩ = some (.string s) := by
  have hk : (((w.alloc (.cells #[.int .i64 a, .int .i64 b, .int .i64 c, .int .i64 d, .string s] 49)).alloc (.cells #[.pointer none, .slice none 0 0] 70)).alloc (.cells #[.pointer none, .slice none 0 0] 70)).heap[w.heap.size]? = some (.cells #[.int .i64 a, .int .i64 b, .int .i64 c, .int .i64 d, .string s] 49 (0, 0)) := by
    rw [Lib.alloc_old _ _ _ (by simp; omega), Lib.alloc_old _ _ _ (by simp)]
    show (w.heap.push _)[w.heap.size]? = _
    simp
  rw [Lib.cell_of_heap hk]; rfl
theorem halfL (l : List UInt8) (n : Nat) (w : World) (hl : l.length = n) (hn : n ≤ 1000) (hd : digB l = true) :
    Calls Try.prog 63 #[.string ⟨l.toArray⟩] w fun e w' => e = .returned (.agg #[.int .i64 n, .int .i64 (dsum l)]) ∧ Below w.heap.size w w' := by
  subst hl
  exact halfOf_any ⟨l.toArray⟩ w hn hd
theorem isb_below {T e : TypeId} {B b : Nat} {bs : List Value} {w w' : World} (h : Lib.IsBuilder T e B b bs w) (k : Below w.heap.size w w') : Lib.IsBuilder T e B b bs w' :=
  isb_keep h (k.block b (isb_lt h)) (fun g hg => k.block g (isb_row h hg))

set_option maxHeartbeats 400000 in
theorem iES_loop (a b c d : Int) (s : ByteArray) (w : World) (h2 : 2 ≤ s.size) (hs : s.size ≤ 12) (hev : s.size % 2 = 0) (hd : digB s.data.toList = true) :
    Calls Try.prog 45 #[.agg #[.int .i64 a, .int .i64 b, .int .i64 c, .int .i64 d, .string s]] w fun e w' => e = .returned (.bool (evr s)) ∧ Below w.heap.size w w' := by
  have HD := Lib.hid hd; clear hd
  go_enter Try.func45, Try.ntmps45
  go_wp2
  go_loopw [5] (fun i wr => ∃ j k : Nat, k = 2 * j ∧ k ≤ s.size ∧ i = .int .i64 k ∧ Two (w.heap.size + 1) (w.heap.size + 1) (w.heap.size + 1 + 1) (alt s 0 j) (alt s 1 j) wr ∧ wr.cell? ⟨w.heap.size, 4, none⟩ = some (.string s) ∧ Below w.heap.size w wr ∧ w.heap.size + 1 ≤ wr.heap.size) (fun i _ => s.size - (intOf i).toNat)
  case atStart => exact ⟨0, 0, rfl, Nat.zero_le _, rfl, fresh_two _ _ (by simp), box_cell _ _ _ _ _ _, by go_grown, by simp <;> omega⟩
  case round =>
    obtain ⟨j, k, hkj, hk, rfl, htwo, hcell, hbl, hsz⟩ := hrel
    have HT := Lib.hid htwo
    clear htwo
    have l0 := alt_len s 0 j
    have l1 := alt_len s 1 j
    by_cases hlt : k < s.size
    · have hlt1 : k + 1 < s.size := by omega
      have E0 := Lib.hid (alt_0 s j k hkj hlt)
      have E1 := Lib.hid (alt_1 s j k hkj hlt1)
      have HK := Lib.hid hkj
      have hj5 : j ≤ 500 := by omega
      clear hkj
      have hb1 : (0 : Int) ≤ (k : Int) + 1 := by omega
      have hb2 : (k : Int) + 1 < (s.size : Int) := by omega
      have w1 : IntKind.i64.wrap ((k : Int) + 1) = (k : Int) + 1 := IntWalk.i64_in _ (by omega)
      go_wp2_with (go_at_call 58; first | ((with_reducible refine (wb_two (w.heap.size + 1) (w.heap.size + 1) (w.heap.size + 1 + 1) _ _ s[k] _ HT.out (by omega) hsz).mono ?_); rintro e wa ⟨rfl, ta, ba, za⟩; have TA := Lib.hid ta.swap; have hca := ba.cell (p := ⟨w.heap.size, 4, none⟩) (by simp); have hba := hbl.trans (ba.mono (by omega)); clear ba ta) | (go_must (with_reducible refine (wb_two (w.heap.size + 1) (w.heap.size + 1 + 1) (w.heap.size + 1) _ _ s[k + 1] _ TA.out (by omega) (by omega)).mono ?_); rintro e wb ⟨rfl, tb, bb, zb⟩; have TB := Lib.hid tb.swap; have hcb := bb.cell (p := ⟨w.heap.size, 4, none⟩) (by simp); have hbb := hba.trans (bb.mono (by omega)); clear bb tb))
      go_roundw
      case rel => exact ⟨j + 1, k + 2, by have := HK.out; omega, by omega, by go_num, by rw [E0.out, E1.out]; exact TB.out, by rw [hcb, hca, hcell], hbb, by omega⟩
      case measure => simp [intOf]; omega
    · have he : j = s.size / 2 := by omega
      have hj5 : j ≤ 500 := by omega
      have HJ := Lib.hid he
      have D0 := Lib.hid (alt_dig s 0 j (by omega) (by omega) HD.out)
      have D1 := Lib.hid (alt_dig s 1 j (by omega) (by omega) HD.out)
      have hne : alt s 0 j ≠ [] := by intro e; rw [e] at l0; simp at l0; omega
      have HN := Lib.hid hne
      clear hkj he hne
      go_wp2_with (first | (go_at_call 59; first | (with_reducible refine (bstr_two (w.heap.size + 1) (w.heap.size + 1) (w.heap.size + 1 + 1) _ _ _ HT.out HN.out).mono ?_; rintro e wa ⟨rfl, ya, ba, za⟩; have YA := Lib.hid ya; have hba := hbl.trans (ba.mono (by omega)); clear ba ya) | (go_must (with_reducible refine (bstr_any (w.heap.size + 1) (w.heap.size + 1 + 1) _ _ YB.out (by omega)).mono ?_); rintro e wc ⟨rfl, bc⟩; have hbc := hbb.trans (bc.mono (by omega)); clear bc)) | (go_at_call 63; first | (with_reducible refine (halfL (alt s 0 j) j _ l0 (by omega) D0.out).mono ?_; rintro e wb ⟨rfl, bb⟩; have YB := Lib.hid (isb_below YA.out bb); have hbb := chain hba bb; have zb := bb.size; clear bb) | (go_must (with_reducible refine (halfL (alt s 1 j) j _ l1 (by omega) D1.out).mono ?_); rintro e wd ⟨rfl, bd⟩; have hbd := chain hbc bd; clear bd)) | (go_at_call 44; go_must (with_reducible refine (alike_any _ _ _ _ _).mono ?_); rintro e we ⟨rfl, be⟩; have hbe := chain hbd be; clear be))
      go_ret
      exact ⟨ret_bool (evr_at s j HJ.out), hbe⟩
theorem ofB_every (s : ByteArray) (w : World) (hs : s.size ≤ maxLen) (hg : goodB s = true) :
    Calls Try.prog 43 #[.string s, .func (Fn.func 45) #[] #[]] w fun e w' => e = .returned (.tuple #[.bool (evr s), .bool true]) ∧ Below w.heap.size w w' := by
  have HG := Lib.hid hg
  have g2 : 2 ≤ s.size := by have := good_sz hg; omega
  have g12 : s.size ≤ 12 := by have := good_sz hg; omega
  go_enter Try.func43, Try.ntmps43
  go_wp2_with (first | (go_at_call 15; go_must ((with_reducible refine (isTicket_any _ _ hs).mono ?_); rintro e w' ⟨rfl, rfl⟩)) | (go_at_call 62; go_must ((with_reducible refine (halvesOf_any _ _ (good_le HG.out) (good_even HG.out) (good_dig HG.out)).mono ?_); rintro e w1 ⟨rfl, hb⟩)) | (go_at_call 45; go_must ((with_reducible refine (iES_loop _ _ _ _ _ _ g2 g12 (good_even HG.out) (good_dig HG.out)).mono ?_); rintro e w2 ⟨rfl, hb2⟩)))
  go_ret2
  exact ⟨rfl, chain hb hb2⟩
theorem iEvery_any (s : ByteArray) (w : World) (hs : s.size ≤ maxLen) :
    Calls Try.prog 21 #[.string s] w fun e w' => e = .returned (.tuple #[.bool (goodB s && evr s), .bool (goodB s)]) ∧ Below w.heap.size w w' := by
  cases hg : goodB s with
  | true =>
    go_enter Try.func21, Try.ntmps21
    go_wp2_with (go_at_call 43; go_must ((with_reducible refine (ofB_every _ _ hs hg).mono ?_); rintro e w1 ⟨rfl, hb⟩))
    go_ret2
    exact ⟨rfl, by go_grown⟩
  | false =>
    go_enter Try.func21, Try.ntmps21
    go_wp2_with (go_at_call 43; go_must ((with_reducible refine (ofB_no _ _ _ hs hg).mono ?_); rintro e w1 ⟨rfl, hb⟩))
    go_ret2
    exact ⟨rfl, by go_grown⟩
theorem sEvery_any (s : ByteArray) (w : World) (hs : s.size ≤ maxLen) :
    Calls Try.prog 20 #[.string s] w fun e w' => e = .returned (.tuple #[.bool (goodB s && evr s), .bool (goodB s)]) ∧ Below w.heap.size w w' := by
  cases hg : goodB s with
  | true => exact sEvery_yes s w hs hg
  | false =>
    go_enter Try.func20, Try.ntmps20
    go_wp2_with (first | (go_at_call 36; go_must ((with_reducible refine (tkGood_any _ _ hs).mono ?_); rintro e w' ⟨rfl, rfl⟩)))
    go_ret2
    exact ⟨rfl, by go_grown⟩
theorem FnExactIsEverySecond_law (s : ByteArray) (hs : s.size ≤ maxLen) (w : World) :
    Calls Try.prog 6 #[.string s] w fun e w' => e = .returned (.bool true) ∧ Below w.heap.size w w' := by
  have hm := hs
  unfold maxLen at hs
  by_cases hb : s.size ≤ 1048576
  all_goals
    go_enter Try.func6, Try.ntmps6
    go_wp2_with (first | (go_at_call 20; refine (sEvery_any _ _ hm).mono ?_; rintro e w1 ⟨rfl, hb1⟩; have H1 := chain (w := w) (by go_grown) hb1; clear hb1) | (go_at_call 21; refine (iEvery_any _ _ hm).mono ?_; rintro e w2 ⟨rfl, hb2⟩; have H2 := chain (w := w) (by go_grown) hb2; clear hb2))
    go_ret
    exact ⟨rfl, by go_grown⟩
end Go.Proofs.Ytapeohnjjmokkaa

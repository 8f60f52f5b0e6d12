/-
  The laws of TurnTicket and NinesTicket.
-/
import Derived.Test.YtlkeemnnncnibabBld
import Derived.Test.YtlkeemnnncnibabNum
namespace Go.Proofs.Ytlkeemnnncnibab
open Go.RowKit

theorem byteCells_snoc (l : List UInt8) (c : UInt8) : Lib.byteCells (l ++ [c]) = Lib.byteCells l ++ [.int .u8 c.toNat] := by simp [Lib.byteCells]
/-- The digits from the end. -/
def rv (s : ByteArray) : List UInt8 := s.data.toList.reverse

theorem rv_snoc (s : ByteArray) (k : Nat) (h : k < s.size) : (rv s).take (k + 1) = (rv s).take k ++ [s[s.size - 1 - k]'(by omega)] := by
  have hl : k < (rv s).length := by simpa [rv] using h
  rw [List.take_succ_eq_append_getElem hl]
  congr 2
  simp only [rv, List.getElem_reverse]
  rfl
theorem rv_all (s : ByteArray) : (rv s).take s.size = rv s := List.take_of_length_le (by simp [rv])
theorem fresh_box (a b c d : Int) (s : ByteArray) (w : World) : Lib.IsBuilder 70 5 (w.heap.size + 1) (w.heap.size + 1) [] ((w.alloc (.cells #[.int .i64 a, .int .i64 b, .int .i64 c, .int .i64 d, .string s] 56)).alloc (.cells #[.pointer none, .slice none 0 0] 70)) := by
  have := Lib.fresh_isBuilder 70 5 (w.alloc (.cells #[.int .i64 a, .int .i64 b, .int .i64 c, .int .i64 d, .string s] 56))
  rw [World.size_alloc] at this; exact this
theorem bytes_len (l : List UInt8) (k : Nat) : (Lib.byteCells (l.take k)).length ≤ k := by simp [Lib.byteCells]; omega

set_option maxHeartbeats 400000 in
theorem turnedF_any (s : ByteArray) (w : World) (hs : s.size ≤ 12) :
    Calls Try.prog 44 #[.string s] w fun e w' => e = .returned (.string ⟨(rv s).toArray⟩) ∧ Below w.heap.size w w' := by
  go_enter Try.func44, Try.ntmps44
  go_wp2
  go_loopw [7] (fun i wr => ∃ k : Nat, k ≤ s.size ∧ i = .int .i64 k ∧ Lib.IsBuilder 70 5 w.heap.size w.heap.size (Lib.byteCells ((rv s).take k)) wr ∧ Below w.heap.size w wr ∧ w.heap.size ≤ wr.heap.size) (fun i _ => s.size - (intOf i).toNat)
  case atStart => exact ⟨0, Nat.zero_le _, rfl, Lib.fresh_isBuilder 70 5 w, by go_grown, by simp⟩
  case round =>
    obtain ⟨k, hk, rfl, hbld, hbl, hsz⟩ := hrel
    have HB := Lib.hid hbld
    clear hbld
    by_cases hlt : k < s.size
    · go_wp2_with (go_at_call 63; go_must (refine (wb_any w.heap.size _ _ _ _ HB.out (by have := bytes_len (rv s) k; omega) hsz).mono ?_); rintro e w1 ⟨rfl, h1, b1, _⟩; have H1 := Lib.hid h1; have hz := b1.size; have hb := hbl.trans (b1.mono (by omega)); clear b1 h1)
      go_roundw
      case rel => exact ⟨k + 1, by omega, by go_num, by rw [rv_snoc s k hlt, byteCells_snoc]; exact .inr H1.out, hb, by omega⟩
      case measure => simp [intOf]; omega
    · have he : (rv s).take k = rv s := by rw [show k = s.size by omega]; exact rv_all s
      have HE := Lib.hid he; clear he
      go_wp2_with (go_at_call 64; go_must (refine (bstr_any w.heap.size _ _ _ HB.out hsz).mono ?_); rintro e w1 ⟨rfl, b1⟩)
      go_ret
      exact ⟨by rw [HE.out]; rfl, hbl.trans (b1.mono (by omega))⟩
theorem turned_any (a b c d : Int) (s : ByteArray) (w : World) (hs : s.size ≤ 12) :
    Calls Try.prog 50 #[.agg #[.int .i64 a, .int .i64 b, .int .i64 c, .int .i64 d, .string s]] w fun e w' => e = .returned (.string ⟨(rv s).toArray⟩) ∧ Below w.heap.size w w' := by
  have HN : Hid (∀ W, Calls Try.prog 44 #[.string s] W fun e w' => e = .returned (.string ⟨(rv s).toArray⟩) ∧ Below W.heap.size W w') := fun W => turnedF_any s W hs
  go_enter Try.func50, Try.ntmps50
  go_wp2_with (go_at_call 44; (with_reducible refine (HN.out _).mono ?_); rintro e w1 ⟨rfl, b1⟩)
  go_ret
  exact ⟨rfl, chain (w := w) (by go_grown) b1⟩
set_option maxRecDepth 100000 in
theorem l1Num_dig (n : Int) (w : World) (h0 : 0 ≤ n) (h9 : n ≤ 9) :
    Calls Try.prog 51 #[.int .i64 n] w fun e w' => e = .returned (.string ⟨#[UInt8.ofNat (48 + n).toNat]⟩) ∧ Below w.heap.size w w' := by
  have hcv : (convert 68 9 (.slice (some ⟨w.heap.size, 0, none⟩) 1 1)).run Try.prog (w.alloc (.cells #[.int .u8 (48 + n)] 5)) = .ok (.string ⟨[UInt8.ofNat (48 + n).toNat].toArray⟩) (w.alloc (.cells #[.int .u8 (48 + n)] 5)) :=
    run_convert_bytes_back (P := Try.prog) (w.alloc (.cells #[.int .u8 (48 + n)] 5)) 68 9 5 ⟨w.heap.size, 0, none⟩ 1 [UInt8.ofNat (48 + n).toNat] Try.underlying68 Try.underlying5 Try.underlying9 (by
      intro j hj
      match j, hj with
      | 0, _ => simp [Addr.add]; omega)
  go_enter Try.func51, Try.ntmps51
  go_wp2
  go_ret
  exact ⟨rfl, by go_grown⟩
/-- One byte more. -/
theorem str_snoc (l : List UInt8) (s : ByteArray) (k : Nat) (h : k < s.size) : (⟨l.toArray⟩ : ByteArray) ++ s.extract k (k + 1) = ⟨(l ++ [s[k]]).toArray⟩ := by
  apply ByteArray.ext
  simp [ByteArray.data_append, ByteArray.data_extract]
  have hk : k < s.data.toList.length := by simpa using h
  rw [List.drop_eq_getElem_cons hk]
  simp; rfl
theorem val_str {l m : List UInt8} (h : l = m) : Value.string ⟨l.toArray⟩ = .string ⟨m.toArray⟩ := by rw [h]
theorem ret_sb {a b : ByteArray} {p : Bool} (h : a = b) : Ending.returned (.tuple #[.string a, .bool p]) = .returned (.tuple #[.string b, .bool p]) := by rw [h]
theorem sTurn_yes (s : ByteArray) (w : World) (hs : s.size ≤ maxLen) (hg : goodB s = true) :
    Calls Try.prog 21 #[.string s] w fun e w' => e = .returned (.tuple #[.string ⟨(rv s).toArray⟩, .bool true]) ∧ Below w.heap.size w w' := by
  have hm := hs
  have h12 := good_12 hg
  unfold maxLen at hs
  go_enter Try.func21, Try.ntmps21
  go_wp2_with (first | (go_at_call 45; go_must ((with_reducible refine (tkGood_any _ _ hm).mono ?_); rintro e w' ⟨rfl, rfl⟩)))
  go_loop [4, 5] (fun t i => ∃ k : Nat, k ≤ s.size ∧ i = .int .i64 ((s.size : Int) - 1 - k) ∧ t = .string ⟨((rv s).take k).toArray⟩) (fun _ i => (intOf i + 1).toNat)
  case atStart => exact ⟨0, Nat.zero_le _, by simp, rfl⟩
  case round =>
    obtain ⟨k, hk, rfl, rfl⟩ := hrel
    by_cases hlt : k < s.size
    · go_wp2
      refine ⟨⟨k + 1, by omega, val_int (by omega), ?_⟩, by simp [intOf]; omega⟩
      rw [str_snoc _ _ _ (by omega), rv_snoc s k hlt]
    · have he : (rv s).take k = rv s := by rw [show k = s.size by omega]; exact rv_all s
      have HE := Lib.hid he; clear he
      go_wp2
      go_ret2
      exact ⟨ret_sb (by rw [HE.out]), by go_grown⟩

/-- What makes 9 with a digit. -/
def nn (c : UInt8) : UInt8 := UInt8.ofNat (105 - c.toNat)
theorem nn_nat (c : UInt8) (h : (c.toNat : Int) ≤ 57) : ((nn c).toNat : Int) = 105 - (c.toNat : Int) := by unfold nn; rw [UInt8.toNat_ofNat']; omega
def nines (s : ByteArray) : List UInt8 := s.data.toList.map nn
theorem nines_snoc (s : ByteArray) (k : Nat) (h : k < s.size) : (nines s).take (k + 1) = (nines s).take k ++ [nn s[k]] := by
  unfold nines
  rw [← List.map_take, ← List.map_take, take_snoc s k h, List.map_append]; rfl
theorem nines_all (s : ByteArray) : (nines s).take s.size = nines s := List.take_of_length_le (by simp [nines])

set_option maxHeartbeats 400000 in
theorem ninesF_any (s : ByteArray) (w : World) (hs : s.size ≤ 12) (hd : digB s.data.toList = true) :
    Calls Try.prog 69 #[.string s] w fun e w' => e = .returned (.string ⟨(nines s).toArray⟩) ∧ Below w.heap.size w w' := by
  have HD := Lib.hid hd; clear hd
  go_enter Try.func69, Try.ntmps69
  go_wp2
  go_loopw [7] (fun i wr => ∃ k : Nat, k ≤ s.size ∧ i = .int .i64 k ∧ Lib.IsBuilder 70 5 w.heap.size w.heap.size (Lib.byteCells ((nines s).take k)) wr ∧ Below w.heap.size w wr ∧ w.heap.size ≤ wr.heap.size) (fun i _ => s.size - (intOf i).toNat)
  case atStart => exact ⟨0, Nat.zero_le _, rfl, Lib.fresh_isBuilder 70 5 w, by go_grown, by simp⟩
  case round =>
    obtain ⟨k, hk, rfl, hbld, hbl, hsz⟩ := hrel
    have HB := Lib.hid hbld
    clear hbld
    by_cases hlt : k < s.size
    · have hc := digB_get s k hlt HD.out
      obtain ⟨hx1, hx2⟩ := hc
      have HN := Lib.hid (nn_nat s[k] hx2)
      go_wp2_with (go_at_call 63; go_must (refine (wb_any w.heap.size _ _ _ _ HB.out (by have := bytes_len (nines s) k; omega) hsz).mono ?_); rintro e w1 ⟨rfl, h1, b1, _⟩; have H1 := Lib.hid h1; have hz := b1.size; have hb := hbl.trans (b1.mono (by omega)); clear b1 h1)
      go_roundw
      case rel => exact ⟨k + 1, by omega, by go_num, by rw [nines_snoc s k hlt, byteCells_snoc, HN.out]; exact .inr H1.out, hb, by omega⟩
      case measure => simp [intOf]; omega
    · have he : (nines s).take k = nines s := by rw [show k = s.size by omega]; exact nines_all s
      have HE := Lib.hid he; clear he
      go_wp2_with (go_at_call 64; go_must (refine (bstr_any w.heap.size _ _ _ HB.out hsz).mono ?_); rintro e w1 ⟨rfl, b1⟩)
      go_ret
      exact ⟨by rw [HE.out]; rfl, hbl.trans (b1.mono (by omega))⟩
theorem nines_any (a b c d : Int) (s : ByteArray) (w : World) (hs : s.size ≤ 12) (hd : digB s.data.toList = true) :
    Calls Try.prog 52 #[.agg #[.int .i64 a, .int .i64 b, .int .i64 c, .int .i64 d, .string s]] w fun e w' => e = .returned (.string ⟨(nines s).toArray⟩) ∧ Below w.heap.size w w' := by
  have HN : Hid (∀ W, Calls Try.prog 69 #[.string s] W fun e w' => e = .returned (.string ⟨(nines s).toArray⟩) ∧ Below W.heap.size W w') := fun W => ninesF_any s W hs hd
  go_enter Try.func52, Try.ntmps52
  go_wp2_with (go_at_call 69; (with_reducible refine (HN.out _).mono ?_); rintro e w1 ⟨rfl, b1⟩)
  go_ret
  exact ⟨rfl, chain (w := w) (by go_grown) b1⟩
theorem str_one (l : List UInt8) (c : UInt8) : (⟨l.toArray⟩ : ByteArray) ++ ⟨#[c]⟩ = ⟨(l ++ [c]).toArray⟩ := by
  apply ByteArray.ext
  simp [ByteArray.data_append]
theorem nn_num (c : UInt8) (h1 : 48 ≤ (c.toNat : Int)) (h2 : (c.toNat : Int) ≤ 57) : UInt8.ofNat (48 + (9 - (c.toNat - 48))) = nn c := by
  unfold nn; congr 1; omega
theorem sNines_yes (s : ByteArray) (w : World) (hs : s.size ≤ maxLen) (hg : goodB s = true) :
    Calls Try.prog 23 #[.string s] w fun e w' => e = .returned (.tuple #[.string ⟨(nines s).toArray⟩, .bool true]) ∧ Below w.heap.size w w' := by
  have hm := hs
  have h12 := good_12 hg
  have HD := Lib.hid (good_dig hg)
  unfold maxLen at hs
  go_enter Try.func23, Try.ntmps23
  go_wp2_with (first | (go_at_call 45; go_must ((with_reducible refine (tkGood_any _ _ hm).mono ?_); rintro e w' ⟨rfl, rfl⟩)))
  go_loopw [4, 5] (fun t i wr => ∃ k : Nat, k ≤ s.size ∧ i = .int .i64 k ∧ t = .string ⟨((nines s).take k).toArray⟩ ∧ Below w.heap.size w wr) (fun _ i _ => s.size - (intOf i).toNat)
  case atStart => exact ⟨0, Nat.zero_le _, rfl, rfl, Below.refl _ _⟩
  case round =>
    obtain ⟨k, hk, rfl, rfl, hbl⟩ := hrel
    by_cases hlt : k < s.size
    · have hc := digB_get s k hlt HD.out
      obtain ⟨hx1, hx2⟩ := hc
      have HN := Lib.hid (nn_num s[k] hx1 hx2)
      go_wp2_with (go_at_call 51; go_must (refine (l1Num_dig _ _ (by omega) (by omega)).mono ?_); rintro e w1 ⟨rfl, b1⟩; have hb := chain hbl b1; clear b1)
      go_roundw
      case rel => exact ⟨k + 1, by omega, by go_num, by rw [HN.out, str_one, nines_snoc s k hlt], hb⟩
      case measure => simp [intOf]; omega
    · have he : (nines s).take k = nines s := by rw [show k = s.size by omega]; exact nines_all s
      have HE := Lib.hid he; clear he
      go_wp2
      go_ret2
      exact ⟨ret_sb (by rw [HE.out]), hbl⟩
def sw (s : ByteArray) : ByteArray := s.extract (s.size / 2) s.size ++ s.extract 0 (s.size / 2)
theorem ofS_no (s : ByteArray) (f : Value) (w : World) (hs : s.size ≤ maxLen) (hg : goodB s = false) :
    Calls Try.prog 49 #[.string s, f] w fun e w' => e = .returned (.tuple #[.string ⟨#[]⟩, .bool false]) ∧ Below w.heap.size w w' := by
  go_enter Try.func49, Try.ntmps49
  go_wp2_with (first | (go_at_call 66; go_must ((with_reducible refine (isTicket_any _ _ hs).mono ?_); rintro e w' ⟨rfl, rfl⟩)))
  go_ret2
  exact ⟨rfl, by go_grown⟩
theorem ofS_turned (s : ByteArray) (w : World) (hs : s.size ≤ maxLen) (hg : goodB s = true) :
    Calls Try.prog 49 #[.string s, .func (Fn.func 50) #[] #[]] w fun e w' => e = .returned (.tuple #[.string ⟨(rv s).toArray⟩, .bool true]) ∧ Below w.heap.size w w' := by
  have HG := Lib.hid hg
  go_enter Try.func49, Try.ntmps49
  go_wp2_with (first | (go_at_call 66; go_must ((with_reducible refine (isTicket_any _ _ hs).mono ?_); rintro e w' ⟨rfl, rfl⟩)) | (go_at_call 67; go_must ((with_reducible refine (halvesOf_any _ _ (good_le' HG.out) (good_even' HG.out) (good_dig HG.out)).mono ?_); rintro e w1 ⟨rfl, hb⟩)) | (go_at_call 50; go_must ((with_reducible refine (turned_any _ _ _ _ _ _ (good_12 HG.out)).mono ?_); rintro e w2 ⟨rfl, hb2⟩)))
  go_ret2
  exact ⟨rfl, chain hb hb2⟩
theorem ofS_nines (s : ByteArray) (w : World) (hs : s.size ≤ maxLen) (hg : goodB s = true) :
    Calls Try.prog 49 #[.string s, .func (Fn.func 52) #[] #[]] w fun e w' => e = .returned (.tuple #[.string ⟨(nines s).toArray⟩, .bool true]) ∧ Below w.heap.size w w' := by
  have HG := Lib.hid hg
  go_enter Try.func49, Try.ntmps49
  go_wp2_with (first | (go_at_call 66; go_must ((with_reducible refine (isTicket_any _ _ hs).mono ?_); rintro e w' ⟨rfl, rfl⟩)) | (go_at_call 67; go_must ((with_reducible refine (halvesOf_any _ _ (good_le' HG.out) (good_even' HG.out) (good_dig HG.out)).mono ?_); rintro e w1 ⟨rfl, hb⟩)) | (go_at_call 52; go_must ((with_reducible refine (nines_any _ _ _ _ _ _ (good_12 HG.out) (good_dig HG.out)).mono ?_); rintro e w2 ⟨rfl, hb2⟩)))
  go_ret2
  exact ⟨rfl, chain hb hb2⟩
theorem iTurnTicket_yes (s : ByteArray) (w : World) (hs : s.size ≤ maxLen) (hg : goodB s = true) :
    Calls Try.prog 22 #[.string s] w fun e w' => e = .returned (.tuple #[.string ⟨(rv s).toArray⟩, .bool true]) ∧ Below w.heap.size w w' := by
  go_enter Try.func22, Try.ntmps22
  go_wp2_with (go_at_call 49; go_must ((with_reducible refine (ofS_turned _ _ hs hg).mono ?_); rintro e w1 ⟨rfl, hb⟩))
  go_ret2
  exact ⟨rfl, by go_grown⟩
theorem iTurnTicket_no (s : ByteArray) (w : World) (hs : s.size ≤ maxLen) (hg : goodB s = false) :
    Calls Try.prog 22 #[.string s] w fun e w' => e = .returned (.tuple #[.string ⟨#[]⟩, .bool false]) ∧ Below w.heap.size w w' := by
  go_enter Try.func22, Try.ntmps22
  go_wp2_with (go_at_call 49; go_must ((with_reducible refine (ofS_no _ _ _ hs hg).mono ?_); rintro e w1 ⟨rfl, hb⟩))
  go_ret2
  exact ⟨rfl, by go_grown⟩
theorem sTurnTicket_no (s : ByteArray) (w : World) (hs : s.size ≤ maxLen) (hg : goodB s = false) :
    Calls Try.prog 21 #[.string s] w fun e w' => e = .returned (.tuple #[.string ⟨#[]⟩, .bool false]) ∧ Below w.heap.size w w' := by
  go_enter Try.func21, Try.ntmps21
  go_wp2_with (first | (go_at_call 45; go_must ((with_reducible refine (tkGood_any _ _ hs).mono ?_); rintro e w' ⟨rfl, rfl⟩)))
  go_ret2
  exact ⟨rfl, by go_grown⟩
theorem FnExactTurnTicket_law (s : ByteArray) (hs : s.size ≤ maxLen) (w : World) :
    Calls Try.prog 8 #[.string s] w fun e w' => e = .returned (.bool true) ∧ Below w.heap.size w w' := by
  have hm := hs
  unfold maxLen at hs
  by_cases hb : s.size ≤ 1048576
  · cases hg : goodB s with
    | true =>
      go_enter Try.func8, Try.ntmps8
      go_wp2_with (first | (go_at_call 21; refine (sTurn_yes _ _ hm hg).mono ?_; rintro e w1 ⟨rfl, hb1⟩; have H1 := chain (w := w) (by go_grown) hb1; clear hb1) | (go_at_call 22; refine (iTurnTicket_yes _ _ hm hg).mono ?_; rintro e w2 ⟨rfl, hb2⟩; have H2 := chain (w := w) (by go_grown) hb2; clear hb2))
      go_ret
      exact ⟨rfl, by go_grown⟩
    | false =>
      go_enter Try.func8, Try.ntmps8
      go_wp2_with (first | (go_at_call 21; refine (sTurnTicket_no _ _ hm hg).mono ?_; rintro e w1 ⟨rfl, hb1⟩; have H1 := chain (w := w) (by go_grown) hb1; clear hb1) | (go_at_call 22; refine (iTurnTicket_no _ _ hm hg).mono ?_; rintro e w2 ⟨rfl, hb2⟩; have H2 := chain (w := w) (by go_grown) hb2; clear hb2))
      go_ret
      exact ⟨rfl, by go_grown⟩
  · go_enter Try.func8, Try.ntmps8
    go_wp2_with fail
    go_ret
    exact ⟨rfl, by go_grown⟩
theorem iNinesTicket_yes (s : ByteArray) (w : World) (hs : s.size ≤ maxLen) (hg : goodB s = true) :
    Calls Try.prog 24 #[.string s] w fun e w' => e = .returned (.tuple #[.string ⟨(nines s).toArray⟩, .bool true]) ∧ Below w.heap.size w w' := by
  go_enter Try.func24, Try.ntmps24
  go_wp2_with (go_at_call 49; go_must ((with_reducible refine (ofS_nines _ _ hs hg).mono ?_); rintro e w1 ⟨rfl, hb⟩))
  go_ret2
  exact ⟨rfl, by go_grown⟩
theorem iNinesTicket_no (s : ByteArray) (w : World) (hs : s.size ≤ maxLen) (hg : goodB s = false) :
    Calls Try.prog 24 #[.string s] w fun e w' => e = .returned (.tuple #[.string ⟨#[]⟩, .bool false]) ∧ Below w.heap.size w w' := by
  go_enter Try.func24, Try.ntmps24
  go_wp2_with (go_at_call 49; go_must ((with_reducible refine (ofS_no _ _ _ hs hg).mono ?_); rintro e w1 ⟨rfl, hb⟩))
  go_ret2
  exact ⟨rfl, by go_grown⟩
theorem sNinesTicket_no (s : ByteArray) (w : World) (hs : s.size ≤ maxLen) (hg : goodB s = false) :
    Calls Try.prog 23 #[.string s] w fun e w' => e = .returned (.tuple #[.string ⟨#[]⟩, .bool false]) ∧ Below w.heap.size w w' := by
  go_enter Try.func23, Try.ntmps23
  go_wp2_with (first | (go_at_call 45; go_must ((with_reducible refine (tkGood_any _ _ hs).mono ?_); rintro e w' ⟨rfl, rfl⟩)))
  go_ret2
  exact ⟨rfl, by go_grown⟩
theorem FnExactNinesTicket_law (s : ByteArray) (hs : s.size ≤ maxLen) (w : World) :
    Calls Try.prog 9 #[.string s] w fun e w' => e = .returned (.bool true) ∧ Below w.heap.size w w' := by
  have hm := hs
  unfold maxLen at hs
  by_cases hb : s.size ≤ 1048576
  · cases hg : goodB s with
    | true =>
      go_enter Try.func9, Try.ntmps9
      go_wp2_with (first | (go_at_call 23; refine (sNines_yes _ _ hm hg).mono ?_; rintro e w1 ⟨rfl, hb1⟩; have H1 := chain (w := w) (by go_grown) hb1; clear hb1) | (go_at_call 24; refine (iNinesTicket_yes _ _ hm hg).mono ?_; rintro e w2 ⟨rfl, hb2⟩; have H2 := chain (w := w) (by go_grown) hb2; clear hb2))
      go_ret
      exact ⟨rfl, by go_grown⟩
    | false =>
      go_enter Try.func9, Try.ntmps9
      go_wp2_with (first | (go_at_call 23; refine (sNinesTicket_no _ _ hm hg).mono ?_; rintro e w1 ⟨rfl, hb1⟩; have H1 := chain (w := w) (by go_grown) hb1; clear hb1) | (go_at_call 24; refine (iNinesTicket_no _ _ hm hg).mono ?_; rintro e w2 ⟨rfl, hb2⟩; have H2 := chain (w := w) (by go_grown) hb2; clear hb2))
      go_ret
      exact ⟨rfl, by go_grown⟩
  · go_enter Try.func9, Try.ntmps9
    go_wp2_with fail
    go_ret
    exact ⟨rfl, by go_grown⟩
end Go.Proofs.Ytlkeemnnncnibab

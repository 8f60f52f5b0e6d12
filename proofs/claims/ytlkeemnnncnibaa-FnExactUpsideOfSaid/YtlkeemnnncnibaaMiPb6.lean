/-
  Readings: the law of UpsideOf.
-/
import Derived.Test.YtlkeemnnncnibaaMiIm9
import Derived.Test.YtlkeemnnncnibaaMiSp3
namespace Go.Proofs.Ytlkeemnnncnibaa
open Go.RowKit

/-- It can be read upside down. -/
def uoB (s : ByteArray) : Bool := rdB s && upB s.data.toList
def uoA (s : ByteArray) : ByteArray := if uoB s then ⟨(upL s.data.toList).toArray⟩ else ⟨#[]⟩
theorem uoA_no {s : ByteArray} (h : uoB s = false) : uoA s = ⟨#[]⟩ := by unfold uoA; rw [h]; rfl
theorem uoA_yes {s : ByteArray} (h : uoB s = true) : uoA s = ⟨(upL s.data.toList).toArray⟩ := by unfold uoA; rw [h]; rfl
theorem sUpsideOf_any (s : ByteArray) (w : World) (hs : s.size ≤ maxLen) :
    Calls Try.prog 31 #[.string s] w fun e w' => e = .returned (.tuple #[.string (uoA s), .bool (uoB s)]) ∧ Below w.heap.size w w' := by
  have HG := Lib.hid (fun W => miGood_any s W hs)
  cases hb : rdB s with
  | false =>
    have hn : uoB s = false := by unfold uoB; rw [hb]; rfl
    have HA := Lib.hid (uoA_no hn)
    have HN := Lib.hid hn
    rw [hb] at HG
    clear hb hn
    go_enter Try.func31, Try.ntmps31
    go_wp2_with (go_at_call 33; (with_reducible refine (HG.out _).mono ?_); rintro e w1 ⟨rfl, rfl⟩)
    go_ret2
    exact ⟨ret_sb HA.out.symm HN.out.symm, Below.refl _ _⟩
  | true =>
    rw [hb] at HG
    obtain ⟨h1, h9, hd⟩ := (rdB_iff s).1 hb
    have HU := Lib.hid (fun W => miUpside_any s W (by omega) hd)
    have HX : Hid (upA s = uoA s ∧ upB s.data.toList = uoB s) := by
      have hn : uoB s = upB s.data.toList := by unfold uoB; rw [hb]; rfl
      refine ⟨?_, hn.symm⟩
      unfold upA uoA; rw [hn]
    obtain ⟨X, hX⟩ : ∃ X, X = upA s := ⟨_, rfl⟩
    obtain ⟨u, hu⟩ : ∃ u, u = upB s.data.toList := ⟨_, rfl⟩
    rw [← hX, ← hu] at HU HX
    clear hb hX hu hd
    go_enter Try.func31, Try.ntmps31
    go_wp2_with (first | (go_at_call 33; (with_reducible refine (HG.out _).mono ?_); rintro e w1 ⟨rfl, rfl⟩) | (go_at_call 55; (with_reducible refine (HU.out _).mono ?_); rintro e w2 ⟨rfl, rfl⟩))
    go_ret2
    exact ⟨ret_sb HX.out.1 HX.out.2, Below.refl _ _⟩
/-- What the program's table has for a digit. -/
def tu (c : UInt8) : UInt8 := if ups (c.toNat - 48) ≤ 9 then dc (ups (c.toNat - 48)) else 32
def tuL (t : List UInt8) : List UInt8 := t.reverse.map tu
theorem tu_snoc (s : ByteArray) (k j : Nat) (hj : j + 1 + k = s.size) (hjs : j < s.size) : (tuL s.data.toList).take (k + 1) = (tuL s.data.toList).take k ++ [tu (s[j]'hjs)] := by
  have hk : k < s.size := by omega
  unfold tuL
  rw [← List.map_take, ← List.map_take]
  have := rv_snoc s k hk
  unfold rv at this
  have e : s.size - 1 - k = j := by omega
  rw [this, List.map_append]
  congr 1
  simp only [e]
  rfl
theorem tu_all (s : ByteArray) : (tuL s.data.toList).take s.size = tuL s.data.toList := List.take_of_length_le (by simp [tuL])
theorem tu_dig (c : UInt8) : dgB (tu c) = upD c := by
  unfold tu upD
  by_cases h : ups (c.toNat - 48) ≤ 9
  · rw [if_pos h, dg_dc h, decide_eq_true h]
  · rw [if_neg h, decide_eq_false h]; rfl
theorem tuL_dig (t : List UInt8) : digB (tuL t) = upB t := by
  unfold tuL upB digB
  rw [List.all_map, List.all_reverse]
  congr 1
  funext c
  exact tu_dig c
theorem tuL_up (t : List UInt8) (h : upB t = true) : tuL t = upL t := by
  unfold tuL upL
  apply List.map_congr_left
  intro c hc
  have : upD c = true := by
    unfold upB at h
    exact List.all_eq_true.1 h c (by simpa using hc)
  unfold upD at this
  unfold tu upc
  rw [if_pos (of_decide_eq_true this)]
theorem tu_len (l : List UInt8) (k : Nat) : (Lib.byteCells (l.take k)).length ≤ k := bytes_len l k
set_option maxHeartbeats 2000000 in
theorem iUpsideOf_any (s : ByteArray) (w : World) (hs : s.size ≤ maxLen) :
    Calls Try.prog 32 #[.string s] w fun e w' => e = .returned (.tuple #[.string (uoA s), .bool (uoB s)]) ∧ Below w.heap.size w w' := by
  have HG := Lib.hid (fun W => iIsReading_any s W hs)
  cases hb : rdB s with
  | false =>
    have hn : uoB s = false := by unfold uoB; rw [hb]; rfl
    have HA := Lib.hid (uoA_no hn)
    have HN := Lib.hid hn
    rw [hb] at HG
    clear hb hn
    go_enter Try.func32, Try.ntmps32
    go_wp2_with (go_at_call 14; (with_reducible refine (HG.out _).mono ?_); rintro e w1 ⟨rfl, rfl⟩)
    go_ret2
    exact ⟨ret_sb HA.out.symm HN.out.symm, Below.refl _ _⟩
  | true =>
    rw [hb] at HG
    obtain ⟨h1, h9, hd⟩ := (rdB_iff s).1 hb
    have HD := Lib.hid hd
    have hn : uoB s = upB s.data.toList := by unfold uoB; rw [hb]; rfl
    have HN := Lib.hid hn
    have hdig := fun W => isDigits_any ⟨(tuL s.data.toList).toArray⟩ W (by rw [sz_of]; simp [tuL]; unfold maxLen; omega)
    have e1 : digB (⟨(tuL s.data.toList).toArray⟩ : ByteArray).data.toList = upB s.data.toList := tuL_dig _
    rw [e1, ← hn] at hdig
    have HDG := Lib.hid hdig
    clear hb hd hdig e1 hn hs
    go_enter Try.func32, Try.ntmps32
    go_wp2_with (go_at_call 14; (with_reducible refine (HG.out _).mono ?_); rintro e w1 ⟨rfl, rfl⟩)
    go_loopw [11] (fun i wr => ∃ k : Nat, k ≤ s.size ∧ i = .int .i64 k ∧ Lib.IsBuilder 58 5 w.heap.size w.heap.size (Lib.byteCells ((tuL s.data.toList).take k)) wr ∧ Below w.heap.size w wr ∧ w.heap.size ≤ wr.heap.size) (fun i _ => s.size - (intOf i).toNat)
    case atStart => exact ⟨0, Nat.zero_le _, rfl, Lib.fresh_isBuilder 58 5 w, by go_grown, by simp⟩
    case round =>
      obtain ⟨k, hk, rfl, hbld, hbl, hsz⟩ := hrel
      have HB := Lib.hid hbld
      clear hbld
      by_cases hlt : k < s.size
      · obtain ⟨j, hj⟩ : ∃ j, j + 1 + k = s.size := ⟨s.size - 1 - k, by omega⟩
        have hji : (s.size : Int) - 1 - (k : Int) = (j : Int) := by omega
        have hjs : j < s.size := by omega
        have HST := Lib.hid (tu_snoc s k j hj hjs)
        have hdg := digB_get s j hjs HD.out
        obtain ⟨u, hu, hsu⟩ : ∃ u, u ≤ 9 ∧ s[j] = dc u := dc_of ((dgB_iff _).2 hdg)
        have hsn : (s[j].toNat : Int) = 48 + (u : Int) := by rw [hsu, dc_nat hu]; omega
        have HSU := Lib.hid hsu
        have HTU : Hid (tu (dc u) = if ups u ≤ 9 then dc (ups u) else 32) := by
          show _ = _
          unfold tu; rw [dc_nat hu, show 48 + u - 48 = u by omega]
        have hcase : u = 0 ∨ u = 1 ∨ u = 2 ∨ u = 3 ∨ u = 4 ∨ u = 5 ∨ u = 6 ∨ u = 7 ∨ u = 8 ∨ u = 9 := by omega
        clear hj hdg hsu hu
        rcases hcase with h | h | h | h | h | h | h | h | h | h
        all_goals
          subst h
          go_wp2_with (go_at_call 56; go_must (refine (wb_any w.heap.size _ _ _ _ HB.out (by have := tu_len (tuL s.data.toList) k; omega) hsz).mono ?_); rintro e w1 ⟨rfl, h1, b1, _⟩; have H1 := Lib.hid h1; have hz := b1.size; have hb := hbl.trans (b1.mono (by omega)); clear b1 h1)
          go_roundw
          case rel => exact ⟨k + 1, by omega, by go_num, by rw [HST.out, byteCells_snoc, HSU.out, HTU.out]; exact .inr H1.out, hb, by omega⟩
          case measure => simp [intOf]; omega
      · have he : (tuL s.data.toList).take k = tuL s.data.toList := by rw [show k = s.size by omega]; exact tu_all s
        rw [he] at HB
        have HB2 : Hid (∀ W, Lib.IsBuilderF 58 5 w.heap.size w.heap.size (Lib.byteCells (tuL s.data.toList)) W → w.heap.size ≤ W.heap.size → Calls Try.prog 58 #[.pointer (some ⟨w.heap.size, 0, none⟩)] W fun e w' => e = .returned (.string ⟨(tuL s.data.toList).toArray⟩) ∧ (Lib.IsBuilderF 58 5 w.heap.size w.heap.size (Lib.byteCells (tuL s.data.toList)) w' ∧ Below w.heap.size W w')) := fun W hW hWs => Try.Builder_String_any_f w.heap.size w.heap.size _ W hW hWs
        have HBF := Lib.hid (Lib.IsBuilderF.of HB.out)
        obtain ⟨cs, hcs⟩ : ∃ cs, cs = Lib.byteCells (tuL s.data.toList) := ⟨_, rfl⟩
        rw [← hcs] at HB2 HBF
        clear hcs
        obtain ⟨X, hX⟩ : ∃ X : ByteArray, X = ⟨(tuL s.data.toList).toArray⟩ := ⟨_, rfl⟩
        rw [← hX] at HB2 HDG
        have HX := Lib.hid hX
        clear he hX
        cases hq : uoB s with
        | false =>
          have HA := Lib.hid (uoA_no hq)
          rw [hq] at HDG
          go_wp2_with (first | (go_at_call 58; (refine (HB2.out _ HBF.out hsz).mono ?_); rintro e w1 ⟨rfl, i1, b1⟩; have I1 := Lib.hid i1; have z1 := Nat.le_trans hsz b1.size; clear i1) | (go_at_call 57; (with_reducible refine (HDG.out _).mono ?_); rintro e w2 ⟨rfl, rfl⟩))
          go_ret2
          exact ⟨ret_sb HA.out.symm hq.symm, hbl.trans b1⟩
        | true =>
          have HA : Hid (X = uoA s) := by show _ = _; rw [uoA_yes hq, HX.out, tuL_up _ (by rw [← HN.out]; exact hq)]
          rw [hq] at HDG
          go_wp2_with (first | (go_at_call 58; first | ((refine (HB2.out _ HBF.out hsz).mono ?_); rintro e w1 ⟨rfl, i1, b1⟩; have I1 := Lib.hid i1; have z1 := Nat.le_trans hsz b1.size; clear i1) | ((refine (HB2.out _ I1.out z1).mono ?_); rintro e w3 ⟨rfl, _, b3⟩)) | (go_at_call 57; (with_reducible refine (HDG.out _).mono ?_); rintro e w2 ⟨rfl, rfl⟩))
          go_ret2
          exact ⟨ret_sb HA.out hq.symm, (hbl.trans b1).trans b3⟩
set_option maxHeartbeats 1000000 in
theorem FnExactUpsideOf_law (z0 : ByteArray) (hz0 : z0.size ≤ maxLen) (w : World) :
    Calls Try.prog 12 #[.string z0] w fun e w' => e = .returned (.bool true) ∧ Below w.heap.size w w' := by
  have hz0' := hz0
  unfold maxLen at hz0'
  have hs1 : ∀ W, Calls Try.prog 31 #[.string z0] W fun e w' => e = .returned (.tuple #[.string (uoA z0), .bool (uoB z0)]) ∧ Below W.heap.size W w' := fun W => sUpsideOf_any z0 W hz0
  have hi1 : ∀ W, Calls Try.prog 32 #[.string z0] W fun e w' => e = .returned (.tuple #[.string (uoA z0), .bool (uoB z0)]) ∧ Below W.heap.size W w' := fun W => iUpsideOf_any z0 W hz0
  obtain ⟨A0, hA0⟩ : ∃ A0 : ByteArray, A0 = uoA z0 := ⟨_, rfl⟩
  obtain ⟨A1, hA1⟩ : ∃ A1 : Bool, A1 = uoB z0 := ⟨_, rfl⟩
  rw [← hA0, ← hA1] at hs1 hi1
  have HS := Lib.hid hs1
  have HI := Lib.hid hi1
  clear hs1 hi1 hA0 hA1
  by_cases hb0 : (z0.size : Int) ≤ 1048576
  case neg =>
    go_enter Try.func12, Try.ntmps12
    go_wp2
    go_ret
    exact ⟨rfl, Below.refl _ _⟩
  case pos =>
    go_enter Try.func12, Try.ntmps12
    go_wp2_with (first | (go_at_call 31; (with_reducible refine (HS.out _).mono ?_); rintro e w1 ⟨rfl, b1⟩) | (go_at_call 32; (with_reducible refine (HI.out _).mono ?_); rintro e w2 ⟨rfl, b2⟩))
    go_ret
    exact ⟨rfl, chain b1 b2⟩
end Go.Proofs.Ytlkeemnnncnibaa

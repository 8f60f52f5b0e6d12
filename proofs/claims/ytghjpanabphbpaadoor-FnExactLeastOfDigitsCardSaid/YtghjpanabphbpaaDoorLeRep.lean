/-
  Least numbers: a text of nines, as the library repeats it; the round number behind it.
-/
import Derived.Test.YtghjpanabphbpaaDoorLeBld
import Derived.Test.YtghjpanabphbpaaDoorLeNum
import Derived.Lib.FrozenHead
import Derived.Lib.RepeatB
import Derived.Deep.LoopGhost
namespace Go.Proofs.YtghjpanabphbpaaDoor
open Go.RowKit
set_option maxRecDepth 100000

theorem ccF_any (B b : Nat) (bs : List Value) (w : World) (h : Lib.IsBuilderF 53 5 B b bs w) :
    Calls Tryd.prog 95 #[.pointer (some ⟨b, 0, none⟩)] w fun e w' => e = .returned (.tuple #[]) ∧ Lib.BuilderAtF 53 5 B b (.pointer (some ⟨b, 0, none⟩)) bs w' ∧ Below B w w' := by
  rcases h with h | h
  · refine (cc_fresh b w h.cell0 h.shape h.frozen0).mono ?_
    rintro e w' ⟨rfl, rfl⟩
    exact ⟨rfl, h.used _, (Below.refl B w).setCell (p := ⟨b, 0, none⟩) h.1 _⟩
  · refine (cc_used b w h.cell0).mono ?_
    rintro e w' ⟨rfl, rfl⟩
    exact ⟨rfl, h, Below.refl B _⟩
set_option maxHeartbeats 2000000 in
theorem wsF_any (B b : Nat) (bs : List Value) (s : ByteArray) (w : World) (h : Lib.IsBuilderF 53 5 B b bs w) (hlen : bs.length + s.size ≤ 140737488355328) (hBw : B ≤ w.heap.size) :
    Calls Tryd.prog 102 #[.pointer (some ⟨b, 0, none⟩), .string s] w fun e w' => e = .returned (.tuple #[.int .i64 s.size, .nilIface]) ∧ Lib.BuilderAtF 53 5 B b (.pointer (some ⟨b, 0, none⟩)) (bs ++ Lib.strCells s) w' ∧ Below B w w' := by
  obtain ⟨i0, hi, hz0, hz1, hz2⟩ := info_parts (show (Tryd.prog.info? 5).map (fun i => (i.zero, i.size, i.bytes)) = some (some (.int .u8 0), 1, 1) by kernel_rfl)
  go_enter Tryd.func102, Tryd.ntmps102
  go_wp2_with (go_at_call 95; refine (ccF_any B b bs _ h).mono ?_)
  rintro e w1 ⟨rfl, h1, hb1⟩
  obtain ⟨hB, v, hbk, hown, hne⟩ := h1
  have c0 : w1.cell? ⟨b, 0, none⟩ = some (.pointer (some ⟨b, 0, none⟩)) := by rw [Lib.cell_of_heap hbk]; rfl
  have c1 : w1.cell? ⟨b, 1, none⟩ = some v := by rw [Lib.cell_of_heap hbk]; rfl
  go_wp2_with (at_builtin; refine Lib.wpList_append_own_stringF _ rfl _ _ 49 9 rfl B 5 i0 Tryd.underlying49 Tryd.underlying9 hi hz0 hz1 hz2 _ _ _ rfl hown s rfl ?c3 ?c4 ?c5 ?_)
  case c3 => unfold maxLen; omega
  case c4 => omega
  case c5 => have := hb1.size; omega
  intro v' w2 hown' hgrow _
  have hlt : b < w1.heap.size := by
    rcases Nat.lt_or_ge b w1.heap.size with h' | h'
    · exact h'
    · simp [Array.getElem?_eq_none h'] at hbk
  have hb2 : w2.heap[b]? = some (.cells #[.pointer (some ⟨b, 0, none⟩), v] 53 (0, 0)) := by
    rw [hgrow.block b hlt (fun e => hne e.symm)]
    exact hbk
  have d0 : w2.cell? ⟨b, 0, none⟩ = some (.pointer (some ⟨b, 0, none⟩)) := by rw [Lib.cell_of_heap hb2]; rfl
  have d1 : w2.cell? ⟨b, 1, none⟩ = some v := by rw [Lib.cell_of_heap hb2]; rfl
  have f1 : w2.frozen? ⟨b, 1, none⟩ = false := Lib.frozen_of_heap hb2 1
  obtain ⟨ao, n', cap, rfl⟩ : ∃ ao n' cap, v' = .slice ao n' cap := by
    rcases hown'.2 with ⟨hv, _⟩ | ⟨g, cap, cur, fz, hv, _⟩
    · exact ⟨_, _, _, hv⟩
    · exact ⟨_, _, _, hv⟩
  go_wp2
  go_ret2
  refine ⟨rfl, ?_, ?_⟩
  · exact Lib.BuilderAtF.put (T := 53) (e := 5) hB hb2 (bs' := bs ++ Lib.strCells s) (by simpa [Lib.strCells_length] using hown') (by decide)
  · exact (hb1.grown hgrow (by have := hb1.size; omega) (fun k hk => (hown.lt k hk).1)).setCell (p := ⟨b, 1, none⟩) hB _
/-- So many nines. -/
def n9 (q : Nat) : List UInt8 := List.replicate q 57
theorem n9_len (q : Nat) : (n9 q).length = q := by simp [n9]
theorem n9_add (q c : Nat) : n9 q ++ n9 c = n9 (q + c) := by simp [n9, List.replicate_append_replicate]
theorem n9_take (q c : Nat) (h : c ≤ q) : (n9 q).take c = n9 c := by simp [n9, List.take_replicate, Nat.min_eq_left h]
theorem min3 {P : Program} (ts : Array TypeId) (t : TypeId) (x y z : Int) (W : World) :
    (Builtin.min_ ts t #[.int .i64 x, .int .i64 y, .int .i64 z]).run P W = .ok (.int .i64 (if z < (if y < x then y else x) then z else (if y < x then y else x))) W := by
  simp [Builtin.min_, Builtin.min2]
set_option maxHeartbeats 4000000 in
theorem rep_main (s : ByteArray) (c : Nat) (w : World) (hs : s.data.toList = [57]) (h2 : 2 ≤ c) (h12 : c ≤ 12) :
    Calls Tryd.prog 86 #[.string s, .int .i64 c] w fun e w' => e = .returned (.string ⟨(n9 c).toArray⟩) ∧ Below w.heap.size w w' := by
  have hsz : s.size = 1 := by
    have : s.data.toList.length = 1 := by rw [hs]; rfl
    simpa using this
  have hs0 : 0 < s.size := by omega
  have hb0 : (s[0]'hs0).toNat = 57 := by
    have : (s.data.toList[0]'(by rw [hs]; decide)) = 57 := by simp only [hs]; rfl
    have e : s[0]'hs0 = 57 := this
    rw [e]; rfl
  have q1 : (((s[0]'hs0).toNat : Int) == 32) = false := by rw [hb0]; rfl
  have q2 : (((s[0]'hs0).toNat : Int) == 45) = false := by rw [hb0]; rfl
  have q3 : (((s[0]'hs0).toNat : Int) == 48) = false := by rw [hb0]; rfl
  have q4 : (((s[0]'hs0).toNat : Int) == 61) = false := by rw [hb0]; rfl
  have q5 : (((s[0]'hs0).toNat : Int) == 9) = false := by rw [hb0]; rfl
  have HM : Hid (∀ W, Calls Tryd.prog 99 #[.int .u64 1, .int .u64 c] W fun e w' => e = .returned (.tuple #[.int .u64 0, .int .u64 c]) ∧ W = w') := fun W => by
    have h := Tryd.bits_Mul 1 c (by omega) (by omega) W
    rw [Nat.one_mul, Nat.div_eq_of_lt (by omega), Nat.mod_eq_of_lt (by omega)] at h
    refine h.mono ?_
    rintro e w' ⟨rfl, rfl⟩
    exact ⟨rfl, rfl⟩
  have HS := Lib.hid hs
  have n0 : ¬ c = 0 := by omega
  have n1 : ¬ c = 1 := by omega
  have HG := Lib.hid (Tryd.Builder_Grow_fresh w.heap.size w.heap.size c (w.alloc (.cells #[.pointer none, .slice none 0 0] 53)) (Nat.le_refl _) (heap_alloc_new w _) (by simp) (by omega))
  clear hs hb0
  go_enter Tryd.func86, Tryd.ntmps86
  go_wp2_with (first | (go_at_call 99; (with_reducible refine (HM.out _).mono ?_); rintro e w' ⟨rfl, rfl⟩) | (go_at_call 101; refine HG.out.mono ?_; rintro e W1 ⟨rfl, h1, b1⟩) | (go_at_call 102; refine (wsF_any w.heap.size w.heap.size [] s W1 (Lib.IsBuilderF.of (Or.inr h1)) (by simp; omega) (by have := b1.size; simp at this; omega)).mono ?_; rintro e W2 ⟨rfl, h3, b3⟩))
  have h3' : Lib.IsBuilderF 53 5 w.heap.size w.heap.size (Lib.byteCells (n9 1)) W2 := by
    rw [List.nil_append, Lib.strCells_eq, HS.out] at h3
    exact Or.inr h3
  have b0 : Below w.heap.size w (w.alloc (.cells #[.pointer none, .slice none 0 0] 53)) := (Below.refl _ w).alloc (Nat.le_refl _) _
  have b02 : Below w.heap.size w W2 := b0.trans (b1.trans b3)
  have H3 := Lib.hid h3'
  clear h3 h3' h1
  go_loopg [] (c - 1) (fun gk wx => ∃ q : Nat, 1 ≤ q ∧ q + gk = c ∧ Hid (Lib.IsBuilderF 53 5 w.heap.size w.heap.size (Lib.byteCells (n9 q)) wx) ∧ Below w.heap.size w wx)
  case atStart => exact ⟨1, Nat.le_refl _, by omega, H3.out, b02⟩
  case round =>
    obtain ⟨q, hq1, hqg, HB, hbx⟩ := hrel
    obtain ⟨wo, rfl⟩ : ∃ wo : World, wo = wr := ⟨_, rfl⟩
    have cLen := Tryd.Builder_Len_f w.heap.size w.heap.size _ wo HB.out
    rw [Lib.byteCells_length, n9_len] at cLen
    have HL : Hid (Calls Tryd.prog 103 #[.pointer (some ⟨w.heap.size, 0, none⟩)] wo fun e w' => e = .returned (.int .i64 q) ∧ wo = w') := cLen.mono (by rintro e w' ⟨rfl, rfl⟩; exact ⟨rfl, rfl⟩)
    obtain ⟨S, hS⟩ : ∃ S : ByteArray, (⟨(n9 q).toArray⟩ : ByteArray) = S := ⟨_, rfl⟩
    have hSd : S.data.toList = n9 q := by rw [← hS]
    have hSz : S.size = q := by
      have : S.data.toList.length = q := by rw [hSd, n9_len]
      simpa using this
    have cStr := Tryd.Builder_String_any_f w.heap.size w.heap.size (n9 q) wo HB.out hbx.size
    rw [hS] at cStr
    have HT := Lib.hid cStr
    have HSd := Lib.hid hSd
    have HSS := Lib.hid hS
    clear cLen cStr hSd hS
    cases gk with
    | zero =>
      obtain rfl : q = c := by omega
      go_wp2_with (first | (go_at_call 103; (with_reducible refine HL.out.mono ?_); rintro e w' ⟨rfl, rfl⟩) | (go_at_call 77; refine HT.out.mono ?_; rintro e W3 ⟨rfl, h5, b5⟩))
      go_ret
      exact ⟨by rw [HSS.out]; rfl, hbx.trans b5⟩
    | succ g =>
      have hqc : q < c := by omega
      have hqcI : (q : Int) < (c : Int) := by omega
      obtain ⟨ch, hch⟩ : ∃ ch, min (c - q) q = ch := ⟨_, rfl⟩
      have hch1 : 1 ≤ ch := by omega
      have hchq : ch ≤ q := by omega
      have hchc : q + ch ≤ c := by omega
      have hmin3 : ∀ (ts : Array TypeId) (t : TypeId) (W : World), (Builtin.min_ ts t #[.int .i64 ((c : Int) - (q : Int)), .int .i64 (q : Int), .int .i64 (c : Int)]).run Tryd.prog W = .ok (.int .i64 (ch : Int)) W := fun ts t W => by
        rw [min3]
        congr 2
        split <;> split <;> omega
      have hchS : ch ≤ S.size := by omega
      clear hch
      go_wp2_with (first | (go_at_call 103; (with_reducible refine HL.out.mono ?_); rintro e w' ⟨rfl, rfl⟩) | (go_at_call 77; refine HT.out.mono ?_; rintro e W3 ⟨rfl, h5, b5⟩; have cW := wsF_any w.heap.size w.heap.size _ (S.extract 0 ch) W3 h5 (by rw [Lib.byteCells_length, n9_len, Lib.size_eq, Lib.extract_data, HSd.out]; simp only [List.drop_zero, Nat.sub_zero, List.length_take, n9_len]; omega) (Nat.le_trans hbx.size b5.size); have HW := Lib.hid cW; clear cW) | (go_at_call 102; refine HW.out.mono ?_; rintro e W4 ⟨rfl, h6, b6⟩))
      go_roundg (c - (q + ch))
      case measure => omega
      case rel =>
        refine ⟨q + ch, by omega, by omega, Or.inr ?_, hbx.trans (b5.trans b6)⟩
        rw [Lib.strCells_eq, ← Lib.byteCells_append, Lib.extract_data, HSd.out] at h6
        simp only [List.drop_zero, Nat.sub_zero] at h6
        rw [n9_take q ch hchq, n9_add] at h6
        exact h6
theorem rep_0 (s : ByteArray) (w : World) :
    Calls Tryd.prog 86 #[.string s, .int .i64 0] w fun e w' => e = .returned (.string ⟨(n9 0).toArray⟩) ∧ Below w.heap.size w w' := by
  go_enter Tryd.func86, Tryd.ntmps86
  go_wp2
  go_ret
  exact ⟨rfl, Below.refl _ _⟩
theorem rep_1 (s : ByteArray) (w : World) (hs : s.data.toList = [57]) :
    Calls Tryd.prog 86 #[.string s, .int .i64 1] w fun e w' => e = .returned (.string ⟨(n9 1).toArray⟩) ∧ Below w.heap.size w w' := by
  have e : (⟨(n9 1).toArray⟩ : ByteArray) = s := by
    apply ByteArray.ext
    show (n9 1).toArray = s.data
    rw [show n9 1 = [57] from rfl, ← hs]
  rw [e]
  go_enter Tryd.func86, Tryd.ntmps86
  go_wp2
  go_ret
  exact ⟨rfl, Below.refl _ _⟩
theorem rep_any (c : Nat) (w : World) (h12 : c ≤ 12) :
    Calls Tryd.prog 86 #[.string ⟨#[57]⟩, .int .i64 c] w fun e w' => e = .returned (.string ⟨(n9 c).toArray⟩) ∧ Below w.heap.size w w' := by
  match c, h12 with
  | 0, _ => exact rep_0 _ w
  | 1, _ => exact rep_1 _ w rfl
  | c + 2, h => exact rep_main _ (c + 2) w rfl (by omega) h
theorem n9_dig (q : Nat) : digB (n9 q) = true := by
  induction q with
  | zero => rfl
  | succ q ih => rw [show n9 (q + 1) = n9 q ++ [57] from (n9_add q 1).symm, digB_snoc, ih]; rfl
theorem dnum_n9 (q : Nat) : dnum (n9 q) + 1 = ((10 ^ q : Nat) : Int) := by
  induction q with
  | zero => rfl
  | succ q ih =>
    have e : n9 (q + 1) = n9 q ++ [57] := (n9_add q 1).symm
    rw [e, dnum_snoc, Nat.pow_succ, show dv 57 = 9 from rfl]
    push_cast at *; omega
theorem roundOf_any (q : Nat) (w : World) (h12 : q ≤ 12) :
    Calls Tryd.prog 67 #[.int .i64 q] w fun e w' => e = .returned (.int .i64 ((10 ^ q : Nat) : Int)) ∧ Below w.heap.size w w' := by
  have HR := Lib.hid (fun W => rep_any q W h12)
  have HN := Lib.hid (fun W => numL_any (n9 q) W (by rw [n9_len]; omega) (n9_dig q))
  have hx := dnum_n9 q
  have hp : (10 : Nat) ^ q ≤ 10 ^ 12 := Nat.pow_le_pow_right (by omega) h12
  have hp1 : 1 ≤ 10 ^ q := Nat.pow_pos (by omega)
  obtain ⟨x, hxe⟩ : ∃ x, dnum (n9 q) = x := ⟨_, rfl⟩
  obtain ⟨y, hy⟩ : ∃ y, (10 : Nat) ^ q = y := ⟨_, rfl⟩
  rw [hxe] at hx HN
  rw [hy] at hx hp hp1 ⊢
  have HX := Lib.hid hx
  have x0 : 0 ≤ x := by omega
  have x1 : x ≤ 999999999999 := by omega
  clear hxe hy hx
  go_enter Tryd.func67, Tryd.ntmps67
  go_wp2_with (first | (go_at_call 86; (with_reducible refine (HR.out _).mono ?_); rintro e w1 ⟨rfl, b1⟩) | (go_at_call 39; (with_reducible refine (HN.out _).mono ?_); rintro e w' ⟨rfl, rfl⟩))
  go_ret
  exact ⟨ret_int HX.out, b1⟩
end Go.Proofs.YtghjpanabphbpaaDoor

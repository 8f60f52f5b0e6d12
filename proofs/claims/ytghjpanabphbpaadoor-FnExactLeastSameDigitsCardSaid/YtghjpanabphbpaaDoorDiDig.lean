/-
  The digits of a number, as both sides take them: texts, rows, sums.
-/
import Derived.Test.YtghjpanabphbpaaDoorDiDm
import Derived.Test.YtghjpanabphbpaaDoorDiWays
import Derived.Test.YtghjpanabphbpaaDoorDiCnt
import Derived.Test.YtghjpanabphbpaaDoorShelf
namespace Go.Proofs.YtghjpanabphbpaaDoor
open Go.RowKit

/-- The library's table of powers of ten stands. -/
def Tab (w : World) : Prop := Lib.TabIs Tryd.prog w "internal/strconv.uint64pow10" .u64 Lib.pow10Tab
theorem tab_below {P : Program} {w w' : World} {name : String} {k : IntKind} {zs : List Int} (h : Lib.TabIs P w name k zs) (hb : Below w.heap.size w w') : Lib.TabIs P w' name k zs := by
  unfold Lib.TabIs World.var? at *
  cases hg : P.globalNamed name with
  | none => rw [hg] at h; cases h
  | some g =>
    rw [hg] at h
    simp only [Option.bind_some] at h ⊢
    by_cases hl : g < w.heap.size
    · rw [hb.block g hl]; exact h
    · rw [Array.getElem?_eq_none (by omega)] at h; cases h
theorem Tab.keep {w w' : World} (h : Tab w) (hb : Below w.heap.size w w') : Tab w' := tab_below h hb
/-- The text of a number. -/
def TxtOf (n : Int) (s : ByteArray) : Prop := s.data.toList = Lib.decDigits n.toNat
theorem txt_ex (n : Int) : ∃ s, TxtOf n s := ⟨⟨(Lib.decDigits n.toNat).toArray⟩, rfl⟩
theorem TxtOf.eq {n : Int} {s : ByteArray} (h : TxtOf n s) : (⟨(Lib.decDigits n.toNat).toArray⟩ : ByteArray) = s := by
  apply ByteArray.ext
  rw [← h]
theorem TxtOf.dig {n : Int} {s : ByteArray} (h : TxtOf n s) : digB s.data.toList = true := by rw [h]; exact dec_dig _
theorem TxtOf.size {n : Int} {s : ByteArray} (h : TxtOf n s) (h1 : n ≤ 1000000000000) : 1 ≤ s.size ∧ s.size ≤ 13 := by
  have e : s.size = (Lib.decDigits n.toNat).length := by rw [← h]; simp
  rw [e]
  exact ⟨dec_pos _, dec_13 (by omega)⟩
theorem itoa_s (n : Int) (s : ByteArray) (w : World) (h0 : 0 ≤ n) (h1 : n ≤ 1000000000000) (hs : TxtOf n s) (htab : Tab w) :
    Calls Tryd.prog 54 #[.int .i64 n] w fun e w' => e = .returned (.string s) ∧ Below w.heap.size w w' := by
  refine (Tryd.strconv_Itoa n (by omega) (by omega) w htab).mono ?_
  rintro e w' ⟨rfl, k, os, rfl⟩
  refine ⟨?_, Lib.below_grow _ _ (Nat.le_refl _) _ _⟩
  rw [← hs.eq, Lib.itoa, if_neg (by omega)]
/-- The j-th digit. -/
def dj (s : ByteArray) (j : Nat) : Int := dv (s.data.toList.getD j 48)
theorem dj_get (s : ByteArray) (k : Nat) (hk : k < s.size) : dj s k = (s[k].toNat : Int) - 48 := by
  unfold dj dv
  rw [List.getD_eq_getElem?_getD, List.getElem?_eq_getElem (by simpa using hk)]
  rfl
theorem dj_bd {s : ByteArray} (h : digB s.data.toList = true) {k : Nat} (hk : k < s.size) : 0 ≤ dj s k ∧ dj s k ≤ 9 := by
  have := digB_get s k hk h
  rw [dj_get s k hk]; omega
theorem take_dj (s : ByteArray) (k : Nat) (h : k < s.size) : s.data.toList.take (k + 1) = s.data.toList.take k ++ [s.data.toList.getD k 48] := by
  rw [take_snoc s k h, List.getD_eq_getElem?_getD, List.getElem?_eq_getElem (by simpa using h)]; rfl
set_option maxHeartbeats 1000000 in
theorem decimals_any (n : Int) (s : ByteArray) (w : World) (h0 : 0 ≤ n) (h1 : n ≤ 1000000000000) (hs : TxtOf n s) (htab : Tab w) :
    Calls Tryd.prog 87 #[.int .i64 n] w fun e w' => (∃ g, e = .returned (.slice (some ⟨g, 0, none⟩) s.size s.size) ∧ IRow w' g s.size (dj s) ∧ w.heap.size ≤ g) ∧ Below w.heap.size w w' := by
  obtain ⟨i0, hi, hz0, hz1, hz2⟩ := info_parts (show (Tryd.prog.info? 3).map (fun i => (i.zero, i.size, i.bytes)) = some (some (.int .i64 0), 1, 8) by kernel_rfl)
  have HD := Lib.hid hs.dig
  have hsz := hs.size h1
  have HI := Lib.hid (itoa_s n s w h0 h1 hs htab)
  obtain ⟨hsz1, hsz2⟩ := hsz
  clear hs htab
  go_enter Tryd.func87, Tryd.ntmps87
  go_wp2_with (first | (go_at_call 54; refine HI.out.mono ?_; rintro e w1 ⟨rfl, b1⟩) | (refine wpList_make_rowL _ rfl _ _ 33 rfl 3 i0 (.int .i64 0) Tryd.underlying33 hi hz0 hz1 rfl .i64 .i64 _ _ s.size rfl rfl (by omega) (by omega) (by rw [hz2]; omega) (by omega) ?_))
  have hr := IRow.made w1 s.size
  have hs1 := b1.size
  obtain ⟨g, hg⟩ : ∃ g, g = w1.heap.size := ⟨_, rfl⟩
  have HR : Hid (IRow (w1.alloc (.cells (madeCells #[.int .i64 0] s.size) 3)) g s.size (fun j => if j < 0 then dj s j else 0)) := by
    show IRow _ _ _ _
    rw [hg]; exact hr.same (fun j _ => by rw [if_neg (by omega)])
  have HG : Hid (w.heap.size ≤ g) := by show _ ≤ _; omega
  have HB : Below w.heap.size w (w1.alloc (.cells (madeCells #[.int .i64 0] s.size) 3)) := b1.alloc hs1 _
  rw [← hg]
  clear hr hg hs1
  go_loopw [13] (fun kv wr => ∃ k : Nat, k ≤ s.size ∧ kv = .int .i64 k ∧ Hid (IRow wr g s.size (fun j => if j < k then dj s j else 0)) ∧ Below w.heap.size w wr) (fun kv _ => s.size - (intOf kv).toNat)
  case atStart => exact ⟨0, by omega, rfl, HR, HB⟩
  case round =>
    obtain ⟨k, hk, rfl, HK, hb⟩ := hrel
    obtain ⟨wo, rfl⟩ : ∃ wo : World, wo = wr := ⟨_, rfl⟩
    by_cases hlt : k < s.size
    · have hc := digB_get s k hlt HD.out
      have HJ := Lib.hid (dj_get s k hlt)
      obtain ⟨hc1, hc2⟩ := hc
      have c1 := HK.out.cell hlt
      have z1 := HK.out.frozen k
      go_wp2
      go_roundw
      case rel =>
        have HF : ∀ j : Nat, (if j < k + 1 then dj s j else 0) = if j = k then (s[k].toNat : Int) - 48 else (if j < k then dj s j else 0) := fun j => by
          by_cases hj : j = k
          · rw [if_pos (by omega), if_pos hj, hj, HJ.out]
          · rw [if_neg hj]
            by_cases hj2 : j < k
            · rw [if_pos hj2, if_pos (by omega)]
            · rw [if_neg hj2, if_neg (by omega)]
        refine ⟨k + 1, by omega, by go_num, ?_, hb.setCell HG.out _⟩
        show IRow _ _ _ _
        exact HK.out.put k _ HF
      case measure => simp [intOf]; omega
    · go_wp2
      go_ret
      exact ⟨⟨g, rfl, HK.out.same (fun j hj => by rw [if_pos (by omega)]), HG.out⟩, hb⟩
end Go.Proofs.YtghjpanabphbpaaDoor

/-
  Readings: different digits, and what is read upside down, as the model finds them.
-/
import Derived.Test.YtlkeemnnncnibaaDoorMiSp1
import Derived.Test.YtlkeemnnncnibaaDoorMiRg
namespace Go.Proofs.YtlkeemnnncnibaaDoor
open Go.RowKit

theorem cont_snoc (l : List UInt8) (a c : UInt8) : (l ++ [a]).contains c = (l.contains c || decide (a = c)) := by
  induction l with
  | nil => by_cases h : a = c <;> simp [h, eq_comm]
  | cons d l ih => simp only [List.cons_append, List.contains_cons, ih, Bool.or_assoc]
theorem df_le' (l : List UInt8) : df l ≤ l.length := by
  unfold df
  rw [← List.length_reverse]
  generalize l.reverse = r
  induction r with
  | nil => exact Nat.le_refl _
  | cons c r ih => simp only [dfr, List.length_cons]; split <;> omega
theorem iter_new (w : World) (s : ByteArray) : (w.alloc (.stringIter s 0)).heap[w.heap.size]? = some (.stringIter s 0) := (MapKept.heap_alloc w _).1
theorem drewN_heap (w : World) (n : Nat) : (w.drewN n).heap = w.heap := by simp [World.drewN]
set_option maxHeartbeats 2000000 in
theorem miDigits_any (s : ByteArray) (w : World) (hs : s.size ≤ 1000) (hd : digB s.data.toList = true) :
    Calls Tryd.prog 25 #[.string s] w fun e w' => e = .returned (.int .i64 ((df s.data.toList : Nat) : Int)) ∧ Below w.heap.size w w' := by
  have HA : Hid (∀ i (hi : i < s.size), (s[i]'hi).toNat < 128) := fun i hi => by have := digB_get s i hi hd; omega
  clear hd
  go_enter Tryd.func25, Tryd.ntmps25
  go_wp2
  obtain ⟨r, hr⟩ : ∃ r, r = w.heap.size := ⟨_, rfl⟩
  have HR0 : Hid ((w.alloc (.stringIter s 0)).heap[r]? = some (.stringIter s 0)) := by show _ = _; rw [hr]; exact iter_new w s
  have HRG : Hid (w.heap.size ≤ r) := by show _ ≤ _; rw [hr]; exact Nat.le_refl _
  have hB0 : Below w.heap.size w (w.alloc (.stringIter s 0)) := (Below.refl _ _).alloc (Nat.le_refl _) _
  rw [← hr]
  clear hr
  go_loopg [3] s.size (fun m cv wr => ∃ (i S : Nat), i + m = s.size ∧ cv = .int .i64 S ∧ S ≤ i ∧ Hid (S = df (s.data.toList.take i)) ∧ Hid (wr.heap[r]? = some (.stringIter s i)) ∧ Below w.heap.size w wr)
  case atStart => exact ⟨0, 0, by omega, rfl, Nat.le_refl _, rfl, HR0, hB0⟩
  case round =>
    clear HR0 hB0
    obtain ⟨i, S, him, rfl, hSi, HS, HI, hbw⟩ := hrel
    obtain ⟨wo, rfl⟩ : ∃ wo : World, wo = wr := ⟨_, rfl⟩
    by_cases hlt : i < s.size
    · have hsw := hbw.size
      obtain ⟨c, hc⟩ : ∃ c, c = s[i] := ⟨_, rfl⟩
      have hstep : df (s.data.toList.take (i + 1)) = S + if (s.data.toList.take i).contains c then 0 else 1 := by rw [take_snoc s i hlt, df_snoc, ← HS.out, ← hc]
      have HST := Lib.hid hstep
      have hci : (s[i].toNat : Int) = (c.toNat : Int) := by rw [hc]
      clear hstep
      go_wp2_with (at_next; refine wpList_next_str _ rfl _ rfl r s i rfl HI.out hlt (HA.out i hlt) ?_; intro w2 hr2 hg2 hs2; have HI2 := Lib.hid hr2; have hb2 : Below w.heap.size w w2 := hbw.grown hg2 hsw (fun k hk => (by cases hk; exact HRG.out)); clear hr2 hg2 hs2)
      clear HI hbw hsw
      have HCI := Lib.hid hci
      have HC := Lib.hid hc
      clear hci hc
      go_loopw [5, 6] (fun bv kv wr => ∃ (k : Nat) (B : Bool), k ≤ i ∧ kv = .int .i64 k ∧ bv = .bool B ∧ Hid (B = !(s.data.toList.take k).contains c) ∧ Hid (wr.heap[r]? = some (.stringIter s (i + 1))) ∧ Below w.heap.size w wr) (fun _ kv _ => i - (intOf kv).toNat)
      case atStart => exact ⟨0, true, Nat.zero_le _, rfl, rfl, rfl, HI2, hb2⟩
      case round =>
        obtain ⟨k, B, hk, rfl, rfl, HB, HI3, hb3⟩ := hrel
        by_cases hki : k < i
        · have hks : k < s.size := by omega
          cases B with
          | false =>
            have HN : Hid (false = !(s.data.toList.take (k + 1)).contains c) := by
              show _ = _
              rw [take_snoc s k hks, cont_snoc]
              have := HB.out
              cases hx : (s.data.toList.take k).contains c with
              | true => rfl
              | false => rw [hx] at this; cases this
            go_wp2
            go_quiet (fail)
            go_wp2
            go_roundw
            case rel => exact ⟨k + 1, false, by omega, by go_num, rfl, HN, by show _ = _; rw [drewN_heap]; exact HI3.out, below_drewN hb3 _⟩
            case measure => simp [intOf]; omega
          | true =>
            have hx : (s.data.toList.take k).contains c = false := by
              have := HB.out
              cases hx : (s.data.toList.take k).contains c with
              | false => rfl
              | true => rw [hx] at this; cases this
            by_cases he : s[k] = c
            · have HN : Hid (false = !(s.data.toList.take (k + 1)).contains c) := by
                show _ = _
                rw [take_snoc s k hks, cont_snoc, hx, decide_eq_true he]; rfl
              have hne : ((s[k].toNat : Int) != (s[i].toNat : Int)) = false := by rw [he, HCI.out]; simp
              clear he hx
              go_wp2
              go_quiet (fail)
              go_wp2
              go_roundw
              case rel => exact ⟨k + 1, false, by omega, by go_num, rfl, HN, by show _ = _; rw [drewN_heap]; exact HI3.out, below_drewN hb3 _⟩
              case measure => simp [intOf]; omega
            · have HN : Hid (true = !(s.data.toList.take (k + 1)).contains c) := by
                show _ = _
                rw [take_snoc s k hks, cont_snoc, hx, decide_eq_false he]; rfl
              have hne : ((s[k].toNat : Int) != (s[i].toNat : Int)) = true := by
                rw [bne_iff_ne]
                intro h
                apply he
                rw [HC.out]
                apply UInt8.toNat_inj.1; omega
              clear he hx
              go_wp2
              go_quiet (fail)
              go_wp2
              go_roundw
              case rel => exact ⟨k + 1, true, by omega, by go_num, rfl, HN, by show _ = _; rw [drewN_heap]; exact HI3.out, below_drewN hb3 _⟩
              case measure => simp [intOf]; omega
        · obtain rfl : k = i := by omega
          cases B with
          | false =>
            have HN : Hid (S = df (s.data.toList.take (k + 1))) := by
              show _ = _
              rw [HST.out]
              have := HB.out
              cases hx : (s.data.toList.take k).contains c with
              | true => rfl
              | false => rw [hx] at this; cases this
            go_wp2
            go_roundg (gk - 1)
            case rel => exact ⟨k + 1, S, by omega, rfl, by omega, HN, HI3, hb3⟩
            case measure => omega
          | true =>
            have HN : Hid (S + 1 = df (s.data.toList.take (k + 1))) := by
              show _ = _
              rw [HST.out]
              have := HB.out
              cases hx : (s.data.toList.take k).contains c with
              | false => rfl
              | true => rw [hx] at this; cases this
            go_wp2
            go_roundg (gk - 1)
            case rel => exact ⟨k + 1, S + 1, by omega, by go_num, by omega, HN, HI3, hb3⟩
            case measure => omega
    · have HX : Hid ((S : Int) = ((df s.data.toList : Nat) : Int)) := by show _ = _; rw [HS.out, show i = s.size by omega, take_all]
      go_wp2_with (at_next; refine wpList_next_end _ rfl _ rfl r s i rfl HI.out hlt ?_)
      go_ret
      exact ⟨ret_int HX.out, hbw⟩
end Go.Proofs.YtlkeemnnncnibaaDoor

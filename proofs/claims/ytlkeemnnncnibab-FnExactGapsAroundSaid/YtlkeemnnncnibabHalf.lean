/-
  Contracts of the halves of a ticket.
-/
import Derived.Test.YtlkeemnnncnibabTick
import Derived.Deep.QuietTactic
import Derived.BigQuiet
import Derived.Deep.RegionWith
import Derived.Deep.DrawnRows
import Derived.Outline
import Derived.WalkSpells
namespace Go.Proofs.Ytlkeemnnncnibab
open Go.RowKit

theorem quiet_eq {P : Program} {f : FuncId} {args : Array Value} {w : World} {n : Nat} {v : Value}
    (h : Calls P f args (w.drewN n) fun e w' => e = .returned v ∧ w.drewN n = w') : Calls P f args (w.drewN n) fun e w'' => e = .returned v ∧ ∃ m, w'' = w.drewN m :=
  h.mono fun _ _ ⟨he, hm⟩ => ⟨he, n, hm.symm⟩
theorem bcell {W w1 : World} (hb : Below W.heap.size W w1) : (∀ b o, b < W.heap.size → w1.cell? ⟨b, o, none⟩ = W.cell? ⟨b, o, none⟩) ∧ (∀ b o, b < W.heap.size → w1.frozen? ⟨b, o, none⟩ = W.frozen? ⟨b, o, none⟩) :=
  ⟨fun b o h => hb.cell (p := ⟨b, o, none⟩) h, fun b o h => hb.frozen (p := ⟨b, o, none⟩) h⟩

theorem halfOf_any (s : ByteArray) (w : World) (hs : s.size ≤ 1000) (hd : digB s.data.toList = true) :
    Calls Try.prog 84 #[.string s] w fun e w' => e = .returned (.agg #[.int .i64 s.size, .int .i64 (dsum s.data.toList)]) ∧ Below w.heap.size w w' := by
  have HD := Lib.hid hd; clear hd
  go_enter Try.func84, Try.ntmps84
  go_wp2
  go_loop [3, 7] (fun t i => ∃ k : Nat, k ≤ s.size ∧ i = .int .i64 k ∧ t = .int .i64 (dsum (s.data.toList.take k))) (fun _ i => s.size - (intOf i).toNat)
  case atStart => exact ⟨0, Nat.zero_le _, rfl, rfl⟩
  case round =>
    obtain ⟨k, hk, rfl, rfl⟩ := hrel
    have hb := dsum_bd (s.data.toList.take k) (digB_take _ _ HD.out)
    have hl : (s.data.toList.take k).length ≤ k := List.length_take_le _ _
    obtain ⟨hb1, hb2⟩ := hb
    by_cases hlt : k < s.size
    · have hc := digB_get s k hlt HD.out
      obtain ⟨hc1, hc2⟩ := hc
      go_wp2
      go_round
      case rel => exact ⟨k + 1, by omega, by go_num, val_int (by rw [take_snoc s k hlt, dsum_snoc, dv])⟩
      case measure => simp [intOf]; omega
    · have he : dsum (s.data.toList.take k) = dsum s.data.toList := by rw [show k = s.size by omega, take_all]
      have HE := Lib.hid he; clear he
      go_wp2
      refine bodyPost_ret (v := .agg #[.int .i64 s.size, .int .i64 (dsum (s.data.toList.take k))]) (by simp [results, Try.results84, go_sem]) rfl ⟨by rw [HE.out], ?_⟩
      go_grown

theorem half_nat (s : ByteArray) : ((s.size : Int) / 2).toNat = s.size / 2 := by omega
/-- The list of the first half, of the second one. -/
def lo (s : ByteArray) : List UInt8 := s.data.toList.take (s.size / 2)
def hi (s : ByteArray) : List UInt8 := s.data.toList.drop (s.size / 2)
theorem lo_list (s : ByteArray) : (s.extract 0 ((s.size : Int) / 2).toNat).data.toList = lo s := by
  rw [half_nat, lo]; simp [ByteArray.data_extract]
theorem hi_list (s : ByteArray) : (s.extract ((s.size : Int) / 2).toNat s.size).data.toList = hi s := by
  rw [half_nat, hi]; simp [ByteArray.data_extract]
  exact List.take_of_length_le (by simp)
theorem lo_list' (s : ByteArray) : (s.extract 0 (s.size / 2)).data.toList = lo s := by have := lo_list s; rwa [half_nat] at this
theorem hi_list' (s : ByteArray) : (s.extract (s.size / 2) s.size).data.toList = hi s := by have := hi_list s; rwa [half_nat] at this
theorem tup_ints {k : IntKind} {a b c d : Int} (h : a = b) (g : c = d) : Ending.returned (.tuple #[.int k a, .int k c]) = .returned (.tuple #[.int k b, .int k d]) := by rw [h, g]
theorem lo_sz (s : ByteArray) : (s.extract 0 ((s.size : Int) / 2).toNat).size = s.size / 2 := by
  rw [half_nat]; simp [ByteArray.size_extract]; omega
theorem hi_sz (s : ByteArray) : (s.extract ((s.size : Int) / 2).toNat s.size).size = s.size - s.size / 2 := by
  rw [half_nat]; simp [ByteArray.size_extract]
theorem lo_le (s : ByteArray) (h : s.size ≤ 1000) : (s.extract 0 ((s.size : Int) / 2).toNat).size ≤ 1000 := by rw [lo_sz]; omega
theorem hi_le (s : ByteArray) (h : s.size ≤ 1000) : (s.extract ((s.size : Int) / 2).toNat s.size).size ≤ 1000 := by rw [hi_sz]; omega
theorem lo_dig (s : ByteArray) (h : digB s.data.toList = true) : digB (s.extract 0 ((s.size : Int) / 2).toNat).data.toList = true := by rw [lo_list]; exact digB_take _ _ h
theorem hi_dig (s : ByteArray) (h : digB s.data.toList = true) : digB (s.extract ((s.size : Int) / 2).toNat s.size).data.toList = true := by rw [hi_list]; exact digB_drop _ _ h
theorem chain {w a b : World} (h : Below w.heap.size w a) (k : Below a.heap.size a b) : Below w.heap.size w b := h.trans (k.mono h.size)

theorem tkHalves_any (s : ByteArray) (w : World) (hs : s.size ≤ 1000) (hd : digB s.data.toList = true) :
    Calls Try.prog 85 #[.string s] w fun e w' => e = .returned (.tuple #[.int .i64 (dsum (lo s)), .int .i64 (dsum (hi s))]) ∧ ∃ n, w' = w.drewN n := by
  have HD := Lib.hid hd; clear hd
  have h0 : (0:Int) ≤ (s.size:Int)/2 := by omega
  have h1 : (s.size:Int)/2 ≤ s.size := by omega
  go_enter Try.func85, Try.ntmps85
  go_wp2_with fail
  go_quiet ((go_at_call 88; first | exact quiet_eq (tkSum_any _ _ (lo_le s hs) (lo_dig s HD.out)) | exact quiet_eq (tkSum_any _ _ (hi_le s hs) (hi_dig s HD.out))))
  go_wp2
  go_ret2
  exact ⟨tup_ints (congrArg dsum (lo_list' s)) (congrArg dsum (hi_list' s)), _, rfl⟩
/-- A block of four numbers of the call's own. -/
def Four (w : World) (b : Nat) : Prop := w.heap[b]? = some (.cells #[.int .i64 0, .int .i64 0, .int .i64 0, .int .i64 0] 54 (0, 0))
theorem four_new (w : World) : Four (w.alloc (.cells #[.int .i64 0, .int .i64 0, .int .i64 0, .int .i64 0] 54)).drew w.heap.size := by
  show (w.heap.push _)[w.heap.size]? = _
  simp
theorem four_keep {a c : World} {b : Nat} (h : Four a b) (k : Below a.heap.size a c) : Four c b := by
  have hl : b < a.heap.size := by
    unfold Four at h
    exact (Array.getElem?_eq_some_iff.1 h).1
  unfold Four; rw [k.block b hl]; exact h
theorem Four.facts {w : World} {b : Nat} (h : Four w b) : w.cell? ⟨b, 0, none⟩ = some (.int .i64 0) ∧ w.cell? ⟨b, 1, none⟩ = some (.int .i64 0) ∧ w.cell? ⟨b, 2, none⟩ = some (.int .i64 0) ∧ w.cell? ⟨b, 3, none⟩ = some (.int .i64 0) ∧ (∀ o, w.frozen? ⟨b, o, none⟩ = false) ∧ b < w.heap.size := by
  unfold Four at h
  refine ⟨by simp [World.cell?, h], by simp [World.cell?, h], by simp [World.cell?, h], by simp [World.cell?, h], fun o => by simp [World.frozen?, h], (Array.getElem?_eq_some_iff.1 h).1⟩
/-- How many digits a half has. -/
def hsz (s : ByteArray) : Int := ((s.size / 2 : Nat) : Int)
theorem halfLo (s : ByteArray) (w : World) (hs : s.size ≤ 1000) (hd : digB s.data.toList = true) :
    Calls Try.prog 84 #[.string (s.extract 0 ((s.size : Int) / 2).toNat)] w fun e w' => e = .returned (.agg #[.int .i64 (hsz s), .int .i64 (dsum (lo s))]) ∧ Below w.heap.size w w' :=
  (halfOf_any _ _ (lo_le s hs) (lo_dig s hd)).mono fun e w' ⟨he, hb⟩ => ⟨by rw [he, lo_list, lo_sz, hsz], hb⟩
theorem halfHi (s : ByteArray) (w : World) (hs : s.size ≤ 1000) (hev : s.size % 2 = 0) (hd : digB s.data.toList = true) :
    Calls Try.prog 84 #[.string (s.extract ((s.size : Int) / 2).toNat s.size)] w fun e w' => e = .returned (.agg #[.int .i64 (hsz s), .int .i64 (dsum (hi s))]) ∧ Below w.heap.size w w' :=
  (halfOf_any _ _ (hi_le s hs) (hi_dig s hd)).mono fun e w' ⟨he, hb⟩ => ⟨by rw [he, hi_list, hi_sz, hsz, show s.size - s.size / 2 = s.size / 2 by omega], hb⟩
theorem halvesOf_any (s : ByteArray) (w : World) (hs : s.size ≤ 1000) (hev : s.size % 2 = 0) (hd : digB s.data.toList = true) :
    Calls Try.prog 67 #[.string s] w fun e w' => e = .returned (.agg #[.int .i64 (hsz s), .int .i64 (dsum (lo s)), .int .i64 (hsz s), .int .i64 (dsum (hi s))]) ∧ Below w.heap.size w w' := by
  have HD := Lib.hid hd; clear hd
  have HE := Lib.hid hev; clear hev
  have h0 : (0:Int) ≤ (s.size:Int)/2 := by omega
  have h1 : (s.size:Int)/2 ≤ s.size := by omega
  go_enter Try.func67, Try.ntmps67
  go_wp2_with fail
  go_region_with (first | (go_at_call 84; go_must (first | (with_reducible refine (halfLo s _ hs HD.out).mono ?_) | (with_reducible refine (halfHi s _ hs HE.out HD.out).mono ?_)); rintro e w1 ⟨rfl, hb⟩; go_must (have H1 := chain (w := w) (by go_grown) hb); go_must (have F := four_keep (by first | exact four_new _ | assumption) hb; have hz := hb.size; (try simp at hz); clear hb; obtain ⟨c0, c1, c2, c3, c4, c5⟩ := F.facts)))
  go_wp2
  refine bodyPost_ret (v := .agg #[.int .i64 (hsz s), .int .i64 (dsum (lo s)), .int .i64 (hsz s), .int .i64 (dsum (hi s))]) (by simp [results, Try.results67, go_sem, c0, c1, c2, c3]) rfl ⟨rfl, by go_grown⟩
end Go.Proofs.Ytlkeemnnncnibab

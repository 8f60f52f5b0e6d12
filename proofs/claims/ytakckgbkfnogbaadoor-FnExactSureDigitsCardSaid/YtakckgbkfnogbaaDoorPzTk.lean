/-
  Halves, numbers and different digits of a ticket (elder parts put together).
-/
import Derived.Test.YtakckgbkfnogbaaDoorPzGood
import Derived.Test.YtakckgbkfnogbaaDoorShelf
import Derived.Lib.IndexLaws
import Derived.Deep.QuietTactic
import Derived.BigQuiet
import Derived.Deep.RegionWith
import Derived.Deep.DrawnRows
import Derived.Outline
import Derived.WalkSpells
import Derived.WalkSmall
namespace Go.Proofs.YtakckgbkfnogbaaDoor
open Go.RowKit
set_option maxRecDepth 100000

theorem tkSum_any (s : ByteArray) (w : World) (hs : s.size ≤ 1000) (hd : digB s.data.toList = true) :
    Calls Tryd.prog 100 #[.string s] w fun e w' => e = .returned (.int .i64 (dsum s.data.toList)) ∧ w = w' := by
  have HD := Lib.hid hd; clear hd
  go_enter Tryd.func100, Tryd.ntmps100
  go_wp2
  go_loop [3, 4] (fun t i => ∃ k : Nat, k ≤ s.size ∧ i = .int .i64 k ∧ t = .int .i64 (dsum (s.data.toList.take k))) (fun _ i => s.size - (intOf i).toNat)
  case atStart => exact ⟨0, Nat.zero_le _, rfl, rfl⟩
  case round =>
    obtain ⟨k, hk, rfl, rfl⟩ := hrel
    have hb := dsum_bd (s.data.toList.take k) (digB_take _ _ HD.out)
    have hl : (s.data.toList.take k).length ≤ k := List.length_take_le _ _
    obtain ⟨hb1, hb2⟩ := hb
    by_cases hlt : k < s.size
    · have hc := digB_get s k hlt HD.out
      obtain ⟨hc1, hc2⟩ := hc
      go_wp2
      go_round
      case rel => exact ⟨k + 1, by omega, by go_num, val_int (by rw [take_snoc s k hlt, dsum_snoc, dv])⟩
      case measure => simp [intOf]; omega
    · go_wp2
      go_ret
      exact ⟨ret_int (by rw [show k = s.size by omega, take_all]), rfl⟩

theorem quiet_eq {P : Program} {f : FuncId} {args : Array Value} {w : World} {n : Nat} {v : Value}
    (h : Calls P f args (w.drewN n) fun e w' => e = .returned v ∧ w.drewN n = w') : Calls P f args (w.drewN n) fun e w'' => e = .returned v ∧ ∃ m, w'' = w.drewN m :=
  h.mono fun _ _ ⟨he, hm⟩ => ⟨he, n, hm.symm⟩
theorem bcell {W w1 : World} (hb : Below W.heap.size W w1) : (∀ b o, b < W.heap.size → w1.cell? ⟨b, o, none⟩ = W.cell? ⟨b, o, none⟩) ∧ (∀ b o, b < W.heap.size → w1.frozen? ⟨b, o, none⟩ = W.frozen? ⟨b, o, none⟩) :=
  ⟨fun b o h => hb.cell (p := ⟨b, o, none⟩) h, fun b o h => hb.frozen (p := ⟨b, o, none⟩) h⟩

theorem halfOf_any (s : ByteArray) (w : World) (hs : s.size ≤ 1000) (hd : digB s.data.toList = true) :
    Calls Tryd.prog 96 #[.string s] w fun e w' => e = .returned (.agg #[.int .i64 s.size, .int .i64 (dsum s.data.toList)]) ∧ Below w.heap.size w w' := by
  have HD := Lib.hid hd; clear hd
  go_enter Tryd.func96, Tryd.ntmps96
  go_wp2
  go_loop [3, 7] (fun t i => ∃ k : Nat, k ≤ s.size ∧ i = .int .i64 k ∧ t = .int .i64 (dsum (s.data.toList.take k))) (fun _ i => s.size - (intOf i).toNat)
  case atStart => exact ⟨0, Nat.zero_le _, rfl, rfl⟩
  case round =>
    obtain ⟨k, hk, rfl, rfl⟩ := hrel
    have hb := dsum_bd (s.data.toList.take k) (digB_take _ _ HD.out)
    have hl : (s.data.toList.take k).length ≤ k := List.length_take_le _ _
    obtain ⟨hb1, hb2⟩ := hb
    by_cases hlt : k < s.size
    · have hc := digB_get s k hlt HD.out
      obtain ⟨hc1, hc2⟩ := hc
      go_wp2
      go_round
      case rel => exact ⟨k + 1, by omega, by go_num, val_int (by rw [take_snoc s k hlt, dsum_snoc, dv])⟩
      case measure => simp [intOf]; omega
    · have he : dsum (s.data.toList.take k) = dsum s.data.toList := by rw [show k = s.size by omega, take_all]
      have HE := Lib.hid he; clear he
      go_wp2
      refine bodyPost_ret (v := .agg #[.int .i64 s.size, .int .i64 (dsum (s.data.toList.take k))]) (by simp [results, Tryd.results96, go_sem]) rfl ⟨by rw [HE.out], ?_⟩
      go_grown

theorem half_nat (s : ByteArray) : ((s.size : Int) / 2).toNat = s.size / 2 := by omega
/-- The list of the first half, of the second one. -/
def lo (s : ByteArray) : List UInt8 := s.data.toList.take (s.size / 2)
def hi (s : ByteArray) : List UInt8 := s.data.toList.drop (s.size / 2)
theorem lo_list (s : ByteArray) : (s.extract 0 ((s.size : Int) / 2).toNat).data.toList = lo s := by
  rw [half_nat, lo]; simp [ByteArray.data_extract]
theorem hi_list (s : ByteArray) : (s.extract ((s.size : Int) / 2).toNat s.size).data.toList = hi s := by
  rw [half_nat, hi]; simp [ByteArray.data_extract]
  exact List.take_of_length_le (by simp)
theorem lo_list' (s : ByteArray) : (s.extract 0 (s.size / 2)).data.toList = lo s := by have := lo_list s; rwa [half_nat] at this
theorem hi_list' (s : ByteArray) : (s.extract (s.size / 2) s.size).data.toList = hi s := by have := hi_list s; rwa [half_nat] at this
theorem tup_ints {k : IntKind} {a b c d : Int} (h : a = b) (g : c = d) : Ending.returned (.tuple #[.int k a, .int k c]) = .returned (.tuple #[.int k b, .int k d]) := by rw [h, g]
theorem lo_sz (s : ByteArray) : (s.extract 0 ((s.size : Int) / 2).toNat).size = s.size / 2 := by
  rw [half_nat]; simp [ByteArray.size_extract]; omega
theorem hi_sz (s : ByteArray) : (s.extract ((s.size : Int) / 2).toNat s.size).size = s.size - s.size / 2 := by
  rw [half_nat]; simp [ByteArray.size_extract]
theorem lo_le (s : ByteArray) (h : s.size ≤ 1000) : (s.extract 0 ((s.size : Int) / 2).toNat).size ≤ 1000 := by rw [lo_sz]; omega
theorem hi_le (s : ByteArray) (h : s.size ≤ 1000) : (s.extract ((s.size : Int) / 2).toNat s.size).size ≤ 1000 := by rw [hi_sz]; omega
theorem lo_dig (s : ByteArray) (h : digB s.data.toList = true) : digB (s.extract 0 ((s.size : Int) / 2).toNat).data.toList = true := by rw [lo_list]; exact digB_take _ _ h
theorem hi_dig (s : ByteArray) (h : digB s.data.toList = true) : digB (s.extract ((s.size : Int) / 2).toNat s.size).data.toList = true := by rw [hi_list]; exact digB_drop _ _ h
theorem tkHalves_any (s : ByteArray) (w : World) (hs : s.size ≤ 1000) (hd : digB s.data.toList = true) :
    Calls Tryd.prog 90 #[.string s] w fun e w' => e = .returned (.tuple #[.int .i64 (dsum (lo s)), .int .i64 (dsum (hi s))]) ∧ ∃ n, w' = w.drewN n := by
  have HD := Lib.hid hd; clear hd
  have h0 : (0:Int) ≤ (s.size:Int)/2 := by omega
  have h1 : (s.size:Int)/2 ≤ s.size := by omega
  go_enter Tryd.func90, Tryd.ntmps90
  go_wp2_with fail
  go_quiet ((go_at_call 100; first | exact quiet_eq (tkSum_any _ _ (lo_le s hs) (lo_dig s HD.out)) | exact quiet_eq (tkSum_any _ _ (hi_le s hs) (hi_dig s HD.out))))
  go_wp2
  go_ret2
  exact ⟨tup_ints (congrArg dsum (lo_list' s)) (congrArg dsum (hi_list' s)), _, rfl⟩
/-- A block of four numbers of the call's own. -/
def Four (w : World) (b : Nat) : Prop := w.heap[b]? = some (.cells #[.int .i64 0, .int .i64 0, .int .i64 0, .int .i64 0] 95 (0, 0))
theorem four_new (w : World) : Four (w.alloc (.cells #[.int .i64 0, .int .i64 0, .int .i64 0, .int .i64 0] 95)).drew w.heap.size := by
  show (w.heap.push _)[w.heap.size]? = _
  simp
theorem four_keep {a c : World} {b : Nat} (h : Four a b) (k : Below a.heap.size a c) : Four c b := by
  have hl : b < a.heap.size := by
    unfold Four at h
    exact (Array.getElem?_eq_some_iff.1 h).1
  unfold Four; rw [k.block b hl]; exact h
theorem Four.facts {w : World} {b : Nat} (h : Four w b) : w.cell? ⟨b, 0, none⟩ = some (.int .i64 0) ∧ w.cell? ⟨b, 1, none⟩ = some (.int .i64 0) ∧ w.cell? ⟨b, 2, none⟩ = some (.int .i64 0) ∧ w.cell? ⟨b, 3, none⟩ = some (.int .i64 0) ∧ (∀ o, w.frozen? ⟨b, o, none⟩ = false) ∧ b < w.heap.size := by
  unfold Four at h
  refine ⟨by simp [World.cell?, h], by simp [World.cell?, h], by simp [World.cell?, h], by simp [World.cell?, h], fun o => by simp [World.frozen?, h], (Array.getElem?_eq_some_iff.1 h).1⟩
/-- How many digits a half has. -/
def hsz (s : ByteArray) : Int := ((s.size / 2 : Nat) : Int)
theorem halfLo (s : ByteArray) (w : World) (hs : s.size ≤ 1000) (hd : digB s.data.toList = true) :
    Calls Tryd.prog 96 #[.string (s.extract 0 ((s.size : Int) / 2).toNat)] w fun e w' => e = .returned (.agg #[.int .i64 (hsz s), .int .i64 (dsum (lo s))]) ∧ Below w.heap.size w w' :=
  (halfOf_any _ _ (lo_le s hs) (lo_dig s hd)).mono fun e w' ⟨he, hb⟩ => ⟨by rw [he, lo_list, lo_sz, hsz], hb⟩
theorem halfHi (s : ByteArray) (w : World) (hs : s.size ≤ 1000) (hev : s.size % 2 = 0) (hd : digB s.data.toList = true) :
    Calls Tryd.prog 96 #[.string (s.extract ((s.size : Int) / 2).toNat s.size)] w fun e w' => e = .returned (.agg #[.int .i64 (hsz s), .int .i64 (dsum (hi s))]) ∧ Below w.heap.size w w' :=
  (halfOf_any _ _ (hi_le s hs) (hi_dig s hd)).mono fun e w' ⟨he, hb⟩ => ⟨by rw [he, hi_list, hi_sz, hsz, show s.size - s.size / 2 = s.size / 2 by omega], hb⟩
theorem halvesOf_any (s : ByteArray) (w : World) (hs : s.size ≤ 1000) (hev : s.size % 2 = 0) (hd : digB s.data.toList = true) :
    Calls Tryd.prog 81 #[.string s] w fun e w' => e = .returned (.agg #[.int .i64 (hsz s), .int .i64 (dsum (lo s)), .int .i64 (hsz s), .int .i64 (dsum (hi s))]) ∧ Below w.heap.size w w' := by
  have HD := Lib.hid hd; clear hd
  have HE := Lib.hid hev; clear hev
  have h0 : (0:Int) ≤ (s.size:Int)/2 := by omega
  have h1 : (s.size:Int)/2 ≤ s.size := by omega
  go_enter Tryd.func81, Tryd.ntmps81
  go_wp2_with fail
  go_region_with (first | (go_at_call 96; go_must (first | (with_reducible refine (halfLo s _ hs HD.out).mono ?_) | (with_reducible refine (halfHi s _ hs HE.out HD.out).mono ?_)); rintro e w1 ⟨rfl, hb⟩; go_must (have H1 := chain (w := w) (by go_grown) hb); go_must (have F := four_keep (by first | exact four_new _ | assumption) hb; have hz := hb.size; (try simp at hz); clear hb; obtain ⟨c0, c1, c2, c3, c4, c5⟩ := F.facts)))
  go_wp2
  refine bodyPost_ret (v := .agg #[.int .i64 (hsz s), .int .i64 (dsum (lo s)), .int .i64 (hsz s), .int .i64 (dsum (hi s))]) (by simp [results, Tryd.results81, go_sem, c0, c1, c2, c3]) rfl ⟨rfl, by go_grown⟩

/-- The number that digits tell. -/
def dnum (l : List UInt8) : Int := l.foldl (fun n c => n * 10 + dv c) 0
theorem dnum_snoc (l : List UInt8) (c : UInt8) : dnum (l ++ [c]) = dnum l * 10 + dv c := by simp [dnum, List.foldl_append]
theorem dnum_bd (n : Nat) : ∀ l : List UInt8, l.length = n → digB l = true → 0 ≤ dnum l ∧ dnum l < 10 ^ n := by
  induction n with
  | zero => intro l hl _; have : l = [] := List.length_eq_zero_iff.1 hl; subst this; simp [dnum]
  | succ n ih =>
    intro l hl hd
    obtain ⟨a, c, rfl⟩ : ∃ a c, l = a ++ [c] := ⟨l.dropLast, l.getLast (by intro e; subst e; simp at hl), (List.dropLast_concat_getLast _).symm⟩
    rw [digB_snoc] at hd; simp at hd hl
    have h1 := ih a hl hd.1
    have h2 := (dgB_iff c).1 hd.2
    rw [dnum_snoc, Int.pow_succ]; unfold dv; omega
theorem dnum_12 (l : List UInt8) (hl : l.length ≤ 12) (hd : digB l = true) : 0 ≤ dnum l ∧ dnum l ≤ 999999999999 := by
  have h := dnum_bd l.length l rfl hd
  have hp : (10 : Nat) ^ l.length ≤ 10 ^ 12 := Nat.pow_le_pow_right (by omega) hl
  have : (10 : Int) ^ l.length ≤ 10 ^ 12 := by exact_mod_cast hp
  omega

theorem numberIn_any (s : ByteArray) (w : World) (hs : s.size ≤ 12) (hd : digB s.data.toList = true) :
    Calls Tryd.prog 63 #[.string s] w fun e w' => e = .returned (.int .i64 (dnum s.data.toList)) ∧ w = w' := by
  have HD := Lib.hid hd; clear hd
  go_enter Tryd.func63, Tryd.ntmps63
  go_wp2
  go_loop [3, 7] (fun t i => ∃ k : Nat, k ≤ s.size ∧ i = .int .i64 k ∧ t = .int .i64 (dnum (s.data.toList.take k))) (fun _ i => s.size - (intOf i).toNat)
  case atStart => exact ⟨0, Nat.zero_le _, rfl, rfl⟩
  case round =>
    obtain ⟨k, hk, rfl, rfl⟩ := hrel
    have hl : (s.data.toList.take k).length ≤ k := List.length_take_le _ _
    have hb := dnum_12 (s.data.toList.take k) (by omega) (digB_take _ _ HD.out)
    obtain ⟨hb1, hb2⟩ := hb
    by_cases hlt : k < s.size
    · have hc := digB_get s k hlt HD.out
      obtain ⟨hc1, hc2⟩ := hc
      go_wp2
      go_round
      case rel => exact ⟨k + 1, by omega, by go_num, val_int (by rw [take_snoc s k hlt, dnum_snoc, dv])⟩
      case measure => simp [intOf]; omega
    · go_wp2
      go_ret
      exact ⟨ret_int (by rw [show k = s.size by omega, take_all]), rfl⟩
theorem tkNumber_any (s : ByteArray) (w : World) (hs : s.size ≤ 12) (hd : digB s.data.toList = true) :
    Calls Tryd.prog 59 #[.string s] w fun e w' => e = .returned (.int .i64 (dnum s.data.toList)) ∧ w = w' := by
  have HD := Lib.hid hd; clear hd
  go_enter Tryd.func59, Tryd.ntmps59
  go_wp2
  go_loop [3, 4] (fun t i => ∃ k : Nat, k ≤ s.size ∧ i = .int .i64 k ∧ t = .int .i64 (dnum (s.data.toList.take k))) (fun _ i => s.size - (intOf i).toNat)
  case atStart => exact ⟨0, Nat.zero_le _, rfl, rfl⟩
  case round =>
    obtain ⟨k, hk, rfl, rfl⟩ := hrel
    have hl : (s.data.toList.take k).length ≤ k := List.length_take_le _ _
    have hb := dnum_12 (s.data.toList.take k) (by omega) (digB_take _ _ HD.out)
    obtain ⟨hb1, hb2⟩ := hb
    by_cases hlt : k < s.size
    · have hc := digB_get s k hlt HD.out
      obtain ⟨hc1, hc2⟩ := hc
      go_wp2
      go_round
      case rel => exact ⟨k + 1, by omega, by go_num, val_int (by rw [take_snoc s k hlt, dnum_snoc, dv])⟩
      case measure => simp [intOf]; omega
    · go_wp2
      go_ret
      exact ⟨ret_int (by rw [show k = s.size by omega, take_all]), rfl⟩

theorem ix_here (l : List UInt8) (k : Nat) (h : k < l.length) : (Lib.indexByte l l[k] = (k : Int)) ↔ (l.take k).contains l[k] = false := by
  constructor
  · intro he
    have := (Lib.indexByte_some he).2
    cases hc : (l.take k).contains l[k] with
    | false => rfl
    | true =>
      rw [List.contains_iff_mem] at hc
      obtain ⟨j, hj, hjk⟩ := List.getElem_of_mem hc
      have hj' : j < k := by rw [List.length_take] at hj; omega
      rw [List.getElem_take] at hjk
      exact absurd (by rw [List.getElem?_eq_getElem (by omega), hjk]) (this j hj')
  · intro hc
    have hge := Lib.indexByte_ge l l[k]
    rcases Int.lt_or_le (Lib.indexByte l l[k]) 0 with h1 | h1
    · have : Lib.indexByte l l[k] = -1 := by omega
      exact absurd (List.getElem?_eq_getElem h) (Lib.indexByte_none this k)
    · obtain ⟨o, ho⟩ : ∃ o : Nat, Lib.indexByte l l[k] = (o : Int) := ⟨(Lib.indexByte l l[k]).toNat, by omega⟩
      obtain ⟨h2, h3⟩ := Lib.indexByte_some ho
      rcases Nat.lt_trichotomy o k with h4 | h4 | h4
      · exfalso
        have : (l.take k).contains l[k] = true := by
          rw [List.contains_iff_mem]
          obtain ⟨h5, h6⟩ := List.getElem?_eq_some_iff.1 h2
          rw [← h6]
          exact List.mem_take_iff_getElem.2 ⟨o, by omega, rfl⟩
        rw [hc] at this; cases this
      · rw [ho, h4]
      · exact absurd (List.getElem?_eq_getElem h) (h3 k h4)
theorem df_le (l : List UInt8) : df l ≤ l.length := by
  unfold df
  rw [← List.length_reverse]
  generalize l.reverse = r
  induction r with
  | nil => exact Nat.le_refl _
  | cons c r ih => simp only [dfr, List.length_cons]; split <;> omega
theorem differentDigits_any (s : ByteArray) (w : World) (hs : s.size ≤ maxLen) :
    Calls Tryd.prog 84 #[.string s] w fun e w' => e = .returned (.int .i64 ((df s.data.toList : Nat) : Int)) ∧ w = w' := by
  unfold maxLen at hs
  go_enter Tryd.func84, Tryd.ntmps84
  go_wp2
  go_loop [3, 7] (fun t i => ∃ (k S : Nat), k ≤ s.size ∧ i = .int .i64 k ∧ t = .int .i64 S ∧ S ≤ k ∧ Hid (S = df (s.data.toList.take k))) (fun _ i => s.size - (intOf i).toNat)
  case atStart => exact ⟨0, 0, Nat.zero_le _, rfl, rfl, Nat.le_refl _, rfl⟩
  case round =>
    obtain ⟨k, S, hk, rfl, rfl, hSk, HS⟩ := hrel
    by_cases hlt : k < s.size
    · have hix := ix_here s.data.toList k (by simpa using hlt)
      have hx : s.data.toList[k]'(by simpa using hlt) = s[k] := rfl
      rw [hx] at hix
      have hq : ∀ W, Calls Tryd.prog 97 #[.string s, .int .u8 (s[k].toNat : Int)] W fun e w' => e = .returned (.int .i64 (Lib.indexByte s.data.toList s[k])) ∧ W = w' := by
        intro W
        refine (Tryd.strings_IndexByte s _ W).mono ?_
        rintro e w' ⟨h1, h2⟩
        refine ⟨?_, h2.symm⟩
        rw [h1]; congr 3
        simp
      obtain ⟨z, hz⟩ : ∃ z, z = Lib.indexByte s.data.toList s[k] := ⟨_, rfl⟩
      rw [← hz] at hq hix
      have HQ := Lib.hid hq
      cases hc : (s.data.toList.take k).contains s[k] with
      | false =>
        have hzk : (z == (k : Int)) = true := by rw [beq_iff_eq]; exact hix.2 hc
        have HN : Hid (S + 1 = df (s.data.toList.take (k + 1))) := by show _ = _; rw [take_snoc s k hlt, df_snoc, hc, ← HS.out]; rfl
        have hzk' : z = (k : Int) := hix.2 hc
        clear hz hq hix hc hx hzk
        subst hzk'
        go_wp2_with (go_at_call 97; refine (HQ.out _).mono ?_; rintro e w1 ⟨rfl, rfl⟩)
        go_round
        case rel => exact ⟨k + 1, S + 1, by omega, by go_num, by go_num, by omega, HN⟩
        case measure => simp [intOf]; omega
      | true =>
        have hzk : (z == (k : Int)) = false := by
          rw [beq_eq_false_iff_ne]; intro h; rw [hix.1 h] at hc; cases hc
        have HN : Hid (S = df (s.data.toList.take (k + 1))) := by show _ = _; rw [take_snoc s k hlt, df_snoc, hc, ← HS.out]; rfl
        clear hz hq hix hc hx
        go_wp2_with (go_at_call 97; refine (HQ.out _).mono ?_; rintro e w1 ⟨rfl, rfl⟩)
        go_round
        case rel => exact ⟨k + 1, S, by omega, by go_num, rfl, by omega, HN⟩
        case measure => simp [intOf]; omega
    · have HR : Hid ((S : Int) = ((df s.data.toList : Nat) : Int)) := by show _ = _; rw [HS.out, show k = s.size by omega, take_all]
      go_wp2
      go_ret
      exact ⟨ret_int HR.out, rfl⟩
end Go.Proofs.YtakckgbkfnogbaaDoor

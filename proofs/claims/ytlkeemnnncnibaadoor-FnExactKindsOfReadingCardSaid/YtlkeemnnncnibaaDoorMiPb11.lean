/-
  Readings: the law of KindsOfReading.
-/
import Derived.Test.YtlkeemnnncnibaaDoorMiIm7
import Derived.Test.YtlkeemnnncnibaaDoorMiSp4
import Derived.Lib.Explode
namespace Go.Proofs.YtlkeemnnncnibaaDoor
open Go.RowKit

/-- The letters, in their order. -/
def ltr (k : Nat) : UInt8 := if k = 0 then 97 else if k = 1 then 109 else if k = 2 then 117 else if k = 3 then 114 else if k = 4 then 102 else 100
theorem kB_lt (k : Nat) (hk : k < 6) : kB ⟨[ltr k].toArray⟩ = true := by
  have : k = 0 ∨ k = 1 ∨ k = 2 ∨ k = 3 ∨ k = 4 ∨ k = 5 := by omega
  unfold kB
  rw [toL]
  rcases this with e | e | e | e | e | e <;> subst e <;> decide
/-- The letters of the first kinds that a reading has. -/
def kst (n : Nat) (t : List UInt8) : Nat → List UInt8
  | 0 => []
  | k + 1 => kst n t k ++ (if KI n ⟨[ltr k].toArray⟩ t then [ltr k] else [])
theorem kst_len (n : Nat) (t : List UInt8) (k : Nat) : (kst n t k).length ≤ k := by
  induction k with
  | zero => exact Nat.le_refl _
  | succ k ih => rw [kst, List.length_append]; split <;> simp <;> omega
def krA (s : ByteArray) : ByteArray := if rdB s then ⟨(kst s.size s.data.toList 6).toArray⟩ else ⟨#[]⟩
theorem krA_no {s : ByteArray} (h : rdB s = false) : krA s = ⟨#[]⟩ := by unfold krA; rw [h]; rfl
theorem krA_yes {s : ByteArray} (h : rdB s = true) : krA s = ⟨(kst s.size s.data.toList 6).toArray⟩ := by unfold krA; rw [h]; rfl
theorem ltr_cells (W : World) (T : TypeId) (k : Nat) (hk : k < 6) : (W.alloc (.cells #[.string ⟨#[97]⟩, .string ⟨#[109]⟩, .string ⟨#[117]⟩, .string ⟨#[114]⟩, .string ⟨#[102]⟩, .string ⟨#[100]⟩] T)).cell? ⟨W.heap.size, k, none⟩ = some (.string ⟨[ltr k].toArray⟩) := by
  have : k = 0 ∨ k = 1 ∨ k = 2 ∨ k = 3 ∨ k = 4 ∨ k = 5 := by omega
  rcases this with e | e | e | e | e | e <;> subst e <;> simp [ltr]
theorem len_of' (s : ByteArray) : s.data.toList.length = s.size := by simp
set_option maxHeartbeats 2000000 in
theorem sKinds_any (s : ByteArray) (w : World) (hs : s.size ≤ maxLen) :
    Calls Tryd.prog 7 #[.string s] w fun e w' => e = .returned (.tuple #[.string (krA s), .bool (rdB s)]) ∧ Below w.heap.size w w' := by
  have HG := Lib.hid (fun W => miGood_any s W hs)
  cases hb : rdB s with
  | false =>
    have HA := Lib.hid (krA_no hb)
    rw [hb] at HG
    clear hb
    go_enter Tryd.func7, Tryd.ntmps7
    go_wp2_with (go_at_call 9; (with_reducible refine (HG.out _).mono ?_); rintro e w1 ⟨rfl, rfl⟩)
    go_ret2
    exact ⟨ret_sb HA.out.symm rfl, Below.refl _ _⟩
  | true =>
    have HA := Lib.hid (krA_yes hb)
    rw [hb] at HG
    obtain ⟨h1, h9, hd⟩ := (rdB_iff s).1 hb
    have HIS : Hid (∀ k W, k < 6 → Calls Tryd.prog 16 #[.string s, .string ⟨[ltr k].toArray⟩] W fun e w' => e = .returned (.bool (KI s.size ⟨[ltr k].toArray⟩ s.data.toList)) ∧ Below W.heap.size W w') := fun k W hk => miIs_any s _ W (by omega) hd (kB_lt k hk)
    clear hb hd
    go_enter Tryd.func7, Tryd.ntmps7
    go_wp2_with (go_at_call 9; (with_reducible refine (HG.out _).mono ?_); rintro e w1 ⟨rfl, rfl⟩)
    obtain ⟨w2, hw2⟩ : ∃ w2 : World, w2 = w.alloc (.cells #[.string ⟨#[97]⟩, .string ⟨#[109]⟩, .string ⟨#[117]⟩, .string ⟨#[114]⟩, .string ⟨#[102]⟩, .string ⟨#[100]⟩] 9) := ⟨_, rfl⟩
    have HC : Hid (∀ k, k < 6 → w2.cell? ⟨w.heap.size, k, none⟩ = some (.string ⟨[ltr k].toArray⟩)) := by intro k hk; rw [hw2]; exact ltr_cells w _ k hk
    have hB0 : Below w.heap.size w w2 := by rw [hw2]; go_grown
    have hbs : w.heap.size < w2.heap.size := by rw [hw2, World.size_alloc]; omega
    rw [← hw2]
    clear hw2
    obtain ⟨b, hbb⟩ : ∃ b, b = w.heap.size := ⟨_, rfl⟩
    rw [← hbb] at HC hbs ⊢
    have HBB := Lib.hid hbb
    clear hbb
    go_loopw [4, 12] (fun ov i wr => ∃ (k : Nat) (B : ByteArray), k ≤ 6 ∧ i = .int .i64 k ∧ ov = .string B ∧ B.size ≤ 6 ∧ Hid (B = ⟨(kst s.size s.data.toList k).toArray⟩) ∧ Below w2.heap.size w2 wr) (fun _ i _ => 6 - (intOf i).toNat)
    case atStart => exact ⟨0, ⟨#[]⟩, Nat.zero_le _, rfl, rfl, by show 0 ≤ 6; omega, rfl, Below.refl _ _⟩
    case round =>
      obtain ⟨k, B, hk, rfl, rfl, hBz, HB, hbl⟩ := hrel
      by_cases hlt : k < 6
      · have hcell := (hbl.cell (p := ⟨b, k, none⟩) hbs).trans (HC.out k hlt)
        have his := fun W => HIS.out k W hlt
        obtain ⟨X, hX⟩ : ∃ X : ByteArray, X = ⟨[ltr k].toArray⟩ := ⟨_, rfl⟩
        have hXs : X.size = 1 := by rw [hX, sz_of]; rfl
        have hXB : B.size + X.size ≤ 10 := by omega
        have hstep : kst s.size s.data.toList (k + 1) = kst s.size s.data.toList k ++ (if KI s.size ⟨[ltr k].toArray⟩ s.data.toList then [ltr k] else []) := rfl
        have hlen := kst_len s.size s.data.toList (k + 1)
        rw [← hX] at hcell his hstep
        cases hv : KI s.size X s.data.toList with
        | true =>
          rw [hv] at his hstep
          have HN : Hid (B ++ X = ⟨(kst s.size s.data.toList (k + 1)).toArray⟩) := by show _ = _; rw [hstep, HB.out, hX, str_two]; rfl
          have hz : (B ++ X).size ≤ 6 := by rw [HN.out, sz_of]; omega
          have HIS1 := Lib.hid his
          clear his hstep hX hv hlen
          go_wp2_with (go_at_call 16; (with_reducible refine (HIS1.out _).mono ?_); rintro e w3 ⟨rfl, b3⟩)
          go_roundw
          case rel => exact ⟨k + 1, B ++ X, by omega, by go_num, rfl, hz, HN, chain hbl b3⟩
          case measure => simp [intOf]; omega
        | false =>
          rw [hv] at his hstep
          have HN : Hid (B = ⟨(kst s.size s.data.toList (k + 1)).toArray⟩) := by show _ = _; rw [hstep, HB.out]; simp
          have HIS1 := Lib.hid his
          clear his hstep hX hv hlen
          go_wp2_with (go_at_call 16; (with_reducible refine (HIS1.out _).mono ?_); rintro e w3 ⟨rfl, b3⟩)
          go_roundw
          case rel => exact ⟨k + 1, B, by omega, by go_num, rfl, hBz, HN, chain hbl b3⟩
          case measure => simp [intOf]; omega
      · have HX : Hid (B = krA s) := by show _ = _; rw [HA.out, HB.out, show k = 6 by omega]
        go_wp2
        go_ret2
        exact ⟨ret_sb HX.out rfl, chain hB0 hbl⟩
theorem chars_amu : (Lib.charsB (⟨#[97, 109, 117, 114, 102, 100]⟩ : ByteArray)).map Value.string = [.string ⟨#[97]⟩, .string ⟨#[109]⟩, .string ⟨#[117]⟩, .string ⟨#[114]⟩, .string ⟨#[102]⟩, .string ⟨#[100]⟩] := rfl
theorem split_any (W : World) : Calls Tryd.prog 17 #[.string ⟨#[97, 109, 117, 114, 102, 100]⟩, .string ⟨#[]⟩] W fun e w' => ∃ b, e = .returned (.slice (some ⟨b, 0, none⟩) 6 6) ∧ W.heap.size ≤ b ∧ b < w'.heap.size ∧ (∀ k, k < 6 → w'.cell? ⟨b, k, none⟩ = some (.string ⟨[ltr k].toArray⟩)) ∧ Below W.heap.size W w' := by
  refine (Tryd.strings_Split_chars ⟨#[97, 109, 117, 114, 102, 100]⟩ ⟨#[]⟩ W rfl (by show 6 < _; omega) (by
    intro j b hj
    have hj6 : j < 6 := (List.getElem?_eq_some_iff.1 hj).1
    have : j = 0 ∨ j = 1 ∨ j = 2 ∨ j = 3 ∨ j = 4 ∨ j = 5 := by omega
    rcases this with e | e | e | e | e | e <;> subst e <;> (have := Option.some.inj hj; subst this; decide))).mono ?_
  rintro e w' ⟨rfl, rfl⟩
  rw [chars_amu]
  refine ⟨_, rfl, by unfold World.iter; rw [World.size_alloc]; omega, by rw [World.size_alloc]; omega, fun k hk => ltr_cells _ _ k hk, by unfold World.iter; exact ((Below.refl _ _).alloc (Nat.le_refl _) _).alloc (by rw [World.size_alloc]; omega) _⟩
set_option maxHeartbeats 2000000 in
theorem iKinds_any (s : ByteArray) (w : World) (hs : s.size ≤ maxLen) :
    Calls Tryd.prog 8 #[.string s] w fun e w' => e = .returned (.tuple #[.string (krA s), .bool (rdB s)]) ∧ Below w.heap.size w w' := by
  have HG := Lib.hid (fun W => iIsReading_any s W hs)
  cases hb : rdB s with
  | false =>
    have HA := Lib.hid (krA_no hb)
    rw [hb] at HG
    clear hb
    go_enter Tryd.func8, Tryd.ntmps8
    go_wp2_with (go_at_call 14; (with_reducible refine (HG.out _).mono ?_); rintro e w1 ⟨rfl, rfl⟩)
    go_ret2
    exact ⟨ret_sb HA.out.symm rfl, Below.refl _ _⟩
  | true =>
    have HA := Lib.hid (krA_yes hb)
    rw [hb] at HG
    obtain ⟨h1, h9, hd⟩ := (rdB_iff s).1 hb
    have HSP := Lib.hid (fun W => split_any W)
    have HKO : Hid (∀ k W, k < 6 → Calls Tryd.prog 18 #[.string ⟨[ltr k].toArray⟩] W fun e w' => Kind s.size ⟨[ltr k].toArray⟩ e w' ∧ Below W.heap.size W w') := fun k W hk => kindOf_yes _ s.size W h9 (kB_lt k hk)
    have HIO : Hid (∀ k g pre cb W, Ent g → Cnts g pre cb s.size (KI s.size ⟨[ltr k].toArray⟩) W → Calls Tryd.prog 19 #[.func (.func g) pre cb, .string s] W fun e w' => e = .returned (.bool (KI s.size ⟨[ltr k].toArray⟩ s.data.toList)) ∧ Below W.heap.size W w') := by
      intro k g pre cb W eg hg
      have := isOfKind_any g pre cb (KI s.size ⟨[ltr k].toArray⟩) s.data.toList W eg (by rw [len_of']; exact hg) hd
      rw [lst] at this
      exact this
    clear hb hd
    go_enter Tryd.func8, Tryd.ntmps8
    go_wp2_with (first | (go_at_call 14; (with_reducible refine (HG.out _).mono ?_); rintro e w1 ⟨rfl, rfl⟩) | (go_at_call 17; refine (HSP.out _).mono ?_; rintro e w2 ⟨b, rfl, hb1, hb2, hc2, hB0⟩; have HC := Lib.hid hc2; clear hc2))
    go_loopw [4, 14] (fun ov i wr => ∃ (k : Nat) (B : ByteArray), k ≤ 6 ∧ i = .int .i64 k ∧ ov = .string B ∧ B.size ≤ 6 ∧ Hid (B = ⟨(kst s.size s.data.toList k).toArray⟩) ∧ Below w2.heap.size w2 wr) (fun _ i _ => 6 - (intOf i).toNat)
    case atStart => exact ⟨0, ⟨#[]⟩, Nat.zero_le _, rfl, rfl, by show 0 ≤ 6; omega, rfl, Below.refl _ _⟩
    case round =>
      obtain ⟨k, B, hk, rfl, rfl, hBz, HB, hbl⟩ := hrel
      by_cases hlt : k < 6
      · have hcell := (hbl.cell (p := ⟨b, k, none⟩) hb2).trans (HC.out k hlt)
        have hko := fun W => HKO.out k W hlt
        have hio := HIO.out k
        obtain ⟨X, hX⟩ : ∃ X : ByteArray, X = ⟨[ltr k].toArray⟩ := ⟨_, rfl⟩
        have hXs : X.size = 1 := by rw [hX, sz_of]; rfl
        have hXB : B.size + X.size ≤ 10 := by omega
        have hstep : kst s.size s.data.toList (k + 1) = kst s.size s.data.toList k ++ (if KI s.size ⟨[ltr k].toArray⟩ s.data.toList then [ltr k] else []) := rfl
        have hlen := kst_len s.size s.data.toList (k + 1)
        rw [← hX] at hcell hko hio hstep
        cases hv : KI s.size X s.data.toList with
        | true =>
          rw [hv] at hio hstep
          have HN : Hid (B ++ X = ⟨(kst s.size s.data.toList (k + 1)).toArray⟩) := by show _ = _; rw [hstep, HB.out, hX, str_two]; rfl
          have hz : (B ++ X).size ≤ 6 := by rw [HN.out, sz_of]; omega
          have HKO1 := Lib.hid hko
          have HIO1 := Lib.hid hio
          clear hko hio hstep hX hv hlen
          go_wp2_with (first | (go_at_call 18; (with_reducible refine (HKO1.out _).mono ?_); rintro e w3 ⟨⟨g, pre, cb, rfl, eg, hg⟩, b3⟩; have EG := Lib.hid eg; have HGG := Lib.hid hg; clear eg hg) | (go_at_call 19; (with_reducible refine (HIO1.out _ _ _ _ EG.out HGG.out).mono ?_); rintro e w4 ⟨rfl, b4⟩))
          go_roundw
          case rel => exact ⟨k + 1, B ++ X, by omega, by go_num, rfl, hz, HN, chain (chain hbl b3) b4⟩
          case measure => simp [intOf]; omega
        | false =>
          rw [hv] at hio hstep
          have HN : Hid (B = ⟨(kst s.size s.data.toList (k + 1)).toArray⟩) := by show _ = _; rw [hstep, HB.out]; simp
          have HKO1 := Lib.hid hko
          have HIO1 := Lib.hid hio
          clear hko hio hstep hX hv hlen
          go_wp2_with (first | (go_at_call 18; (with_reducible refine (HKO1.out _).mono ?_); rintro e w3 ⟨⟨g, pre, cb, rfl, eg, hg⟩, b3⟩; have EG := Lib.hid eg; have HGG := Lib.hid hg; clear eg hg) | (go_at_call 19; (with_reducible refine (HIO1.out _ _ _ _ EG.out HGG.out).mono ?_); rintro e w4 ⟨rfl, b4⟩))
          go_roundw
          case rel => exact ⟨k + 1, B, by omega, by go_num, rfl, hBz, HN, chain (chain hbl b3) b4⟩
          case measure => simp [intOf]; omega
      · have HX : Hid (B = krA s) := by show _ = _; rw [HA.out, HB.out, show k = 6 by omega]
        go_wp2
        go_ret2
        exact ⟨ret_sb HX.out rfl, chain hB0 hbl⟩
set_option maxHeartbeats 1000000 in
theorem FnExactKindsOfReading_law (z0 : ByteArray) (hz0 : z0.size ≤ maxLen) (w : World) :
    Calls Tryd.prog 4 #[.string z0] w fun e w' => e = .returned (.bool true) ∧ Below w.heap.size w w' := by
  have hz0' := hz0
  unfold maxLen at hz0'
  have hs1 : ∀ W, Calls Tryd.prog 7 #[.string z0] W fun e w' => e = .returned (.tuple #[.string (krA z0), .bool (rdB z0)]) ∧ Below W.heap.size W w' := fun W => sKinds_any z0 W hz0
  have hi1 : ∀ W, Calls Tryd.prog 8 #[.string z0] W fun e w' => e = .returned (.tuple #[.string (krA z0), .bool (rdB z0)]) ∧ Below W.heap.size W w' := fun W => iKinds_any z0 W hz0
  obtain ⟨A0, hA0⟩ : ∃ A0 : ByteArray, A0 = krA z0 := ⟨_, rfl⟩
  obtain ⟨A1, hA1⟩ : ∃ A1 : Bool, A1 = rdB z0 := ⟨_, rfl⟩
  rw [← hA0, ← hA1] at hs1 hi1
  have HS := Lib.hid hs1
  have HI := Lib.hid hi1
  clear hs1 hi1 hA0 hA1
  by_cases hb0 : (z0.size : Int) ≤ 1048576
  case neg =>
    go_enter Tryd.func4, Tryd.ntmps4
    go_wp2
    go_ret
    exact ⟨rfl, Below.refl _ _⟩
  case pos =>
    go_enter Tryd.func4, Tryd.ntmps4
    go_wp2_with (first | (go_at_call 7; (with_reducible refine (HS.out _).mono ?_); rintro e w1 ⟨rfl, b1⟩) | (go_at_call 8; (with_reducible refine (HI.out _).mono ?_); rintro e w2 ⟨rfl, b2⟩))
    go_ret
    exact ⟨rfl, chain b1 b2⟩
end Go.Proofs.YtlkeemnnncnibaaDoor

/-
  Readings: which kind a letter tells; ranks, and the reading of a rank.
-/
import Derived.Test.YtlkeemnnncnibaaDoorMiIm5
import Derived.Test.YtlkeemnnncnibaaDoorMiKd
namespace Go.Proofs.YtlkeemnnncnibaaDoor
open Go.RowKit

theorem ent_all : Ent 33 := enters_of Tryd.func33 (by kernel_rfl) rfl
theorem mkdif_any (m : Int) (w : World) :
    Calls Tryd.prog 29 #[.int .i64 m] w fun e w' => e = .returned (.func (.func 40) #[] #[.pointer (some ⟨w.heap.size, 0, none⟩)]) ∧ w' = w.alloc (.cells #[.int .i64 m] 3) := by
  go_enter Tryd.func29, Tryd.ntmps29
  go_wp2
  go_ret
  exact ⟨rfl, rfl⟩
theorem cnts_dif_new (m : Nat) (n : Nat) (w : World) (hm : m ≤ 10) (hn : n ≤ 9) : Cnts 40 #[] #[.pointer (some ⟨w.heap.size, 0, none⟩)] n (Id m) (w.alloc (.cells #[.int .i64 (m : Int)] 3)) :=
  cnts_dif m n _ _ (by simp) (by simp) hm hn
theorem cnts_all (n : Nat) (w : World) (hn : n ≤ 9) : Cnts 33 #[] #[] n (Id n) w := by
  intro b W hd hl _
  have h1 := fun W => mkdif_any (n : Int) W
  have h2 := fun W => cnts_dif_new n n W (by omega) hn b
  have H1 := Lib.hid h1
  have H2 : Hid (∀ (W W' : World), Below (W.alloc (.cells #[.int .i64 (n : Int)] 3)).heap.size (W.alloc (.cells #[.int .i64 (n : Int)] 3)) W' → Calls Tryd.prog 40 #[.string ⟨b.toArray⟩, .int .i64 n, .pointer (some ⟨W.heap.size, 0, none⟩)] W' fun e w' => e = .returned (.int .i64 ((cK (Id n) (n - b.length) b : Nat) : Int)) ∧ Below W'.heap.size W' w') := fun W W' hB => h2 W W' hd hl hB
  obtain ⟨Z, hZ⟩ : ∃ Z, Z = cK (Id n) (n - b.length) b := ⟨_, rfl⟩
  rw [← hZ] at H2 ⊢
  clear h1 h2 hd hl hZ
  obtain ⟨s, hs⟩ : ∃ s : ByteArray, s = ⟨b.toArray⟩ := ⟨_, rfl⟩
  rw [← hs] at H2 ⊢
  clear hs
  show Calls Tryd.prog 33 #[.string s, .int .i64 n] W _
  have e78 : ∀ args w, (callFunc 40 args).run Tryd.prog w = .ok (.enter 40 args) w := ent_dif
  go_enter Tryd.func33, Tryd.ntmps33
  go_wp2_with (first | (go_at_call 29; refine (H1.out _).mono ?_; rintro e w1 ⟨rfl, rfl⟩) | (go_at_call 40; refine (H2.out _ _ (Below.refl _ _)).mono ?_; rintro e w2 ⟨rfl, b2⟩))
  go_ret
  exact ⟨rfl, chain (w := W) (by go_grown) b2⟩
theorem kindOf_no (s : ByteArray) (w : World) (h : kB s = false) :
    Calls Tryd.prog 18 #[.string s] w fun e w' => e = .returned (.tuple #[.nilFunc, .bool false]) ∧ w = w' := by
  unfold kB at h
  simp only [Bool.or_eq_false_iff] at h
  obtain ⟨⟨⟨⟨⟨h1, h2⟩, h3⟩, h4⟩, h5⟩, h6⟩ := h
  go_enter Tryd.func18, Tryd.ntmps18
  go_wp2
  go_ret2
  exact ⟨rfl, rfl⟩
/-- The counter that a letter tells. -/
def Kind (n : Nat) (s : ByteArray) (e : Ending) (w' : World) : Prop :=
  ∃ g pre cb, e = .returned (.tuple #[.func (.func g) pre cb, .bool true]) ∧ Ent g ∧ Cnts g pre cb n (KI n s) w'
set_option maxHeartbeats 1000000 in
theorem kindOf_yes (s : ByteArray) (n : Nat) (w : World) (hn : n ≤ 9) (h : kB s = true) :
    Calls Tryd.prog 18 #[.string s] w fun e w' => Kind n s e w' ∧ Below w.heap.size w w' := by
  unfold kB at h
  simp only [Bool.or_eq_true, beq_iff_eq] at h
  rcases h with ((((h | h) | h) | h) | h) | h
  · have hK : KI n s = Id 1 := by unfold KI; rw [if_pos h]
    have HK : Hid (∀ e w', (∃ g pre cb, e = .returned (.tuple #[.func (.func g) pre cb, .bool true]) ∧ Ent g ∧ Cnts g pre cb n (Id 1) w') → Kind n s e w') := by intro e w' hx; unfold Kind; rw [hK]; exact hx
    obtain rfl := of_toList h
    have H1 := Lib.hid (fun W => mkdif_any (1 : Int) W)
    clear h hK
    go_enter Tryd.func18, Tryd.ntmps18
    go_wp2_with (go_at_call 29; refine (H1.out _).mono ?_; rintro e w1 ⟨rfl, rfl⟩)
    go_ret2
    exact ⟨HK.out _ _ ⟨_, _, _, rfl, ent_dif, cnts_dif_new 1 n w (by omega) hn⟩, by go_grown⟩
  · have hK : KI n s = Io mir := by unfold KI; rw [if_neg (by rw [h]; decide), if_pos h]
    have HK : Hid (∀ e w', (∃ g pre cb, e = .returned (.tuple #[.func (.func g) pre cb, .bool true]) ∧ Ent g ∧ Cnts g pre cb n (Io mir) w') → Kind n s e w') := by intro e w' hx; unfold Kind; rw [hK]; exact hx
    obtain rfl := of_toList h
    clear h hK
    go_enter Tryd.func18, Tryd.ntmps18
    go_wp2
    go_ret2
    exact ⟨HK.out _ _ ⟨_, _, _, rfl, ent_count, cnts_opp mir _ n w tbl_mir hn⟩, by go_grown⟩
  · have hK : KI n s = Io ups := by unfold KI; rw [if_neg (by rw [h]; decide), if_neg (by rw [h]; decide), if_pos h]
    have HK : Hid (∀ e w', (∃ g pre cb, e = .returned (.tuple #[.func (.func g) pre cb, .bool true]) ∧ Ent g ∧ Cnts g pre cb n (Io ups) w') → Kind n s e w') := by intro e w' hx; unfold Kind; rw [hK]; exact hx
    obtain rfl := of_toList h
    clear h hK
    go_enter Tryd.func18, Tryd.ntmps18
    go_wp2
    go_ret2
    exact ⟨HK.out _ _ ⟨_, _, _, rfl, ent_count, cnts_opp ups _ n w tbl_ups hn⟩, by go_grown⟩
  · have hK : KI n s = ris := by unfold KI; rw [if_neg (by rw [h]; decide), if_neg (by rw [h]; decide), if_neg (by rw [h]; decide), if_pos h]
    have HK : Hid (∀ e w', (∃ g pre cb, e = .returned (.tuple #[.func (.func g) pre cb, .bool true]) ∧ Ent g ∧ Cnts g pre cb n ris w') → Kind n s e w') := by intro e w' hx; unfold Kind; rw [hK]; exact hx
    obtain rfl := of_toList h
    clear h hK
    go_enter Tryd.func18, Tryd.ntmps18
    go_wp2
    go_ret2
    exact ⟨HK.out _ _ ⟨_, _, _, rfl, ent_rising, cnts_rising n w hn⟩, by go_grown⟩
  · have hK : KI n s = fal := by unfold KI; rw [if_neg (by rw [h]; decide), if_neg (by rw [h]; decide), if_neg (by rw [h]; decide), if_neg (by rw [h]; decide), if_pos h]
    have HK : Hid (∀ e w', (∃ g pre cb, e = .returned (.tuple #[.func (.func g) pre cb, .bool true]) ∧ Ent g ∧ Cnts g pre cb n fal w') → Kind n s e w') := by intro e w' hx; unfold Kind; rw [hK]; exact hx
    obtain rfl := of_toList h
    clear h hK
    go_enter Tryd.func18, Tryd.ntmps18
    go_wp2
    go_ret2
    exact ⟨HK.out _ _ ⟨_, _, _, rfl, ent_falling, cnts_falling n w hn⟩, by go_grown⟩
  · have hK : KI n s = Id n := by unfold KI; rw [if_neg (by rw [h]; decide), if_neg (by rw [h]; decide), if_neg (by rw [h]; decide), if_neg (by rw [h]; decide), if_neg (by rw [h]; decide)]
    have HK : Hid (∀ e w', (∃ g pre cb, e = .returned (.tuple #[.func (.func g) pre cb, .bool true]) ∧ Ent g ∧ Cnts g pre cb n (Id n) w') → Kind n s e w') := by intro e w' hx; unfold Kind; rw [hK]; exact hx
    obtain rfl := of_toList h
    clear h hK
    go_enter Tryd.func18, Tryd.ntmps18
    go_wp2
    go_ret2
    exact ⟨HK.out _ _ ⟨_, _, _, rfl, ent_all, cnts_all n w hn⟩, by go_grown⟩
end Go.Proofs.YtlkeemnnncnibaaDoor

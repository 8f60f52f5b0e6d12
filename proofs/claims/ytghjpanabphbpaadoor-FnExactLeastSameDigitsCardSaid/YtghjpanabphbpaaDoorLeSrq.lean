/-
  Least numbers: slices.Sort of bytes.
-/
import Derived.Test.YtghjpanabphbpaaDoorLeSrt
import Derived.Test.YtghjpanabphbpaaDoorShelf
namespace Go.Proofs.YtghjpanabphbpaaDoor
open Go.RowKit
set_option maxRecDepth 100000

macro "go_retn" : tactic => `(tactic| ((try simp only [Exit.inBlock, Exit.then]); refine bodyPost_ret (results_none rfl _ _ _) rfl ?_))
set_option maxHeartbeats 2000000 in
theorem pdq_12 (g n c a b : Nat) (l : Int) (f : Nat → Int) (w : World) (hb : b ≤ n) (hab : a ≤ b) (h12 : b ≤ a + 12) (hn : n ≤ 100) (h : BYt w g n f) :
    Calls Tryd.prog 96 #[.slice (some ⟨g, 0, none⟩) n c, .int .i64 a, .int .i64 b, .int .i64 l] w fun e w' => e = .returned (.tuple #[]) ∧ ∃ f', Sod w w' g n a b f f' := by
  have HI := Lib.hid (ins_any g n c a b f w hb hab hn h)
  clear h
  have hd : (b : Int) - (a : Int) ≤ 12 := by omega
  have hd0 : 0 ≤ (b : Int) - (a : Int) := by omega
  go_enter Tryd.func96, Tryd.ntmps96
  go_wp2
  go_loopw [1, 2] (fun av bv wr => av = .int .i64 a ∧ bv = .int .i64 b ∧ wr = w) (fun _ _ _ => 0)
  case atStart => exact ⟨rfl, rfl, rfl⟩
  case round =>
    obtain ⟨rfl, rfl, rfl⟩ := hrel
    go_wp2_with (go_at_call 112; refine HI.out.mono ?_; rintro e w1 ⟨rfl, hs⟩)
    go_retn
    exact ⟨rfl, hs⟩
theorem sort_12 (g n c : Nat) (f : Nat → Int) (w : World) (hn : n ≤ 12) (h : BYt w g n f) :
    Calls Tryd.prog 78 #[.slice (some ⟨g, 0, none⟩) n c] w fun e w' => e = .returned (.tuple #[]) ∧ ∃ f', Sod w w' g n 0 n f f' := by
  have HI := Lib.hid (fun l => pdq_12 g n c 0 n l f w (Nat.le_refl _) (Nat.zero_le _) (by omega) (by omega) h)
  have HL := Lib.hid (fun W => Tryd.bits_Len (n : Int) W (by omega) (by omega))
  clear h
  go_enter Tryd.func78, Tryd.ntmps78
  go_wp2_with (first | (go_at_call 97; refine (HL.out _).mono ?_; rintro e w1 ⟨rfl, rfl⟩) | (go_at_call 96; refine (HI.out _).mono ?_; rintro e w1 ⟨rfl, hs⟩))
  go_end0
  exact ⟨rfl, hs⟩
theorem BYt.alloc {w : World} {b n : Nat} {f : Nat → Int} (h : BYt w b n f) (o : Obj) : BYt (w.alloc o) b n f := by
  have e : (w.alloc o).heap[b]? = w.heap[b]? := Lib.alloc_old w o b h.lt
  exact ⟨by have := h.lt; simp; omega, fun j hj => by rw [World.cell?_of_block (w := w) e]; exact h.cell j hj, fun j hj => by rw [World.frozen?_of_block (w := w) e]; exact h.fz j hj⟩
theorem ord2_any (g n c i j : Nat) (pv : Value) (f : Nat → Int) (w : World) (hi : i < n) (hj : j < n) (hle : ¬ f j < f i) (h : BYt w g n f) :
    Calls Tryd.prog 146 #[.slice (some ⟨g, 0, none⟩) n c, .int .i64 i, .int .i64 j, pv] w fun e w' => e = .returned (.tuple #[.int .i64 i, .int .i64 j]) ∧ ∃ m, w' = w.drewN m := by
  have c1 := h.cell i hi
  have c2 := h.cell j hj
  have hiI : (i : Int) < (n : Int) := by omega
  have hjI : (j : Int) < (n : Int) := by omega
  have HL := Lib.hid (fun W => less_any (f j) (f i) false W (decide_eq_false hle))
  clear h hle
  go_enter Tryd.func146, Tryd.ntmps146
  go_wp2
  go_quiet ((go_at_call 118; refine (HL.out _).mono ?_; rintro e w' ⟨rfl, rfl⟩; exact ⟨rfl, _, rfl⟩))
  go_wp2
  go_ret2
  exact ⟨rfl, _, rfl⟩
theorem med_any (g n c i j k : Nat) (pv : Value) (f : Nat → Int) (w : World) (hi : i < n) (hj : j < n) (hk : k < n) (e1 : f i = f j) (e2 : f j = f k) (h : BYt w g n f) :
    Calls Tryd.prog 139 #[.slice (some ⟨g, 0, none⟩) n c, .int .i64 i, .int .i64 j, .int .i64 k, pv] w fun e w' => e = .returned (.int .i64 j) ∧ ∃ m, w' = w.drewN m := by
  have H1 := Lib.hid (fun m => ord2_any g n c i j pv f (w.drewN m) hi hj (by omega) (h.drewN m))
  have H2 := Lib.hid (fun m => ord2_any g n c j k pv f (w.drewN m) hj hk (by omega) (h.drewN m))
  have h0 := ord2_any g n c i j pv f w hi hj (by omega) h
  have H0 := Lib.hid h0
  clear h h0 e1 e2
  go_enter Tryd.func139, Tryd.ntmps139
  go_wp2_with (go_at_call 146; first | ((with_reducible refine H0.out.mono ?_); rintro e w1 ⟨rfl, m1, rfl⟩) | ((with_reducible refine (H2.out _).mono ?_); rintro e w2 ⟨rfl, m2, rfl⟩; simp only [World.drewN_drewN]) | ((with_reducible refine (H1.out _).mono ?_); rintro e w3 ⟨rfl, m3, rfl⟩; simp only [World.drewN_drewN]))
  go_ret
  exact ⟨rfl, _, rfl⟩
end Go.Proofs.YtghjpanabphbpaaDoor

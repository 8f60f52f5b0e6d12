/-
  The least house of a street that is far enough, by the library's search.
-/
import Derived.Test.YtjjegpoimnkknaaHoSrch
namespace Go.Proofs.Ytjjegpoimnkknaa
open Go.RowKit

theorem search_at (x : Int) (g : Nat) (cb : Array Value) (n : Nat) (p : Nat → Bool) (w : World) (hx : x = (n : Int)) (eg : ∀ args w, (callFunc g args).run Try.prog w = .ok (.enter g args) w) (hn : n ≤ 4000000)
    (hf : Asks g cb w.heap.size w n p) (hm : ∀ a b, a ≤ b → b < n → p a = true → p b = true) :
    Calls Try.prog 69 #[.int .i64 x, .func (.func g) #[] cb] w fun e w' => (∃ k : Nat, k ≤ n ∧ (∀ t, t < k → p t = false) ∧ (k < n → p k = true) ∧ e = .returned (.int .i64 (k : Int))) ∧ Below w.heap.size w w' := by
  subst hx; exact search_any g cb n p w eg hn hf hm
/-- The closure: the house so many behind the first. -/
theorem lhC_any (a i : Int) (g : Nat) (cb : Array Value) (bi bs : Nat) (q : Bool) (w : World) (eg : ∀ args w, (callFunc g args).run Try.prog w = .ok (.enter g args) w)
    (c0 : w.cell? ⟨bi, 0, none⟩ = some (.func (.func g) #[] cb)) (c1 : w.cell? ⟨bs, 0, none⟩ = some (.int .i64 a)) (h1 : 0 ≤ a + i) (h2 : a + i ≤ 2000000)
    (hc : Calls Try.prog g (#[.int .i64 (a + i)] ++ cb) w fun e w' => e = .returned (.bool q) ∧ Below w.heap.size w w') :
    Calls Try.prog 71 #[.int .i64 i, .pointer (some ⟨bi, 0, none⟩), .pointer (some ⟨bs, 0, none⟩)] w fun e w' => e = .returned (.bool q) ∧ Below w.heap.size w w' := by
  have HC := Lib.hid hc
  clear hc
  go_enter Try.func71, Try.ntmps71
  go_wp2_with (go_at_fn g; refine HC.out.mono ?_; rintro e w1 ⟨rfl, b1⟩)
  go_ret
  exact ⟨rfl, b1⟩
/-- A closure says of each house of a street whether p holds, in each world that keeps what lies below B. -/
def AsksH (g : Nat) (cb : Array Value) (B : Nat) (w : World) (a b : Int) (p : Int → Bool) : Prop :=
  ∀ (h : Int) (W : World), a ≤ h → h ≤ b → Below B w W → Calls Try.prog g (#[.int .i64 h] ++ cb) W fun e w' => e = .returned (.bool (p h)) ∧ Below W.heap.size W w'
/-- The least one, if there is one. -/
def LeastIs (p : Int → Bool) (a b h : Int) (ok : Bool) : Prop :=
  (ok = true ∧ a ≤ h ∧ h ≤ b ∧ p h = true ∧ ∀ x, a ≤ x → x < h → p x = false) ∨ (ok = false ∧ h = 0 ∧ ∀ x, a ≤ x → x ≤ b → p x = false)
theorem LeastIs.least {p : Int → Bool} {a b h : Int} (hl : LeastIs p a b h true) : LeastOf p a h := by
  rcases hl with ⟨_, h1, h2, h3, h4⟩ | ⟨h, _⟩
  · refine ⟨h1, h3, ?_⟩
    by_cases hh : h = a
    · exact .inl hh
    · exact .inr (h4 (h - 1) (by omega) (by omega))
  · cases h
set_option maxHeartbeats 1000000 in
theorem leastHouse_any (a b : Int) (g : Nat) (cb : Array Value) (p : Int → Bool) (w : World) (ha : 0 ≤ a) (hab : a ≤ b) (hb : b ≤ 1000000) (eg : ∀ args w, (callFunc g args).run Try.prog w = .ok (.enter g args) w)
    (hf : AsksH g cb w.heap.size w a b p) (hm : ∀ x y, a ≤ x → x ≤ y → y ≤ b → p x = true → p y = true) :
    Calls Try.prog 48 #[.agg #[.int .i64 a, .int .i64 b], .func (.func g) #[] cb] w fun e w' => (∃ (h : Int) (ok : Bool), e = .returned (.tuple #[.int .i64 h, .bool ok]) ∧ LeastIs p a b h ok) ∧ Below w.heap.size w w' := by
  have HF := Lib.hid hf
  have HM := Lib.hid hm
  clear hf hm
  obtain ⟨n, hn⟩ : ∃ n : Nat, b - a + 1 = (n : Int) := ⟨(b - a + 1).toNat, by omega⟩
  have HN := Lib.hid hn
  have e71 : ∀ args w, (callFunc 71 args).run Try.prog w = .ok (.enter 71 args) w := enters_of Try.func71 (by kernel_rfl) rfl
  have E71 := Lib.hid e71
  clear hn e71
  have hbb : a - 1 ≤ b := by omega
  have hb2 : b ≤ 2000000 := by omega
  have ha2 : a ≤ 2000000 := by omega
  go_enter Try.func48, Try.ntmps48
  go_wp2_with fail
  have F0 := (Blk.new w #[.int .i64 a, .int .i64 b] 39).alloc (.cells #[.func (.func g) #[] cb] 30)
  have F1 := Blk.new (w.alloc (.cells #[.int .i64 a, .int .i64 b] 39)) #[.func (.func g) #[] cb] 30
  refine (many_any _ _ _ ha ha2 hbb hb2).mono ?_
  rintro e w1 ⟨rfl, b1⟩
  have F0 := F0.keep b1
  have F1 := F1.keep b1
  have H1 := chain (w := w) (by go_grown) b1
  simp only [World.size_alloc] at F1
  clear b1
  go_wp2_with fail
  refine (search_at _ 71 _ n (fun i => p (a + (i : Int))) w1 HN.out E71.out (by have := HN.out; omega) ?_ ?_).mono ?_
  · intro i W hi hW
    have hn := HN.out
    have c0 := (F1.keep hW).cell 0
    have c1 := (F0.keep hW).cell 0
    have hq := HF.out (a + (i : Int)) W (by omega) (by omega) (H1.trans (hW.mono H1.size))
    exact lhC_any a i g cb (w.heap.size + 1) w.heap.size (p (a + (i : Int))) W eg c0 c1 (by omega) (by omega) hq
  · intro x y hxy hy h
    have hn := HN.out
    exact HM.out (a + (x : Int)) (a + (y : Int)) (by omega) (by omega) (by omega) h
  rintro e w2 ⟨⟨k, hk, hk1, hk2, rfl⟩, b2⟩
  have F0 := F0.keep b2
  have H2 := H1.trans (b2.mono H1.size)
  have c0 := F0.cell 0
  have c1 := F0.cell 1
  simp at c0 c1
  have HK1 := Lib.hid hk1
  have HK2 := Lib.hid hk2
  clear hk1 hk2 b2 F1
  by_cases hkn : k = n
  · have hq : ((k : Int) == b - a + 1) = true := by have := HN.out; simp; omega
    go_wp2_with (go_at_call 70; refine (many_any _ _ _ ha ha2 hbb hb2).mono ?_; rintro e w3 ⟨rfl, b3⟩)
    go_ret2
    have hn := HN.out
    exact ⟨⟨0, false, rfl, .inr ⟨rfl, rfl, fun x h1 h2 => by
      have := HK1.out (x - a).toNat (by omega)
      rwa [show a + ((x - a).toNat : Int) = x by omega] at this⟩⟩, H2.trans (b3.mono H2.size)⟩
  · have hq : ((k : Int) == b - a + 1) = false := by have := HN.out; simp; omega
    have hk3 : a + (k : Int) ≤ b := by have := HN.out; omega
    go_wp2_with (go_at_call 70; refine (many_any _ _ _ ha ha2 hbb hb2).mono ?_; rintro e w3 ⟨rfl, b3⟩; have F3 := F0.keep b3; have d0 := F3.cell 0; simp at d0)
    go_ret2
    have hn := HN.out
    exact ⟨⟨a + (k : Int), true, rfl, .inl ⟨rfl, by omega, hk3, HK2.out (by omega), fun x h1 h2 => by
      have := HK1.out (x - a).toNat (by omega)
      rwa [show a + ((x - a).toNat : Int) = x by omega] at this⟩⟩, H2.trans (b3.mono H2.size)⟩
end Go.Proofs.Ytjjegpoimnkknaa

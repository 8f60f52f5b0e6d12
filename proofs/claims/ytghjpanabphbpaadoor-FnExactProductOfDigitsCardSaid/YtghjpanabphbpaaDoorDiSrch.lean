/-
  The library's search with a closure; the least number that is far enough.
-/
import Derived.Test.YtghjpanabphbpaaDoorDiLeaf
namespace Go.Proofs.YtghjpanabphbpaaDoor
open Go.RowKit

/-- A closure says of each number below n whether p holds, in each world that keeps what lies below B. -/
def Asks (g : Nat) (cb : Array Value) (B : Nat) (w : World) (n : Nat) (p : Nat → Bool) : Prop :=
  ∀ (i : Nat) (W : World), i < n → Below B w W → Calls Tryd.prog g (#[.int .i64 (i : Int)] ++ cb) W fun e w' => e = .returned (.bool (p i)) ∧ Below W.heap.size W w'
set_option maxHeartbeats 1000000 in
theorem search_any (g : Nat) (cb : Array Value) (n : Nat) (p : Nat → Bool) (w : World) (eg : ∀ args w, (callFunc g args).run Tryd.prog w = .ok (.enter g args) w) (hn : n ≤ 4000000000000)
    (hf : Asks g cb w.heap.size w n p) (hm : ∀ a b, a ≤ b → b < n → p a = true → p b = true) :
    Calls Tryd.prog 105 #[.int .i64 (n : Int), .func (.func g) #[] cb] w fun e w' => (∃ k : Nat, k ≤ n ∧ (∀ t, t < k → p t = false) ∧ (k < n → p k = true) ∧ e = .returned (.int .i64 (k : Int))) ∧ Below w.heap.size w w' := by
  have HF := Lib.hid hf
  have HM := Lib.hid hm
  clear hf hm
  go_enter Tryd.func105, Tryd.ntmps105
  go_wp2
  go_loopw [5, 6] (fun l h wr => ∃ lo hi : Nat, l = .int .i64 (lo : Int) ∧ h = .int .i64 (hi : Int) ∧ lo ≤ hi ∧ hi ≤ n ∧ Hid ((∀ t, t < lo → p t = false) ∧ (∀ t, hi ≤ t → t < n → p t = true)) ∧ Below w.heap.size w wr) (fun l h _ => (intOf h - intOf l).toNat)
  case atStart => exact ⟨0, n, rfl, rfl, Nat.zero_le _, Nat.le_refl _, (⟨fun t ht => absurd ht (Nat.not_lt_zero _), fun t h1 h2 => by omega⟩ : (∀ t, t < 0 → p t = false) ∧ (∀ t, n ≤ t → t < n → p t = true)), Below.refl _ _⟩
  case round =>
    obtain ⟨lo, hi, rfl, rfl, hlh, hin, I, hb⟩ := hrel
    by_cases hlt : lo < hi
    · have hc := HF.out ((lo + hi) / 2) wr (by omega) hb
      rw [show (((lo + hi) / 2 : Nat) : Int) = ((lo : Int) + (hi : Int)) / 2 by omega] at hc
      have hbs := hb.size
      cases hp : p ((lo + hi) / 2) with
      | false =>
        rw [hp] at hc
        have HC := Lib.hid hc
        have HP := Lib.hid hp
        clear hp hc
        go_wp2_with (go_at_fn g; refine HC.out.mono ?_; rintro e w1 ⟨rfl, b1⟩)
        go_roundw
        case rel =>
          refine ⟨(lo + hi) / 2 + 1, hi, by rw [show ((lo : Int) + (hi : Int)) / 2 + 1 = (((lo + hi) / 2 + 1 : Nat) : Int) by omega], rfl, by omega, hin, ?_, hb.trans (b1.mono hbs)⟩
          show _ ∧ _
          exact ⟨fun t ht => (by
            cases h : p t with
            | false => rfl
            | true => have := HM.out t ((lo + hi) / 2) (by omega) (by omega) h; rw [HP.out] at this; cases this), I.out.2⟩
        case measure => simp [intOf]; omega
      | true =>
        rw [hp] at hc
        have HC := Lib.hid hc
        have HP := Lib.hid hp
        clear hp hc
        go_wp2_with (go_at_fn g; refine HC.out.mono ?_; rintro e w1 ⟨rfl, b1⟩)
        go_roundw
        case rel =>
          refine ⟨lo, (lo + hi) / 2, rfl, by rw [show ((lo : Int) + (hi : Int)) / 2 = (((lo + hi) / 2 : Nat) : Int) by omega], by omega, by omega, ?_, hb.trans (b1.mono hbs)⟩
          show _ ∧ _
          exact ⟨I.out.1, fun t ht htn => HM.out ((lo + hi) / 2) t ht htn HP.out⟩
        case measure => simp [intOf]; omega
    · obtain rfl : hi = lo := by omega
      go_wp2
      go_ret
      exact ⟨⟨hi, hin, I.out.1, fun h => I.out.2 hi (Nat.le_refl _) h, rfl⟩, hb⟩
theorem search_at (x : Int) (g : Nat) (cb : Array Value) (n : Nat) (p : Nat → Bool) (w : World) (hx : x = (n : Int)) (eg : ∀ args w, (callFunc g args).run Tryd.prog w = .ok (.enter g args) w) (hn : n ≤ 4000000000000)
    (hf : Asks g cb w.heap.size w n p) (hm : ∀ a b, a ≤ b → b < n → p a = true → p b = true) :
    Calls Tryd.prog 105 #[.int .i64 x, .func (.func g) #[] cb] w fun e w' => (∃ k : Nat, k ≤ n ∧ (∀ t, t < k → p t = false) ∧ (k < n → p k = true) ∧ e = .returned (.int .i64 (k : Int))) ∧ Below w.heap.size w w' := by
  subst hx; exact search_any g cb n p w eg hn hf hm
/-- The closure: the house so many behind the first. -/
theorem lhC_any (a i : Int) (g : Nat) (cb : Array Value) (bi bs : Nat) (q : Bool) (w : World) (eg : ∀ args w, (callFunc g args).run Tryd.prog w = .ok (.enter g args) w)
    (c0 : w.cell? ⟨bi, 0, none⟩ = some (.func (.func g) #[] cb)) (c1 : w.cell? ⟨bs, 0, none⟩ = some (.int .i64 a)) (h1 : 0 ≤ a + i) (h2 : a + i ≤ 2000000000000)
    (hc : Calls Tryd.prog g (#[.int .i64 (a + i)] ++ cb) w fun e w' => e = .returned (.bool q) ∧ Below w.heap.size w w') :
    Calls Tryd.prog 106 #[.int .i64 i, .pointer (some ⟨bi, 0, none⟩), .pointer (some ⟨bs, 0, none⟩)] w fun e w' => e = .returned (.bool q) ∧ Below w.heap.size w w' := by
  have HC := Lib.hid hc
  clear hc
  go_enter Tryd.func106, Tryd.ntmps106
  go_wp2_with (go_at_fn g; refine HC.out.mono ?_; rintro e w1 ⟨rfl, b1⟩)
  go_ret
  exact ⟨rfl, b1⟩
/-- A closure says of each house of a street whether p holds, in each world that keeps what lies below B. -/
def AsksH (g : Nat) (cb : Array Value) (B : Nat) (w : World) (a b : Int) (p : Int → Bool) : Prop :=
  ∀ (h : Int) (W : World), a ≤ h → h ≤ b → Below B w W → Calls Tryd.prog g (#[.int .i64 h] ++ cb) W fun e w' => e = .returned (.bool (p h)) ∧ Below W.heap.size W w'
/-- The library's search for it, in any world that has the closure's cells. -/
theorem lin_srch (a b : Int) (g : Nat) (cb : Array Value) (p : Int → Bool) (n bi bs : Nat) (w X : World) (ha : 0 ≤ a) (hn : b - a + 1 = (n : Int)) (hb : b ≤ 1000000000000) (eg : ∀ args w, (callFunc g args).run Tryd.prog w = .ok (.enter g args) w)
    (hf : AsksH g cb w.heap.size w a b p) (hm : ∀ x y, a ≤ x → x ≤ y → y ≤ b → p x = true → p y = true)
    (F0 : Blk X bs #[.int .i64 a] 3) (F1 : Blk X bi #[.func (.func g) #[] cb] 24) (hX : Below w.heap.size w X) :
    Calls Tryd.prog 105 #[.int .i64 (b - a + 1), .func (.func 106) #[] #[.pointer (some ⟨bi, 0, none⟩), .pointer (some ⟨bs, 0, none⟩)]] X fun e w' =>
      (∃ (k : Int) , 0 ≤ k ∧ k ≤ b - a + 1 ∧ (∀ x, a ≤ x → x < a + k → p x = false) ∧ (a + k ≤ b → p (a + k) = true) ∧ e = .returned (.int .i64 k)) ∧ Below X.heap.size X w' := by
  refine (search_at _ 106 _ n (fun i => p (a + (i : Int))) X hn (enters_of Tryd.func106 (by kernel_rfl) rfl) (by omega) ?_ ?_).mono ?_
  · intro i W hi hW
    have c0 := (F1.keep hW).cell 0
    have c1 := (F0.keep hW).cell 0
    have hq := hf (a + (i : Int)) W (by omega) (by omega) (hX.trans (hW.mono hX.size))
    exact lhC_any a i g cb bi bs (p (a + (i : Int))) W eg c0 c1 (by omega) (by omega) hq
  · intro x y hxy hy h
    exact hm (a + (x : Int)) (a + (y : Int)) (by omega) (by omega) (by omega) h
  rintro e w2 ⟨⟨k, hk, hk1, hk2, rfl⟩, b2⟩
  exact ⟨⟨(k : Int), by omega, by omega, fun x h1 h2 => by
    have := hk1 (x - a).toNat (by omega)
    rwa [show a + ((x - a).toNat : Int) = x by omega] at this, fun h => hk2 (by omega), rfl⟩, b2⟩
set_option maxHeartbeats 1000000 in
theorem leastIn_any (a b : Int) (g : Nat) (cb : Array Value) (p : Int → Bool) (w : World) (ha : 0 ≤ a) (hab : a ≤ b) (hb : b ≤ 1000000000000) (eg : ∀ args w, (callFunc g args).run Tryd.prog w = .ok (.enter g args) w)
    (hf : AsksH g cb w.heap.size w a b p) (hm : ∀ x y, a ≤ x → x ≤ y → y ≤ b → p x = true → p y = true) :
    Calls Tryd.prog 92 #[.int .i64 a, .int .i64 b, .func (.func g) #[] cb] w fun e w' => (∃ (h : Int) (ok : Bool), e = .returned (.tuple #[.int .i64 h, .bool ok]) ∧ LeastIs p a b h ok) ∧ Below w.heap.size w w' := by
  obtain ⟨n, hn⟩ : ∃ n : Nat, b - a + 1 = (n : Int) := ⟨(b - a + 1).toNat, by omega⟩
  have HS := Lib.hid (fun bi bs X F0 F1 hX => lin_srch a b g cb p n bi bs w X ha hn hb eg hf hm F0 F1 hX)
  clear hf hm hn eg
  have f1 : IntKind.i64.wrap (b - a) = b - a := by rw [IntWalk.i64_in] <;> omega
  have f2 : IntKind.i64.wrap (b - a + 1) = b - a + 1 := by rw [IntWalk.i64_in] <;> omega
  have mixed : Tryd.prog.follows .mixedOrders = true := by kernel_rfl
  go_enter Tryd.func92, Tryd.ntmps92
  go_wp2_with fail
  have F0 := (Blk.new w #[.int .i64 a] 3).alloc (.cells #[.func (.func g) #[] cb] 24)
  have F1 := Blk.new (w.alloc (.cells #[.int .i64 a] 3)) #[.func (.func g) #[] cb] 24
  simp only [World.size_alloc] at F1
  have H0 : Below w.heap.size w ((w.alloc (.cells #[.int .i64 a] 3)).alloc (.cells #[.func (.func g) #[] cb] 24)) := by go_grown
  go_region_with (go_at_call 105; first | ((with_reducible refine (HS.out _ _ _ F0 F1 H0).mono ?_); rintro e w1 ⟨⟨k, hk0, hk1, hk2, hk3, rfl⟩, b1⟩; have c0 := (F0.keep b1).cell 0; simp at c0; have H1 := H0.trans (b1.mono H0.size); have HK2 := Lib.hid hk2; have HK3 := Lib.hid hk3; clear hk2 hk3 b1; have f3 : IntKind.i64.wrap (a + k) = a + k := by rw [IntWalk.i64_in] <;> omega) | ((with_reducible refine (HS.out _ _ _ F0.drw F1.drw (below_drw H0)).mono ?_); rintro e w1 ⟨⟨k, hk0, hk1, hk2, hk3, rfl⟩, b1⟩; have c0 := (F0.drw.keep b1).cell 0; simp at c0; have H1 := (below_drw H0).trans (b1.mono (below_drw H0).size); have HK2 := Lib.hid hk2; have HK3 := Lib.hid hk3; clear hk2 hk3 b1; have f3 : IntKind.i64.wrap (a + k) = a + k := by rw [IntWalk.i64_in] <;> omega))
  all_goals
    by_cases hkn : b < a + k
    · go_wp2
      go_ret2
      exact ⟨⟨0, false, rfl, .inr ⟨rfl, rfl, fun x h1 h2 => HK2.out x h1 (by omega)⟩⟩, H1⟩
    · go_wp2
      go_ret2
      have HL : LeastIs p a b (a + k) true := .inl ⟨rfl, by omega, by omega, HK3.out (by omega), HK2.out⟩
      first | exact ⟨⟨a + k, true, rfl, HL⟩, H1⟩ | exact ⟨⟨a + k, .inr ⟨rfl, HL⟩⟩, H1⟩
end Go.Proofs.YtghjpanabphbpaaDoor

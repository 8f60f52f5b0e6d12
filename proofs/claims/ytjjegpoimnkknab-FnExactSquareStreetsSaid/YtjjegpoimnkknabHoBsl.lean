/-
  The laws of BalancedStreets and BalancedOdd.
-/
import Derived.Test.YtjjegpoimnkknabHoBs
import Derived.Test.YtjjegpoimnkknabHoRw3
namespace Go.Proofs.Ytjjegpoimnkknab
open Go.RowKit

theorem sol1_le {h l : Int} (h1 : 1 ≤ l) (hs : Sol1 h l) : h ≤ l := by
  unfold Sol1 at hs
  have e : l * 1 ≤ l * l := Int.mul_le_mul_of_nonneg_left h1 (by omega)
  exact le_of_sq (by omega) (by omega)
theorem sol2_le {h l : Int} (h1 : 1 ≤ l) (hs : Sol2 h l) : h ≤ l := by
  unfold Sol2 at hs
  have e := sq_nn (l - 1)
  have e2 : (l - 1) * (l - 1) = l * l - 2 * l + 1 := by grind
  exact le_of_sq (by omega) (by omega)
theorem upTo_s1 : SolS 1 = Sol1 := by funext h l; exact propext (solS1 h l)
theorem upTo_s2 : SolS 2 = Sol2 := by funext h l; exact propext (solS2 h l)
/-- What both sides answer at steps of s. -/
def AnsB (s m : Int) (xs : List (Int × Int)) : Prop := (houB m = true → UpTo (SolS s) xs (m + 1)) ∧ (houB m = false → xs = [])
theorem AnsB.uniq {s m : Int} {xs ys : List (Int × Int)} (a : AnsB s m xs) (b : AnsB s m ys) : xs = ys := by
  cases h : houB m with
  | true => exact (a.1 h).uniq (b.1 h)
  | false => rw [a.2 h, b.2 h]
theorem AnsB.len {s m : Int} {xs : List (Int × Int)} (a : AnsB s m xs) : xs.length ≤ 1000000 := by
  cases h : houB m with
  | true =>
    have h2 := (houB_iff m).1 h
    have := upTo_len (a.1 h) (by omega)
    omega
  | false => rw [a.2 h]; simp
theorem bfo_any (m s : Int) (w : World) (hs : s = 1 ∨ s = 2) :
    Calls Try.prog 47 #[.int .i64 m, .int .i64 s] w fun e w' => (∃ (xs : List (Int × Int)) (v : Value), e = .returned (.tuple #[v, .bool (houB m)]) ∧ AnsB s m xs ∧ Rws w.heap.size (prR xs) v w') ∧ Below w.heap.size w w' := by
  cases h : houB m with
  | true =>
    refine (bfo_yes m s w h hs).mono ?_
    rintro e w' ⟨⟨xs, v, rfl, h1, h2⟩, h3⟩
    exact ⟨⟨xs, v, rfl, ⟨fun _ => h1, fun k => by rw [h] at k; cases k⟩, h2⟩, h3⟩
  | false =>
    refine (bfo_no m s w h).mono ?_
    rintro e w' ⟨rfl, h3⟩
    exact ⟨⟨[], _, rfl, ⟨fun k => by (rw [h] at k; cases k), fun _ => rfl⟩, Rws.nil _ _⟩, h3⟩

theorem iBs_any (m : Int) (w : World) :
    Calls Try.prog 42 #[.int .i64 m] w fun e w' => (∃ (xs : List (Int × Int)) (v : Value), e = .returned (.tuple #[v, .bool (houB m)]) ∧ AnsB 1 m xs ∧ Rws w.heap.size (prR xs) v w') ∧ Below w.heap.size w w' := by
  go_enter Try.func42, Try.ntmps42
  go_wp2_with (go_at_call 47; refine (bfo_any m 1 _ (by decide)).mono ?_; rintro e w1 ⟨⟨xs, v, rfl, ha, hr⟩, b1⟩)
  go_ret2
  exact ⟨⟨xs, v, rfl, ha, hr⟩, b1⟩
end Go.Proofs.Ytjjegpoimnkknab

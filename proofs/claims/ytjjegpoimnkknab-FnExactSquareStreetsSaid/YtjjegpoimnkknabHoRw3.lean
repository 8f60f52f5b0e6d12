/-
  Slices of slices of numbers: whether two are alike.
-/
import Derived.Test.YtjjegpoimnkknabHoRw2
namespace Go.Proofs.Ytjjegpoimnkknab
open Go.RowKit

theorem eqI_row (xs : List Int) (p q : Rw) (w : World) (hp : p.2 = xs) (hq : q.2 = xs) (hl : xs.length ≤ 1000) (h1 : Blk w p.1 (ivs p.2) 3) (h2 : Blk w q.1 (ivs q.2) 3) :
    Calls Try.prog 22 #[.slice (some ⟨p.1, 0, none⟩) p.2.length p.2.length, .slice (some ⟨q.1, 0, none⟩) q.2.length q.2.length] w fun e w' => e = .returned (.bool true) ∧ ∃ n, w' = w.drewN n := by
  have i1 := ints_of_blk h1 (by rw [hp]; exact hl)
  have i2 := ints_of_blk h2 (by rw [hq]; exact hl)
  rw [hp] at i1
  rw [hq] at i2
  exact eqInts_yes _ _ xs _ _ w (by omega) i1 i2
end Go.Proofs.Ytjjegpoimnkknab

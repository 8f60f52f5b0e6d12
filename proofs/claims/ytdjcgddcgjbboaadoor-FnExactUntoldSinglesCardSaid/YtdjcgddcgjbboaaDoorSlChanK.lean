/-
  Regions that send, or choose of a channel, in one goroutine: what the walk takes of them.
-/
import Derived.Conc.LoneCalls
import Derived.Conc.LoneSelect
import Derived.WalkKit
import Derived.Lib.Hide
namespace Go.Proofs.YtdjcgddcgjbboaaDoor
open Go.RowKit Go.Conc

/-- A walk of the machine of one serves for the walk over code, where it comes out as ever. -/
theorem wp_of_lone {P : Program} {c : Code} {Q : Exit → Act → World → Prop} {a : Act} {w : World}
    (h : ∀ (b : Frame) (k : List Item) (cs : List Frame), LoneTo P (fun g' w' => ∃ a', g' = G (b.at a' k) cs ∧ Q .normal a' w') (G (b.at a (.code c :: k)) cs) w) : c.wp P Q a w := by
  intro b k cs
  obtain ⟨g', w', hs, a', rfl, hq⟩ := h b k cs
  exact ⟨.normal, a', w', hq, hs⟩
/-- A region with an operation of a kind. -/
def comB (ops : Array Oper) : Bool := ops.toList.any fun o => match o.op with | .send .. => true | .select .. => true | _ => false
theorem wp_com {P : Program} {id : Nat} {ops : Array Oper} {Q : Exit → Act → World → Prop} {a : Act} {w : World} (_hc : comB ops = true)
    (h : ∀ (b : Frame) (k : List Item) (cs : List Frame), LoneTo P (fun g' w' => ∃ a', g' = G (b.at a' k) cs ∧ Q .normal a' w') (G (b.at a (.code (.region id ops false) :: k)) cs) w) : (Code.region id ops false).wp P Q a w := wp_of_lone h
end Go.Proofs.YtdjcgddcgjbboaaDoor

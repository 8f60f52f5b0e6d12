/-
  Needless clues, and what clues leave: both sides.
-/
import Derived.Test.YtakckgbkfnogbabDoorPzPub
import Derived.Test.YtakckgbkfnogbabDoorPzWo
import Derived.Test.YtakckgbkfnogbabDoorSlice
namespace Go.Proofs.YtakckgbkfnogbabDoor
open Go.RowKit Go.Deep
set_option maxRecDepth 100000

theorem Ints.nil0 (B : Nat) (w : World) : Ints B [] (.slice none 0 0) w := World.ownsRow_nil _ _ _ _
def ndP (cs : List Cl) : List Int := if pzB cs then ndl cs cs.length else []
theorem ndP_yes {cs : List Cl} (h : pzB cs = true) : ndP cs = ndl cs cs.length := by unfold ndP; rw [if_pos h]
theorem ndP_no {cs : List Cl} (h : pzB cs = false) : ndP cs = [] := by unfold ndP; rw [if_neg (by rw [h]; simp)]
theorem ndP_len (cs : List Cl) : (ndP cs).length ≤ 2000000 := by
  cases h : pzB cs with
  | false => rw [ndP_no h]; simp
  | true => rw [ndP_yes h]; have := ndl_len cs cs.length; have := pz_len h; omega
def lfP (cs : List Cl) : List Int := if pzB cs then lft cs (cs.length + 1) else []
theorem lfP_yes {cs : List Cl} (h : pzB cs = true) : lfP cs = lft cs (cs.length + 1) := by unfold lfP; rw [if_pos h]
theorem lfP_no {cs : List Cl} (h : pzB cs = false) : lfP cs = [] := by unfold lfP; rw [if_neg (by rw [h]; simp)]
theorem lfP_len (cs : List Cl) : (lfP cs).length ≤ 2000000 := by
  cases h : pzB cs with
  | false => rw [lfP_no h]; simp
  | true => rw [lfP_yes h, lft_len]; have := pz_len h; omega
theorem AllC.wo {cs : List Cl} (h : AllC cs) (k : Nat) : AllC (wo cs k) := h.sub (wo_mem cs k)
theorem AllC.take {cs : List Cl} (h : AllC cs) (k : Nat) : AllC (cs.take k) := h.sub (fun _ hc => List.mem_of_mem_take hc)
theorem count_x (cs : List Cl) (v : Value) (x : Nat) (w : World) (hn : cs.length ≤ 1000) (hall : AllC cs) (h : RdC cs v w) (hx : (sol cs).length = x) :
    Calls Tryd.prog 29 #[v] w fun e w' => e = .returned (.int .i64 (x : Int)) ∧ Below w.heap.size w w' := by subst hx; exact count_any cs v w hn hall h
end Go.Proofs.YtakckgbkfnogbabDoor

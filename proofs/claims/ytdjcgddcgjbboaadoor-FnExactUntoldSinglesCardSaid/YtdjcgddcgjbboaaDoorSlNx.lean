/-
  Digits that come over a channel: what is next.
-/
import Derived.Test.YtdjcgddcgjbboaaDoorSlChanK
import Derived.Test.YtdjcgddcgjbboaaDoorSlNum
namespace Go.Proofs.YtdjcgddcgjbboaaDoor
open Go.RowKit Go.Conc

/-- What lies in a channel. -/
def cvs (xs : List Int) : Array Value := (xs.map (Value.int .i64)).toArray
/-- Block c is a channel of room 10, open, in which these numbers lie. -/
def ChanIs (w : World) (c : Nat) (xs : List Int) : Prop := ∃ s r, w.heap[c]? = some (.chan 10 (cvs xs) false s r false)
theorem ChanIs.lt {w : World} {c : Nat} {xs : List Int} (h : ChanIs w c xs) : c < w.heap.size := by
  obtain ⟨s, r, h⟩ := h
  exact (Array.getElem?_eq_some_iff.1 h).1
theorem ChanIs.below {w w' : World} {c B : Nat} {xs : List Int} (h : ChanIs w c xs) (k : Below B w w') (hc : c < B) : ChanIs w' c xs := by
  obtain ⟨s, r, h⟩ := h
  exact ⟨s, r, by rw [k.block c hc]; exact h⟩
theorem ChanIs.set (w : World) (c : Nat) (xs : List Int) (s r : Nat) (h : c < w.heap.size) : ChanIs (w.setChan c 10 (cvs xs) false s r false) c xs := ⟨s, r, heap_setChan w c 10 (cvs xs) false s r false h⟩
theorem cvs_push (xs : List Int) (x : Int) : (cvs xs).push (.int .i64 x) = cvs (xs ++ [x]) := by simp [cvs]
theorem cvs_tail (x : Int) (xs : List Int) : (cvs (x :: xs)).extract 1 (cvs (x :: xs)).size = cvs xs := by
  apply Array.ext'
  simp [cvs, List.take_of_length_le]
theorem cvs_head (x : Int) (xs : List Int) : (cvs (x :: xs)).getD 0 undef = .int .i64 x := by simp [cvs]
theorem cvs_size (xs : List Int) : (cvs xs).size = xs.length := by simp [cvs]
def baseF (f : FuncId) : Frame := { (default : Frame) with fn := f, kind := .normal }
set_option maxRecDepth 100000 in
theorem next_cons (c : Nat) (x : Int) (xs : List Int) (s r : Nat) (w : World) (h : w.heap[c]? = some (.chan 10 (cvs (x :: xs)) false s r false)) :
    Calls Tryd.prog 64 #[.chan (some c)] w fun e w' => e = .returned (.tuple #[.int .i64 x, .bool true]) ∧ w' = w.setChan c 10 (cvs xs) false s (r + 1) false := by
  refine calls_of_loneTo fun cs => ?_
  have e : Frame.enter Tryd.prog 64 #[.chan (some c)] .normal = (baseF 64).at ⟨#[.chan (some c), undef, undef, undef, undef, undef, undef, undef, undef, undef, undef], []⟩ [.code (Tryd.f64.body.getD .skip)] := by
    simp [Frame.enter, Frame.at, Tryd.func64, baseF, Tryd.f64]
  rw [e]
  refine LoneTo.goes (n := 15) ?_
  simp only [Tryd.f64, Option.getD_some]
  s_c stepG_seq
  s_reg
  s_op
  s_op
  s_c stepG_region_end
  s_c stepG_seq
  s_reg
  s_op
  s_c stepG_region_end
  s_c stepG_seq
  s_reg
  s_stop
  refine LoneTo.step (step_lone_select_recv_buf (c := c) (z := .int .i64 0) (cap := 10) (buf := cvs (x :: xs)) (closed := false) (s := s) (r := r) (tm := false)
    (stepG_comm (cases := #[rcase c (.int .i64 0)]) (blocking := false) (shape := .select) (w' := w) rfl rfl (by decide) (by simp [go_sem, execOp, rcase, Act.eval])) h (by simp [cvs])) ?_
  rw [Frame.finish_at, cvs_tail, cvs_head]
  walk_nrm
  refine LoneTo.goes (n := 20) ?_
  s_op
  s_op
  s_c stepG_region_end
  s_c stepG_block
  s_cond true
  s_c stepG_seq
  s_reg
  s_op
  s_op
  s_c stepG_region_end
  s_c stepG_seq
  s_reg
  s_op
  s_op
  s_op
  s_c stepG_region_end
  s_c stepG_ret'
  s_stop
  refine LoneTo.done ⟨.returned (.tuple #[.int .i64 x, .bool true]), _, rfl, ⟨rfl, rfl⟩, rfl, rfl, rfl, rfl, _, Tryd.func64, by simp [results, Tryd.f64, Frame.at]⟩
set_option maxRecDepth 100000 in
theorem next_nil (c : Nat) (s r : Nat) (w : World) (h : w.heap[c]? = some (.chan 10 (cvs []) false s r false)) :
    Calls Tryd.prog 64 #[.chan (some c)] w fun e w' => e = .returned (.tuple #[.int .i64 0, .bool false]) ∧ w' = w := by
  refine calls_of_loneTo fun cs => ?_
  have e : Frame.enter Tryd.prog 64 #[.chan (some c)] .normal = (baseF 64).at ⟨#[.chan (some c), undef, undef, undef, undef, undef, undef, undef, undef, undef, undef], []⟩ [.code (Tryd.f64.body.getD .skip)] := by
    simp [Frame.enter, Frame.at, Tryd.func64, baseF, Tryd.f64]
  rw [e]
  refine LoneTo.goes (n := 15) ?_
  simp only [Tryd.f64, Option.getD_some]
  s_c stepG_seq
  s_reg
  s_op
  s_op
  s_c stepG_region_end
  s_c stepG_seq
  s_reg
  s_op
  s_c stepG_region_end
  s_c stepG_seq
  s_reg
  s_stop
  refine LoneTo.step (step_lone_select_default (c := c) (z := .int .i64 0) (cap := 10) (s := s) (r := r) (tm := false)
    (stepG_comm (cases := #[rcase c (.int .i64 0)]) (blocking := false) (shape := .select) (w' := w) rfl rfl (by decide) (by simp [go_sem, execOp, rcase, Act.eval])) h) ?_
  rw [Frame.finish_at]
  walk_nrm
  refine LoneTo.goes (n := 20) ?_
  s_op
  s_op
  s_c stepG_region_end
  s_c stepG_block
  s_cond false
  s_c stepG_seq
  s_reg
  s_op
  s_op
  s_c stepG_region_end
  s_c stepG_ret'
  s_stop
  refine LoneTo.done ⟨.returned (.tuple #[.int .i64 0, .bool false]), _, rfl, ⟨rfl, rfl⟩, rfl, rfl, rfl, rfl, _, Tryd.func64, by simp [results, Tryd.f64, Frame.at]⟩
end Go.Proofs.YtdjcgddcgjbboaaDoor

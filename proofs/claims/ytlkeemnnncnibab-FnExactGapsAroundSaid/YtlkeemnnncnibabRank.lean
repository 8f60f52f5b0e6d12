/-
  Ranks of lucky tickets: plain facts, nothing of the program.
-/
import Derived.Test.YtlkeemnnncnibabComp
namespace Go.Proofs.Ytlkeemnnncnibab

/-- How many lucky tickets begin with l and a digit below d. -/
def inner (h : Nat) (l : List UInt8) (d : Nat) : Int := sumTo d (fun e => cmp h (l.length + 1) (stp h l.length (bal h l) (e : Int)))
theorem inner_succ (h : Nat) (l : List UInt8) (d : Nat) : inner h l (d + 1) = inner h l d + cmp h (l.length + 1) (stp h l.length (bal h l) (d : Int)) := rfl
/-- How many lucky tickets part from l within the first i digits, and come before it. -/
def rkTo (h : Nat) (l : List UInt8) : Nat → Int
  | 0 => 0
  | i + 1 => rkTo h l i + inner h (l.take i) (match l[i]? with | some c => (dv c).toNat | none => 0)
theorem rkTo_succ (h : Nat) (s : ByteArray) (i : Nat) (hi : i < s.size) : rkTo h s.data.toList (i + 1) = rkTo h s.data.toList i + inner h (s.data.toList.take i) (dv s[i]).toNat := by
  have e : s.data.toList[i]? = some s[i] := by
    rw [List.getElem?_eq_getElem (by simpa using hi)]; rfl
  show rkTo h s.data.toList i + inner h (s.data.toList.take i) (match s.data.toList[i]? with | some c => (dv c).toNat | none => 0) = _
  rw [e]
theorem bal_bd (h : Nat) (l : List UInt8) (hl : l.length ≤ 12) (hd : digB l = true) : -108 ≤ bal h l ∧ bal h l ≤ 108 := by
  have h1 := dsum_bd (l.take h) (digB_take _ _ hd)
  have h2 := dsum_bd (l.drop h) (digB_drop _ _ hd)
  have h3 : (l.take h).length ≤ l.length := by simp; omega
  have h4 : (l.drop h).length ≤ l.length := by simp
  unfold bal; omega
theorem stp_bd (h p : Nat) (b d : Int) (hb : -108 ≤ b ∧ b ≤ 108) (hd : 0 ≤ d ∧ d ≤ 9) : -1000 ≤ stp h p b d ∧ stp h p b d ≤ 1000 := by
  unfold stp; split <;> omega
theorem inner_bd (h : Nat) (hh : h ≤ 6) (l : List UInt8) (d : Nat) : 0 ≤ inner h l d ∧ inner h l d ≤ 1000000000000 * (d : Int) := by
  induction d with
  | zero => simp [inner, sumTo]
  | succ d ih => have := cmp_bd hh (p := l.length + 1) (stp h l.length (bal h l) (d : Int)); rw [inner_succ]; omega
theorem rkTo_bd (h : Nat) (hh : h ≤ 6) (s : ByteArray) (hd : digB s.data.toList = true) (i : Nat) (hi : i ≤ s.size) : 0 ≤ rkTo h s.data.toList i ∧ rkTo h s.data.toList i ≤ 9000000000000 * (i : Int) := by
  induction i with
  | zero => simp [rkTo]
  | succ i ih =>
    have h1 := ih (by omega)
    have h2 := inner_bd h hh (s.data.toList.take i) (dv (s[i]'(by omega))).toNat
    have h3 := digB_get s i (by omega) hd
    rw [rkTo_succ h s i (by omega)]
    have h4 : dv (s[i]'(by omega)) ≤ 9 := by unfold dv; omega
    omega
/-- How many lucky tickets come before. -/
def rank (h : Nat) (s : ByteArray) : Int := rkTo h s.data.toList s.size
end Go.Proofs.Ytlkeemnnncnibab

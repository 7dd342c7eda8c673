/- Layer 7: the reference's join, isName, Is. -/
import Derived.Test.YtagdhghjcibfbaaGreatDoorPaC
namespace Go.Proofs.YtagdhghjcibfbaaGreatDoor
open Go.RowKit
set_option linter.unusedVariables false
set_option maxRecDepth 100000

theorem joinP_app_le (r t : List (List UInt8)) : (joinP r).length ≤ (joinP (r ++ t)).length := by
  induction t generalizing r with
  | nil => simp
  | cons q t ih =>
    have := ih (r ++ [q])
    rw [List.append_assoc] at this
    refine Nat.le_trans ?_ this
    by_cases hr : r = []
    · subst hr; simp [joinP]
    · rw [joinP_snoc r q hr]; simp
theorem joinP_take_le (r : List (List UInt8)) (k : Nat) : (joinP (r.take k)).length ≤ (joinP r).length := by
  have := joinP_app_le (r.take k) (r.drop k)
  rwa [List.take_append_drop] at this


/-- What the reference takes for a name. -/
def nameR (p : List UInt8) : Bool := !p.contains 0 && !p.contains 47 && decide (1 ≤ p.length) && decide (p.length ≤ 32) && !decide (p = [46]) && !decide (p = [46, 46])
theorem nameR_eq {p : List UInt8} (h : NoSl p) : nameR p = nameB p := by
  have h47 : p.contains 47 = false := by
    cases hc : p.contains 47 with
    | false => rfl
    | true => exact absurd (by simpa using hc) h
  unfold nameR nameB forbB
  rw [h47]
  cases p with
  | nil => rfl
  | cons c l =>
    simp only [List.length_cons, reduceCtorEq, decide_false, Bool.false_or, Bool.not_or]
    rw [decide_eq_true (show 1 ≤ l.length + 1 by omega)]
    generalize decide (l.length + 1 ≤ 32) = x1
    generalize decide (c :: l = [46]) = x2
    generalize decide (c :: l = [46, 46]) = x3
    generalize (c :: l).contains 0 = x4
    revert x1 x2 x3 x4; decide
theorem cont_snoc (p : List UInt8) (c d : UInt8) : (p ++ [c]).contains d = (p.contains d || (c == d)) := by
  induction p with
  | nil =>
    by_cases h : c = d
    · subst h; simp
    · simp [h, Ne.symm h]
  | cons a p ih => rw [List.cons_append, List.contains_cons, List.contains_cons, ih, Bool.or_assoc]


end Go.Proofs.YtagdhghjcibfbaaGreatDoor

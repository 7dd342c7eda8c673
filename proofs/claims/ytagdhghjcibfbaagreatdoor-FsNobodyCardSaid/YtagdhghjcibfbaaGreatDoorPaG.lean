/- Layer 7: the reference's Compare, SameTexts, begins, Mark. -/
import Derived.Test.YtagdhghjcibfbaaGreatDoorPaF
namespace Go.Proofs.YtagdhghjcibfbaaGreatDoor
open Go.RowKit
set_option linter.unusedVariables false
set_option maxRecDepth 100000

theorem ret_int {k : IntKind} {a b : Int} (h : a = b) : Ending.returned (.int k a) = .returned (.int k b) := by rw [h]
theorem cmp_step {ls ms : List (List UInt8)} {j : Nat} (h1 : j < ls.length) (h2 : j < ms.length) (h : cmpL ls ms = cmpL (ls.drop j) (ms.drop j)) :
    cmpL ls ms = if Op.bytesLess ls[j] ms[j] then -1 else if Op.bytesLess ms[j] ls[j] then 1 else cmpL (ls.drop (j + 1)) (ms.drop (j + 1)) := by
  rw [h, List.drop_eq_getElem_cons h1, List.drop_eq_getElem_cons h2]; rfl
theorem cmp_end {ls ms : List (List UInt8)} {j : Nat} (hj : j = ls.length ∨ j = ms.length) (h : cmpL ls ms = cmpL (ls.drop j) (ms.drop j)) (hl : j ≤ ls.length) (hm : j ≤ ms.length) :
    cmpL ls ms = if ls.length < ms.length then -1 else if ms.length < ls.length then 1 else 0 := by
  rw [h]
  cases hd : ls.drop j with
  | nil =>
    have e1 := congrArg List.length hd
    rw [List.length_drop, List.length_nil] at e1
    cases hd2 : ms.drop j with
    | nil =>
      have e2 := congrArg List.length hd2
      rw [List.length_drop, List.length_nil] at e2
      rw [if_neg (by omega), if_neg (by omega)]; rfl
    | cons b y =>
      have e2 := congrArg List.length hd2
      rw [List.length_drop, List.length_cons] at e2
      rw [if_pos (by omega)]; rfl
  | cons a x =>
    have e1 := congrArg List.length hd
    rw [List.length_drop, List.length_cons] at e1
    cases hd2 : ms.drop j with
    | nil =>
      have e2 := congrArg List.length hd2
      rw [List.length_drop, List.length_nil] at e2
      rw [if_neg (by omega), if_pos (by omega)]; rfl
    | cons b y =>
      have e2 := congrArg List.length hd2
      rw [List.length_drop, List.length_cons] at e2
      omega



end Go.Proofs.YtagdhghjcibfbaaGreatDoor

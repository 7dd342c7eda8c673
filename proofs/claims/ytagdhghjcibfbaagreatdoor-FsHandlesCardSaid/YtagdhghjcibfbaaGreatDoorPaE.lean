/- Layer 7: the reference's Is, Clean, Split, Join. -/
import Derived.Test.YtagdhghjcibfbaaGreatDoorPaD
namespace Go.Proofs.YtagdhghjcibfbaaGreatDoor
open Go.RowKit
set_option linter.unusedVariables false
set_option maxRecDepth 100000

def isR (p : List UInt8) : Bool := (partsL p).all nameR && decide ((partsL p).length ≤ 8) && decide (p.length ≤ 96)
theorem all_snoc (ls : List (List UInt8)) (x : List UInt8) (f : List UInt8 → Bool) : (ls ++ [x]).all f = (ls.all f && f x) := by simp


/-- What Clean answers. -/
def pairC : Option (List UInt8) → Value
  | some p => .tuple #[.string (bs p), .int .i64 0]
  | none => .tuple #[.string (bs []), .int .i64 2]
theorem names_of_parts (l : List UInt8) : (partsL l).filter keepB = namesL l := by
  unfold partsL; split
  · next h => subst h; rfl
  · rfl
theorem good_is (l : List UInt8) : isR (joinP (namesL l)) = goodL (namesL l) := by
  unfold isR goodL
  rw [names_parts l]
  have : (namesL l).all nameR = (namesL l).all nameB := by
    have h := names_noSl l
    generalize namesL l = ns at h
    rw [Bool.eq_iff_iff, List.all_eq_true, List.all_eq_true]
    constructor
    · intro hh p hp; rw [← nameR_eq (h p hp)]; exact hh p hp
    · intro hh p hp; rw [nameR_eq (h p hp)]; exact hh p hp
  rw [this]
theorem joinP_filter_le (ls : List (List UInt8)) (f : List UInt8 → Bool) : (joinP (ls.filter f)).length ≤ (joinP ls).length := by
  have key : ∀ (ls : List (List UInt8)), (joinP (ls.filter f)).length + (if ls.filter f = [] then 0 else 1) ≤ (joinP ls).length + (if ls = [] then 0 else 1) := by
    intro ls
    induction ls with
    | nil => simp
    | cons p r ih =>
      have hc : (joinP (p :: r)).length = p.length + (joinP r).length + (if r = [] then 0 else 1) := by
        cases r with
        | nil => simp [joinP]
        | cons q r => rw [joinP_two _ _ (by simp)]; simp; omega
      rw [hc]
      by_cases hf : f p = true
      · rw [List.filter_cons_of_pos hf]
        have hc2 : (joinP (p :: r.filter f)).length = p.length + (joinP (r.filter f)).length + (if r.filter f = [] then 0 else 1) := by
          cases hr : r.filter f with
          | nil => simp [joinP]
          | cons q t => rw [joinP_two _ _ (by simp)]; simp; omega
        rw [hc2]
        generalize r.filter f = rf at *
        rw [if_neg (by simp : ¬ p :: rf = []), if_neg (by simp : ¬ p :: r = [])]
        omega
      · rw [List.filter_cons_of_neg hf]
        generalize r.filter f = rf at *
        rw [if_neg (by simp : ¬ p :: r = [])]
        omega
  have := key ls
  cases h : ls.filter f with
  | nil => simp [joinP]
  | cons a t =>
    rw [h] at this
    have hne : ls ≠ [] := by rintro rfl; simp at h
    simp [hne] at this
    omega


end Go.Proofs.YtagdhghjcibfbaaGreatDoor

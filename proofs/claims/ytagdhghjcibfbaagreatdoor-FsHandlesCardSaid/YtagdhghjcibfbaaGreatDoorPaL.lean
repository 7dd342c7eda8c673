/- Layer 7: the program's Under and Compare, by the library's Equal and Compare of slices. -/
import Derived.Test.YtagdhghjcibfbaaGreatDoorPaK
namespace Go.Proofs.YtagdhghjcibfbaaGreatDoor
open Go.RowKit
set_option linter.unusedVariables false
set_option maxRecDepth 100000

theorem map_bs_inj {x y : List (List UInt8)} (h : x.map bs = y.map bs) : x = y := by
  induction x generalizing y with
  | nil => cases y with | nil => rfl | cons => simp at h
  | cons a x ih =>
    cases y with
    | nil => simp at h
    | cons b y => simp only [List.map_cons, List.cons.injEq] at h; rw [bs_inj h.1, ih h.2]


theorem one_use2 {ls : List (List UInt8)} {w w1 : World} {e : Ending} (h : RetSl w ls e w1) :
    ∃ a c, e = .returned (.slice a ls.length c) ∧ SlAt w1 a ls ∧ Below w.heap.size w w1 ∧ ls.length ≤ c := by
  obtain ⟨v, rfl, ⟨a, c, rfl, h1, _, hS⟩, hb⟩ := h
  exact ⟨a, c, rfl, hS, hb, h1⟩


theorem nan_any (x : List UInt8) (w : World) : Calls Tryz.prog 169 #[.string (bs x)] w fun e w' => e = .returned (.bool false) ∧ w = w' := by
  have e1 : ((bs x).toList != (bs x).toList) = false := by simp
  generalize bs x = s at *
  go_enter Tryz.func169, Tryz.ntmps169
  go_wp2_with fail
  go_ret
  exact ⟨by first | rfl | exact ret_bool (by simp), rfl⟩




end Go.Proofs.YtagdhghjcibfbaaGreatDoor

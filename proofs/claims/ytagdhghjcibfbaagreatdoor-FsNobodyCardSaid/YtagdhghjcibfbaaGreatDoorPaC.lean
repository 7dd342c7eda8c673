/- Layer 7: the reference's Parts, join, isName, Is. -/
import Derived.Test.YtagdhghjcibfbaaGreatDoorPaB
namespace Go.Proofs.YtagdhghjcibfbaaGreatDoor
open Go.RowKit
set_option linter.unusedVariables false
set_option maxRecDepth 100000

theorem drop_at (s : ByteArray) (k : Nat) (h : k < s.size) : s.data.toList.drop k = s[k] :: s.data.toList.drop (k + 1) := by
  rw [List.drop_eq_getElem_cons (by simpa using h)]; rfl
theorem ext_one (s : ByteArray) (k : Nat) (h : k < s.size) : s.extract k (k + 1) = bs [s[k]] := by
  apply bs_eq
  rw [Lib.extract_data, drop_at s k h, show k + 1 - k = 1 by omega]; rfl


end Go.Proofs.YtagdhghjcibfbaaGreatDoor

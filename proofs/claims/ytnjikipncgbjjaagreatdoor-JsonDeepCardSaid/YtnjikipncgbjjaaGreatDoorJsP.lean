/- The contract of put, of a list and of an object. -/
import Derived.Test.YtnjikipncgbjjaaGreatDoorJsL
import Derived.Test.YtnjikipncgbjjaaGreatDoorJsK4
import Derived.Test.YtnjikipncgbjjaaGreatDoorJsK5
namespace Go.Proofs.YtnjikipncgbjjaaGreatDoor
open Go.RowKit
set_option linter.unusedVariables false
theorem put_c : PutC := fun X l hl P F K hFn sv R v k0 t0 a0 n0 c0 a2 n2 c2 w0 w hT h hv => by
  cases hF : F.obj
  · exact put_list l hl P F hF K hFn sv R v k0 t0 a0 n0 c0 a2 n2 c2 w0 w hT h hv
  · exact put_obj l hl P F hF K hFn sv R v k0 t0 a0 n0 c0 a2 n2 c2 w0 w hT h hv
end Go.Proofs.YtnjikipncgbjjaaGreatDoor

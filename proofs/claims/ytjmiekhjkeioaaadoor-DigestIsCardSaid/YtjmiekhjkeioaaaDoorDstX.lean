/- What the frames of layer 3's laws share. -/
import Derived.Test.YtjmiekhjkeioaaaDoorLaid
import Derived.Test.YtjmiekhjkeioaaaDoorDstV
namespace Go.Proofs.YtjmiekhjkeioaaaDoor
theorem u8_lo {n : Int} (h : (Lit.int .u8 n).wf = true) : 0 ≤ n := by
  have h2 : 0 ≤ n ∧ n ≤ 255 := by simpa [Lit.wf, IntKind.min, IntKind.max, IntKind.signed, IntKind.bits] using h
  exact h2.1
theorem u8_hi {n : Int} (h : (Lit.int .u8 n).wf = true) : n < 256 := by
  have h2 : 0 ≤ n ∧ n ≤ 255 := by simpa [Lit.wf, IntKind.min, IntKind.max, IntKind.signed, IntKind.bits] using h
  omega
end Go.Proofs.YtjmiekhjkeioaaaDoor

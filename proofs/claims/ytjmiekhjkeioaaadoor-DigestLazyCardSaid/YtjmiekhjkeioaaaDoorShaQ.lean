/- The padding of SHA-256, its first bytes. It names nothing of the program. -/
import Derived.Test.YtjmiekhjkeioaaaDoorShaP
namespace Go.Proofs.YtjmiekhjkeioaaaDoor
set_option linter.unusedVariables false
/-- The first m bytes of the padding. -/
def padP (n m : Nat) : List UInt8 := (List.range m).map (padB n (padSize n))
theorem padP_len (n m : Nat) : (padP n m).length = m := by unfold padP; simp
theorem padP_succ (n m : Nat) : padP n (m + 1) = padP n m ++ [padB n (padSize n) m] := by unfold padP; rw [List.range_succ, List.map_append]; rfl
theorem padP_all (n : Nat) : padP n (padSize n) = padL n := rfl
theorem padB_zero (n : Nat) : padB n (padSize n) 0 = 0x80 := by unfold padB; rw [if_pos rfl]
theorem padB_mid (n m : Nat) (h1 : 1 ≤ m) (h2 : m < padSize n - 8) : padB n (padSize n) m = 0 := by unfold padB; rw [if_neg (by omega), if_pos h2]
theorem padB_end (n k : Nat) (hk : k < 8) : ((padB n (padSize n) (padSize n - 1 - k)).toNat : Int) = ((n : Int) * 8) / 2 ^ (8 * k) % 256 := by
  have h := padSize_bounds n
  rw [padB_step n (padSize n) k h.1 hk]
  have e : (256 : Nat) ^ k = 2 ^ (8 * k) := by rw [Nat.pow_mul]
  rw [e, Int.natCast_ediv]
  congr 2 <;> first | omega | simp
end Go.Proofs.YtjmiekhjkeioaaaDoor

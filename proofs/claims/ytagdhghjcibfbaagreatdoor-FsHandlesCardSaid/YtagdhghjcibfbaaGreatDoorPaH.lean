/- Layer 7: the reference's begins and Mark. -/
import Derived.Test.YtagdhghjcibfbaaGreatDoorPaG
namespace Go.Proofs.YtagdhghjcibfbaaGreatDoor
open Go.RowKit
set_option linter.unusedVariables false
set_option maxRecDepth 100000

theorem bs_ext0 (l : List UInt8) (k : Nat) : (bs l).extract 0 k = bs (l.take k) := by
  apply bs_eq; rw [Lib.extract_data, bs_list]; simp
theorem bs_extr (l : List UInt8) (k : Nat) : (bs l).extract k (bs l).size = bs (l.drop k) := by
  apply bs_eq; rw [Lib.extract_data, bs_list, bs_size, List.take_of_length_le (by simp)]
theorem pre_take (s p : List UInt8) (h : p.length ≤ s.length) : (s.take p.length == p) = p.isPrefixOf s := by
  rw [Bool.eq_iff_iff, beq_iff_eq, List.isPrefixOf_iff_prefix, List.prefix_iff_eq_take]
  exact ⟨fun e => e.symm, fun e => e.symm⟩
theorem pre_len {s p : List UInt8} (h : p.isPrefixOf s = true) : p.length ≤ s.length := (List.isPrefixOf_iff_prefix.1 h).length_le


theorem eq_lit (l m : List UInt8) : ((bs l).toList == m) = decide (l = m) := by rw [bs_toList, Bool.eq_iff_iff]; simp
/-- What Mark answers. -/
def markV (x : Nat × List UInt8) : Value := .tuple #[.int .i64 (x.1 : Int), .string (bs x.2)]


end Go.Proofs.YtagdhghjcibfbaaGreatDoor

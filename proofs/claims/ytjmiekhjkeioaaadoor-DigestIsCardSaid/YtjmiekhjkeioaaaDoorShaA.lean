/- Contracts of rotate (the program's) and turn (the reference's): a word turned to the right. -/
import Derived.Test.YtjmiekhjkeioaaaDoorChecked
import Derived.Test.YtjmiekhjkeioaaaDoorShaM
import Derived.WalkKit
import Derived.Below
import Derived.Deep.QuietTactic
import Derived.BigQuiet
import Derived.Lib.Hide
import Derived.Outline
import Derived.IntWalk
namespace Go.Proofs.YtjmiekhjkeioaaaDoor
open Go.RowKit
set_option linter.unusedVariables false

theorem ret_intS {k : IntKind} {a b : Int} (h : a = b) : Ending.returned (.int k a) = .returned (.int k b) := by rw [h]

theorem ror_val (x : UInt32) (n : Nat) (h1 : 1 ≤ n) (h2 : n ≤ 31) : bits BinOp.or IntKind.u32 ((x.toNat : Int) / 2 ^ n) ((x.toNat : Int) * 2 ^ (32 - n) % 4294967296) = ((ror x n).toNat : Int) := by
  rw [shr_w x n (by omega), shl_w x (32 - n) (by omega), bits_or_w]; rfl

theorem rot_any (x : UInt32) (n : Nat) (w : World) (h1 : 1 ≤ n) (h2 : n ≤ 31) :
    Calls Tryd.prog 51 #[.int .u32 (x.toNat : Int), .int .u64 (n : Int)] w fun e w' => e = .returned (.int .u32 ((ror x n).toNat : Int)) ∧ w = w' := by
  go_enter Tryd.func51, Tryd.ntmps51
  go_wp2
  go_ret
  exact ⟨ret_intS (ror_val x n h1 h2), rfl⟩

theorem turn_any (x : UInt32) (n : Nat) (w : World) (h1 : 1 ≤ n) (h2 : n ≤ 31) :
    Calls Tryd.prog 43 #[.int .u32 (x.toNat : Int), .int .i64 (n : Int)] w fun e w' => e = .returned (.int .u32 ((ror x n).toNat : Int)) ∧ ∃ k, w' = w.drewN k := by
  go_enter Tryd.func43, Tryd.ntmps43
  go_wp2
  go_quiet (fail)
  go_wp2
  go_ret
  exact ⟨ret_intS (ror_val x n h1 h2), _, rfl⟩
theorem rot_int (x : UInt32) (m : Int) (w : World) (h1 : 1 ≤ m) (h2 : m ≤ 31) :
    Calls Tryd.prog 51 #[.int .u32 (x.toNat : Int), .int .u64 m] w fun e w' => e = .returned (.int .u32 ((ror x m.toNat).toNat : Int)) ∧ w = w' := by
  have := rot_any x m.toNat w (by omega) (by omega)
  rwa [show ((m.toNat : Nat) : Int) = m by omega] at this
theorem turn_int (x : UInt32) (m : Int) (w : World) (h1 : 1 ≤ m) (h2 : m ≤ 31) :
    Calls Tryd.prog 43 #[.int .u32 (x.toNat : Int), .int .i64 m] w fun e w' => e = .returned (.int .u32 ((ror x m.toNat).toNat : Int)) ∧ ∃ k, w' = w.drewN k := by
  have := turn_any x m.toNat w (by omega) (by omega)
  rwa [show ((m.toNat : Nat) : Int) = m by omega] at this
end Go.Proofs.YtjmiekhjkeioaaaDoor

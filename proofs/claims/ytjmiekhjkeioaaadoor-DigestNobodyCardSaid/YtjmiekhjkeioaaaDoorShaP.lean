/- The padding of SHA-256 as a list of bytes, and the sum's bytes. It names nothing of the program. -/
import Derived.Test.YtjmiekhjkeioaaaDoorShaM
namespace Go.Proofs.YtjmiekhjkeioaaaDoor
set_option linter.unusedVariables false

/-- How many bytes stand behind a text of n bytes. -/
def padSize (n : Nat) : Nat := if (n + 9) % 64 = 0 then 9 else 73 - (n + 9) % 64
/-- The j-th of these, where there are z. -/
def padB (n z j : Nat) : UInt8 := if j = 0 then 0x80 else if j < z - 8 then 0 else UInt8.ofNat (8 * n / 256 ^ (z - 1 - j))
def padL (n : Nat) : List UInt8 := (List.range (padSize n)).map (padB n (padSize n))
theorem padSize_bounds (n : Nat) : 9 ≤ padSize n ∧ padSize n ≤ 72 ∧ (n + padSize n) % 64 = 0 := by
  unfold padSize
  split <;> omega
theorem padL_length (n : Nat) : (padL n).length = padSize n := by unfold padL; simp
/-- A text with what stands behind it. -/
def padded (l : List UInt8) : List UInt8 := l ++ padL l.length
theorem padded_length (l : List UInt8) : (padded l).length % 64 = 0 ∧ (padded l).length ≤ l.length + 72 ∧ padded l ≠ [] := by
  have h := padSize_bounds l.length
  have e : (padded l).length = l.length + padSize l.length := by unfold padded; rw [List.length_append, padL_length]
  refine ⟨by omega, by omega, fun e0 => ?_⟩
  rw [e0] at e; simp at e; omega
/-- The words behind a text. -/
def digest8 (l : List UInt8) : Eight := hashN (padded l) ((padded l).length / 64)
/-- The sum's bytes. -/
def sumB (l : List UInt8) (j : Nat) : UInt8 := ((digest8 l).at (j / 4) >>> UInt32.ofNat (24 - 8 * (j % 4))).toUInt8
def sumV (l : List UInt8) (j : Nat) : Go.Value := .int .u8 ((sumB l j).toNat : Int)
def sumVs (l : List UInt8) : List Go.Value := (List.range 32).map (sumV l)
theorem sumVs_len (l : List UInt8) : (sumVs l).length = 32 := by unfold sumVs; simp
theorem sumVs_size (l : List UInt8) : (sumVs l).toArray.size = 32 := by rw [List.size_toArray, sumVs_len]
theorem sumVs_at (l : List UInt8) (j : Nat) (h : j < 32) : (sumVs l)[j]? = some (sumV l j) := by unfold sumVs; simp [h]

theorem u8_ofNat_val (x : Nat) : ((UInt8.ofNat x).toNat : Int) = (x : Int) % 256 := by
  rw [UInt8.toNat_ofNat']; simp
theorem div_step (n i : Nat) : 8 * n / 256 ^ i / 256 = 8 * n / 256 ^ (i + 1) := by
  rw [Nat.div_div_eq_div_mul, Nat.pow_succ]
theorem padB_step (n z k : Nat) (hz : 9 ≤ z) (hk : k < 8) : ((padB n z (z - 1 - k)).toNat : Int) = ((8 * n / 256 ^ k : Nat) : Int) % 256 := by
  unfold padB
  rw [if_neg (by omega), if_neg (by omega), u8_ofNat_val, show z - 1 - (z - 1 - k) = k by omega]
end Go.Proofs.YtjmiekhjkeioaaaDoor

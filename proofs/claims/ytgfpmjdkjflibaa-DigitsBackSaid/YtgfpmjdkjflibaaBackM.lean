/- Plain facts for DigitsBack: what was told as digits is read as it was; the greater number has the greater octal digits. -/
import Derived.Test.YtgfpmjdkjflibaaDigJ
namespace Go.Proofs.Ytgfpmjdkjflibaa
open Go.RowKit
set_option linter.unusedVariables false

theorem bytesLess_snoc (x y : UInt8) : ∀ (a b : List UInt8), a.length = b.length → Op.bytesLess (a ++ [x]) (b ++ [y]) = (Op.bytesLess a b || (a == b && decide (x < y)))
  | [], [], _ => by simp [Op.bytesLess]
  | [], _ :: _, h => by simp at h
  | _ :: _, [], h => by simp at h
  | c :: a, d :: b, h => by
    have ih := bytesLess_snoc x y a b (by simpa using h)
    simp only [List.cons_append, Op.bytesLess]
    rw [ih]
    by_cases h1 : c < d
    · simp [h1]
    · by_cases h2 : c = d
      · subst h2; simp [h1]
      · have h3 : (c == d) = false := by simp [h2]
        simp [h1, h3]

theorem octL_inj (d : Nat) : ∀ m n, m < 8 ^ d → n < 8 ^ d → octL d m = octL d n → m = n := by
  intro m n hm hn h
  have h1 := valLoop_octL (8 ^ d) d m hm (Nat.le_of_lt hm)
  have h2 := valLoop_octL (8 ^ d) d n hn (Nat.le_of_lt hn)
  rw [h] at h1
  rw [h1] at h2
  exact Option.some.inj h2

theorem octL_less (d : Nat) : ∀ m n, m < 8 ^ d → n < 8 ^ d → Op.bytesLess (octL d m) (octL d n) = decide (m < n) := by
  induction d with
  | zero => intro m n hm hn; simp at hm hn; subst hm hn; simp [octL, Op.bytesLess]
  | succ d ih =>
    intro m n hm hn
    have hm8 : m / 8 < 8 ^ d := by rw [Nat.div_lt_iff_lt_mul (by omega)]; rw [Nat.pow_succ] at hm; omega
    have hn8 : n / 8 < 8 ^ d := by rw [Nat.div_lt_iff_lt_mul (by omega)]; rw [Nat.pow_succ] at hn; omega
    simp only [octL]
    rw [bytesLess_snoc _ _ _ _ (by rw [octL_length, octL_length]), ih _ _ hm8 hn8]
    have hlt : decide (dByte (m % 8) < dByte (n % 8)) = decide (m % 8 < n % 8) := by
      rw [decide_eq_decide, UInt8.lt_iff_toNat_lt, dByte_toNat _ (by omega), dByte_toNat _ (by omega)]; omega
    have heq : (octL d (m / 8) == octL d (n / 8)) = decide (m / 8 = n / 8) := by
      rw [Bool.eq_iff_iff]
      simp only [beq_iff_eq, decide_eq_true_eq]
      exact ⟨fun h => octL_inj d _ _ hm8 hn8 h, fun h => by rw [h]⟩
    rw [hlt, heq, Bool.eq_iff_iff]
    simp only [Bool.or_eq_true, Bool.and_eq_true, decide_eq_true_eq]
    omega

theorem hexL_inj (a b : List UInt8) (h : hexL a = hexL b) : a = b := by
  have h1 := unhexG_hexL a []
  have h2 := unhexG_hexL b []
  rw [h] at h1
  rw [h1] at h2
  simpa using h2

theorem num_dec (n : Int) (w : World) (h0 : -9223372036854775808 ≤ n) (h1 : n ≤ 9223372036854775807) :
    Calls Try.prog 8 #[.string ⟨(decZ n).toArray⟩] w fun e w' => e = .returned (.tuple #[.int .i64 n, .bool true]) ∧ w = w' := by
  have hl := decZ_length n h0 h1
  have h := num_any ⟨(decZ n).toArray⟩ w (by show (decZ n).toArray.size ≤ _; simp; unfold maxLen; omega)
  rw [show (⟨(decZ n).toArray⟩ : ByteArray).data.toList = decZ n by simp, (numZ_iff (decZ n) n).2 ⟨h0, h1, rfl⟩, pairI_some] at h
  exact h

theorem unhex_hex (a : ByteArray) (w : World) (ha : a.size ≤ 512) :
    Calls Try.prog 16 #[.string ⟨(hexL a.data.toList).toArray⟩] w fun e w' => e = .returned (.tuple #[.string a, .bool true]) ∧ Below w.heap.size w w' := by
  have h := unhex_any ⟨(hexL a.data.toList).toArray⟩ w (by show (hexL a.data.toList).toArray.size ≤ _; simp [hexL_length]; omega)
  rw [show (⟨(hexL a.data.toList).toArray⟩ : ByteArray).data.toList = hexL a.data.toList by simp, unhexG_hexL, pairS_some, List.nil_append, Lib.mk_data] at h
  exact h

theorem octal_21 (m : Nat) (w : World) (hm : m ≤ 9223372036854775807) :
    Calls Try.prog 12 #[.int .i64 m, .int .i64 21] w fun e w' => e = .returned (.tuple #[.string ⟨(octL 21 m).toArray⟩, .bool true]) ∧ Below w.heap.size w w' := by
  have h := octal_good m 21 w hm (by omega) (by omega)
  rw [if_pos (by omega), pairS_some] at h
  exact h

theorem octal_less0 (n : Int) (w : World) (hn : n < 0) :
    Calls Try.prog 12 #[.int .i64 n, .int .i64 21] w fun e w' => e = .returned (.tuple #[.string ⟨#[]⟩, .bool false]) ∧ Below w.heap.size w w' :=
  octal_bad n 21 w (by omega)

theorem fromOctal_21 (m : Nat) (w : World) (hm : m ≤ 9223372036854775807) :
    Calls Try.prog 14 #[.string ⟨(octL 21 m).toArray⟩] w fun e w' => e = .returned (.tuple #[.int .i64 m, .bool true]) ∧ w = w' := by
  have h := fromOctal_any ⟨(octL 21 m).toArray⟩ w (by show (octL 21 m).toArray.size ≤ _; simp [octL_length]; unfold maxLen; omega)
  have e : octN (octL 21 m) = some m := by
    rw [octN_loop _ (by rw [octL_length]; omega) (by intro q; have := octL_length 21 m; rw [q] at this; simp at this)]
    exact valLoop_octL _ 21 m (by omega) (by omega)
  rw [show (⟨(octL 21 m).toArray⟩ : ByteArray).data.toList = octL 21 m by simp, e, pairN_some] at h
  exact h

theorem octal_21i (n : Int) (w : World) (h0 : 0 ≤ n) (h1 : n ≤ 9223372036854775807) :
    Calls Try.prog 12 #[.int .i64 n, .int .i64 21] w fun e w' => e = .returned (.tuple #[.string ⟨(octL 21 n.toNat).toArray⟩, .bool true]) ∧ Below w.heap.size w w' := by
  have h := octal_21 n.toNat w (by omega)
  rwa [Int.toNat_of_nonneg h0] at h
theorem fromOctal_21i (n : Int) (w : World) (h0 : 0 ≤ n) (h1 : n ≤ 9223372036854775807) :
    Calls Try.prog 14 #[.string ⟨(octL 21 n.toNat).toArray⟩] w fun e w' => e = .returned (.tuple #[.int .i64 n, .bool true]) ∧ w = w' := by
  have h := fromOctal_21 n.toNat w (by omega)
  rwa [Int.toNat_of_nonneg h0] at h
theorem octL_lessi (m n : Int) (h0 : 0 ≤ m) (h1 : m ≤ 9223372036854775807) (h2 : 0 ≤ n) (h3 : n ≤ 9223372036854775807) :
    Op.bytesLess (octL 21 m.toNat) (octL 21 n.toNat) = decide (m < n) := by
  rw [octL_less 21 _ _ (by omega) (by omega), decide_eq_decide]; omega
end Go.Proofs.Ytgfpmjdkjflibaa

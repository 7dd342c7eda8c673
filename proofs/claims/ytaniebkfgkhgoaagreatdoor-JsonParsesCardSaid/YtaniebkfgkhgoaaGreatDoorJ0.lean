/- Plain functions on lists of bytes: decimal, octal and hexadecimal digits, and what digits say; nothing of the program stands here. Plain functions on lists of bytes: letters in UTF-8, and texts between quotes, told and read; nothing of the program stands here. strings.ToLower makes no hexadecimal digit of what is none; so four bytes, made small, tell as digits what they told. Plain functions on lists of bytes and on values as trees: what a text of JSON tells, by a machine with a stack of unfinished values; nothing of the program stands here. The machine's steps: what they leave to be read, and how they go on. A text of JSON read by recursive descent: it tells what the machine tells. The mathematics of the library's stable sort: insertion of one element, rotation by exchanges of blocks, the symmetric merge, blocks of growing size. -/
import Derived.Below
import Derived.Lib.MapLaws
import Derived.Lib.ValidLaws
import Derived.Shelf.Strings.CaseAny
import Derived.KernelRfl
import Derived.Lib.SlTrimSet
import Derived.Lib.Strings
import Derived.Sort.LotA
namespace Go.Proofs.YtaniebkfgkhgoaaGreatDoor

/-- The byte of a decimal digit. -/
def dByte (k : Nat) : UInt8 := UInt8.ofNat (48 + k)
theorem dByte_toNat (k : Nat) (h : k < 10) : (dByte k).toNat = 48 + k := by
  unfold dByte; rw [UInt8.toNat_ofNat']; omega
theorem dByte_inj (a b : Nat) (ha : a < 10) (hb : b < 10) (h : dByte a = dByte b) : a = b := by
  have := congrArg UInt8.toNat h
  rw [dByte_toNat a ha, dByte_toNat b hb] at this; omega

/-- The decimal digits of a number, the first one first. -/
def decN (n : Nat) : List UInt8 := if n < 10 then [dByte n] else decN (n / 10) ++ [dByte (n % 10)]
termination_by n
decreasing_by omega

theorem decN_small (n : Nat) (h : n < 10) : decN n = [dByte n] := by rw [decN, if_pos h]
theorem decN_big (n : Nat) (h : ¬ n < 10) : decN n = decN (n / 10) ++ [dByte (n % 10)] := by rw [decN, if_neg h]

theorem decN_ne (n : Nat) : decN n ≠ [] := by
  by_cases h : n < 10
  · rw [decN_small n h]; simp
  · rw [decN_big n h]; simp

theorem decN_length (k : Nat) : ∀ n, n < 10 ^ (k + 1) → (decN n).length ≤ k + 1 := by
  induction k with
  | zero => intro n h; rw [decN_small n (by omega)]; simp
  | succ k ih =>
    intro n h
    by_cases h1 : n < 10
    · rw [decN_small n h1]; simp
    · rw [decN_big n h1, List.length_append]
      have := ih (n / 10) (by rw [Nat.div_lt_iff_lt_mul (by omega)]; rw [Nat.pow_succ] at h; omega)
      simp; omega

/-- Digits of a base, put behind what a number has already: none if one is no digit, or the number passes the limit. -/
def valLoop (b lim : Nat) : Nat → List UInt8 → Option Nat
  | n, [] => some n
  | n, c :: t => if 48 ≤ c.toNat ∧ c.toNat - 48 < b ∧ n * b + (c.toNat - 48) ≤ lim then valLoop b lim (n * b + (c.toNat - 48)) t else none

theorem valLoop_append (b lim : Nat) (l t : List UInt8) : ∀ n, valLoop b lim n (l ++ t) = (valLoop b lim n l).bind fun m => valLoop b lim m t := by
  induction l with
  | nil => intro n; rfl
  | cons c l ih =>
    intro n
    simp only [List.cons_append, valLoop]
    split
    · exact ih _
    · rfl

theorem valLoop_le (b lim : Nat) (l : List UInt8) : ∀ n m, n ≤ lim → valLoop b lim n l = some m → m ≤ lim := by
  induction l with
  | nil => intro n m hn h; simp [valLoop] at h; omega
  | cons c l ih =>
    intro n m hn h
    simp only [valLoop] at h
    split at h
    · rename_i hc; exact ih _ _ hc.2.2 h
    · cases h

theorem valLoop_ge (b lim : Nat) (hb : 1 ≤ b) (l : List UInt8) : ∀ n m, valLoop b lim n l = some m → n ≤ m := by
  induction l with
  | nil => intro n m h; simp [valLoop] at h; omega
  | cons c l ih =>
    intro n m h
    simp only [valLoop] at h
    split at h
    · have := ih _ _ h
      have : n * 1 ≤ n * b := Nat.mul_le_mul_left n hb
      omega
    · cases h

/-- A greater limit lets by what a smaller one did. -/
theorem valLoop_mono (b l1 l2 : Nat) (hl : l1 ≤ l2) (l : List UInt8) : ∀ n m, valLoop b l1 n l = some m → valLoop b l2 n l = some m := by
  induction l with
  | nil => intro n m h; exact h
  | cons c l ih =>
    intro n m h
    simp only [valLoop] at h ⊢
    split at h
    · rename_i hc; rw [if_pos ⟨hc.1, hc.2.1, by omega⟩]; exact ih _ _ h
    · cases h

/-- A smaller limit only asks that the number in the end keeps it. -/
theorem valLoop_cut (b l1 l2 : Nat) (hb : 1 ≤ b) (l : List UInt8) (n m : Nat) (h : valLoop b l2 n l = some m) : valLoop b l1 n l = if m ≤ l1 ∨ l = [] then some m else none := by
  induction l generalizing n with
  | nil => rw [if_pos (Or.inr rfl)]; exact h
  | cons c l ih =>
    simp only [valLoop] at h ⊢
    split at h
    · rename_i hc
      have hge := valLoop_ge b l2 hb l _ _ h
      by_cases h1 : n * b + (c.toNat - 48) ≤ l1
      · rw [if_pos ⟨hc.1, hc.2.1, h1⟩, ih _ h]
        by_cases h2 : l = []
        · subst h2
          simp [valLoop] at h
          rw [if_pos (Or.inr rfl), if_pos (Or.inl (by omega))]
        · simp [h2]
      · rw [if_neg (by omega), if_neg (by simp; omega)]
    · cases h

/-- The digits of a number say that number. -/
theorem valLoop_decN (lim : Nat) (n : Nat) : n ≤ lim → valLoop 10 lim 0 (decN n) = some n := by
  induction n using Nat.strongRecOn with
  | ind n ih =>
    intro h
    by_cases h1 : n < 10
    · rw [decN_small n h1]
      have := dByte_toNat n h1
      simp only [valLoop]
      rw [if_pos (by omega), this]
      simp
    · rw [decN_big n h1, valLoop_append, ih (n / 10) (by omega) (by omega)]
      have := dByte_toNat (n % 10) (by omega)
      simp only [Option.bind_some, valLoop]
      rw [if_pos (by omega), this]
      congr 1; omega

/-- Digits, the first of which is no 0, are the digits of what they say. -/
theorem decN_valLoop (lim : Nat) (l : List UInt8) : ∀ n m, 1 ≤ n → valLoop 10 lim n l = some m → decN m = decN n ++ l := by
  induction l with
  | nil => intro n m _ h; simp [valLoop] at h; subst h; simp
  | cons c l ih =>
    intro n m hn h
    simp only [valLoop] at h
    split at h
    · rename_i hc
      have e := ih _ _ (by omega) h
      rw [e, decN_big _ (by omega)]
      have e1 : (n * 10 + (c.toNat - 48)) / 10 = n := by omega
      have e2 : (n * 10 + (c.toNat - 48)) % 10 = c.toNat - 48 := by omega
      rw [e1, e2]
      have e3 : dByte (c.toNat - 48) = c := by
        apply UInt8.toNat_inj.1
        rw [dByte_toNat _ hc.2.1]; omega
      rw [e3]; simp
    · cases h

/-- What digits say that are written as a number is: one digit, or the first is no 0. -/
def natOf (lim : Nat) (l : List UInt8) : Option Nat :=
  match l with
  | [] => none
  | c :: t => if c = 48 ∧ t ≠ [] then none else valLoop 10 lim 0 (c :: t)

theorem natOf_iff (lim : Nat) (l : List UInt8) (m : Nat) : natOf lim l = some m ↔ m ≤ lim ∧ decN m = l := by
  constructor
  · intro h
    cases l with
    | nil => cases h
    | cons c t =>
      simp only [natOf] at h
      split at h
      · cases h
      · rename_i hc
        refine ⟨valLoop_le 10 lim _ 0 m (Nat.zero_le _) h, ?_⟩
        simp only [valLoop] at h
        split at h
        · rename_i hd
          have e3 : dByte (c.toNat - 48) = c := by
            apply UInt8.toNat_inj.1
            rw [dByte_toNat _ hd.2.1]; omega
          by_cases h0 : c.toNat - 48 = 0
          · have hc48 : c = 48 := by rw [← e3, h0]; rfl
            have ht : t = [] := by
              by_cases ht : t = []
              · exact ht
              · exact absurd ⟨hc48, ht⟩ hc
            subst ht
            simp [valLoop] at h
            rw [← h, decN_small _ (by omega), e3]
          · have := decN_valLoop lim t _ m (by omega) h
            rw [this, decN_small _ (by omega)]
            simp [e3]
        · cases h
  · rintro ⟨h1, rfl⟩
    have hv := valLoop_decN lim m h1
    have hne := decN_ne m
    have hz : ∀ n, ∀ c t, decN n = c :: t → ¬ (c = 48 ∧ t ≠ []) := by
      intro n
      induction n using Nat.strongRecOn with
      | ind n ih =>
        intro c t e
        by_cases h1 : n < 10
        · rw [decN_small n h1] at e
          cases e; simp
        · rw [decN_big n h1] at e
          cases hd : decN (n / 10) with
          | nil => exact absurd hd (decN_ne _)
          | cons c' t' =>
            rw [hd] at e
            simp at e
            obtain ⟨rfl, rfl⟩ := e
            intro ⟨e0, _⟩
            have h3 := ih (n / 10) (by omega) c' t' hd
            by_cases ht : t' = []
            · subst ht
              by_cases h10 : n / 10 < 10
              · rw [decN_small _ h10] at hd
                simp at hd
                have h4 := dByte_toNat _ h10
                rw [hd, e0] at h4
                simp at h4; omega
              · rw [decN_big _ h10] at hd
                have hl := congrArg List.length hd
                have := decN_ne (n / 10 / 10)
                have : 1 ≤ (decN (n / 10 / 10)).length := by
                  cases hq : decN (n / 10 / 10) with
                  | nil => exact absurd hq this
                  | cons _ _ => simp
                simp at hl
                cases hq : decN (n / 10 / 10) with
                | nil => exact absurd hq ‹_›
                | cons _ _ => rw [hq] at hl; simp at hl
            · exact h3 ⟨e0, ht⟩
    cases hd : decN m with
    | nil => exact absurd hd hne
    | cons c t =>
      simp only [natOf]
      rw [if_neg (hz m c t hd), ← hd]
      exact hv

/-- The decimal digits of an int. -/
def decZ (z : Int) : List UInt8 := if z < 0 then 45 :: decN z.natAbs else decN z.natAbs

/-- The number of decimal digits, as the document has it: an int whose digits they are. -/
def numZ (l : List UInt8) : Option Int :=
  match l with
  | 45 :: t => (natOf 9223372036854775808 t).bind fun m => if m = 0 then none else some (-(m : Int))
  | l => (natOf 9223372036854775807 l).map fun m => (m : Int)

theorem decN_head (n : Nat) (t : List UInt8) : decN n ≠ 45 :: t := by
  induction n using Nat.strongRecOn generalizing t with
  | ind n ih =>
    by_cases h1 : n < 10
    · rw [decN_small n h1]
      intro e
      simp at e
      have := dByte_toNat n h1
      rw [e.1] at this
      simp at this; omega
    · rw [decN_big n h1]
      cases hd : decN (n / 10) with
      | nil => exact absurd hd (decN_ne _)
      | cons c' t' =>
        intro e
        simp at e
        rw [e.1] at hd
        exact ih _ (by omega) _ hd

theorem numZ_iff (l : List UInt8) (z : Int) : numZ l = some z ↔ -9223372036854775808 ≤ z ∧ z ≤ 9223372036854775807 ∧ decZ z = l := by
  by_cases hl : ∃ t, l = 45 :: t
  · obtain ⟨t, rfl⟩ := hl
    simp only [numZ]
    constructor
    · intro h
      cases hn : natOf 9223372036854775808 t with
      | none => rw [hn] at h; cases h
      | some m =>
        rw [hn] at h
        simp only [Option.bind_some] at h
        split at h
        · cases h
        · cases h
          have := (natOf_iff _ _ _).1 hn
          refine ⟨by omega, by omega, ?_⟩
          unfold decZ
          rw [if_pos (by omega)]
          congr 1
          rw [← this.2]; congr 1; omega
    · rintro ⟨h1, h2, h3⟩
      unfold decZ at h3
      split at h3
      · simp at h3
        have := (natOf_iff 9223372036854775808 t z.natAbs).2 ⟨by omega, h3⟩
        rw [this]
        simp only [Option.bind_some]
        rw [if_neg (by omega)]
        congr 1; omega
      · exact absurd h3 (decN_head _ _)
  · have e : numZ l = (natOf 9223372036854775807 l).map fun m => (m : Int) := by
      unfold numZ
      split
      · rename_i t; exact absurd ⟨t, rfl⟩ hl
      · rfl
    rw [e]
    constructor
    · intro h
      cases hn : natOf 9223372036854775807 l with
      | none => rw [hn] at h; cases h
      | some m =>
        rw [hn] at h
        cases h
        have := (natOf_iff _ _ _).1 hn
        refine ⟨by simp <;> omega, by simp <;> omega, ?_⟩
        unfold decZ
        rw [if_neg (by simp)]
        simpa using this.2
    · rintro ⟨h1, h2, h3⟩
      unfold decZ at h3
      split at h3
      · exact absurd ⟨_, h3.symm⟩ hl
      · have := (natOf_iff 9223372036854775807 l z.natAbs).2 ⟨by omega, h3⟩
        rw [this]
        simp <;> omega

theorem decZ_inj (a b : Int) (h : decZ a = decZ b) (ha : -9223372036854775808 ≤ a ∧ a ≤ 9223372036854775807) (hb : -9223372036854775808 ≤ b ∧ b ≤ 9223372036854775807) : a = b := by
  have h1 := (numZ_iff (decZ b) a).2 ⟨ha.1, ha.2, h⟩
  have h2 := (numZ_iff (decZ b) b).2 ⟨hb.1, hb.2, rfl⟩
  rw [h1] at h2; cases h2; rfl

/-- The byte of a hexadecimal digit. -/
def hByte (n : Nat) : UInt8 := if n < 10 then UInt8.ofNat (48 + n) else UInt8.ofNat (87 + n)
theorem hByte_toNat (n : Nat) (h : n < 16) : (hByte n).toNat = if n < 10 then 48 + n else 87 + n := by
  unfold hByte; split <;> (rw [UInt8.toNat_ofNat']; omega)
/-- Two hexadecimal digits for each byte. -/
def hexL : List UInt8 → List UInt8
  | [] => []
  | c :: t => hByte (c.toNat / 16) :: hByte (c.toNat % 16) :: hexL t
theorem hexL_append (a b : List UInt8) : hexL (a ++ b) = hexL a ++ hexL b := by
  induction a with
  | nil => rfl
  | cons c a ih => simp [hexL, ih]
theorem hexL_length (a : List UInt8) : (hexL a).length = 2 * a.length := by
  induction a with
  | nil => rfl
  | cons c a ih => simp [hexL, ih]; omega
/-- What a byte tells as a hexadecimal digit. -/
def hVal (c : Nat) : Option Nat := if 48 ≤ c ∧ c ≤ 57 then some (c - 48) else if 97 ≤ c ∧ c ≤ 102 then some (c - 87) else none
theorem hVal_hByte (n : Nat) (h : n < 16) : hVal (hByte n).toNat = some n := by
  rw [hByte_toNat n h]
  unfold hVal
  by_cases h1 : n < 10
  · rw [if_pos h1, if_pos (by omega)]; congr 1; omega
  · rw [if_neg h1, if_neg (by omega), if_pos (by omega)]; congr 1; omega
/-- The bytes of pairs of hexadecimal digits, behind those that are known. -/
def unhexG : List UInt8 → List UInt8 → Option (List UInt8)
  | acc, [] => some acc
  | _, [_] => none
  | acc, a :: b :: t => match hVal a.toNat, hVal b.toNat with
    | some h, some l => unhexG (acc ++ [UInt8.ofNat (16 * h + l)]) t
    | _, _ => none
theorem unhexG_odd : ∀ (l acc : List UInt8), l.length % 2 = 1 → unhexG acc l = none
  | [], acc, h => by simp at h
  | [a], acc, _ => rfl
  | a :: b :: t, acc, h => by
    simp only [unhexG]
    split
    · exact unhexG_odd t _ (by simp at h; omega)
    · rfl
theorem unhexG_hexL (l : List UInt8) : ∀ acc, unhexG acc (hexL l) = some (acc ++ l) := by
  induction l with
  | nil => intro acc; simp [hexL, unhexG]
  | cons c t ih =>
    intro acc
    have hc := UInt8.toNat_lt c
    simp only [hexL, unhexG]
    rw [hVal_hByte _ (by omega), hVal_hByte _ (by omega)]
    simp only
    rw [ih]
    have : UInt8.ofNat (16 * (c.toNat / 16) + c.toNat % 16) = c := by
      apply UInt8.toNat_inj.1
      rw [UInt8.toNat_ofNat']; omega
    rw [this]; simp

/-- So many octal digits of a number. -/
def octL : Nat → Nat → List UInt8
  | 0, _ => []
  | d + 1, n => octL d (n / 8) ++ [dByte (n % 8)]
theorem octL_length (d : Nat) : ∀ n, (octL d n).length = d := by
  induction d with
  | zero => intro n; rfl
  | succ d ih => intro n; simp [octL, ih]

/-- A number in so many octal digits, if it may be. -/
def octS (n d : Int) : Option (List UInt8) := if 0 ≤ n ∧ 1 ≤ d ∧ d ≤ 21 ∧ n.toNat < 8 ^ d.toNat then some (octL d.toNat n.toNat) else none

theorem pow8_pos (d : Nat) : 0 < 8 ^ d := Nat.pos_of_ne_zero (by simp)

/-- What octal digits tell is the number. -/
theorem valLoop_octL (lim : Nat) (d : Nat) : ∀ n, n < 8 ^ d → n ≤ lim → valLoop 8 lim 0 (octL d n) = some n := by
  induction d with
  | zero => intro n h _; simp at h; subst h; rfl
  | succ d ih =>
    intro n h hl
    have h8 : n / 8 < 8 ^ d := by rw [Nat.div_lt_iff_lt_mul (by omega)]; rw [Nat.pow_succ] at h; omega
    simp only [octL]
    rw [valLoop_append, ih (n / 8) h8 (by omega)]
    have := dByte_toNat (n % 8) (by omega)
    simp only [Option.bind_some, valLoop]
    rw [if_pos (by omega), this]
    congr 1; omega

end Go.Proofs.YtaniebkfgkhgoaaGreatDoor

namespace Go.Proofs.YtaniebkfgkhgoaaGreatDoor
open Go.Lib
set_option linter.unusedVariables false

/-- A number that is a letter. -/
def isLet (n : Nat) : Prop := n < 55296 ∨ (57344 ≤ n ∧ n ≤ 1114111)
instance (n : Nat) : Decidable (isLet n) := by unfold isLet; infer_instance
/-- A letter's bytes. -/
def enc (n : Nat) : List UInt8 := encodeRune (n : Int)
/-- The letter whose bytes begin a list, and how many they are. -/
def letterG (l : List UInt8) : Option (Nat × Nat) := if l = [] then none else if (decodeL l).1 = 65533 ∧ (decodeL l).2 = 1 then none else some (decodeL l)

theorem toU8_toNat (x : Int) (h0 : 0 ≤ x) (h1 : x < 256) : (x.toNat.toUInt8).toNat = x.toNat := by
  rw [Nat.toUInt8_eq, UInt8.toNat_ofNat']; omega

theorem enc_one {n : Nat} (h : n < 128) : enc n = [UInt8.ofNat n] := by
  unfold enc encodeRune; rw [encodeRuneZ_one (by omega) (by omega)]; simp
theorem enc_len (n : Nat) : 1 ≤ (enc n).length ∧ (enc n).length ≤ 4 := by
  have := encodeRuneZ_length (n : Int)
  unfold enc encodeRune; simpa using this
theorem enc_ne (n : Nat) : enc n ≠ [] := by
  intro h; have := (enc_len n).1; rw [h] at this; simp at this

/-- The bytes of a letter, as numbers. -/
theorem enc_two {n : Nat} (h0 : 128 ≤ n) (h1 : n < 2048) : ∃ a b : UInt8, enc n = [a, b] ∧ a.toNat = 192 + n / 64 ∧ b.toNat = 128 + n % 64 := by
  unfold enc encodeRune; rw [encodeRuneZ_two (by omega) (by omega)]
  refine ⟨_, _, rfl, ?_, ?_⟩ <;> (rw [toU8_toNat _ (by omega) (by omega)]; omega)
theorem enc_three {n : Nat} (h0 : 2048 ≤ n) (h1 : n < 65536) (h : isLet n) : ∃ a b c : UInt8, enc n = [a, b, c] ∧ a.toNat = 224 + n / 4096 ∧ b.toNat = 128 + n / 64 % 64 ∧ c.toNat = 128 + n % 64 := by
  unfold isLet at h
  unfold enc encodeRune; rw [encodeRuneZ_three (by omega)]
  refine ⟨_, _, _, rfl, ?_, ?_, ?_⟩ <;> (rw [toU8_toNat _ (by omega) (by omega)]; omega)
theorem enc_four {n : Nat} (h0 : 65536 ≤ n) (h : isLet n) : ∃ a b c d : UInt8, enc n = [a, b, c, d] ∧ a.toNat = 240 + n / 262144 ∧ b.toNat = 128 + n / 4096 % 64 ∧ c.toNat = 128 + n / 64 % 64 ∧ d.toNat = 128 + n % 64 := by
  unfold isLet at h
  unfold enc encodeRune; rw [encodeRuneZ_four (by omega) (by omega)]
  refine ⟨_, _, _, _, rfl, ?_, ?_, ?_, ?_⟩ <;> (rw [toU8_toNat _ (by omega) (by omega)]; omega)

/-- A letter's bytes, whatever stands behind them, are decoded as that letter. -/
theorem decode_enc (n : Nat) (h : isLet n) (r : List UInt8) : decodeL (enc n ++ r) = (n, (enc n).length) := by
  have hi := h
  unfold isLet at hi
  by_cases h1 : n < 128
  · rw [enc_one h1]
    have e : (UInt8.ofNat n).toNat = n := by rw [UInt8.toNat_ofNat']; omega
    rw [List.cons_append, decodeL_N]
    simp only [List.getD_cons_zero, e]
    unfold decodeN
    rw [if_pos h1]; rfl
  by_cases h2 : n < 2048
  · obtain ⟨a, b, e, ea, eb⟩ := enc_two (by omega) h2
    rw [e, decodeL_N]
    simp only [List.cons_append, List.nil_append, List.getD_cons_zero, List.getD_cons_succ, List.length_cons, List.length_nil, ea, eb]
    unfold decodeN
    rw [if_neg (by omega), if_pos (by omega), if_pos (by omega)]
    apply Prod.ext <;> simp only <;> omega
  by_cases h3 : n < 65536
  · obtain ⟨a, b, c, e, ea, eb, ec⟩ := enc_three (by omega) h3 h
    rw [e, decodeL_N]
    simp only [List.cons_append, List.nil_append, List.getD_cons_zero, List.getD_cons_succ, List.length_cons, List.length_nil, ea, eb, ec]
    unfold decodeN
    rw [if_neg (by omega), if_neg (by omega), if_pos (by omega), if_pos (by omega)]
    apply Prod.ext <;> simp only <;> omega
  · obtain ⟨a, b, c, d, e, ea, eb, ec, ed⟩ := enc_four (by omega) h
    rw [e, decodeL_N]
    simp only [List.cons_append, List.nil_append, List.getD_cons_zero, List.getD_cons_succ, List.length_cons, List.length_nil, ea, eb, ec, ed]
    unfold decodeN
    rw [if_neg (by omega), if_neg (by omega), if_neg (by omega), if_pos (by omega), if_pos (by omega)]
    apply Prod.ext <;> simp only <;> omega

theorem letter_enc (n : Nat) (h : isLet n) (r : List UInt8) : letterG (enc n ++ r) = some (n, (enc n).length) := by
  have hd := decode_enc n h r
  have hl := (enc_len n)
  unfold letterG
  rw [if_neg (by intro e; exact enc_ne n (List.append_eq_nil_iff.1 e).1), hd, if_neg]
  rintro ⟨e1, e2⟩
  simp only at e1 e2
  subst e1
  revert e2
  decide

/-- What is known of a letter that begins a list. -/
theorem letter_facts {l : List UInt8} {n k : Nat} (h : letterG l = some (n, k)) : isLet n ∧ 1 ≤ k ∧ k ≤ 4 ∧ k ≤ l.length ∧ enc n = l.take k ∧ l ≠ [] ∧ decodeL l = (n, k) := by
  unfold letterG at h
  split at h
  · cases h
  rename_i hne
  split at h
  · cases h
  rename_i hv
  have hd : decodeL l = (n, k) := by simpa using h
  have he := encode_decode l hne hv
  have hle := decodeL_le l hne
  rw [hd] at he hle hv
  simp only at he hle hv
  have k0 := (l.getD 0 0).toNat_lt
  have k1 := (l.getD 1 0).toNat_lt
  have k2 := (l.getD 2 0).toNat_lt
  have k3 := (l.getD 3 0).toNat_lt
  have hd' := hd
  rw [decodeL_N] at hd'
  have X : isLet n ∧ 1 ≤ k ∧ k ≤ 4 := by
    unfold isLet
    rcases decodeN_shape l.length (l.getD 0 0).toNat (l.getD 1 0).toNat (l.getD 2 0).toNat (l.getD 3 0).toNat with ⟨c, e⟩ | ⟨c1, c2, c3, cv, e⟩ | ⟨c1, c2, c3, c4, cv, cs, e⟩ | ⟨c1, c2, c3, c4, c5, cv, cw, e⟩ | e
    all_goals (rw [e] at hd'; simp only [Prod.mk.injEq] at hd'; obtain ⟨e1, e2⟩ := hd')
    all_goals first | omega | (exfalso; exact hv ⟨e1.symm, e2.symm⟩)
  exact ⟨X.1, X.2.1, X.2.2, hle, he, hne, hd⟩

theorem letter_split {l : List UInt8} {n k : Nat} (h : letterG l = some (n, k)) : l = enc n ++ l.drop k ∧ k = (enc n).length := by
  obtain ⟨_, _, _, h4, h5, _, _⟩ := letter_facts h
  refine ⟨by rw [h5, List.take_append_drop], by rw [h5, List.length_take]; omega⟩

theorem letter_none {l : List UInt8} (hne : l ≠ []) (h : letterG l = none) : decodeL l = (65533, 1) := by
  unfold letterG at h
  rw [if_neg hne] at h
  split at h
  · rename_i hc; exact Prod.ext hc.1 hc.2
  · cases h

/-- A byte below 128 is its own letter; and a letter below 128 is its own byte. -/
theorem letter_ascii (b : UInt8) (t : List UInt8) (h : b.toNat < 128) : letterG (b :: t) = some (b.toNat, 1) := by
  unfold letterG
  rw [if_neg (by simp), decodeL_ascii b t h, if_neg (by simp; omega)]
theorem letter_low {b : UInt8} {t : List UInt8} {n k : Nat} (h : letterG (b :: t) = some (n, k)) (hn : n < 128) : b.toNat = n ∧ k = 1 := by
  obtain ⟨h1, h2⟩ := letter_split h
  rw [enc_one hn] at h1 h2
  simp at h1 h2
  exact ⟨by rw [h1.1, UInt8.toNat_ofNat']; omega, h2⟩
theorem letter_high {b : UInt8} {t : List UInt8} {n k : Nat} (h : letterG (b :: t) = some (n, k)) (hb : 128 ≤ b.toNat) : 128 ≤ n := by
  by_cases hn : n < 128
  · have := (letter_low h hn).1; omega
  · omega
theorem enc_head (n : Nat) (h : isLet n) : ∃ b t, enc n = b :: t ∧ ((n < 128 ∧ b.toNat = n ∧ t = []) ∨ (128 ≤ n ∧ 192 ≤ b.toNat)) := by
  by_cases h1 : n < 128
  · exact ⟨_, _, enc_one h1, Or.inl ⟨h1, by rw [UInt8.toNat_ofNat']; omega, rfl⟩⟩
  by_cases h2 : n < 2048
  · obtain ⟨a, b, e, ea, eb⟩ := enc_two (by omega) h2
    exact ⟨_, _, e, Or.inr ⟨by omega, by omega⟩⟩
  by_cases h3 : n < 65536
  · obtain ⟨a, b, c, e, ea, eb, ec⟩ := enc_three (by omega) h3 h
    exact ⟨_, _, e, Or.inr ⟨by omega, by omega⟩⟩
  · obtain ⟨a, b, c, d, e, ea, eb, ec, ed⟩ := enc_four (by omega) h
    exact ⟨_, _, e, Or.inr ⟨by omega, by omega⟩⟩

/-! ### whether bytes are letters' -/
theorem valid_step (l : List UInt8) (hne : l ≠ []) : validD l = match letterG l with | none => false | some (_, k) => validD (l.drop k) := by
  rw [validD_step l hne]
  unfold letterG
  rw [if_neg hne]
  split
  · rfl
  · rfl
theorem valid_enc (n : Nat) (h : isLet n) (t : List UInt8) : validD (enc n ++ t) = validD t := by
  rw [valid_step _ (by intro e; exact enc_ne n (List.append_eq_nil_iff.1 e).1), letter_enc n h t]
  simp

/-! ### the one form -/
/-- What a letter's short escape has behind the sign; 0: none. -/
def shortG (n : Nat) : Nat := if n = 34 then 34 else if n = 92 then 92 else if n = 8 then 98 else if n = 12 then 102 else if n = 10 then 110 else if n = 13 then 114 else if n = 9 then 116 else 0
/-- The form of one letter. -/
def canonG (n : Nat) : List UInt8 := if 0 < shortG n then [92, UInt8.ofNat (shortG n)] else if n < 32 ∨ n = 127 then [92, 117, 48, 48, hByte (n / 16), hByte (n % 16)] else enc n
def bodyGo : Nat → List UInt8 → List UInt8
  | 0, _ => []
  | f + 1, l => if l = [] then [] else canonG (decodeL l).1 ++ bodyGo f (l.drop (decodeL l).2)
/-- What stands between the quotes. -/
def bodyG (l : List UInt8) : List UInt8 := bodyGo l.length l
/-- A text between quotes. -/
def quoteG (l : List UInt8) : List UInt8 := 34 :: (bodyG l ++ [34])
theorem bodyGo_nil : ∀ n, bodyGo n [] = []
  | 0 => rfl
  | _ + 1 => by simp [bodyGo]
theorem bodyGo_fuel : ∀ (n m : Nat) (l : List UInt8), l.length ≤ n → l.length ≤ m → bodyGo n l = bodyGo m l
  | 0, m, l, hn, _ => by
    have : l = [] := List.eq_nil_of_length_eq_zero (by omega)
    subst this
    rw [bodyGo_nil, bodyGo_nil]
  | n + 1, 0, l, _, hm => by
    have : l = [] := List.eq_nil_of_length_eq_zero (by omega)
    subst this
    rw [bodyGo_nil, bodyGo_nil]
  | n + 1, m + 1, l, hn, hm => by
    by_cases hne : l = []
    · subst hne
      rw [bodyGo_nil, bodyGo_nil]
    · have hw := decodeL_width l
      have hl : 0 < l.length := List.length_pos_iff.2 hne
      simp only [bodyGo, if_neg hne]
      rw [bodyGo_fuel n m _ (by rw [List.length_drop]; omega) (by rw [List.length_drop]; omega)]
theorem bodyG_nil : bodyG [] = [] := rfl
theorem bodyG_step (l : List UInt8) (hne : l ≠ []) : bodyG l = canonG (decodeL l).1 ++ bodyG (l.drop (decodeL l).2) := by
  have hw := decodeL_width l
  have hl : 0 < l.length := List.length_pos_iff.2 hne
  unfold bodyG
  obtain ⟨n, hn⟩ : ∃ n, l.length = n + 1 := ⟨l.length - 1, by omega⟩
  rw [hn]
  simp only [bodyGo, if_neg hne]
  rw [bodyGo_fuel n _ _ (by rw [List.length_drop]; omega) (Nat.le_refl _)]
theorem canonG_len (n : Nat) : 1 ≤ (canonG n).length ∧ (canonG n).length ≤ 6 := by
  unfold canonG
  split
  · simp
  split
  · simp
  · have := enc_len n; omega
theorem bodyG_len : ∀ (k : Nat) (l : List UInt8), l.length ≤ k → (bodyG l).length ≤ 6 * l.length
  | 0, l, h => by
    have : l = [] := List.eq_nil_of_length_eq_zero (by omega)
    subst this; simp [bodyG_nil]
  | k + 1, l, h => by
    by_cases hne : l = []
    · subst hne; simp [bodyG_nil]
    · have hw := decodeL_width l
      have hl : 0 < l.length := List.length_pos_iff.2 hne
      rw [bodyG_step l hne, List.length_append]
      have := bodyG_len k (l.drop (decodeL l).2) (by rw [List.length_drop]; omega)
      have hc := canonG_len (decodeL l).1
      rw [List.length_drop] at this
      omega

/-! ### what is told between quotes -/
/-- What a byte tells as a hexadecimal digit, small or great. -/
def hexB (c : Nat) : Option Nat := if 48 ≤ c ∧ c ≤ 57 then some (c - 48) else if 97 ≤ c ∧ c ≤ 102 then some (c - 87) else if 65 ≤ c ∧ c ≤ 70 then some (c - 55) else none
/-- The number of four hexadecimal digits that begin a list. -/
def fourG : List UInt8 → Option Nat
  | a :: b :: c :: d :: _ => match hexB a.toNat, hexB b.toNat, hexB c.toNat, hexB d.toNat with
    | some x, some y, some z, some u => some (4096 * x + 256 * y + 16 * z + u)
    | _, _, _, _ => none
  | _ => none
/-- The number of the sign, a u, and four digits. -/
def unitG : List UInt8 → Option Nat
  | a :: b :: t => if a = 92 ∧ b = 117 then fourG t else none
  | _ => none
/-- What a short escape denotes by what stands behind the sign; 0: none. -/
def namedG (c : Nat) : Nat := if c = 34 then 34 else if c = 92 then 92 else if c = 47 then 47 else if c = 98 then 8 else if c = 102 then 12 else if c = 110 then 10 else if c = 114 then 13 else if c = 116 then 9 else 0
/-- The letter of an escape of one unit or two, and how many bytes it takes. -/
def longG (l : List UInt8) : Option (Nat × Nat) := match unitG l with
  | none => none
  | some n => if n < 55296 ∨ 57344 ≤ n then some (n, 6) else if 56320 ≤ n then none else match unitG (l.drop 6) with
    | none => none
    | some m => if 56320 ≤ m ∧ m < 57344 then some (65536 + (n - 55296) * 1024 + (m - 56320), 12) else none
/-- The letter of an escape that begins a list, and how many bytes it takes. -/
def escG : List UInt8 → Option (Nat × Nat)
  | a :: c :: t => if 0 < namedG c.toNat then some (namedG c.toNat, 2) else longG (a :: c :: t)
  | _ => none
/-- The letter that begins a text between quotes, and how many bytes it takes. -/
def oneG : List UInt8 → Option (Nat × Nat)
  | [] => none
  | a :: t => if a = 92 then escG (a :: t) else match letterG (a :: t) with
    | none => none
    | some (n, k) => if n < 32 then none else some (n, k)
def unqGo : Nat → List UInt8 → List UInt8 → Nat → Option (List UInt8 × Nat)
  | 0, _, _, _ => none
  | _ + 1, [], _, _ => none
  | f + 1, a :: t, acc, p => if a = 34 then some (acc, p + 1) else match oneG (a :: t) with
    | none => none
    | some (n, k) => unqGo f ((a :: t).drop k) (acc ++ enc n) (p + k)
/-- What any bytes tell between quotes, and how many of them. -/
def unqG : List UInt8 → Option (List UInt8 × Nat)
  | [] => none
  | a :: t => if a = 34 then unqGo (t.length + 1) t [] 1 else none

theorem hexB_lt {c n : Nat} (h : hexB c = some n) : n < 16 ∧ c < 128 := by
  unfold hexB at h
  split at h
  · cases h; omega
  split at h
  · cases h; omega
  split at h
  · cases h; omega
  · cases h
theorem fourG_facts {l : List UInt8} {n : Nat} (h : fourG l = some n) : n < 65536 ∧ 4 ≤ l.length ∧ ∀ b ∈ l.take 4, b.toNat < 128 := by
  match l, h with
  | a :: b :: c :: d :: t, h =>
    simp only [fourG] at h
    split at h
    · rename_i x y z u e1 e2 e3 e4
      cases h
      have := hexB_lt e1; have := hexB_lt e2; have := hexB_lt e3; have := hexB_lt e4
      refine ⟨by omega, by simp, ?_⟩
      intro v hv
      simp at hv
      rcases hv with rfl | rfl | rfl | rfl <;> omega
    · cases h
theorem unitG_facts {l : List UInt8} {n : Nat} (h : unitG l = some n) : n < 65536 ∧ 6 ≤ l.length ∧ (∀ b ∈ l.take 6, b.toNat < 128) ∧ fourG (l.drop 2) = some n := by
  match l, h with
  | a :: b :: t, h =>
    simp only [unitG] at h
    split at h
    · rename_i hc
      obtain ⟨h1, h2, h3⟩ := fourG_facts h
      refine ⟨h1, by simp; omega, ?_, h⟩
      intro v hv
      simp at hv
      rcases hv with rfl | rfl | hv
      · rw [hc.1]; decide
      · rw [hc.2]; decide
      · exact h3 v hv
    · cases h
theorem namedG_facts (c : Nat) (h : 0 < namedG c) : c < 128 ∧ namedG c < 128 := by
  unfold namedG at h ⊢
  repeat' split
  all_goals first | omega | (simp_all; done)
theorem escG_facts {a : UInt8} {t : List UInt8} {n k : Nat} (ha : a = 92) (h : escG (a :: t) = some (n, k)) : isLet n ∧ 2 ≤ k ∧ k ≤ 12 ∧ k ≤ (a :: t).length ∧ ∀ b ∈ (a :: t).take k, b.toNat < 128 := by
  subst ha
  unfold isLet
  match t, h with
  | c :: t, h =>
    simp only [escG] at h
    split at h
    · rename_i hp
      have := namedG_facts _ hp
      cases h
      refine ⟨by omega, by omega, by omega, by simp, ?_⟩
      intro v hv
      simp at hv
      rcases hv with rfl | rfl
      · decide
      · omega
    · unfold longG at h
      split at h
      · cases h
      rename_i m hm
      obtain ⟨h1, h2, h3, _⟩ := unitG_facts hm
      split at h
      · cases h
        exact ⟨by omega, by omega, by omega, h2, h3⟩
      split at h
      · cases h
      split at h
      · cases h
      rename_i m2 hm2
      obtain ⟨g1, g2, g3, _⟩ := unitG_facts hm2
      split at h
      · simp only [Option.some.injEq, Prod.mk.injEq] at h
        obtain ⟨rfl, rfl⟩ := h
        rw [List.length_drop] at g2
        refine ⟨by omega, by omega, by omega, by omega, ?_⟩
        intro v hv
        rw [show (12 : Nat) = 6 + 6 from rfl, List.take_add] at hv
        rcases List.mem_append.1 hv with hv | hv
        · exact h3 v hv
        · exact g3 v hv
      · cases h
theorem oneG_facts {l : List UInt8} {n k : Nat} (h : oneG l = some (n, k)) : isLet n ∧ 1 ≤ k ∧ k ≤ l.length := by
  match l, h with
  | a :: t, h =>
    simp only [oneG] at h
    split at h
    · rename_i ha
      obtain ⟨h1, h2, h3, h4, _⟩ := escG_facts ha h
      exact ⟨h1, by omega, h4⟩
    · split at h
      · cases h
      rename_i n' k' hl
      split at h
      · cases h
      cases h
      obtain ⟨h1, h2, h3, h4, _⟩ := letter_facts hl
      exact ⟨h1, h2, h4⟩

/-- What is told is letters. -/
theorem unqGo_valid : ∀ (f : Nat) (l acc : List UInt8) (p : Nat) (o : List UInt8) (m : Nat), unqGo f l acc p = some (o, m) → ∃ t, o = acc ++ t ∧ validD t = true ∧ t.length ≤ 4 * l.length ∧ m ≤ p + l.length
  | 0, _, _, _, _, _, h => by cases h
  | _ + 1, [], _, _, _, _, h => by cases h
  | f + 1, a :: t, acc, p, o, m, h => by
    simp only [unqGo] at h
    split at h
    · cases h; exact ⟨[], by simp, rfl, by simp, by simp⟩
    split at h
    · cases h
    rename_i n k h1
    obtain ⟨i1, i2, i3⟩ := oneG_facts h1
    obtain ⟨t', e1, e2, e3, e4⟩ := unqGo_valid f _ _ _ _ _ h
    refine ⟨enc n ++ t', by rw [e1, List.append_assoc], by rw [valid_enc n i1]; exact e2, ?_, ?_⟩
    · have := enc_len n
      rw [List.length_append]
      rw [List.length_drop] at e3
      omega
    · rw [List.length_drop] at e4; omega
theorem unqG_valid {l o : List UInt8} {m : Nat} (h : unqG l = some (o, m)) : validD o = true ∧ o.length ≤ 4 * l.length ∧ m ≤ l.length := by
  match l, h with
  | a :: t, h =>
    simp only [unqG] at h
    split at h
    · obtain ⟨t', e1, e2, e3, e4⟩ := unqGo_valid _ _ _ _ _ _ h
      rw [List.nil_append] at e1
      subst e1
      exact ⟨e2, by simp; omega, by simp; omega⟩
    · cases h

theorem hexB_hByte (n : Nat) (h : n < 16) : hexB (hByte n).toNat = some n := by
  rw [hByte_toNat n h]
  unfold hexB
  by_cases h1 : n < 10
  · rw [if_pos h1, if_pos (by omega)]; congr 1; omega
  · rw [if_neg h1, if_neg (by omega), if_pos (by omega)]; congr 1; omega

/-- The one form of a letter tells that letter. -/
theorem one_canon (n : Nat) (h : isLet n) (r : List UInt8) : oneG (canonG n ++ r) = some (n, (canonG n).length) ∧ ∃ a t, canonG n ++ r = a :: t ∧ a ≠ 34 := by
  unfold canonG
  split
  · rename_i hs
    have hs' : n = 34 ∨ n = 92 ∨ n = 8 ∨ n = 12 ∨ n = 10 ∨ n = 13 ∨ n = 9 := by
      unfold shortG at hs
      repeat' split at hs
      all_goals omega
    refine ⟨?_, _, _, rfl, by decide⟩
    rcases hs' with rfl | rfl | rfl | rfl | rfl | rfl | rfl <;> rfl
  rename_i hs
  split
  · rename_i hc
    refine ⟨?_, _, _, rfl, by decide⟩
    have h1 : hexB (48 : UInt8).toNat = some 0 := rfl
    simp only [List.cons_append, List.nil_append, oneG, escG, if_true]
    rw [show namedG (117 : UInt8).toNat = 0 from rfl, if_neg (by omega)]
    simp only [longG, unitG, and_self, if_true, fourG, h1, hexB_hByte (n / 16) (by omega), hexB_hByte (n % 16) (by omega)]
    rw [if_pos (by omega)]
    simp
    omega
  · rename_i hc
    obtain ⟨b, t, e, hb⟩ := enc_head n h
    have hL := letter_enc n h r
    rw [e] at hL ⊢
    rw [List.cons_append] at hL ⊢
    have hb92 : b ≠ 92 := by
      intro eb
      rw [eb] at hb
      rcases hb with ⟨_, hb, _⟩ | ⟨_, hb⟩
      · have : n = 92 := hb.symm
        subst this; exact hs (by decide)
      · revert hb; decide
    refine ⟨?_, _, _, rfl, ?_⟩
    · simp only [oneG]
      rw [if_neg hb92, hL]
      simp only
      rw [if_neg (by omega)]
    · intro eb
      rw [eb] at hb
      rcases hb with ⟨_, hb, _⟩ | ⟨_, hb⟩
      · have : n = 34 := hb.symm
        subst this; exact hs (by decide)
      · revert hb; decide

/-- What is told in the one form is read as it was, whatever stands behind it. -/
theorem unq_body : ∀ (k : Nat) (l : List UInt8) (f : Nat) (acc r : List UInt8) (p : Nat), l.length ≤ k → validD l = true → (bodyG l).length < f →
    unqGo f (bodyG l ++ 34 :: r) acc p = some (acc ++ l, p + (bodyG l).length + 1) := by
  intro k
  induction k with
  | zero =>
    intro l f acc r p h hv hf
    have : l = [] := List.eq_nil_of_length_eq_zero (by omega)
    subst this
    obtain ⟨f, rfl⟩ : ∃ f', f = f' + 1 := ⟨f - 1, by omega⟩
    simp [bodyG_nil, unqGo]
  | succ k ih =>
    intro l f acc r p h hv hf
    by_cases hne : l = []
    · subst hne
      obtain ⟨f, rfl⟩ : ∃ f', f = f' + 1 := ⟨f - 1, by omega⟩
      simp [bodyG_nil, unqGo]
    · rw [valid_step l hne] at hv
      cases hL : letterG l with
      | none => rw [hL] at hv; cases hv
      | some x =>
        obtain ⟨n, w⟩ := x
        rw [hL] at hv
        simp only at hv
        obtain ⟨i1, i2, i3, i4, i5, i6, i7⟩ := letter_facts hL
        obtain ⟨s1, s2⟩ := letter_split hL
        have hst := bodyG_step l hne
        rw [i7] at hst
        simp only at hst
        have hcl := canonG_len n
        rw [hst] at hf ⊢
        rw [List.length_append] at hf ⊢
        rw [List.append_assoc]
        obtain ⟨f, rfl⟩ : ∃ f', f = f' + 1 := ⟨f - 1, by omega⟩
        obtain ⟨o1, a, t, o2, o3⟩ := one_canon n i1 (bodyG (l.drop w) ++ 34 :: r)
        rw [o2] at o1
        rw [o2]
        simp only [unqGo]
        rw [if_neg o3, o1]
        simp only
        rw [← o2, List.drop_left]
        rw [ih (l.drop w) f (acc ++ enc n) r (p + (canonG n).length) (by rw [List.length_drop]; omega) hv (by omega)]
        rw [List.append_assoc, ← s1]
        congr 2; omega
theorem unq_quote (l r : List UInt8) (hv : validD l = true) : unqG (quoteG l ++ r) = some (l, (quoteG l).length) := by
  have e : quoteG l ++ r = 34 :: (bodyG l ++ 34 :: r) := by simp [quoteG]
  rw [e]
  simp only [unqG]
  rw [if_pos trivial, unq_body l.length l _ [] r 1 (Nat.le_refl _) hv (by simp; omega)]
  simp [quoteG]; omega

/-- Small letters stay as they are. -/
theorem body_plain : ∀ (l : List UInt8), (∀ b ∈ l, 97 ≤ b.toNat ∧ b.toNat ≤ 122) → bodyG l = l ∧ validD l = true
  | [], _ => ⟨rfl, rfl⟩
  | b :: t, h => by
    have hb := h b (by simp)
    have ih := body_plain t (fun x hx => h x (List.mem_cons_of_mem _ hx))
    refine ⟨?_, by rw [validD_cons b t (by omega)]; exact ih.2⟩
    rw [bodyG_step _ (by simp), decodeL_ascii b t (by omega)]
    simp only
    have hs : shortG b.toNat = 0 := by
      unfold shortG
      repeat' split
      all_goals omega
    unfold canonG
    rw [hs, if_neg (by omega), if_neg (by omega), enc_one (by omega)]
    simp [ih.1]
end Go.Proofs.YtaniebkfgkhgoaaGreatDoor

namespace Go.Proofs.YtaniebkfgkhgoaaGreatDoor
open Go.Lib
set_option linter.unusedVariables false

/-- A row of the table beyond ASCII leads beyond ASCII, or to an i or a k. -/
def lowRow (x : CaseRow) : Bool := decide (x.2.1 < 128) || (decide (128 ≤ x.1) && (decide (1114111 < x.delta 1) || decide (128 ≤ (x.1 : Int) + x.delta 1) || (decide (x.1 = x.2.1) && (decide ((x.1 : Int) + x.delta 1 = 105) || decide ((x.1 : Int) + x.delta 1 = 107)))))
theorem lowRows : caseT.all lowRow = true := by kernel_rfl
set_option maxRecDepth 1000000 in
theorem lowA_row (i : Nat) (hi : i < caseA.size) : lowRow (caseA.getD i (0, 0, 0, 0, 0)) = true := by
  have hm : caseA.getD i (0, 0, 0, 0, 0) ∈ caseT := by
    unfold caseA at hi ⊢
    simp only [List.size_toArray] at hi
    simp [Array.getD, hi]
  exact List.all_eq_true.1 lowRows _ hm
theorem lower_high (r : Int) (h : 128 ≤ r) : 128 ≤ toLowerU r ∨ toLowerU r = 105 ∨ toLowerU r = 107 := by
  unfold toLowerU
  rw [if_neg (by omega)]
  unfold toR lookupGo
  cases hi : lookupIdx caseA r (caseA.size + 1) 0 caseA.size with
  | none => exact Or.inl h
  | some i =>
    obtain ⟨hil, hlo, hhi⟩ := lookupIdx_some caseA r _ _ _ i hi
    have hr := lowA_row i hil
    simp only [Option.map_some]
    generalize caseA.getD i (0, 0, 0, 0, 0) = x at hlo hhi hr ⊢
    simp only [lowRow, Bool.or_eq_true, Bool.and_eq_true, decide_eq_true_eq] at hr
    unfold convertR
    generalize x.delta 1 = d at hr ⊢
    split <;> omega

theorem enc_high (x : Int) (h : 128 ≤ x) : ∃ b t, encodeRune x = b :: t ∧ 192 ≤ b.toNat := by
  unfold encodeRune
  by_cases h1 : x ≤ 2047
  · rw [encodeRuneZ_two h h1]; exact ⟨_, _, rfl, by rw [toU8_toNat _ (by omega) (by omega)]; omega⟩
  by_cases h2 : x < 55296 ∨ (57343 < x ∧ x ≤ 65535)
  · rw [encodeRuneZ_three (by omega)]; exact ⟨_, _, rfl, by rw [toU8_toNat _ (by omega) (by omega)]; omega⟩
  by_cases h3 : 65536 ≤ x ∧ x ≤ 1114111
  · rw [encodeRuneZ_four h3.1 h3.2]; exact ⟨_, _, rfl, by rw [toU8_toNat _ (by omega) (by omega)]; omega⟩
  · rw [encodeRuneZ_bad (by omega)]; exact ⟨_, _, rfl, by decide⟩
theorem hVal_high (c : Nat) (h : 103 ≤ c) : hVal c = none := by
  unfold hVal; rw [if_neg (by omega), if_neg (by omega)]

theorem low_hex : ∀ i : Fin 128, hVal (lowerB (UInt8.ofNat i.val)).toNat = hexB i.val := by decide
theorem hVal_lower (b : UInt8) (h : b.toNat < 128) : hVal (lowerB b).toNat = hexB b.toNat := by
  have := low_hex ⟨b.toNat, h⟩
  simpa using this

theorem lower_hex : ∀ (k : Nat) (l : List UInt8), l.length ≤ k → (∀ b ∈ toLowerD l, hVal b.toNat ≠ none) → ∀ b ∈ l, hexB b.toNat ≠ none
  | 0, l, h, _ => by
    have : l = [] := List.eq_nil_of_length_eq_zero (by omega)
    subst this; simp
  | k + 1, [], _, _ => by simp
  | k + 1, b :: t, h, hall => by
    have hst := mapD_step toLowerU (b :: t) (by simp)
    change toLowerD (b :: t) = _ ++ toLowerD _ at hst
    by_cases hb : b.toNat < 128
    · rw [decodeL_ascii b t hb] at hst
      simp only [List.drop_succ_cons, List.drop_zero] at hst
      rw [if_pos (toLowerU_range b.toNat (by omega)).1, lower_byte ⟨b.toNat, hb⟩] at hst
      have e : UInt8.ofNat b.toNat = b := by simp
      rw [e] at hst
      rw [hst] at hall
      intro c hc
      rcases List.mem_cons.1 hc with rfl | hc
      · rw [← hVal_lower c hb]; exact hall _ (by simp)
      · exact lower_hex k t (by simp at h; omega) (fun d hd => hall d (by simp [hd])) c hc
    · have hr : 128 ≤ (decodeL (b :: t)).1 := by
        cases hL : letterG (b :: t) with
        | none => rw [letter_none (by simp) hL]; decide
        | some x =>
          obtain ⟨n, w⟩ := x
          have := letter_high hL (by omega)
          rw [(letter_facts hL).2.2.2.2.2.2]; exact this
      have hx := lower_high ((decodeL (b :: t)).1 : Int) (by omega)
      exfalso
      rw [hst, if_pos (by omega)] at hall
      rcases hx with hx | hx | hx
      · obtain ⟨c, u, e, hc⟩ := enc_high _ hx
        rw [e] at hall
        exact hall c (by simp) (hVal_high _ (by omega))
      · rw [hx] at hall
        exact hall 105 (by simp [show encodeRune 105 = [105] from rfl]) rfl
      · rw [hx] at hall
        exact hall 107 (by simp [show encodeRune 107 = [107] from rfl]) rfl

theorem unhexG_all : ∀ (l acc x : List UInt8), unhexG acc l = some x → ∀ b ∈ l, hVal b.toNat ≠ none
  | [], _, _, _ => by simp
  | [a], _, _, h => by cases h
  | a :: b :: t, acc, x, h => by
    simp only [unhexG] at h
    split at h
    · rename_i p q e1 e2
      intro c hc
      rcases List.mem_cons.1 hc with rfl | hc
      · rw [e1]; simp
      rcases List.mem_cons.1 hc with rfl | hc
      · rw [e2]; simp
      · exact unhexG_all t _ _ h c hc
    · cases h

/-- Four bytes, made small, tell as digits what they told. -/
theorem lower_four (a b c d : UInt8) : unhexG [] (toLowerD [a, b, c, d]) = (fourG [a, b, c, d]).map fun n => [UInt8.ofNat (n / 256), UInt8.ofNat (n % 256)] := by
  cases hf : fourG [a, b, c, d] with
  | none =>
    cases hu : unhexG [] (toLowerD [a, b, c, d]) with
    | none => rfl
    | some x =>
      exfalso
      have h1 := lower_hex 4 [a, b, c, d] (by simp) (unhexG_all _ _ _ hu)
      have ha := h1 a (by simp)
      have hb := h1 b (by simp)
      have hc := h1 c (by simp)
      have hd := h1 d (by simp)
      cases ea : hexB a.toNat with
      | none => exact ha ea
      | some x1 =>
        cases eb : hexB b.toNat with
        | none => exact hb eb
        | some x2 =>
          cases ec : hexB c.toNat with
          | none => exact hc ec
          | some x3 =>
            cases ed : hexB d.toNat with
            | none => exact hd ed
            | some x4 => simp only [fourG, ea, eb, ec, ed] at hf; cases hf
  | some n =>
    have hasc := (fourG_facts hf).2.2
    simp only [fourG] at hf
    split at hf
    · rename_i x1 x2 x3 x4 ea eb ec ed
      have la := hexB_lt ea; have lb := hexB_lt eb; have lc := hexB_lt ec; have ld := hexB_lt ed
      rw [toLowerD_ascii _ (by intro v hv; simp at hv; rcases hv with rfl | rfl | rfl | rfl <;> omega)]
      simp only [toLowerA, List.map_cons, List.map_nil, unhexG]
      rw [hVal_lower a la.2, hVal_lower b lb.2, hVal_lower c lc.2, hVal_lower d ld.2, ea, eb, ec, ed]
      simp only [Option.some.injEq] at hf
      subst hf
      simp only [Option.map_some, List.nil_append, List.cons_append]
      congr 4 <;> omega
    · cases hf
end Go.Proofs.YtaniebkfgkhgoaaGreatDoor

namespace Go.Proofs.YtaniebkfgkhgoaaGreatDoor
open Go.Lib
set_option linter.unusedVariables false

/-- A value: its kind, its text, what is in its list, its fields. -/
inductive JV where
  | mk (kind : Int) (text : ByteArray) (list : List JV) (fields : List (ByteArray × JV))
def JV.kind : JV → Int | ⟨k, _, _, _⟩ => k
def JV.text : JV → ByteArray | ⟨_, t, _, _⟩ => t
def JV.list : JV → List JV | ⟨_, _, l, _⟩ => l
def JV.fields : JV → List (ByteArray × JV) | ⟨_, _, _, f⟩ => f

mutual
/-- How many values there are in a value, with itself. -/
def JV.size : JV → Nat
  | ⟨_, _, l, f⟩ => 1 + (JV.sizeL l + JV.sizeF f)
def JV.sizeL : List JV → Nat
  | [] => 0
  | v :: r => v.size + JV.sizeL r
def JV.sizeF : List (ByteArray × JV) → Nat
  | [] => 0
  | (_, v) :: r => v.size + JV.sizeF r
end
mutual
/-- How deep a value is. -/
def JV.depth : JV → Nat
  | ⟨_, _, l, f⟩ => 1 + max (JV.depthL l) (JV.depthF f)
def JV.depthL : List JV → Nat
  | [] => 0
  | v :: r => max v.depth (JV.depthL r)
def JV.depthF : List (ByteArray × JV) → Nat
  | [] => 0
  | (_, v) :: r => max v.depth (JV.depthF r)
end
theorem JV.size_pos (v : JV) : 1 ≤ v.size := by cases v; simp [JV.size]
theorem JV.size_le_sizeL : ∀ {l : List JV} {v : JV}, v ∈ l → v.size ≤ JV.sizeL l
  | [], _, h => by cases h
  | x :: r, v, h => by
    rcases List.mem_cons.1 h with rfl | h
    · simp only [JV.sizeL]; omega
    · have := JV.size_le_sizeL h; simp only [JV.sizeL]; omega
theorem JV.size_le_sizeF : ∀ {l : List (ByteArray × JV)} {p : ByteArray × JV}, p ∈ l → p.2.size ≤ JV.sizeF l
  | [], _, h => by cases h
  | (n, x) :: r, p, h => by
    rcases List.mem_cons.1 h with rfl | h
    · simp only [JV.sizeF]; omega
    · have := JV.size_le_sizeF h; simp only [JV.sizeF]; omega
theorem JV.size_list {u v : JV} (h : u ∈ v.list) : u.size < v.size := by
  cases v with
  | mk k t l f => have := JV.size_le_sizeL (show u ∈ l from h); simp only [JV.size]; omega
theorem JV.size_field {p : ByteArray × JV} {v : JV} (h : p ∈ v.fields) : p.2.size < v.size := by
  cases v with
  | mk k t l f => have := JV.size_le_sizeF (show p ∈ f from h); simp only [JV.size]; omega

/-- Induction over what is in a value. -/
theorem JV.ind {C : JV → Prop} (h : ∀ v : JV, (∀ u ∈ v.list, C u) → (∀ p ∈ v.fields, C p.2) → C v) (v : JV) : C v := by
  suffices ∀ n (v : JV), v.size ≤ n → C v from this v.size v (Nat.le_refl _)
  intro n
  induction n with
  | zero => intro v hv; have := v.size_pos; omega
  | succ n ih => exact fun v hv => h v (fun u hu => ih u (by have := JV.size_list hu; omega)) (fun p hp => ih p.2 (by have := JV.size_field hp; omega))

theorem JV.ext {u v : JV} (h1 : u.kind = v.kind) (h2 : u.text = v.text) (h3 : u.list = v.list) (h4 : u.fields = v.fields) : u = v := by
  cases u; cases v; simp only [JV.kind, JV.text, JV.list, JV.fields] at *; subst h1; subst h2; subst h3; subst h4; rfl

/-! ### Numbers -/
/-- A text without the decimal digits that begin it. -/
def figR (l : List UInt8) : List UInt8 := trimLeftS l [48, 49, 50, 51, 52, 53, 54, 55, 56, 57]
/-- The decimal digits that begin a text. -/
def figL (l : List UInt8) : List UInt8 := l.take (l.length - (figR l).length)
/-- A text without the sign that begins it. -/
def signR (l : List UInt8) : List UInt8 := if hasPrefix l [43] = true ∨ hasPrefix l [45] = true then l.drop 1 else l
/-- Is it the end of a number's text, from its e on? -/
def expG (l : List UInt8) : Bool := if l.head? = some 101 ∨ l.head? = some 69 then (figL (signR (l.drop 1)) ≠ []) && (figR (signR (l.drop 1)) = []) else false
/-- What stands behind the fraction of a number's text; none: there is a period, and no digit behind it. -/
def fracG (l : List UInt8) : Option (List UInt8) := if hasPrefix l [46] = true then (if figL (l.drop 1) = [] then none else some (figR (l.drop 1))) else some l
/-- Is it the text of a number? -/
def numG (l : List UInt8) : Bool :=
  if figL (trimPrefix l [45]) = [] ∨ (1 < (figL (trimPrefix l [45])).length ∧ (figL (trimPrefix l [45])).head? = some 48) then false
  else match fracG (figR (trimPrefix l [45])) with
    | none => false
    | some r => if r = [] then true else expG r

theorem trimLeftS_len (l cs : List UInt8) : (trimLeftS l cs).length ≤ l.length := by
  unfold trimLeftS
  exact (List.dropWhile_suffix _).length_le
theorem trimLeftS_suffix (l cs : List UInt8) : trimLeftS l cs <:+ l := List.dropWhile_suffix _
theorem trimLeftS_drop (l cs : List UInt8) : l.drop (l.length - (trimLeftS l cs).length) = trimLeftS l cs := by
  obtain ⟨t, h⟩ := trimLeftS_suffix l cs
  have : l.length = t.length + (trimLeftS l cs).length := by conv => lhs; rw [← h]; simp
  rw [show l.length - (trimLeftS l cs).length = t.length by omega]
  conv => lhs; rw [← h]
  simp
theorem figL_append (l : List UInt8) : figL l ++ figR l = l := by
  unfold figL
  conv => lhs; rhs; rw [figR, ← trimLeftS_drop]
  rw [← figR, List.take_append_drop]
theorem numG_nil : numG [] = false := by decide

/-! ### The machine -/
/-- A text without the blanks that begin it. -/
def sk (l : List UInt8) : List UInt8 := trimLeftS l [32, 9, 10, 13]
theorem sk_len (l : List UInt8) : (sk l).length ≤ l.length := trimLeftS_len _ _
/-- A text without the bytes of numbers that begin it. -/
def numR (l : List UInt8) : List UInt8 := trimLeftS l [48, 49, 50, 51, 52, 53, 54, 55, 56, 57, 43, 45, 46, 101, 69]
def numL (l : List UInt8) : List UInt8 := l.take (l.length - (numR l).length)

def jWord (k : Int) : JV := ⟨k, ⟨#[]⟩, [], []⟩
def jNum (l : List UInt8) : JV := ⟨4, ⟨l.toArray⟩, [], []⟩
def jText (l : List UInt8) : JV := ⟨5, ⟨l.toArray⟩, [], []⟩
/-- A word, a string or a number, and what stands behind it. -/
def singleG (l : List UInt8) : Option (JV × List UInt8) :=
  if hasPrefix l [110, 117, 108, 108] = true then some (jWord 1, sk (l.drop 4))
  else if hasPrefix l [102, 97, 108, 115, 101] = true then some (jWord 2, sk (l.drop 5))
  else if hasPrefix l [116, 114, 117, 101] = true then some (jWord 3, sk (l.drop 4))
  else if hasPrefix l [34] = true then (match unqG l with | some (t, m) => some (jText t, sk (l.drop m)) | none => none)
  else if numG (numL l) = true then some (jNum (numL l), sk (l.drop (l.length - (numR l).length))) else none

/-- An unfinished value: is it an object? what is in it; the name of the field whose value is read. -/
structure Fr where
  obj : Bool
  els : List (ByteArray × JV)
  name : ByteArray
def Fr.add (F : Fr) (v : JV) : Fr := { F with els := F.els ++ [(F.name, v)] }
def Fr.close (F : Fr) : JV := if F.obj then ⟨7, ⟨#[]⟩, [], F.els⟩ else ⟨6, ⟨#[]⟩, F.els.map (·.2), []⟩
def Fr.mark (F : Fr) : UInt8 := if F.obj then 125 else 93
def Fr.new (o : Bool) : Fr := ⟨o, [], ⟨#[]⟩⟩

/-- How a step ends: it fails; a value has ended; another one has to follow. -/
inductive Out where
  | fail
  | val (v : JV) (l : List UInt8) (K : List Fr)
  | more (l : List UInt8) (K : List Fr)

/-- A mark, if it is what comes next. -/
def takeG (c : UInt8) (l : List UInt8) : Option (List UInt8) := if l.head? = some c then some (sk (l.drop 1)) else none
/-- The name and the colon ahead of a field's value. -/
def nameG (F : Fr) (l : List UInt8) : Option (Fr × List UInt8) :=
  if F.obj then
    match unqG l with
    | none => none
    | some (t, m) => (takeG 58 (sk (l.drop m))).map fun r => ({ F with name := ⟨t.toArray⟩ }, r)
  else some (F, l)
def moreG (F : Fr) (K : List Fr) (l : List UInt8) : Out := match nameG F l with | none => .fail | some (F', r) => .more r (F' :: K)
def openG (o : Bool) (K : List Fr) (l : List UInt8) : Out := match takeG (Fr.new o).mark l with | some r => .val (Fr.new o).close r K | none => moreG (Fr.new o) K l
def beginG (K : List Fr) (l : List UInt8) : Out :=
  match takeG 91 l with
  | some r => openG false K r
  | none => match takeG 123 l with
    | some r => openG true K r
    | none => match singleG l with
      | some (v, r) => .val v r K
      | none => .fail
def putG (v : JV) (F : Fr) (K : List Fr) (l : List UInt8) : Out :=
  match takeG F.mark l with
  | some r => .val (F.add v).close r K
  | none => match takeG 44 l with
    | some r => moreG (F.add v) K r
    | none => .fail

/-- A value has ended: it is put in those that wait, until another one has to follow, or all have ended. -/
def upG : JV → List UInt8 → List Fr → Out
  | v, l, [] => .val v l []
  | v, l, F :: K => match putG v F K l with
    | .fail => .fail
    | .more l' K' => .more l' K'
    | .val v' l' _ => upG v' l' K
def runG : Nat → List UInt8 → List Fr → Option (JV × List UInt8)
  | 0, _, _ => none
  | f + 1, l, K => match beginG K l with
    | .fail => none
    | .more l' K' => runG f l' K'
    | .val v l' K' => match upG v l' K' with
      | .fail => none
      | .more l2 K2 => runG f l2 K2
      | .val v2 l2 _ => some (v2, l2)
/-- The value of which a text consists. -/
def wholeG (l : List UInt8) : Option JV := match runG (l.length + 1) (sk l) [] with
  | some (v, []) => some v
  | _ => none
end Go.Proofs.YtaniebkfgkhgoaaGreatDoor

namespace Go.Proofs.YtaniebkfgkhgoaaGreatDoor
open Go.Lib
set_option linter.unusedVariables false

/-- What comes of a step's end. -/
def finG (f : Nat) : Out → Option (JV × List UInt8)
  | .fail => none
  | .more l K => runG f l K
  | .val v l K => match upG v l K with
    | .fail => none
    | .more l2 K2 => runG f l2 K2
    | .val v2 l2 _ => some (v2, l2)
theorem runG_succ (f : Nat) (l : List UInt8) (K : List Fr) : runG (f + 1) l K = finG f (beginG K l) := by
  simp only [runG]
  cases beginG K l <;> rfl
theorem fin_nil (f : Nat) (v : JV) (l : List UInt8) : finG f (.val v l []) = some (v, l) := rfl

theorem take_len {c : UInt8} {l r : List UInt8} (h : takeG c l = some r) : r.length < l.length := by
  unfold takeG at h
  split at h
  · rename_i hh
    cases h
    have h1 := sk_len (l.drop 1)
    rw [List.length_drop] at h1
    cases l with
    | nil => cases hh
    | cons a t => simp at h1 ⊢; omega
  · cases h
theorem unq_pos {l t : List UInt8} {m : Nat} (h : unqG l = some (t, m)) : 0 < m ∧ l ≠ [] := by
  cases l with
  | nil => cases h
  | cons a r =>
    refine ⟨?_, by simp⟩
    simp only [unqG] at h
    split at h
    · have : ∀ (f : Nat) (l acc : List UInt8) (p : Nat) (o : List UInt8) (k : Nat), unqGo f l acc p = some (o, k) → p ≤ k := by
        intro f
        induction f with
        | zero => intro l acc p o k h; simp [unqGo] at h
        | succ f ih =>
          intro l acc p o k h
          cases l with
          | nil => simp [unqGo] at h
          | cons a t =>
            simp only [unqGo] at h
            split at h
            · cases h; omega
            · split at h
              · cases h
              · have := ih _ _ _ _ _ h; omega
      have := this _ _ _ _ _ _ h
      omega
    · cases h
theorem single_len {l r : List UInt8} {v : JV} (h : singleG l = some (v, r)) : r.length < l.length ∧ v.kind ≠ 0 := by
  have hs : ∀ {n : Nat}, 0 < n → n ≤ l.length → (sk (l.drop n)).length < l.length := fun {n} h1 h2 => by
    have := sk_len (l.drop n); rw [List.length_drop] at this; omega
  have hp : ∀ {p : List UInt8}, hasPrefix l p = true → p.length ≤ l.length := fun {p} h => (List.isPrefixOf_iff_prefix.1 (show List.isPrefixOf p l = true from h)).length_le
  unfold singleG at h
  split at h
  · rename_i hh; cases h; exact ⟨hs (by omega) (hp hh), by decide⟩
  split at h
  · rename_i hh; cases h; exact ⟨hs (by omega) (hp hh), by decide⟩
  split at h
  · rename_i hh; cases h; exact ⟨hs (by omega) (hp hh), by decide⟩
  split at h
  · split at h
    · rename_i t m hu
      cases h
      have h1 := unq_pos hu
      have h2 := (unqG_valid hu).2.2
      exact ⟨hs h1.1 h2, by show (5 : Int) ≠ 0; decide⟩
    · cases h
  split at h
  · rename_i hn
    cases h
    have hne : numL l ≠ [] := by intro e; rw [e, numG_nil] at hn; cases hn
    have h1 : (numR l).length < l.length := by
      have := trimLeftS_len l [48, 49, 50, 51, 52, 53, 54, 55, 56, 57, 43, 45, 46, 101, 69]
      rcases Nat.lt_or_ge (numR l).length l.length with h | h
      · exact h
      · exfalso; apply hne; unfold numL; rw [show l.length - (numR l).length = 0 by omega]; rfl
    exact ⟨hs (by omega) (by omega), by show (4 : Int) ≠ 0; decide⟩
  · cases h
theorem close_kind (F : Fr) : F.close.kind ≠ 0 := by
  unfold Fr.close; split
  · show (7 : Int) ≠ 0; decide
  · show (6 : Int) ≠ 0; decide

/-- The unfinished values and what they have by now are fewer than bytes were read. -/
def Bnd (N : Nat) (l : List UInt8) (K : List Fr) : Prop := K.length + l.length ≤ N ∧ ∀ F ∈ K, F.els.length + l.length ≤ N
theorem name_len {F F' : Fr} {l r : List UInt8} (h : nameG F l = some (F', r)) : r.length ≤ l.length ∧ F'.els = F.els := by
  unfold nameG at h
  split at h
  · split at h
    · cases h
    · rename_i t m hu
      cases ht : takeG 58 (sk (l.drop m)) with
      | none => rw [ht] at h; cases h
      | some r' =>
        rw [ht] at h; cases h
        have h1 := take_len ht
        have h2 := sk_len (l.drop m)
        rw [List.length_drop] at h2
        exact ⟨by omega, rfl⟩
  · cases h; exact ⟨Nat.le_refl _, rfl⟩
/-- What a step that does not fail leaves. -/
def OutOk (N : Nat) (l : List UInt8) (K : List Fr) : Out → Prop
  | .fail => True
  | .more r K' => r.length < l.length ∧ Bnd N r K'
  | .val v r K' => r.length < l.length ∧ K' = K ∧ v.kind ≠ 0
theorem more_ok {N : Nat} {l m : List UInt8} {F : Fr} {K K0 : List Fr} (hm : m.length < l.length) (hK : K.length + 1 + m.length ≤ N) (hF : F.els.length + m.length ≤ N) (hb : ∀ G ∈ K, G.els.length + m.length ≤ N) : OutOk N l K0 (moreG F K m) := by
  unfold moreG
  cases h : nameG F m with
  | none => trivial
  | some x =>
    obtain ⟨F', r⟩ := x
    obtain ⟨h1, h2⟩ := name_len h
    refine ⟨by omega, by simp only [List.length_cons]; omega, fun G hG => ?_⟩
    rcases List.mem_cons.1 hG with rfl | hG
    · rw [h2]; omega
    · have := hb G hG; omega
theorem begin_ok {N : Nat} {l : List UInt8} {K : List Fr} (hb : Bnd N l K) : OutOk N l K (beginG K l) := by
  have hop : ∀ (o : Bool) (m : List UInt8), m.length < l.length → OutOk N l K (openG o K m) := fun o m hm => by
    unfold openG
    cases h : takeG (Fr.new o).mark m with
    | some r => exact ⟨Nat.lt_trans (take_len h) hm, rfl, close_kind _⟩
    | none => exact more_ok hm (by have := hb.1; omega) (by show 0 + _ ≤ _; have := hb.1; omega) (fun G hG => by have := hb.2 G hG; omega)
  unfold beginG
  cases h1 : takeG 91 l with
  | some r => exact hop false r (take_len h1)
  | none =>
    cases h2 : takeG 123 l with
    | some r => exact hop true r (take_len h2)
    | none =>
      cases h3 : singleG l with
      | none => trivial
      | some x => obtain ⟨v, r⟩ := x; obtain ⟨a, b⟩ := single_len h3; exact ⟨a, rfl, b⟩
theorem put_ok {N : Nat} {l : List UInt8} {v : JV} {F : Fr} {K : List Fr} (hb : Bnd N l (F :: K)) : OutOk N l K (putG v F K l) := by
  have h1 := hb.1
  have h2 := hb.2 F (by simp)
  simp only [List.length_cons] at h1
  unfold putG
  cases h : takeG F.mark l with
  | some r => exact ⟨take_len h, rfl, close_kind _⟩
  | none =>
    cases h4 : takeG 44 l with
    | none => trivial
    | some r =>
      have := take_len h4
      exact more_ok this (by omega) (by unfold Fr.add; simp; omega) (fun G hG => by have := hb.2 G (by simp [hG]); omega)
theorem fin_put (f N : Nat) (v : JV) (F : Fr) (K : List Fr) (l : List UInt8) (hb : Bnd N l (F :: K)) : finG f (.val v l (F :: K)) = finG f (putG v F K l) := by
  have h := put_ok (v := v) hb
  simp only [finG, upG]
  cases hp : putG v F K l with
  | fail => rfl
  | more l' K' => rfl
  | val v' l' K' =>
    rw [hp] at h
    obtain ⟨_, rfl, _⟩ := h
    rfl
end Go.Proofs.YtaniebkfgkhgoaaGreatDoor

namespace Go.Proofs.YtaniebkfgkhgoaaGreatDoor
open Go.Lib
set_option linter.unusedVariables false

/-- What a step leaves is shorter than n. -/
def olt (n : Nat) : Out → Prop
  | .fail => True
  | .val _ l _ => l.length < n
  | .more l _ => l.length < n
theorem olt_mono {n m : Nat} (h : n ≤ m) : ∀ {o : Out}, olt n o → olt m o
  | .fail, _ => trivial
  | .val _ l _, hh => Nat.lt_of_lt_of_le hh h
  | .more l _, hh => Nat.lt_of_lt_of_le hh h
theorem more_olt {F : Fr} {K : List Fr} {l : List UInt8} : olt (l.length + 1) (moreG F K l) := by
  unfold moreG
  cases h : nameG F l with
  | none => trivial
  | some p => obtain ⟨F', r⟩ := p; have := (name_len h).1; exact Nat.lt_succ_of_le this
theorem open_olt {o : Bool} {K : List Fr} {l : List UInt8} : olt (l.length + 1) (openG o K l) := by
  unfold openG
  cases h : takeG (Fr.new o).mark l with
  | none => exact more_olt
  | some r => have := take_len h; exact Nat.lt_succ_of_lt this
theorem begin_olt {K : List Fr} {l : List UInt8} : olt l.length (beginG K l) := by
  unfold beginG
  cases h : takeG 91 l with
  | some r => exact olt_mono (take_len h) open_olt
  | none =>
    cases h2 : takeG 123 l with
    | some r => exact olt_mono (take_len h2) open_olt
    | none =>
      cases h3 : singleG l with
      | none => trivial
      | some p => obtain ⟨v, r⟩ := p; exact (single_len h3).1
theorem put_olt {v : JV} {F : Fr} {K : List Fr} {l : List UInt8} : olt l.length (putG v F K l) := by
  unfold putG
  cases h : takeG F.mark l with
  | some r => exact take_len h
  | none =>
    cases h2 : takeG 44 l with
    | some r => exact olt_mono (take_len h2) more_olt
    | none => trivial
theorem up_more : ∀ (K : List Fr) (v : JV) (l l2 : List UInt8) (K2 : List Fr), upG v l K = .more l2 K2 → l2.length < l.length
  | [], v, l, l2, K2, h => by simp [upG] at h
  | F :: K, v, l, l2, K2, h => by
    have hp : olt l.length (putG v F K l) := put_olt
    simp only [upG] at h
    cases h3 : putG v F K l with
    | fail => rw [h3] at h; cases h
    | more l' K' => rw [h3] at h hp; cases h; exact hp
    | val v' l' K' =>
      rw [h3] at h hp
      have := up_more K v' l' l2 K2 h
      exact Nat.lt_trans this hp

theorem run_fuel : ∀ (n : Nat) (l : List UInt8) (K : List Fr) (g g' : Nat), l.length ≤ n → l.length < g → l.length < g' → runG g l K = runG g' l K
  | n, l, K, 0, g', _, h, _ => by omega
  | n, l, K, g + 1, 0, _, _, h => by omega
  | n, l, K, g + 1, g' + 1, hn, h1, h2 => by
    rw [runG_succ, runG_succ]
    have hb : olt l.length (beginG K l) := begin_olt
    cases h3 : beginG K l with
    | fail => rfl
    | more l' K' =>
      rw [h3] at hb
      have hb' : l'.length < l.length := hb
      cases n with
      | zero => omega
      | succ n => exact run_fuel n l' K' g g' (by omega) (by omega) (by omega)
    | val v l' K' =>
      rw [h3] at hb
      have hb' : l'.length < l.length := hb
      simp only [finG]
      cases h4 : upG v l' K' with
      | fail => rfl
      | val => rfl
      | more l2 K2 =>
        have := up_more _ _ _ _ _ h4
        cases n with
        | zero => omega
        | succ n => exact run_fuel n l2 K2 g g' (by omega) (by omega) (by omega)
theorem fin_fuel (v : JV) (l : List UInt8) (K : List Fr) (g g' : Nat) (h1 : l.length ≤ g) (h2 : l.length ≤ g') : finG g (.val v l K) = finG g' (.val v l K) := by
  simp only [finG]
  cases h4 : upG v l K with
  | fail => rfl
  | val => rfl
  | more l2 K2 =>
    have := up_more _ _ _ _ _ h4
    exact run_fuel l2.length l2 K2 g g' (Nat.le_refl _) (by omega) (by omega)

/-- The descent: a value; the values that follow in an unfinished one. sg: a word, a text, a number. -/
def rdE (sg : List UInt8 → Option (JV × List UInt8)) : Nat → (List UInt8 → Option (JV × List UInt8)) × (Fr → List UInt8 → Option (JV × List UInt8))
  | 0 => (fun _ => none, fun _ _ => none)
  | f + 1 =>
    (fun l => match takeG 91 l with
      | some r => (match takeG (Fr.new false).mark r with | some r' => some ((Fr.new false).close, r') | none => (rdE sg f).2 (Fr.new false) r)
      | none => match takeG 123 l with
        | some r => (match takeG (Fr.new true).mark r with | some r' => some ((Fr.new true).close, r') | none => (rdE sg f).2 (Fr.new true) r)
        | none => sg l,
     fun F l => match nameG F l with
      | none => none
      | some (F', r) => match (rdE sg f).1 r with
        | none => none
        | some (v, l2) => match takeG F'.mark l2 with
          | some r' => some ((F'.add v).close, r')
          | none => match takeG 44 l2 with
            | some r' => (rdE sg f).2 (F'.add v) r'
            | none => none)

/-- The machine, begun. -/
def runM (F : Fr) (l : List UInt8) (K : List Fr) : Option (JV × List UInt8) := match nameG F l with | none => none | some (F', r) => runG (r.length + 1) r (F' :: K)
/-- The machine, a value behind it. -/
def aft1 (K : List Fr) : Option (JV × List UInt8) → Option (JV × List UInt8)
  | none => none
  | some (v, r) => finG r.length (.val v r K)
theorem fin_more (g : Nat) (F : Fr) (K : List Fr) (l : List UInt8) (h : l.length < g) : finG g (moreG F K l) = runM F l K := by
  unfold moreG runM
  cases hn : nameG F l with
  | none => rfl
  | some p =>
    obtain ⟨F', r⟩ := p
    have := (name_len hn).1
    exact run_fuel r.length r _ _ _ (Nat.le_refl _) (by omega) (by omega)
theorem nameG_list {F : Fr} (h : F.obj = false) (l : List UInt8) : nameG F l = some (F, l) := by unfold nameG; rw [h]; rfl

theorem rd_len {sg : List UInt8 → Option (JV × List UInt8)} (hsg : ∀ l v r, sg l = some (v, r) → r.length < l.length) :
    ∀ (f : Nat), (∀ l v r, (rdE sg f).1 l = some (v, r) → r.length < l.length) ∧ (∀ F l v r, (rdE sg f).2 F l = some (v, r) → r.length < l.length)
  | 0 => ⟨fun l v r h => (by cases h), fun F l v r h => (by cases h)⟩
  | f + 1 => by
    obtain ⟨ih1, ih2⟩ := rd_len hsg f
    have hop : ∀ (o : Bool) (n : Nat) (l : List UInt8) (v : JV) (r : List UInt8), l.length < n → (match takeG (Fr.new o).mark l with | some r' => some ((Fr.new o).close, r') | none => (rdE sg f).2 (Fr.new o) l) = some (v, r) → r.length < n := fun o n l v r hn h => by
      cases h3 : takeG (Fr.new o).mark l with
      | some r' => rw [h3] at h; cases h; have := take_len h3; omega
      | none => rw [h3] at h; have := ih2 _ _ _ _ h; omega
    refine ⟨fun l v r h => ?_, fun F l v r h => ?_⟩
    · simp only [rdE] at h
      cases h1 : takeG 91 l with
      | some x => rw [h1] at h; exact hop false _ x v r (take_len h1) h
      | none =>
        rw [h1] at h
        cases h2 : takeG 123 l with
        | some x => rw [h2] at h; exact hop true _ x v r (take_len h2) h
        | none => rw [h2] at h; exact hsg _ _ _ h
    · simp only [rdE] at h
      cases h1 : nameG F l with
      | none => rw [h1] at h; cases h
      | some p =>
        obtain ⟨F', x⟩ := p
        rw [h1] at h
        have hr := (name_len h1).1
        simp only [] at h
        cases h2 : (rdE sg f).1 x with
        | none => rw [h2] at h; cases h
        | some p =>
          obtain ⟨u, l2⟩ := p
          have hl := ih1 _ _ _ h2
          rw [h2] at h
          simp only [] at h
          cases h3 : takeG F'.mark l2 with
          | some r' => rw [h3] at h; cases h; have := take_len h3; omega
          | none =>
            rw [h3] at h
            simp only [] at h
            cases h4 : takeG 44 l2 with
            | none => rw [h4] at h; cases h
            | some r' => rw [h4] at h; have := take_len h4; have := ih2 _ _ _ _ h; omega
theorem descent : ∀ (f : Nat), (∀ (l : List UInt8) (K : List Fr), 2 * l.length + 1 ≤ f → runG (l.length + 1) l K = aft1 K ((rdE singleG f).1 l)) ∧ (∀ (F : Fr) (l : List UInt8) (K : List Fr), 2 * l.length + 2 ≤ f → runM F l K = aft1 K ((rdE singleG f).2 F l))
  | 0 => ⟨fun l K h => by omega, fun F l K h => by omega⟩
  | f + 1 => by
    obtain ⟨ih1, ih2⟩ := descent f
    have hop : ∀ (o : Bool) (l r : List UInt8) (K : List Fr), r.length < l.length → 2 * l.length + 1 ≤ f + 1 → finG l.length (openG o K r) = aft1 K (match takeG (Fr.new o).mark r with | some r' => some ((Fr.new o).close, r') | none => (rdE singleG f).2 (Fr.new o) r) := fun o l r K h1 h2 => by
      unfold openG
      cases h3 : takeG (Fr.new o).mark r with
      | some r' => have := take_len h3; exact fin_fuel _ _ _ _ _ (by omega) (Nat.le_refl _)
      | none => show finG l.length (moreG (Fr.new o) K r) = _; rw [fin_more _ _ _ _ h1]; exact ih2 _ _ _ (by omega)
    refine ⟨fun l K h => ?_, fun F l K h => ?_⟩
    · rw [runG_succ]
      unfold beginG
      simp only [rdE]
      cases h1 : takeG 91 l with
      | some r => exact hop false l r K (take_len h1) h
      | none =>
        cases h2 : takeG 123 l with
        | some r => exact hop true l r K (take_len h2) h
        | none =>
          cases h3 : singleG l with
          | none => rfl
          | some p => obtain ⟨v, r⟩ := p; have := (single_len h3).1; exact fin_fuel _ _ _ _ _ (by omega) (Nat.le_refl _)
    · unfold runM
      simp only [rdE]
      cases h1 : nameG F l with
      | none => rfl
      | some p =>
        obtain ⟨F', r⟩ := p
        have hr := (name_len h1).1
        show runG (r.length + 1) r (F' :: K) = _
        rw [ih1 r (F' :: K) (by omega)]
        simp only []
        cases h2 : (rdE singleG f).1 r with
        | none => rfl
        | some p =>
          obtain ⟨v, l2⟩ := p
          have hl := (rd_len (fun l v r h => (single_len h).1) f).1 _ _ _ h2
          have e1 : ∀ g, finG g (.val v l2 (F' :: K)) = match putG v F' K l2 with | .fail => none | .more l' K' => runG g l' K' | .val v' l' _ => finG g (.val v' l' K) := fun g => by
            simp only [finG, upG]
            cases putG v F' K l2 <;> rfl
          show finG l2.length (.val v l2 (F' :: K)) = _
          rw [e1]
          unfold putG
          simp only []
          cases h3 : takeG F'.mark l2 with
          | some r' => have := take_len h3; exact fin_fuel _ _ _ _ _ (by omega) (Nat.le_refl _)
          | none =>
            simp only []
            cases h4 : takeG 44 l2 with
            | none => rfl
            | some r' =>
              have h5 := take_len h4
              have := ih2 (F'.add v) r' K (by omega)
              rw [← this]
              simp only []
              unfold moreG runM
              cases h6 : nameG (F'.add v) r' with
              | none => rfl
              | some p => obtain ⟨F2, x⟩ := p; have := (name_len h6).1; exact run_fuel x.length x _ _ _ (Nat.le_refl _) (by omega) (by omega)
/-- What a whole text tells, by descent. -/
theorem whole_rd (l : List UInt8) (f : Nat) (hf : 2 * l.length + 1 ≤ f) : wholeG l = match (rdE singleG f).1 (sk l) with | some (v, []) => some v | _ => none := by
  have hs := sk_len l
  have h := (descent f).1 (sk l) [] (by omega)
  unfold wholeG
  rw [run_fuel (sk l).length (sk l) [] (l.length + 1) ((sk l).length + 1) (Nat.le_refl _) (by omega) (by omega), h]
  cases (rdE singleG f).1 (sk l) with
  | none => rfl
  | some p => rfl
end Go.Proofs.YtaniebkfgkhgoaaGreatDoor

namespace Go.Proofs.YtaniebkfgkhgoaaGreatDoor
open Go.Sort
set_option linter.unusedVariables false

section
variable {α : Type} [Inhabited α] {L : α → α → Bool}

omit [Inhabited α] in
theorem asymL (hS : SWO L) {x y : α} (h : L x y = true) : L y x = false := by
  cases h' : L y x with
  | false => rfl
  | true => have := hS.trans _ _ _ h h'; rw [hS.irrefl] at this; cases this

/-- The element at a has gone behind those up to i. -/
def MovR (d d' : Array α) (a i : Nat) : Prop := d'.size = d.size ∧ ∀ t, d'[t]! = if a ≤ t ∧ t + 1 < i then d[t + 1]! else if t + 1 = i then d[a]! else d[t]!
theorem movR_start (d : Array α) (a : Nat) : MovR d d a (a + 1) := ⟨rfl, fun t => by
  by_cases h : t = a
  · subst h; rw [if_neg (by omega), if_pos rfl]
  · rw [if_neg (by omega), if_neg (by omega)]⟩
theorem movR_step {d dk : Array α} {a k : Nat} (h : MovR d dk a (k + 1)) (hk : k + 1 < d.size) (ha : a ≤ k) : MovR d (swp dk k (k + 1)) a (k + 2) := by
  refine ⟨by rw [swp_size]; exact h.1, fun t => ?_⟩
  rw [swp_get dk (by rw [h.1]; omega) (by rw [h.1]; omega)]
  have h2 := h.2
  by_cases h1 : t = k + 1
  · subst h1
    rw [if_pos rfl, h2, if_neg (by omega), if_pos rfl, if_neg (by omega), if_pos rfl]
  · rw [if_neg h1]
    by_cases h3 : t = k
    · subst h3
      rw [if_pos rfl, h2, if_neg (by omega), if_neg (by omega), if_pos (by omega)]
    · rw [if_neg h3, h2]
      by_cases h4 : a ≤ t ∧ t + 1 < k + 1
      · rw [if_pos h4, if_pos (by omega)]
      · rw [if_neg h4, if_neg (by omega), if_neg (by omega), if_neg (by omega)]
theorem MovR.lo {d d' : Array α} {a i t : Nat} (h : MovR d d' a i) (h1 : a ≤ t) (h2 : t + 1 < i) : d'[t]! = d[t + 1]! := by rw [h.2, if_pos ⟨h1, h2⟩]
theorem MovR.at {d d' : Array α} {a i t : Nat} (h : MovR d d' a i) (h2 : t + 1 = i) : d'[t]! = d[a]! := by rw [h.2, if_neg (by omega), if_pos h2]
theorem MovR.hi {d d' : Array α} {a i t : Nat} (h : MovR d d' a i) (h2 : i ≤ t ∨ t < a) (ha : a < i) : d'[t]! = d[t]! := by rw [h.2, if_neg (by omega), if_neg (by omega)]
theorem movR_sorted (hS : SWO L) {d d' : Array α} {a i b : Nat} (hM : MovR d d' a i) (hai : a + 1 ≤ i) (hib : i ≤ b) (h1 : SortedIn L (a + 1) b d)
    (hlo : ∀ c, a + 1 ≤ c → c < i → L d[c]! d[a]! = true) (hhi : ∀ c, i ≤ c → c < b → L d[c]! d[a]! = false) : SortedIn L a b d' := by
  intro p q hp hpq hq
  by_cases p1 : p + 1 < i
  · rw [hM.lo hp p1]
    by_cases q1 : q + 1 < i
    · rw [hM.lo (by omega) q1]; exact h1 _ _ (by omega) (by omega) (by omega)
    · by_cases q2 : q + 1 = i
      · rw [hM.at q2]; exact asymL hS (hlo _ (by omega) p1)
      · rw [hM.hi (t := q) (by omega) hai]; exact h1 _ _ (by omega) (by omega) (by omega)
  · by_cases p2 : p + 1 = i
    · rw [hM.at p2, hM.hi (t := q) (by omega) hai]; exact hhi _ (by omega) hq
    · rw [hM.hi (t := p) (by omega) hai, hM.hi (t := q) (by omega) hai]; exact h1 _ _ (by omega) hpq hq

/-- The element at m has gone ahead of those from i on. -/
def MovL (d d' : Array α) (i m : Nat) : Prop := d'.size = d.size ∧ ∀ t, d'[t]! = if t = i then d[m]! else if i < t ∧ t ≤ m then d[t - 1]! else d[t]!
theorem movL_start (d : Array α) (m : Nat) : MovL d d m m := ⟨rfl, fun t => by
  by_cases h : t = m
  · rw [if_pos h, h]
  · rw [if_neg h, if_neg (by omega)]⟩
theorem movL_step {d dk : Array α} {k m : Nat} (h : MovL d dk (k + 1) m) (hk : k + 1 ≤ m) (hm : m < d.size) : MovL d (swp dk (k + 1) k) k m := by
  refine ⟨by rw [swp_size]; exact h.1, fun t => ?_⟩
  rw [swp_get dk (by rw [h.1]; omega) (by rw [h.1]; omega)]
  have h2 := h.2
  by_cases h1 : t = k
  · subst h1
    rw [if_pos rfl, h2, if_pos rfl, if_pos rfl]
  · rw [if_neg h1, if_neg h1]
    by_cases h3 : t = k + 1
    · subst h3
      rw [if_pos rfl, h2, if_neg (by omega), if_neg (by omega), if_pos (by omega)]; rfl
    · rw [if_neg h3, h2, if_neg h3]
      by_cases h4 : k + 1 < t ∧ t ≤ m
      · rw [if_pos h4, if_pos (by omega)]
      · rw [if_neg h4, if_neg (by omega)]
theorem MovL.at {d d' : Array α} {i m : Nat} (h : MovL d d' i m) : d'[i]! = d[m]! := by rw [h.2, if_pos rfl]
theorem MovL.mid {d d' : Array α} {i m t : Nat} (h : MovL d d' i m) (h1 : i < t) (h2 : t ≤ m) : d'[t]! = d[t - 1]! := by rw [h.2, if_neg (by omega), if_pos ⟨h1, h2⟩]
theorem MovL.out {d d' : Array α} {i m t : Nat} (h : MovL d d' i m) (h1 : t < i ∨ m < t) (him : i ≤ m) : d'[t]! = d[t]! := by rw [h.2, if_neg (by omega), if_neg (by omega)]
theorem movL_sorted (hS : SWO L) {d d' : Array α} {a i m : Nat} (hM : MovL d d' i m) (hai : a ≤ i) (him : i ≤ m) (h1 : SortedIn L a m d)
    (hlo : ∀ c, a ≤ c → c < i → L d[m]! d[c]! = false) (hhi : ∀ c, i ≤ c → c < m → L d[m]! d[c]! = true) : SortedIn L a (m + 1) d' := by
  intro p q hp hpq hq
  by_cases p1 : p < i
  · rw [hM.out (t := p) (.inl p1) him]
    by_cases q1 : q < i
    · rw [hM.out (t := q) (.inl q1) him]; exact h1 p q hp hpq (by omega)
    · by_cases q2 : q = i
      · subst q2; rw [hM.at]; exact hlo p hp p1
      · rw [hM.mid (t := q) (by omega) (by omega)]
        by_cases e : p = q - 1
        · omega
        · exact h1 _ _ hp (by omega) (by omega)
  · by_cases p2 : p = i
    · subst p2
      rw [hM.at, hM.mid (t := q) (by omega) (by omega)]; exact asymL hS (hhi _ (by omega) (by omega))
    · rw [hM.mid (t := p) (by omega) (by omega), hM.mid (t := q) (by omega) (by omega)]; exact h1 _ _ (by omega) (by omega) (by omega)

/-- n places from a on are exchanged with n places from b on. -/
def swpN (a b : Nat) : Nat → Array α → Array α
  | 0, d => d
  | n + 1, d => swp (swpN a b n d) (a + n) (b + n)
theorem swpN_size (a b : Nat) : ∀ (n : Nat) (d : Array α), (swpN a b n d).size = d.size
  | 0, _ => rfl
  | n + 1, d => by rw [swpN, swp_size, swpN_size a b n d]
theorem swpN_get (a b : Nat) (d : Array α) : ∀ (n : Nat), a + n ≤ b → b + n ≤ d.size → ∀ t, (swpN a b n d)[t]! = if a ≤ t ∧ t < a + n then d[t - a + b]! else if b ≤ t ∧ t < b + n then d[t - b + a]! else d[t]!
  | 0, _, _, t => by rw [swpN, if_neg (by omega), if_neg (by omega)]
  | n + 1, h1, h2, t => by
    have ih := swpN_get a b d n (by omega) (by omega)
    have hs := swpN_size a b n d
    rw [swpN, swp_get _ (by rw [hs]; omega) (by rw [hs]; omega)]
    by_cases e1 : t = b + n
    · subst e1
      rw [if_pos rfl, ih, if_neg (by omega), if_neg (by omega), if_neg (by omega), if_pos (by omega)]
      congr 1; omega
    · rw [if_neg e1]
      by_cases e2 : t = a + n
      · subst e2
        rw [if_pos rfl, ih, if_neg (by omega), if_neg (by omega), if_pos (by omega)]
        congr 1; omega
      · rw [if_neg e2, ih]
        by_cases e3 : a ≤ t ∧ t < a + n
        · rw [if_pos e3, if_pos (by omega)]
        · by_cases e4 : b ≤ t ∧ t < b + n
          · rw [if_neg e3, if_pos e4, if_neg (by omega), if_pos (by omega)]
          · rw [if_neg e3, if_neg e4, if_neg (by omega), if_neg (by omega)]
theorem swpN_perm (a b lo hi : Nat) (d : Array α) (hh : hi ≤ d.size) : ∀ (n : Nat), lo ≤ a → lo ≤ b → a + n ≤ hi → b + n ≤ hi → PermIn lo hi d (swpN a b n d)
  | 0, _, _, _, _ => permIn_refl _ _ _
  | n + 1, h1, h2, h3, h4 => permIn_trans _ _ _ _ _ (swpN_perm a b lo hi d hh n h1 h2 (by omega) (by omega)) (swp_permIn (swpN a b n d) lo hi (a + n) (b + n) (by omega) (by omega) (by omega) (by omega) (by rw [swpN_size]; exact hh))

/-- What stands at t when the blocks [l, m) and [m, r) have changed places. -/
def rotv (d : Array α) (l m r t : Nat) : α := if t < l then d[t]! else if t < l + (r - m) then d[t - l + m]! else if t < r then d[t - (r - m)]! else d[t]!
theorem rotv_gt (d : Array α) (l m r t : Nat) (h1 : l ≤ m) (h2 : m ≤ r) (hr : r ≤ d.size) (h : r - m < m - l) : rotv (swpN l m (r - m) d) (l + (r - m)) m r t = rotv d l m r t := by
  have hg := swpN_get l m d (r - m) (by omega) (by omega)
  unfold rotv
  by_cases c1 : t < l
  · rw [if_pos (by omega), if_pos c1, hg, if_neg (by omega), if_neg (by omega)]
  · rw [if_neg c1]
    by_cases c2 : t < l + (r - m)
    · rw [if_pos c2, if_pos c2, hg, if_pos (by omega)]
    · rw [if_neg c2, if_neg c2]
      by_cases c3 : t < l + (r - m) + (r - m)
      · rw [if_pos c3, if_pos (by omega), hg, if_neg (by omega), if_pos (by omega)]; congr 1; omega
      · rw [if_neg c3]
        by_cases c4 : t < r
        · rw [if_pos c4, if_pos c4, hg, if_neg (by omega), if_neg (by omega)]
        · rw [if_neg c4, if_neg c4, hg, if_neg (by omega), if_neg (by omega)]
theorem rotv_lt (d : Array α) (l m r t : Nat) (h1 : l ≤ m) (h2 : m ≤ r) (hr : r ≤ d.size) (h : m - l < r - m) : rotv (swpN l (l + (r - m)) (m - l) d) l m (l + (r - m)) t = rotv d l m r t := by
  have hg := swpN_get l (l + (r - m)) d (m - l) (by omega) (by omega)
  unfold rotv
  by_cases c1 : t < l
  · rw [if_pos c1, if_pos c1, hg, if_neg (by omega), if_neg (by omega)]
  · rw [if_neg c1, if_neg c1]
    by_cases c2 : t < l + (l + (r - m) - m)
    · rw [if_pos c2, if_pos (by omega), hg, if_neg (by omega), if_neg (by omega)]
    · rw [if_neg c2]
      by_cases c3 : t < l + (r - m)
      · rw [if_pos c3, if_pos c3, hg, if_pos (by omega)]; congr 1; omega
      · rw [if_neg c3, if_neg c3]
        by_cases c4 : t < r
        · rw [if_pos c4, hg, if_neg (by omega), if_pos (by omega)]; congr 1; omega
        · rw [if_neg c4, hg, if_neg (by omega), if_neg (by omega)]
theorem rotv_eq (d : Array α) (l m r t : Nat) (h1 : l ≤ m) (h2 : m ≤ r) (hr : r ≤ d.size) (h : m - l = r - m) : (swpN l m (m - l) d)[t]! = rotv d l m r t := by
  rw [swpN_get l m d (m - l) (by omega) (by omega)]
  unfold rotv
  by_cases c1 : t < l
  · rw [if_neg (by omega), if_neg (by omega), if_pos c1]
  · rw [if_neg c1]
    by_cases c2 : t < l + (r - m)
    · rw [if_pos c2, if_pos (by omega)]
    · rw [if_neg c2, if_neg (by omega)]
      by_cases c4 : t < r
      · rw [if_pos c4, if_pos (by omega)]; congr 1; omega
      · rw [if_neg c4, if_neg (by omega)]
theorem rotv_left (d : Array α) (m r t : Nat) (h2 : m ≤ r) : rotv d m m r t = d[t]! := by
  unfold rotv
  by_cases c1 : t < m
  · rw [if_pos c1]
  · rw [if_neg c1]
    by_cases c2 : t < m + (r - m)
    · rw [if_pos c2]; congr 1; omega
    · rw [if_neg c2, if_neg (by omega)]
theorem rotv_right (d : Array α) (l m t : Nat) : rotv d l m m t = d[t]! := by
  unfold rotv
  by_cases c1 : t < l
  · rw [if_pos c1]
  · rw [if_neg c1, if_neg (by omega)]
    by_cases c4 : t < m
    · rw [if_pos c4]; congr 1; omega
    · rw [if_neg c4]

/-- What is known behind the search and the rotation of a symmetric merge. -/
theorem sym_glue (hS : SWO L) {d D : Array α} {a m b s mid e s0 r0 : Nat} (ha : a < m) (hb : m < b) (hmid : mid = (a + b) / 2) (he : e + s = mid + m) (hsm : s ≤ m) (hsd : s ≤ mid) (hme : m ≤ e) (hde : mid ≤ e) (has : a ≤ s) (heb : e ≤ b)
    (h1 : SortedIn L a m d) (h2 : SortedIn L m b d) (hD : ∀ t, D[t]! = rotv d s m e t)
    (hs0 : s0 ≤ s) (hr0 : s ≤ r0) (hst : (s0 = a ∧ r0 = m) ∨ (s0 + b = mid + m ∧ r0 = mid))
    (hlo : ∀ c, s0 ≤ c → c < s → L d[mid + m - 1 - c]! d[c]! = false) (hhi : ∀ c, s ≤ c → c < r0 → L d[mid + m - 1 - c]! d[c]! = true) :
    SortedIn L a s D ∧ SortedIn L s mid D ∧ SortedIn L mid e D ∧ SortedIn L e b D ∧ ∀ p q, a ≤ p → p < mid → mid ≤ q → q < b → L D[q]! D[p]! = false := by
  have g1 : ∀ t, t < s → D[t]! = d[t]! := fun t ht => by rw [hD]; unfold rotv; rw [if_pos ht]
  have g2 : ∀ t, s ≤ t → t < mid → D[t]! = d[t - s + m]! := fun t h1 h2 => by rw [hD]; unfold rotv; rw [if_neg (by omega), if_pos (by omega)]
  have g3 : ∀ t, mid ≤ t → t < e → D[t]! = d[t - (e - m)]! := fun t h1 h2 => by rw [hD]; unfold rotv; rw [if_neg (by omega), if_neg (by omega), if_pos h2]
  have g4 : ∀ t, e ≤ t → D[t]! = d[t]! := fun t h1 => by rw [hD]; unfold rotv; rw [if_neg (by omega), if_neg (by omega), if_neg (by omega)]
  -- of two places of the left run, or of the right one, in their order (or one)
  have le1 : ∀ p q, a ≤ p → p ≤ q → q < m → L d[q]! d[p]! = false := fun p q x1 x2 x3 => by
    by_cases e : p = q
    · subst e; exact hS.irrefl _
    · exact h1 p q x1 (by omega) x3
  have le2 : ∀ p q, m ≤ p → p ≤ q → q < b → L d[q]! d[p]! = false := fun p q x1 x2 x3 => by
    by_cases e : p = q
    · subst e; exact hS.irrefl _
    · exact h2 p q x1 (by omega) x3
  -- left ahead of s, right from e on
  have c14 : ∀ p q, a ≤ p → p < s → e ≤ q → q < b → L d[q]! d[p]! = false := fun p q x1 x2 x3 x4 => by
    have hs1 : s0 < s := by omega
    have k1 := hlo (s - 1) (by omega) (by omega)
    rw [show mid + m - 1 - (s - 1) = e by omega] at k1
    have k2 := le1 p (s - 1) x1 (by omega) (by omega)
    have k3 := le2 e q (by omega) x3 x4
    exact hS.ntrans _ _ _ k3 (hS.ntrans _ _ _ k1 k2)
  -- right ahead of e, left from s on
  have c23 : ∀ p q, m ≤ p → p < e → s ≤ q → q < m → L d[q]! d[p]! = false := fun p q x1 x2 x3 x4 => by
    have hs1 : s < r0 := by omega
    have k1 := asymL hS (hhi s (Nat.le_refl _) hs1)
    rw [show mid + m - 1 - s = e - 1 by omega] at k1
    have k2 := le1 s q (by omega) x3 x4
    have k3 := le2 p (e - 1) x1 (by omega) (by omega)
    exact hS.ntrans _ _ _ k2 (hS.ntrans _ _ _ k1 k3)
  refine ⟨fun p q x1 x2 x3 => ?_, fun p q x1 x2 x3 => ?_, fun p q x1 x2 x3 => ?_, fun p q x1 x2 x3 => ?_, fun p q x1 x2 x3 x4 => ?_⟩
  · rw [g1 p (by omega), g1 q x3]; exact h1 p q x1 x2 (by omega)
  · rw [g2 p x1 (by omega), g2 q (by omega) x3]; exact h2 _ _ (by omega) (by omega) (by omega)
  · rw [g3 p x1 (by omega), g3 q (by omega) x3]; exact h1 _ _ (by omega) (by omega) (by omega)
  · rw [g4 p x1, g4 q (by omega)]; exact h2 p q (by omega) x2 x3
  · by_cases p1 : p < s
    · rw [g1 p p1]
      by_cases q1 : q < e
      · rw [g3 q x3 q1]; exact le1 _ _ x1 (by omega) (by omega)
      · rw [g4 q (by omega)]; exact c14 p q x1 p1 (by omega) x4
    · rw [g2 p (by omega) x2]
      by_cases q1 : q < e
      · rw [g3 q x3 q1]; exact c23 _ _ (by omega) (by omega) (by omega) (by omega)
      · rw [g4 q (by omega)]; exact le2 _ _ (by omega) (by omega) x4

/-- Two sorted parts, the one behind the other, none of the second less than one of the first. -/
theorem sym_end (hS : SWO L) {D D1 D2 : Array α} {a mid b : Nat} (hb : b ≤ D.size) (hm : a ≤ mid) (hmb : mid ≤ b) (p1 : PermIn a mid D D1) (p2 : PermIn mid b D1 D2) (s1 : SortedIn L a mid D1) (s2 : SortedIn L mid b D2)
    (hc : ∀ p q, a ≤ p → p < mid → mid ≤ q → q < b → L D[q]! D[p]! = false) : PermIn a b D D2 ∧ SortedIn L a b D2 := by
  have z1 := p1.1
  refine ⟨permIn_trans _ _ _ _ _ (permIn_mono _ _ _ _ _ _ (Nat.le_refl _) hmb hb p1) (permIn_mono _ _ _ _ _ _ hm (Nat.le_refl _) (by rw [z1]; exact hb) p2), ?_⟩
  intro p q hp hpq hq
  by_cases c1 : q < mid
  · rw [p2.2.1 p (by omega), p2.2.1 q (by omega)]; exact s1 p q hp hpq c1
  · by_cases c2 : mid ≤ p
    · exact s2 p q c2 hpq hq
    · rw [p2.2.1 p (by omega)]
      have k1 : ∀ q, mid ≤ q → q < b → ∀ p, a ≤ p → p < mid → L D1[q]! D1[p]! = false := fun q y1 y2 =>
        permIn_all D D1 a mid (fun x => L D1[q]! x = false) (by omega) p1 (fun p y3 y4 => by rw [p1.2.1 q (by omega)]; exact hc p q y3 y4 y1 y2)
      exact permIn_all D1 D2 mid b (fun x => L x D1[p]! = false) (by rw [z1]; exact hb) p2 (fun q y1 y2 => k1 q y1 y2 p hp (by omega)) q (by omega) hq

/-! Blocks. -/
variable {ix : α → Nat}
/-- A block holds the elements that it held when all began, in order. -/
def OKb (L : α → α → Bool) (ix : α → Nat) (d : Array α) (s e : Nat) : Prop := (∀ t, s ≤ t → t < e → s ≤ ix d[t]! ∧ ix d[t]! < e) ∧ SortedIn L s e d
theorem OKb.same {d d' : Array α} {s e : Nat} (h : OKb L ix d s e) (hd : ∀ t, s ≤ t → t < e → d'[t]! = d[t]!) : OKb L ix d' s e :=
  ⟨fun t h1 h2 => by rw [hd t h1 h2]; exact h.1 t h1 h2, fun p q h1 h2 h3 => by rw [hd p h1 (by omega), hd q (by omega) h3]; exact h.2 p q h1 h2 h3⟩
/-- From s on, blocks of bs. -/
inductive ChS (L : α → α → Bool) (ix : α → Nat) (d : Array α) (n bs : Nat) : Nat → Prop
  | done {s : Nat} : n ≤ s → ChS L ix d n bs s
  | more {s : Nat} : s < n → OKb L ix d s (min (s + bs) n) → ChS L ix d n bs (s + bs) → ChS L ix d n bs s
/-- Up to a, blocks of bs. -/
inductive PfS (L : α → α → Bool) (ix : α → Nat) (d : Array α) (bs : Nat) : Nat → Prop
  | zero : PfS L ix d bs 0
  | snoc {a : Nat} : PfS L ix d bs a → OKb L ix d a (a + bs) → PfS L ix d bs (a + bs)
theorem ChS.same {d d' : Array α} {n bs s : Nat} (h : ChS L ix d n bs s) (hd : ∀ t, s ≤ t → d'[t]! = d[t]!) : ChS L ix d' n bs s := by
  induction h with
  | done h => exact .done h
  | more h1 h2 _ ih => exact .more h1 (h2.same fun t x _ => hd t x) (ih fun t x => hd t (by omega))
theorem PfS.same {d d' : Array α} {bs a : Nat} (h : PfS L ix d bs a) (hd : ∀ t, t < a → d'[t]! = d[t]!) : PfS L ix d' bs a := by
  induction h with
  | zero => exact .zero
  | snoc _ h2 ih => exact .snoc (ih fun t x => hd t (by omega)) (h2.same fun t x y => hd t y)
theorem PfS.fold {d : Array α} {n bs a : Nat} (h : PfS L ix d bs a) (hn : a ≤ n) (hbs : 0 < bs) (hc : ChS L ix d n bs a) : ChS L ix d n bs 0 := by
  induction h with
  | zero => exact hc
  | snoc _ h2 ih => exact ih (by omega) (.more (by omega) (by rw [Nat.min_eq_left hn]; exact h2) hc)
theorem ChS.all {d : Array α} {n bs : Nat} (h : ChS L ix d n bs 0) (hb : n ≤ bs) (hn : 0 < n) : OKb L ix d 0 n := by
  cases h with
  | done h => omega
  | more h1 h2 _ => rw [Nat.zero_add, Nat.min_eq_right hb] at h2; exact h2
/-- A permutation of a block's elements holds them. -/
theorem OKb.perm {d d' : Array α} {s e : Nat} (he : e ≤ d.size) (hp : PermIn s e d d') (h : ∀ t, s ≤ t → t < e → s ≤ ix d[t]! ∧ ix d[t]! < e) (hs : SortedIn L s e d') : OKb L ix d' s e :=
  ⟨permIn_all d d' s e (fun x => s ≤ ix x ∧ ix x < e) he hp h, hs⟩

/-! Insertion: the order by names alone does what the order by names and places does, where later elements came in later. -/
theorem ins_same {lt : α → α → Bool} (hl : ∀ x y, ix x < ix y → lt y x = L y x) (a : Nat) : ∀ (j : Nat) (d : Array α), j < d.size → (∀ t, a ≤ t → t < j → ix d[t]! < ix d[j]!) → insInner lt a j d = insInner L a j d
  | 0, _, _, _ => rfl
  | j + 1, d, hj, h => by
    unfold insInner
    by_cases haj : j + 1 > a
    · have e := hl _ _ (h j (by omega) (by omega))
      rw [e]
      split
      · refine ins_same hl a j _ (by rw [swp_size]; omega) fun t h1 h2 => ?_
        rw [swp_other _ _ _ _ (by omega) (by omega), swp_right _ _ _ (by omega)]
        exact h t h1 (by omega)
      · rfl
    · rw [show (decide (j + 1 > a) && lt d[j + 1]! d[j]!) = false by rw [decide_eq_false haj]; rfl, show (decide (j + 1 > a) && L d[j + 1]! d[j]!) = false by rw [decide_eq_false haj]; rfl]
      rfl
theorem insInner_perm {lt : α → α → Bool} (a lo hi : Nat) (hlo : lo ≤ a) : ∀ (j : Nat) (d : Array α), hi ≤ d.size → j < hi → PermIn lo hi d (insInner lt a j d)
  | 0, _, _, _ => permIn_refl _ _ _
  | j + 1, d, hh, hj => by
    unfold insInner
    split
    · next hc =>
      simp only [Bool.and_eq_true, decide_eq_true_eq] at hc
      exact permIn_trans _ _ _ _ _ (swp_permIn d lo hi (j + 1) j (by omega) (by omega) (by omega) (by omega) hh) (insInner_perm a lo hi hlo j _ (by rw [swp_size]; exact hh) (by omega))
    · exact permIn_refl _ _ _
theorem insO_same {lt : α → α → Bool} (hl : ∀ x y, ix x < ix y → lt y x = L y x) (a b : Nat) : ∀ (k i : Nat) (d : Array α), b - i = k → b ≤ d.size → a < i → (∀ t u, a ≤ t → t < i → i ≤ u → u < b → ix d[t]! < ix d[u]!) → (∀ t u, i ≤ t → t < u → u < b → ix d[t]! < ix d[u]!) →
    insOuter lt a b i d = insOuter L a b i d
  | 0, i, d, hk, _, _, _, _ => by unfold insOuter; rw [if_neg (by omega), if_neg (by omega)]
  | k + 1, i, d, hk, hb, hai, h1, h2 => by
    rw [insOuter, insOuter.eq_def L a b i d, if_pos (by omega), if_pos (by omega)]
    have e := ins_same (L := L) hl a i d (by omega) (fun t x y => h1 t i x y (Nat.le_refl _) (by omega))
    rw [e]
    have hp := insInner_perm (lt := L) a a (i + 1) (Nat.le_refl _) i d (by omega) (by omega)
    have hot : ∀ u, i + 1 ≤ u → (insInner L a i d)[u]! = d[u]! := fun u hu => hp.2.1 u (.inr hu)
    refine insO_same hl a b k (i + 1) _ (by omega) (by rw [hp.1]; exact hb) (by omega) (fun t u x1 x2 x3 x4 => ?_) (fun t u x1 x2 x3 => ?_)
    · rw [hot u x3]
      exact permIn_all d _ a (i + 1) (fun x => ix x < ix d[u]!) (by omega) hp (fun t y1 y2 => by
        by_cases c : t < i
        · exact h1 t u y1 c (by omega) x4
        · obtain rfl : t = i := by omega
          exact h2 t u (Nat.le_refl _) (by omega) x4) t x1 x2
    · rw [hot t x1, hot u (by omega)]; exact h2 t u (by omega) x2 x3
theorem insS_same {lt : α → α → Bool} (hl : ∀ x y, ix x < ix y → lt y x = L y x) (d : Array α) (a b : Nat) (hb : b ≤ d.size) (h : ∀ t u, a ≤ t → t < u → u < b → ix d[t]! < ix d[u]!) : insertionSort lt d a b = insertionSort L d a b :=
  insO_same hl a b _ (a + 1) d rfl hb (by omega) (fun t u x1 x2 x3 x4 => h t u x1 (by omega) x4) (fun t u x1 x2 x3 => h t u (by omega) x2 x3)
end
end Go.Proofs.YtaniebkfgkhgoaaGreatDoor

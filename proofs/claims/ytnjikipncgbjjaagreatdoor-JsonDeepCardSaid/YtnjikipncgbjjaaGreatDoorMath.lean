/- Plain functions on lists of bytes: decimal, octal and hexadecimal digits, and what digits say; nothing of the program stands here. -/
import Derived.Below
namespace Go.Proofs.YtnjikipncgbjjaaGreatDoor

/-- The byte of a decimal digit. -/
def dByte (k : Nat) : UInt8 := UInt8.ofNat (48 + k)
theorem dByte_toNat (k : Nat) (h : k < 10) : (dByte k).toNat = 48 + k := by
  unfold dByte; rw [UInt8.toNat_ofNat']; omega
theorem dByte_inj (a b : Nat) (ha : a < 10) (hb : b < 10) (h : dByte a = dByte b) : a = b := by
  have := congrArg UInt8.toNat h
  rw [dByte_toNat a ha, dByte_toNat b hb] at this; omega

/-- The decimal digits of a number, the first one first. -/
def decN (n : Nat) : List UInt8 := if n < 10 then [dByte n] else decN (n / 10) ++ [dByte (n % 10)]
termination_by n
decreasing_by omega

theorem decN_small (n : Nat) (h : n < 10) : decN n = [dByte n] := by rw [decN, if_pos h]
theorem decN_big (n : Nat) (h : ¬ n < 10) : decN n = decN (n / 10) ++ [dByte (n % 10)] := by rw [decN, if_neg h]

theorem decN_ne (n : Nat) : decN n ≠ [] := by
  by_cases h : n < 10
  · rw [decN_small n h]; simp
  · rw [decN_big n h]; simp

theorem decN_length (k : Nat) : ∀ n, n < 10 ^ (k + 1) → (decN n).length ≤ k + 1 := by
  induction k with
  | zero => intro n h; rw [decN_small n (by omega)]; simp
  | succ k ih =>
    intro n h
    by_cases h1 : n < 10
    · rw [decN_small n h1]; simp
    · rw [decN_big n h1, List.length_append]
      have := ih (n / 10) (by rw [Nat.div_lt_iff_lt_mul (by omega)]; rw [Nat.pow_succ] at h; omega)
      simp; omega

/-- Digits of a base, put behind what a number has already: none if one is no digit, or the number passes the limit. -/
def valLoop (b lim : Nat) : Nat → List UInt8 → Option Nat
  | n, [] => some n
  | n, c :: t => if 48 ≤ c.toNat ∧ c.toNat - 48 < b ∧ n * b + (c.toNat - 48) ≤ lim then valLoop b lim (n * b + (c.toNat - 48)) t else none

theorem valLoop_append (b lim : Nat) (l t : List UInt8) : ∀ n, valLoop b lim n (l ++ t) = (valLoop b lim n l).bind fun m => valLoop b lim m t := by
  induction l with
  | nil => intro n; rfl
  | cons c l ih =>
    intro n
    simp only [List.cons_append, valLoop]
    split
    · exact ih _
    · rfl

theorem valLoop_le (b lim : Nat) (l : List UInt8) : ∀ n m, n ≤ lim → valLoop b lim n l = some m → m ≤ lim := by
  induction l with
  | nil => intro n m hn h; simp [valLoop] at h; omega
  | cons c l ih =>
    intro n m hn h
    simp only [valLoop] at h
    split at h
    · rename_i hc; exact ih _ _ hc.2.2 h
    · cases h

theorem valLoop_ge (b lim : Nat) (hb : 1 ≤ b) (l : List UInt8) : ∀ n m, valLoop b lim n l = some m → n ≤ m := by
  induction l with
  | nil => intro n m h; simp [valLoop] at h; omega
  | cons c l ih =>
    intro n m h
    simp only [valLoop] at h
    split at h
    · have := ih _ _ h
      have : n * 1 ≤ n * b := Nat.mul_le_mul_left n hb
      omega
    · cases h

/-- A greater limit lets by what a smaller one did. -/
theorem valLoop_mono (b l1 l2 : Nat) (hl : l1 ≤ l2) (l : List UInt8) : ∀ n m, valLoop b l1 n l = some m → valLoop b l2 n l = some m := by
  induction l with
  | nil => intro n m h; exact h
  | cons c l ih =>
    intro n m h
    simp only [valLoop] at h ⊢
    split at h
    · rename_i hc; rw [if_pos ⟨hc.1, hc.2.1, by omega⟩]; exact ih _ _ h
    · cases h

/-- A smaller limit only asks that the number in the end keeps it. -/
theorem valLoop_cut (b l1 l2 : Nat) (hb : 1 ≤ b) (l : List UInt8) (n m : Nat) (h : valLoop b l2 n l = some m) : valLoop b l1 n l = if m ≤ l1 ∨ l = [] then some m else none := by
  induction l generalizing n with
  | nil => rw [if_pos (Or.inr rfl)]; exact h
  | cons c l ih =>
    simp only [valLoop] at h ⊢
    split at h
    · rename_i hc
      have hge := valLoop_ge b l2 hb l _ _ h
      by_cases h1 : n * b + (c.toNat - 48) ≤ l1
      · rw [if_pos ⟨hc.1, hc.2.1, h1⟩, ih _ h]
        by_cases h2 : l = []
        · subst h2
          simp [valLoop] at h
          rw [if_pos (Or.inr rfl), if_pos (Or.inl (by omega))]
        · simp [h2]
      · rw [if_neg (by omega), if_neg (by simp; omega)]
    · cases h

/-- The digits of a number say that number. -/
theorem valLoop_decN (lim : Nat) (n : Nat) : n ≤ lim → valLoop 10 lim 0 (decN n) = some n := by
  induction n using Nat.strongRecOn with
  | ind n ih =>
    intro h
    by_cases h1 : n < 10
    · rw [decN_small n h1]
      have := dByte_toNat n h1
      simp only [valLoop]
      rw [if_pos (by omega), this]
      simp
    · rw [decN_big n h1, valLoop_append, ih (n / 10) (by omega) (by omega)]
      have := dByte_toNat (n % 10) (by omega)
      simp only [Option.bind_some, valLoop]
      rw [if_pos (by omega), this]
      congr 1; omega

/-- Digits, the first of which is no 0, are the digits of what they say. -/
theorem decN_valLoop (lim : Nat) (l : List UInt8) : ∀ n m, 1 ≤ n → valLoop 10 lim n l = some m → decN m = decN n ++ l := by
  induction l with
  | nil => intro n m _ h; simp [valLoop] at h; subst h; simp
  | cons c l ih =>
    intro n m hn h
    simp only [valLoop] at h
    split at h
    · rename_i hc
      have e := ih _ _ (by omega) h
      rw [e, decN_big _ (by omega)]
      have e1 : (n * 10 + (c.toNat - 48)) / 10 = n := by omega
      have e2 : (n * 10 + (c.toNat - 48)) % 10 = c.toNat - 48 := by omega
      rw [e1, e2]
      have e3 : dByte (c.toNat - 48) = c := by
        apply UInt8.toNat_inj.1
        rw [dByte_toNat _ hc.2.1]; omega
      rw [e3]; simp
    · cases h

/-- What digits say that are written as a number is: one digit, or the first is no 0. -/
def natOf (lim : Nat) (l : List UInt8) : Option Nat :=
  match l with
  | [] => none
  | c :: t => if c = 48 ∧ t ≠ [] then none else valLoop 10 lim 0 (c :: t)

theorem natOf_iff (lim : Nat) (l : List UInt8) (m : Nat) : natOf lim l = some m ↔ m ≤ lim ∧ decN m = l := by
  constructor
  · intro h
    cases l with
    | nil => cases h
    | cons c t =>
      simp only [natOf] at h
      split at h
      · cases h
      · rename_i hc
        refine ⟨valLoop_le 10 lim _ 0 m (Nat.zero_le _) h, ?_⟩
        simp only [valLoop] at h
        split at h
        · rename_i hd
          have e3 : dByte (c.toNat - 48) = c := by
            apply UInt8.toNat_inj.1
            rw [dByte_toNat _ hd.2.1]; omega
          by_cases h0 : c.toNat - 48 = 0
          · have hc48 : c = 48 := by rw [← e3, h0]; rfl
            have ht : t = [] := by
              by_cases ht : t = []
              · exact ht
              · exact absurd ⟨hc48, ht⟩ hc
            subst ht
            simp [valLoop] at h
            rw [← h, decN_small _ (by omega), e3]
          · have := decN_valLoop lim t _ m (by omega) h
            rw [this, decN_small _ (by omega)]
            simp [e3]
        · cases h
  · rintro ⟨h1, rfl⟩
    have hv := valLoop_decN lim m h1
    have hne := decN_ne m
    have hz : ∀ n, ∀ c t, decN n = c :: t → ¬ (c = 48 ∧ t ≠ []) := by
      intro n
      induction n using Nat.strongRecOn with
      | ind n ih =>
        intro c t e
        by_cases h1 : n < 10
        · rw [decN_small n h1] at e
          cases e; simp
        · rw [decN_big n h1] at e
          cases hd : decN (n / 10) with
          | nil => exact absurd hd (decN_ne _)
          | cons c' t' =>
            rw [hd] at e
            simp at e
            obtain ⟨rfl, rfl⟩ := e
            intro ⟨e0, _⟩
            have h3 := ih (n / 10) (by omega) c' t' hd
            by_cases ht : t' = []
            · subst ht
              by_cases h10 : n / 10 < 10
              · rw [decN_small _ h10] at hd
                simp at hd
                have h4 := dByte_toNat _ h10
                rw [hd, e0] at h4
                simp at h4; omega
              · rw [decN_big _ h10] at hd
                have hl := congrArg List.length hd
                have := decN_ne (n / 10 / 10)
                have : 1 ≤ (decN (n / 10 / 10)).length := by
                  cases hq : decN (n / 10 / 10) with
                  | nil => exact absurd hq this
                  | cons _ _ => simp
                simp at hl
                cases hq : decN (n / 10 / 10) with
                | nil => exact absurd hq ‹_›
                | cons _ _ => rw [hq] at hl; simp at hl
            · exact h3 ⟨e0, ht⟩
    cases hd : decN m with
    | nil => exact absurd hd hne
    | cons c t =>
      simp only [natOf]
      rw [if_neg (hz m c t hd), ← hd]
      exact hv

/-- The decimal digits of an int. -/
def decZ (z : Int) : List UInt8 := if z < 0 then 45 :: decN z.natAbs else decN z.natAbs

/-- The number of decimal digits, as the document has it: an int whose digits they are. -/
def numZ (l : List UInt8) : Option Int :=
  match l with
  | 45 :: t => (natOf 9223372036854775808 t).bind fun m => if m = 0 then none else some (-(m : Int))
  | l => (natOf 9223372036854775807 l).map fun m => (m : Int)

theorem decN_head (n : Nat) (t : List UInt8) : decN n ≠ 45 :: t := by
  induction n using Nat.strongRecOn generalizing t with
  | ind n ih =>
    by_cases h1 : n < 10
    · rw [decN_small n h1]
      intro e
      simp at e
      have := dByte_toNat n h1
      rw [e.1] at this
      simp at this; omega
    · rw [decN_big n h1]
      cases hd : decN (n / 10) with
      | nil => exact absurd hd (decN_ne _)
      | cons c' t' =>
        intro e
        simp at e
        rw [e.1] at hd
        exact ih _ (by omega) _ hd

theorem numZ_iff (l : List UInt8) (z : Int) : numZ l = some z ↔ -9223372036854775808 ≤ z ∧ z ≤ 9223372036854775807 ∧ decZ z = l := by
  by_cases hl : ∃ t, l = 45 :: t
  · obtain ⟨t, rfl⟩ := hl
    simp only [numZ]
    constructor
    · intro h
      cases hn : natOf 9223372036854775808 t with
      | none => rw [hn] at h; cases h
      | some m =>
        rw [hn] at h
        simp only [Option.bind_some] at h
        split at h
        · cases h
        · cases h
          have := (natOf_iff _ _ _).1 hn
          refine ⟨by omega, by omega, ?_⟩
          unfold decZ
          rw [if_pos (by omega)]
          congr 1
          rw [← this.2]; congr 1; omega
    · rintro ⟨h1, h2, h3⟩
      unfold decZ at h3
      split at h3
      · simp at h3
        have := (natOf_iff 9223372036854775808 t z.natAbs).2 ⟨by omega, h3⟩
        rw [this]
        simp only [Option.bind_some]
        rw [if_neg (by omega)]
        congr 1; omega
      · exact absurd h3 (decN_head _ _)
  · have e : numZ l = (natOf 9223372036854775807 l).map fun m => (m : Int) := by
      unfold numZ
      split
      · rename_i t; exact absurd ⟨t, rfl⟩ hl
      · rfl
    rw [e]
    constructor
    · intro h
      cases hn : natOf 9223372036854775807 l with
      | none => rw [hn] at h; cases h
      | some m =>
        rw [hn] at h
        cases h
        have := (natOf_iff _ _ _).1 hn
        refine ⟨by simp <;> omega, by simp <;> omega, ?_⟩
        unfold decZ
        rw [if_neg (by simp)]
        simpa using this.2
    · rintro ⟨h1, h2, h3⟩
      unfold decZ at h3
      split at h3
      · exact absurd ⟨_, h3.symm⟩ hl
      · have := (natOf_iff 9223372036854775807 l z.natAbs).2 ⟨by omega, h3⟩
        rw [this]
        simp <;> omega

theorem decZ_inj (a b : Int) (h : decZ a = decZ b) (ha : -9223372036854775808 ≤ a ∧ a ≤ 9223372036854775807) (hb : -9223372036854775808 ≤ b ∧ b ≤ 9223372036854775807) : a = b := by
  have h1 := (numZ_iff (decZ b) a).2 ⟨ha.1, ha.2, h⟩
  have h2 := (numZ_iff (decZ b) b).2 ⟨hb.1, hb.2, rfl⟩
  rw [h1] at h2; cases h2; rfl

/-- The byte of a hexadecimal digit. -/
def hByte (n : Nat) : UInt8 := if n < 10 then UInt8.ofNat (48 + n) else UInt8.ofNat (87 + n)
theorem hByte_toNat (n : Nat) (h : n < 16) : (hByte n).toNat = if n < 10 then 48 + n else 87 + n := by
  unfold hByte; split <;> (rw [UInt8.toNat_ofNat']; omega)
/-- Two hexadecimal digits for each byte. -/
def hexL : List UInt8 → List UInt8
  | [] => []
  | c :: t => hByte (c.toNat / 16) :: hByte (c.toNat % 16) :: hexL t
theorem hexL_append (a b : List UInt8) : hexL (a ++ b) = hexL a ++ hexL b := by
  induction a with
  | nil => rfl
  | cons c a ih => simp [hexL, ih]
theorem hexL_length (a : List UInt8) : (hexL a).length = 2 * a.length := by
  induction a with
  | nil => rfl
  | cons c a ih => simp [hexL, ih]; omega
/-- What a byte tells as a hexadecimal digit. -/
def hVal (c : Nat) : Option Nat := if 48 ≤ c ∧ c ≤ 57 then some (c - 48) else if 97 ≤ c ∧ c ≤ 102 then some (c - 87) else none
theorem hVal_hByte (n : Nat) (h : n < 16) : hVal (hByte n).toNat = some n := by
  rw [hByte_toNat n h]
  unfold hVal
  by_cases h1 : n < 10
  · rw [if_pos h1, if_pos (by omega)]; congr 1; omega
  · rw [if_neg h1, if_neg (by omega), if_pos (by omega)]; congr 1; omega
/-- The bytes of pairs of hexadecimal digits, behind those that are known. -/
def unhexG : List UInt8 → List UInt8 → Option (List UInt8)
  | acc, [] => some acc
  | _, [_] => none
  | acc, a :: b :: t => match hVal a.toNat, hVal b.toNat with
    | some h, some l => unhexG (acc ++ [UInt8.ofNat (16 * h + l)]) t
    | _, _ => none
theorem unhexG_odd : ∀ (l acc : List UInt8), l.length % 2 = 1 → unhexG acc l = none
  | [], acc, h => by simp at h
  | [a], acc, _ => rfl
  | a :: b :: t, acc, h => by
    simp only [unhexG]
    split
    · exact unhexG_odd t _ (by simp at h; omega)
    · rfl
theorem unhexG_hexL (l : List UInt8) : ∀ acc, unhexG acc (hexL l) = some (acc ++ l) := by
  induction l with
  | nil => intro acc; simp [hexL, unhexG]
  | cons c t ih =>
    intro acc
    have hc := UInt8.toNat_lt c
    simp only [hexL, unhexG]
    rw [hVal_hByte _ (by omega), hVal_hByte _ (by omega)]
    simp only
    rw [ih]
    have : UInt8.ofNat (16 * (c.toNat / 16) + c.toNat % 16) = c := by
      apply UInt8.toNat_inj.1
      rw [UInt8.toNat_ofNat']; omega
    rw [this]; simp

/-- So many octal digits of a number. -/
def octL : Nat → Nat → List UInt8
  | 0, _ => []
  | d + 1, n => octL d (n / 8) ++ [dByte (n % 8)]
theorem octL_length (d : Nat) : ∀ n, (octL d n).length = d := by
  induction d with
  | zero => intro n; rfl
  | succ d ih => intro n; simp [octL, ih]

/-- A number in so many octal digits, if it may be. -/
def octS (n d : Int) : Option (List UInt8) := if 0 ≤ n ∧ 1 ≤ d ∧ d ≤ 21 ∧ n.toNat < 8 ^ d.toNat then some (octL d.toNat n.toNat) else none

theorem pow8_pos (d : Nat) : 0 < 8 ^ d := Nat.pos_of_ne_zero (by simp)

/-- What octal digits tell is the number. -/
theorem valLoop_octL (lim : Nat) (d : Nat) : ∀ n, n < 8 ^ d → n ≤ lim → valLoop 8 lim 0 (octL d n) = some n := by
  induction d with
  | zero => intro n h _; simp at h; subst h; rfl
  | succ d ih =>
    intro n h hl
    have h8 : n / 8 < 8 ^ d := by rw [Nat.div_lt_iff_lt_mul (by omega)]; rw [Nat.pow_succ] at h; omega
    simp only [octL]
    rw [valLoop_append, ih (n / 8) h8 (by omega)]
    have := dByte_toNat (n % 8) (by omega)
    simp only [Option.bind_some, valLoop]
    rw [if_pos (by omega), this]
    congr 1; omega

end Go.Proofs.YtnjikipncgbjjaaGreatDoor

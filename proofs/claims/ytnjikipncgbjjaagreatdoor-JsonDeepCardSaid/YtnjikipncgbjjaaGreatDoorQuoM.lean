/- Plain functions on lists of bytes: letters in UTF-8, and texts between quotes, told and read; nothing of the program stands here. -/
import Derived.Test.YtnjikipncgbjjaaGreatDoorMath
import Derived.Lib.MapLaws
import Derived.Lib.ValidLaws
namespace Go.Proofs.YtnjikipncgbjjaaGreatDoor
open Go.Lib
set_option linter.unusedVariables false

/-- A number that is a letter. -/
def isLet (n : Nat) : Prop := n < 55296 ∨ (57344 ≤ n ∧ n ≤ 1114111)
instance (n : Nat) : Decidable (isLet n) := by unfold isLet; infer_instance
/-- A letter's bytes. -/
def enc (n : Nat) : List UInt8 := encodeRune (n : Int)
/-- The letter whose bytes begin a list, and how many they are. -/
def letterG (l : List UInt8) : Option (Nat × Nat) := if l = [] then none else if (decodeL l).1 = 65533 ∧ (decodeL l).2 = 1 then none else some (decodeL l)

theorem toU8_toNat (x : Int) (h0 : 0 ≤ x) (h1 : x < 256) : (x.toNat.toUInt8).toNat = x.toNat := by
  rw [Nat.toUInt8_eq, UInt8.toNat_ofNat']; omega

theorem enc_one {n : Nat} (h : n < 128) : enc n = [UInt8.ofNat n] := by
  unfold enc encodeRune; rw [encodeRuneZ_one (by omega) (by omega)]; simp
theorem enc_len (n : Nat) : 1 ≤ (enc n).length ∧ (enc n).length ≤ 4 := by
  have := encodeRuneZ_length (n : Int)
  unfold enc encodeRune; simpa using this
theorem enc_ne (n : Nat) : enc n ≠ [] := by
  intro h; have := (enc_len n).1; rw [h] at this; simp at this

/-- The bytes of a letter, as numbers. -/
theorem enc_two {n : Nat} (h0 : 128 ≤ n) (h1 : n < 2048) : ∃ a b : UInt8, enc n = [a, b] ∧ a.toNat = 192 + n / 64 ∧ b.toNat = 128 + n % 64 := by
  unfold enc encodeRune; rw [encodeRuneZ_two (by omega) (by omega)]
  refine ⟨_, _, rfl, ?_, ?_⟩ <;> (rw [toU8_toNat _ (by omega) (by omega)]; omega)
theorem enc_three {n : Nat} (h0 : 2048 ≤ n) (h1 : n < 65536) (h : isLet n) : ∃ a b c : UInt8, enc n = [a, b, c] ∧ a.toNat = 224 + n / 4096 ∧ b.toNat = 128 + n / 64 % 64 ∧ c.toNat = 128 + n % 64 := by
  unfold isLet at h
  unfold enc encodeRune; rw [encodeRuneZ_three (by omega)]
  refine ⟨_, _, _, rfl, ?_, ?_, ?_⟩ <;> (rw [toU8_toNat _ (by omega) (by omega)]; omega)
theorem enc_four {n : Nat} (h0 : 65536 ≤ n) (h : isLet n) : ∃ a b c d : UInt8, enc n = [a, b, c, d] ∧ a.toNat = 240 + n / 262144 ∧ b.toNat = 128 + n / 4096 % 64 ∧ c.toNat = 128 + n / 64 % 64 ∧ d.toNat = 128 + n % 64 := by
  unfold isLet at h
  unfold enc encodeRune; rw [encodeRuneZ_four (by omega) (by omega)]
  refine ⟨_, _, _, _, rfl, ?_, ?_, ?_, ?_⟩ <;> (rw [toU8_toNat _ (by omega) (by omega)]; omega)

/-- A letter's bytes, whatever stands behind them, are decoded as that letter. -/
theorem decode_enc (n : Nat) (h : isLet n) (r : List UInt8) : decodeL (enc n ++ r) = (n, (enc n).length) := by
  have hi := h
  unfold isLet at hi
  by_cases h1 : n < 128
  · rw [enc_one h1]
    have e : (UInt8.ofNat n).toNat = n := by rw [UInt8.toNat_ofNat']; omega
    rw [List.cons_append, decodeL_N]
    simp only [List.getD_cons_zero, e]
    unfold decodeN
    rw [if_pos h1]; rfl
  by_cases h2 : n < 2048
  · obtain ⟨a, b, e, ea, eb⟩ := enc_two (by omega) h2
    rw [e, decodeL_N]
    simp only [List.cons_append, List.nil_append, List.getD_cons_zero, List.getD_cons_succ, List.length_cons, List.length_nil, ea, eb]
    unfold decodeN
    rw [if_neg (by omega), if_pos (by omega), if_pos (by omega)]
    apply Prod.ext <;> simp only <;> omega
  by_cases h3 : n < 65536
  · obtain ⟨a, b, c, e, ea, eb, ec⟩ := enc_three (by omega) h3 h
    rw [e, decodeL_N]
    simp only [List.cons_append, List.nil_append, List.getD_cons_zero, List.getD_cons_succ, List.length_cons, List.length_nil, ea, eb, ec]
    unfold decodeN
    rw [if_neg (by omega), if_neg (by omega), if_pos (by omega), if_pos (by omega)]
    apply Prod.ext <;> simp only <;> omega
  · obtain ⟨a, b, c, d, e, ea, eb, ec, ed⟩ := enc_four (by omega) h
    rw [e, decodeL_N]
    simp only [List.cons_append, List.nil_append, List.getD_cons_zero, List.getD_cons_succ, List.length_cons, List.length_nil, ea, eb, ec, ed]
    unfold decodeN
    rw [if_neg (by omega), if_neg (by omega), if_neg (by omega), if_pos (by omega), if_pos (by omega)]
    apply Prod.ext <;> simp only <;> omega

theorem letter_enc (n : Nat) (h : isLet n) (r : List UInt8) : letterG (enc n ++ r) = some (n, (enc n).length) := by
  have hd := decode_enc n h r
  have hl := (enc_len n)
  unfold letterG
  rw [if_neg (by intro e; exact enc_ne n (List.append_eq_nil_iff.1 e).1), hd, if_neg]
  rintro ⟨e1, e2⟩
  simp only at e1 e2
  subst e1
  revert e2
  decide

/-- What is known of a letter that begins a list. -/
theorem letter_facts {l : List UInt8} {n k : Nat} (h : letterG l = some (n, k)) : isLet n ∧ 1 ≤ k ∧ k ≤ 4 ∧ k ≤ l.length ∧ enc n = l.take k ∧ l ≠ [] ∧ decodeL l = (n, k) := by
  unfold letterG at h
  split at h
  · cases h
  rename_i hne
  split at h
  · cases h
  rename_i hv
  have hd : decodeL l = (n, k) := by simpa using h
  have he := encode_decode l hne hv
  have hle := decodeL_le l hne
  rw [hd] at he hle hv
  simp only at he hle hv
  have k0 := (l.getD 0 0).toNat_lt
  have k1 := (l.getD 1 0).toNat_lt
  have k2 := (l.getD 2 0).toNat_lt
  have k3 := (l.getD 3 0).toNat_lt
  have hd' := hd
  rw [decodeL_N] at hd'
  have X : isLet n ∧ 1 ≤ k ∧ k ≤ 4 := by
    unfold isLet
    rcases decodeN_shape l.length (l.getD 0 0).toNat (l.getD 1 0).toNat (l.getD 2 0).toNat (l.getD 3 0).toNat with ⟨c, e⟩ | ⟨c1, c2, c3, cv, e⟩ | ⟨c1, c2, c3, c4, cv, cs, e⟩ | ⟨c1, c2, c3, c4, c5, cv, cw, e⟩ | e
    all_goals (rw [e] at hd'; simp only [Prod.mk.injEq] at hd'; obtain ⟨e1, e2⟩ := hd')
    all_goals first | omega | (exfalso; exact hv ⟨e1.symm, e2.symm⟩)
  exact ⟨X.1, X.2.1, X.2.2, hle, he, hne, hd⟩

theorem letter_split {l : List UInt8} {n k : Nat} (h : letterG l = some (n, k)) : l = enc n ++ l.drop k ∧ k = (enc n).length := by
  obtain ⟨_, _, _, h4, h5, _, _⟩ := letter_facts h
  refine ⟨by rw [h5, List.take_append_drop], by rw [h5, List.length_take]; omega⟩

theorem letter_none {l : List UInt8} (hne : l ≠ []) (h : letterG l = none) : decodeL l = (65533, 1) := by
  unfold letterG at h
  rw [if_neg hne] at h
  split at h
  · rename_i hc; exact Prod.ext hc.1 hc.2
  · cases h

/-- A byte below 128 is its own letter; and a letter below 128 is its own byte. -/
theorem letter_ascii (b : UInt8) (t : List UInt8) (h : b.toNat < 128) : letterG (b :: t) = some (b.toNat, 1) := by
  unfold letterG
  rw [if_neg (by simp), decodeL_ascii b t h, if_neg (by simp; omega)]
theorem letter_low {b : UInt8} {t : List UInt8} {n k : Nat} (h : letterG (b :: t) = some (n, k)) (hn : n < 128) : b.toNat = n ∧ k = 1 := by
  obtain ⟨h1, h2⟩ := letter_split h
  rw [enc_one hn] at h1 h2
  simp at h1 h2
  exact ⟨by rw [h1.1, UInt8.toNat_ofNat']; omega, h2⟩
theorem letter_high {b : UInt8} {t : List UInt8} {n k : Nat} (h : letterG (b :: t) = some (n, k)) (hb : 128 ≤ b.toNat) : 128 ≤ n := by
  by_cases hn : n < 128
  · have := (letter_low h hn).1; omega
  · omega
theorem enc_head (n : Nat) (h : isLet n) : ∃ b t, enc n = b :: t ∧ ((n < 128 ∧ b.toNat = n ∧ t = []) ∨ (128 ≤ n ∧ 192 ≤ b.toNat)) := by
  by_cases h1 : n < 128
  · exact ⟨_, _, enc_one h1, Or.inl ⟨h1, by rw [UInt8.toNat_ofNat']; omega, rfl⟩⟩
  by_cases h2 : n < 2048
  · obtain ⟨a, b, e, ea, eb⟩ := enc_two (by omega) h2
    exact ⟨_, _, e, Or.inr ⟨by omega, by omega⟩⟩
  by_cases h3 : n < 65536
  · obtain ⟨a, b, c, e, ea, eb, ec⟩ := enc_three (by omega) h3 h
    exact ⟨_, _, e, Or.inr ⟨by omega, by omega⟩⟩
  · obtain ⟨a, b, c, d, e, ea, eb, ec, ed⟩ := enc_four (by omega) h
    exact ⟨_, _, e, Or.inr ⟨by omega, by omega⟩⟩

/-! ### whether bytes are letters' -/
theorem valid_step (l : List UInt8) (hne : l ≠ []) : validD l = match letterG l with | none => false | some (_, k) => validD (l.drop k) := by
  rw [validD_step l hne]
  unfold letterG
  rw [if_neg hne]
  split
  · rfl
  · rfl
theorem valid_enc (n : Nat) (h : isLet n) (t : List UInt8) : validD (enc n ++ t) = validD t := by
  rw [valid_step _ (by intro e; exact enc_ne n (List.append_eq_nil_iff.1 e).1), letter_enc n h t]
  simp

/-! ### the one form -/
/-- What a letter's short escape has behind the sign; 0: none. -/
def shortG (n : Nat) : Nat := if n = 34 then 34 else if n = 92 then 92 else if n = 8 then 98 else if n = 12 then 102 else if n = 10 then 110 else if n = 13 then 114 else if n = 9 then 116 else 0
/-- The form of one letter. -/
def canonG (n : Nat) : List UInt8 := if 0 < shortG n then [92, UInt8.ofNat (shortG n)] else if n < 32 ∨ n = 127 then [92, 117, 48, 48, hByte (n / 16), hByte (n % 16)] else enc n
def bodyGo : Nat → List UInt8 → List UInt8
  | 0, _ => []
  | f + 1, l => if l = [] then [] else canonG (decodeL l).1 ++ bodyGo f (l.drop (decodeL l).2)
/-- What stands between the quotes. -/
def bodyG (l : List UInt8) : List UInt8 := bodyGo l.length l
/-- A text between quotes. -/
def quoteG (l : List UInt8) : List UInt8 := 34 :: (bodyG l ++ [34])
theorem bodyGo_nil : ∀ n, bodyGo n [] = []
  | 0 => rfl
  | _ + 1 => by simp [bodyGo]
theorem bodyGo_fuel : ∀ (n m : Nat) (l : List UInt8), l.length ≤ n → l.length ≤ m → bodyGo n l = bodyGo m l
  | 0, m, l, hn, _ => by
    have : l = [] := List.eq_nil_of_length_eq_zero (by omega)
    subst this
    rw [bodyGo_nil, bodyGo_nil]
  | n + 1, 0, l, _, hm => by
    have : l = [] := List.eq_nil_of_length_eq_zero (by omega)
    subst this
    rw [bodyGo_nil, bodyGo_nil]
  | n + 1, m + 1, l, hn, hm => by
    by_cases hne : l = []
    · subst hne
      rw [bodyGo_nil, bodyGo_nil]
    · have hw := decodeL_width l
      have hl : 0 < l.length := List.length_pos_iff.2 hne
      simp only [bodyGo, if_neg hne]
      rw [bodyGo_fuel n m _ (by rw [List.length_drop]; omega) (by rw [List.length_drop]; omega)]
theorem bodyG_nil : bodyG [] = [] := rfl
theorem bodyG_step (l : List UInt8) (hne : l ≠ []) : bodyG l = canonG (decodeL l).1 ++ bodyG (l.drop (decodeL l).2) := by
  have hw := decodeL_width l
  have hl : 0 < l.length := List.length_pos_iff.2 hne
  unfold bodyG
  obtain ⟨n, hn⟩ : ∃ n, l.length = n + 1 := ⟨l.length - 1, by omega⟩
  rw [hn]
  simp only [bodyGo, if_neg hne]
  rw [bodyGo_fuel n _ _ (by rw [List.length_drop]; omega) (Nat.le_refl _)]
theorem canonG_len (n : Nat) : 1 ≤ (canonG n).length ∧ (canonG n).length ≤ 6 := by
  unfold canonG
  split
  · simp
  split
  · simp
  · have := enc_len n; omega
theorem bodyG_len : ∀ (k : Nat) (l : List UInt8), l.length ≤ k → (bodyG l).length ≤ 6 * l.length
  | 0, l, h => by
    have : l = [] := List.eq_nil_of_length_eq_zero (by omega)
    subst this; simp [bodyG_nil]
  | k + 1, l, h => by
    by_cases hne : l = []
    · subst hne; simp [bodyG_nil]
    · have hw := decodeL_width l
      have hl : 0 < l.length := List.length_pos_iff.2 hne
      rw [bodyG_step l hne, List.length_append]
      have := bodyG_len k (l.drop (decodeL l).2) (by rw [List.length_drop]; omega)
      have hc := canonG_len (decodeL l).1
      rw [List.length_drop] at this
      omega

/-! ### what is told between quotes -/
/-- What a byte tells as a hexadecimal digit, small or great. -/
def hexB (c : Nat) : Option Nat := if 48 ≤ c ∧ c ≤ 57 then some (c - 48) else if 97 ≤ c ∧ c ≤ 102 then some (c - 87) else if 65 ≤ c ∧ c ≤ 70 then some (c - 55) else none
/-- The number of four hexadecimal digits that begin a list. -/
def fourG : List UInt8 → Option Nat
  | a :: b :: c :: d :: _ => match hexB a.toNat, hexB b.toNat, hexB c.toNat, hexB d.toNat with
    | some x, some y, some z, some u => some (4096 * x + 256 * y + 16 * z + u)
    | _, _, _, _ => none
  | _ => none
/-- The number of the sign, a u, and four digits. -/
def unitG : List UInt8 → Option Nat
  | a :: b :: t => if a = 92 ∧ b = 117 then fourG t else none
  | _ => none
/-- What a short escape denotes by what stands behind the sign; 0: none. -/
def namedG (c : Nat) : Nat := if c = 34 then 34 else if c = 92 then 92 else if c = 47 then 47 else if c = 98 then 8 else if c = 102 then 12 else if c = 110 then 10 else if c = 114 then 13 else if c = 116 then 9 else 0
/-- The letter of an escape of one unit or two, and how many bytes it takes. -/
def longG (l : List UInt8) : Option (Nat × Nat) := match unitG l with
  | none => none
  | some n => if n < 55296 ∨ 57344 ≤ n then some (n, 6) else if 56320 ≤ n then none else match unitG (l.drop 6) with
    | none => none
    | some m => if 56320 ≤ m ∧ m < 57344 then some (65536 + (n - 55296) * 1024 + (m - 56320), 12) else none
/-- The letter of an escape that begins a list, and how many bytes it takes. -/
def escG : List UInt8 → Option (Nat × Nat)
  | a :: c :: t => if 0 < namedG c.toNat then some (namedG c.toNat, 2) else longG (a :: c :: t)
  | _ => none
/-- The letter that begins a text between quotes, and how many bytes it takes. -/
def oneG : List UInt8 → Option (Nat × Nat)
  | [] => none
  | a :: t => if a = 92 then escG (a :: t) else match letterG (a :: t) with
    | none => none
    | some (n, k) => if n < 32 then none else some (n, k)
def unqGo : Nat → List UInt8 → List UInt8 → Nat → Option (List UInt8 × Nat)
  | 0, _, _, _ => none
  | _ + 1, [], _, _ => none
  | f + 1, a :: t, acc, p => if a = 34 then some (acc, p + 1) else match oneG (a :: t) with
    | none => none
    | some (n, k) => unqGo f ((a :: t).drop k) (acc ++ enc n) (p + k)
/-- What any bytes tell between quotes, and how many of them. -/
def unqG : List UInt8 → Option (List UInt8 × Nat)
  | [] => none
  | a :: t => if a = 34 then unqGo (t.length + 1) t [] 1 else none

theorem hexB_lt {c n : Nat} (h : hexB c = some n) : n < 16 ∧ c < 128 := by
  unfold hexB at h
  split at h
  · cases h; omega
  split at h
  · cases h; omega
  split at h
  · cases h; omega
  · cases h
theorem fourG_facts {l : List UInt8} {n : Nat} (h : fourG l = some n) : n < 65536 ∧ 4 ≤ l.length ∧ ∀ b ∈ l.take 4, b.toNat < 128 := by
  match l, h with
  | a :: b :: c :: d :: t, h =>
    simp only [fourG] at h
    split at h
    · rename_i x y z u e1 e2 e3 e4
      cases h
      have := hexB_lt e1; have := hexB_lt e2; have := hexB_lt e3; have := hexB_lt e4
      refine ⟨by omega, by simp, ?_⟩
      intro v hv
      simp at hv
      rcases hv with rfl | rfl | rfl | rfl <;> omega
    · cases h
theorem unitG_facts {l : List UInt8} {n : Nat} (h : unitG l = some n) : n < 65536 ∧ 6 ≤ l.length ∧ (∀ b ∈ l.take 6, b.toNat < 128) ∧ fourG (l.drop 2) = some n := by
  match l, h with
  | a :: b :: t, h =>
    simp only [unitG] at h
    split at h
    · rename_i hc
      obtain ⟨h1, h2, h3⟩ := fourG_facts h
      refine ⟨h1, by simp; omega, ?_, h⟩
      intro v hv
      simp at hv
      rcases hv with rfl | rfl | hv
      · rw [hc.1]; decide
      · rw [hc.2]; decide
      · exact h3 v hv
    · cases h
theorem namedG_facts (c : Nat) (h : 0 < namedG c) : c < 128 ∧ namedG c < 128 := by
  unfold namedG at h ⊢
  repeat' split
  all_goals first | omega | (simp_all; done)
theorem escG_facts {a : UInt8} {t : List UInt8} {n k : Nat} (ha : a = 92) (h : escG (a :: t) = some (n, k)) : isLet n ∧ 2 ≤ k ∧ k ≤ 12 ∧ k ≤ (a :: t).length ∧ ∀ b ∈ (a :: t).take k, b.toNat < 128 := by
  subst ha
  unfold isLet
  match t, h with
  | c :: t, h =>
    simp only [escG] at h
    split at h
    · rename_i hp
      have := namedG_facts _ hp
      cases h
      refine ⟨by omega, by omega, by omega, by simp, ?_⟩
      intro v hv
      simp at hv
      rcases hv with rfl | rfl
      · decide
      · omega
    · unfold longG at h
      split at h
      · cases h
      rename_i m hm
      obtain ⟨h1, h2, h3, _⟩ := unitG_facts hm
      split at h
      · cases h
        exact ⟨by omega, by omega, by omega, h2, h3⟩
      split at h
      · cases h
      split at h
      · cases h
      rename_i m2 hm2
      obtain ⟨g1, g2, g3, _⟩ := unitG_facts hm2
      split at h
      · simp only [Option.some.injEq, Prod.mk.injEq] at h
        obtain ⟨rfl, rfl⟩ := h
        rw [List.length_drop] at g2
        refine ⟨by omega, by omega, by omega, by omega, ?_⟩
        intro v hv
        rw [show (12 : Nat) = 6 + 6 from rfl, List.take_add] at hv
        rcases List.mem_append.1 hv with hv | hv
        · exact h3 v hv
        · exact g3 v hv
      · cases h
theorem oneG_facts {l : List UInt8} {n k : Nat} (h : oneG l = some (n, k)) : isLet n ∧ 1 ≤ k ∧ k ≤ l.length := by
  match l, h with
  | a :: t, h =>
    simp only [oneG] at h
    split at h
    · rename_i ha
      obtain ⟨h1, h2, h3, h4, _⟩ := escG_facts ha h
      exact ⟨h1, by omega, h4⟩
    · split at h
      · cases h
      rename_i n' k' hl
      split at h
      · cases h
      cases h
      obtain ⟨h1, h2, h3, h4, _⟩ := letter_facts hl
      exact ⟨h1, h2, h4⟩

/-- What is told is letters. -/
theorem unqGo_valid : ∀ (f : Nat) (l acc : List UInt8) (p : Nat) (o : List UInt8) (m : Nat), unqGo f l acc p = some (o, m) → ∃ t, o = acc ++ t ∧ validD t = true ∧ t.length ≤ 4 * l.length ∧ m ≤ p + l.length
  | 0, _, _, _, _, _, h => by cases h
  | _ + 1, [], _, _, _, _, h => by cases h
  | f + 1, a :: t, acc, p, o, m, h => by
    simp only [unqGo] at h
    split at h
    · cases h; exact ⟨[], by simp, rfl, by simp, by simp⟩
    split at h
    · cases h
    rename_i n k h1
    obtain ⟨i1, i2, i3⟩ := oneG_facts h1
    obtain ⟨t', e1, e2, e3, e4⟩ := unqGo_valid f _ _ _ _ _ h
    refine ⟨enc n ++ t', by rw [e1, List.append_assoc], by rw [valid_enc n i1]; exact e2, ?_, ?_⟩
    · have := enc_len n
      rw [List.length_append]
      rw [List.length_drop] at e3
      omega
    · rw [List.length_drop] at e4; omega
theorem unqG_valid {l o : List UInt8} {m : Nat} (h : unqG l = some (o, m)) : validD o = true ∧ o.length ≤ 4 * l.length ∧ m ≤ l.length := by
  match l, h with
  | a :: t, h =>
    simp only [unqG] at h
    split at h
    · obtain ⟨t', e1, e2, e3, e4⟩ := unqGo_valid _ _ _ _ _ _ h
      rw [List.nil_append] at e1
      subst e1
      exact ⟨e2, by simp; omega, by simp; omega⟩
    · cases h

theorem hexB_hByte (n : Nat) (h : n < 16) : hexB (hByte n).toNat = some n := by
  rw [hByte_toNat n h]
  unfold hexB
  by_cases h1 : n < 10
  · rw [if_pos h1, if_pos (by omega)]; congr 1; omega
  · rw [if_neg h1, if_neg (by omega), if_pos (by omega)]; congr 1; omega

/-- The one form of a letter tells that letter. -/
theorem one_canon (n : Nat) (h : isLet n) (r : List UInt8) : oneG (canonG n ++ r) = some (n, (canonG n).length) ∧ ∃ a t, canonG n ++ r = a :: t ∧ a ≠ 34 := by
  unfold canonG
  split
  · rename_i hs
    have hs' : n = 34 ∨ n = 92 ∨ n = 8 ∨ n = 12 ∨ n = 10 ∨ n = 13 ∨ n = 9 := by
      unfold shortG at hs
      repeat' split at hs
      all_goals omega
    refine ⟨?_, _, _, rfl, by decide⟩
    rcases hs' with rfl | rfl | rfl | rfl | rfl | rfl | rfl <;> rfl
  rename_i hs
  split
  · rename_i hc
    refine ⟨?_, _, _, rfl, by decide⟩
    have h1 : hexB (48 : UInt8).toNat = some 0 := rfl
    simp only [List.cons_append, List.nil_append, oneG, escG, if_true]
    rw [show namedG (117 : UInt8).toNat = 0 from rfl, if_neg (by omega)]
    simp only [longG, unitG, and_self, if_true, fourG, h1, hexB_hByte (n / 16) (by omega), hexB_hByte (n % 16) (by omega)]
    rw [if_pos (by omega)]
    simp
    omega
  · rename_i hc
    obtain ⟨b, t, e, hb⟩ := enc_head n h
    have hL := letter_enc n h r
    rw [e] at hL ⊢
    rw [List.cons_append] at hL ⊢
    have hb92 : b ≠ 92 := by
      intro eb
      rw [eb] at hb
      rcases hb with ⟨_, hb, _⟩ | ⟨_, hb⟩
      · have : n = 92 := hb.symm
        subst this; exact hs (by decide)
      · revert hb; decide
    refine ⟨?_, _, _, rfl, ?_⟩
    · simp only [oneG]
      rw [if_neg hb92, hL]
      simp only
      rw [if_neg (by omega)]
    · intro eb
      rw [eb] at hb
      rcases hb with ⟨_, hb, _⟩ | ⟨_, hb⟩
      · have : n = 34 := hb.symm
        subst this; exact hs (by decide)
      · revert hb; decide

/-- What is told in the one form is read as it was, whatever stands behind it. -/
theorem unq_body : ∀ (k : Nat) (l : List UInt8) (f : Nat) (acc r : List UInt8) (p : Nat), l.length ≤ k → validD l = true → (bodyG l).length < f →
    unqGo f (bodyG l ++ 34 :: r) acc p = some (acc ++ l, p + (bodyG l).length + 1) := by
  intro k
  induction k with
  | zero =>
    intro l f acc r p h hv hf
    have : l = [] := List.eq_nil_of_length_eq_zero (by omega)
    subst this
    obtain ⟨f, rfl⟩ : ∃ f', f = f' + 1 := ⟨f - 1, by omega⟩
    simp [bodyG_nil, unqGo]
  | succ k ih =>
    intro l f acc r p h hv hf
    by_cases hne : l = []
    · subst hne
      obtain ⟨f, rfl⟩ : ∃ f', f = f' + 1 := ⟨f - 1, by omega⟩
      simp [bodyG_nil, unqGo]
    · rw [valid_step l hne] at hv
      cases hL : letterG l with
      | none => rw [hL] at hv; cases hv
      | some x =>
        obtain ⟨n, w⟩ := x
        rw [hL] at hv
        simp only at hv
        obtain ⟨i1, i2, i3, i4, i5, i6, i7⟩ := letter_facts hL
        obtain ⟨s1, s2⟩ := letter_split hL
        have hst := bodyG_step l hne
        rw [i7] at hst
        simp only at hst
        have hcl := canonG_len n
        rw [hst] at hf ⊢
        rw [List.length_append] at hf ⊢
        rw [List.append_assoc]
        obtain ⟨f, rfl⟩ : ∃ f', f = f' + 1 := ⟨f - 1, by omega⟩
        obtain ⟨o1, a, t, o2, o3⟩ := one_canon n i1 (bodyG (l.drop w) ++ 34 :: r)
        rw [o2] at o1
        rw [o2]
        simp only [unqGo]
        rw [if_neg o3, o1]
        simp only
        rw [← o2, List.drop_left]
        rw [ih (l.drop w) f (acc ++ enc n) r (p + (canonG n).length) (by rw [List.length_drop]; omega) hv (by omega)]
        rw [List.append_assoc, ← s1]
        congr 2; omega
theorem unq_quote (l r : List UInt8) (hv : validD l = true) : unqG (quoteG l ++ r) = some (l, (quoteG l).length) := by
  have e : quoteG l ++ r = 34 :: (bodyG l ++ 34 :: r) := by simp [quoteG]
  rw [e]
  simp only [unqG]
  rw [if_pos trivial, unq_body l.length l _ [] r 1 (Nat.le_refl _) hv (by simp; omega)]
  simp [quoteG]; omega

/-- Small letters stay as they are. -/
theorem body_plain : ∀ (l : List UInt8), (∀ b ∈ l, 97 ≤ b.toNat ∧ b.toNat ≤ 122) → bodyG l = l ∧ validD l = true
  | [], _ => ⟨rfl, rfl⟩
  | b :: t, h => by
    have hb := h b (by simp)
    have ih := body_plain t (fun x hx => h x (List.mem_cons_of_mem _ hx))
    refine ⟨?_, by rw [validD_cons b t (by omega)]; exact ih.2⟩
    rw [bodyG_step _ (by simp), decodeL_ascii b t (by omega)]
    simp only
    have hs : shortG b.toNat = 0 := by
      unfold shortG
      repeat' split
      all_goals omega
    unfold canonG
    rw [hs, if_neg (by omega), if_neg (by omega), enc_one (by omega)]
    simp [ih.1]
end Go.Proofs.YtnjikipncgbjjaaGreatDoor

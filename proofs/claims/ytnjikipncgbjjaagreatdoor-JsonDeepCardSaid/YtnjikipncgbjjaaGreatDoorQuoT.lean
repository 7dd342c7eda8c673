/- strings.ToLower makes no hexadecimal digit of what is none; so four bytes, made small, tell as digits what they told. -/
import Derived.Test.YtnjikipncgbjjaaGreatDoorQuoM
import Derived.Shelf.Strings.CaseAny
import Derived.KernelRfl
namespace Go.Proofs.YtnjikipncgbjjaaGreatDoor
open Go.Lib
set_option linter.unusedVariables false

/-- A row of the table beyond ASCII leads beyond ASCII, or to an i or a k. -/
def lowRow (x : CaseRow) : Bool := decide (x.2.1 < 128) || (decide (128 ≤ x.1) && (decide (1114111 < x.delta 1) || decide (128 ≤ (x.1 : Int) + x.delta 1) || (decide (x.1 = x.2.1) && (decide ((x.1 : Int) + x.delta 1 = 105) || decide ((x.1 : Int) + x.delta 1 = 107)))))
theorem lowRows : caseT.all lowRow = true := by kernel_rfl
set_option maxRecDepth 1000000 in
theorem lowA_row (i : Nat) (hi : i < caseA.size) : lowRow (caseA.getD i (0, 0, 0, 0, 0)) = true := by
  have hm : caseA.getD i (0, 0, 0, 0, 0) ∈ caseT := by
    unfold caseA at hi ⊢
    simp only [List.size_toArray] at hi
    simp [Array.getD, hi]
  exact List.all_eq_true.1 lowRows _ hm
theorem lower_high (r : Int) (h : 128 ≤ r) : 128 ≤ toLowerU r ∨ toLowerU r = 105 ∨ toLowerU r = 107 := by
  unfold toLowerU
  rw [if_neg (by omega)]
  unfold toR lookupGo
  cases hi : lookupIdx caseA r (caseA.size + 1) 0 caseA.size with
  | none => exact Or.inl h
  | some i =>
    obtain ⟨hil, hlo, hhi⟩ := lookupIdx_some caseA r _ _ _ i hi
    have hr := lowA_row i hil
    simp only [Option.map_some]
    generalize caseA.getD i (0, 0, 0, 0, 0) = x at hlo hhi hr ⊢
    simp only [lowRow, Bool.or_eq_true, Bool.and_eq_true, decide_eq_true_eq] at hr
    unfold convertR
    generalize x.delta 1 = d at hr ⊢
    split <;> omega

theorem enc_high (x : Int) (h : 128 ≤ x) : ∃ b t, encodeRune x = b :: t ∧ 192 ≤ b.toNat := by
  unfold encodeRune
  by_cases h1 : x ≤ 2047
  · rw [encodeRuneZ_two h h1]; exact ⟨_, _, rfl, by rw [toU8_toNat _ (by omega) (by omega)]; omega⟩
  by_cases h2 : x < 55296 ∨ (57343 < x ∧ x ≤ 65535)
  · rw [encodeRuneZ_three (by omega)]; exact ⟨_, _, rfl, by rw [toU8_toNat _ (by omega) (by omega)]; omega⟩
  by_cases h3 : 65536 ≤ x ∧ x ≤ 1114111
  · rw [encodeRuneZ_four h3.1 h3.2]; exact ⟨_, _, rfl, by rw [toU8_toNat _ (by omega) (by omega)]; omega⟩
  · rw [encodeRuneZ_bad (by omega)]; exact ⟨_, _, rfl, by decide⟩
theorem hVal_high (c : Nat) (h : 103 ≤ c) : hVal c = none := by
  unfold hVal; rw [if_neg (by omega), if_neg (by omega)]

theorem low_hex : ∀ i : Fin 128, hVal (lowerB (UInt8.ofNat i.val)).toNat = hexB i.val := by decide
theorem hVal_lower (b : UInt8) (h : b.toNat < 128) : hVal (lowerB b).toNat = hexB b.toNat := by
  have := low_hex ⟨b.toNat, h⟩
  simpa using this

theorem lower_hex : ∀ (k : Nat) (l : List UInt8), l.length ≤ k → (∀ b ∈ toLowerD l, hVal b.toNat ≠ none) → ∀ b ∈ l, hexB b.toNat ≠ none
  | 0, l, h, _ => by
    have : l = [] := List.eq_nil_of_length_eq_zero (by omega)
    subst this; simp
  | k + 1, [], _, _ => by simp
  | k + 1, b :: t, h, hall => by
    have hst := mapD_step toLowerU (b :: t) (by simp)
    change toLowerD (b :: t) = _ ++ toLowerD _ at hst
    by_cases hb : b.toNat < 128
    · rw [decodeL_ascii b t hb] at hst
      simp only [List.drop_succ_cons, List.drop_zero] at hst
      rw [if_pos (toLowerU_range b.toNat (by omega)).1, lower_byte ⟨b.toNat, hb⟩] at hst
      have e : UInt8.ofNat b.toNat = b := by simp
      rw [e] at hst
      rw [hst] at hall
      intro c hc
      rcases List.mem_cons.1 hc with rfl | hc
      · rw [← hVal_lower c hb]; exact hall _ (by simp)
      · exact lower_hex k t (by simp at h; omega) (fun d hd => hall d (by simp [hd])) c hc
    · have hr : 128 ≤ (decodeL (b :: t)).1 := by
        cases hL : letterG (b :: t) with
        | none => rw [letter_none (by simp) hL]; decide
        | some x =>
          obtain ⟨n, w⟩ := x
          have := letter_high hL (by omega)
          rw [(letter_facts hL).2.2.2.2.2.2]; exact this
      have hx := lower_high ((decodeL (b :: t)).1 : Int) (by omega)
      exfalso
      rw [hst, if_pos (by omega)] at hall
      rcases hx with hx | hx | hx
      · obtain ⟨c, u, e, hc⟩ := enc_high _ hx
        rw [e] at hall
        exact hall c (by simp) (hVal_high _ (by omega))
      · rw [hx] at hall
        exact hall 105 (by simp [show encodeRune 105 = [105] from rfl]) rfl
      · rw [hx] at hall
        exact hall 107 (by simp [show encodeRune 107 = [107] from rfl]) rfl

theorem unhexG_all : ∀ (l acc x : List UInt8), unhexG acc l = some x → ∀ b ∈ l, hVal b.toNat ≠ none
  | [], _, _, _ => by simp
  | [a], _, _, h => by cases h
  | a :: b :: t, acc, x, h => by
    simp only [unhexG] at h
    split at h
    · rename_i p q e1 e2
      intro c hc
      rcases List.mem_cons.1 hc with rfl | hc
      · rw [e1]; simp
      rcases List.mem_cons.1 hc with rfl | hc
      · rw [e2]; simp
      · exact unhexG_all t _ _ h c hc
    · cases h

/-- Four bytes, made small, tell as digits what they told. -/
theorem lower_four (a b c d : UInt8) : unhexG [] (toLowerD [a, b, c, d]) = (fourG [a, b, c, d]).map fun n => [UInt8.ofNat (n / 256), UInt8.ofNat (n % 256)] := by
  cases hf : fourG [a, b, c, d] with
  | none =>
    cases hu : unhexG [] (toLowerD [a, b, c, d]) with
    | none => rfl
    | some x =>
      exfalso
      have h1 := lower_hex 4 [a, b, c, d] (by simp) (unhexG_all _ _ _ hu)
      have ha := h1 a (by simp)
      have hb := h1 b (by simp)
      have hc := h1 c (by simp)
      have hd := h1 d (by simp)
      cases ea : hexB a.toNat with
      | none => exact ha ea
      | some x1 =>
        cases eb : hexB b.toNat with
        | none => exact hb eb
        | some x2 =>
          cases ec : hexB c.toNat with
          | none => exact hc ec
          | some x3 =>
            cases ed : hexB d.toNat with
            | none => exact hd ed
            | some x4 => simp only [fourG, ea, eb, ec, ed] at hf; cases hf
  | some n =>
    have hasc := (fourG_facts hf).2.2
    simp only [fourG] at hf
    split at hf
    · rename_i x1 x2 x3 x4 ea eb ec ed
      have la := hexB_lt ea; have lb := hexB_lt eb; have lc := hexB_lt ec; have ld := hexB_lt ed
      rw [toLowerD_ascii _ (by intro v hv; simp at hv; rcases hv with rfl | rfl | rfl | rfl <;> omega)]
      simp only [toLowerA, List.map_cons, List.map_nil, unhexG]
      rw [hVal_lower a la.2, hVal_lower b lb.2, hVal_lower c lc.2, hVal_lower d ld.2, ea, eb, ec, ed]
      simp only [Option.some.injEq] at hf
      subst hf
      simp only [Option.map_some, List.nil_append, List.cons_append]
      congr 4 <;> omega
    · cases hf
end Go.Proofs.YtnjikipncgbjjaaGreatDoor

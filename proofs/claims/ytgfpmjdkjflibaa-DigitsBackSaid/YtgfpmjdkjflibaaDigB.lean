/- Contracts of value, FromOctal (the program's and the reference's), and the program's Num. -/
import Derived.Test.YtgfpmjdkjflibaaDigA
namespace Go.Proofs.Ytgfpmjdkjflibaa
open Go.RowKit
set_option linter.unusedVariables false

/-- What a byte tells as a hexadecimal digit; -1: nothing. -/
def hexW (c : Int) : Int := if 48 ≤ c ∧ c ≤ 57 then c - 48 else if 97 ≤ c ∧ c ≤ 102 then c - 87 else -1

theorem value_any (c : Int) (w : World) (h0 : 0 ≤ c) (h1 : c ≤ 255) :
    Calls Try.prog 23 #[.int .u8 c] w fun e w' => e = .returned (.int .i64 (hexW c)) ∧ w = w' := by
  go_enter Try.func23, Try.ntmps23
  go_wp2
  go_loop [3] (fun i => ∃ k : Nat, k ≤ 16 ∧ i = .int .i64 k ∧ Hid (∀ j : Int, 0 ≤ j → j < k → hexD j ≠ c)) (fun i => 16 - (intOf i).toNat)
  case atStart => exact ⟨0, by omega, rfl, fun j a b => by omega⟩
  case round =>
    obtain ⟨k, hk, rfl, hn⟩ := hrel
    by_cases hlt : k < 16
    · by_cases he : hexD k = c
      · have HE := Lib.hid he
        have het : (hexD k == c) = true := by simp [he]
        clear he
        go_wp2_with (go_at_call 24; refine (digit_any _ _ (by omega) (by omega)).mono ?_; rintro e w' ⟨rfl, rfl⟩)
        go_ret
        refine ⟨ret_int ?_, rfl⟩
        rw [← HE.out]
        unfold hexD hexW
        split
        · rw [if_pos (by omega)]; omega
        · rw [if_neg (by omega), if_pos (by omega)]; omega
      · have HE := Lib.hid he
        have het : (hexD k == c) = false := by simp [he]
        clear he
        go_wp2_with (go_at_call 24; refine (digit_any _ _ (by omega) (by omega)).mono ?_; rintro e w' ⟨rfl, rfl⟩)
        go_round
        case rel =>
          refine ⟨k + 1, by omega, by go_num, fun j a b => ?_⟩
          by_cases hj : j = k
          · rw [hj]; exact HE.out
          · exact hn.out j a (by omega)
        case measure => simp [intOf]; omega
    · go_wp2
      go_ret
      refine ⟨ret_int ?_, rfl⟩
      have hk16 : k = 16 := by omega
      subst hk16
      have := hn.out
      unfold hexW
      by_cases c1 : 48 ≤ c ∧ c ≤ 57
      · exact absurd (by unfold hexD; rw [if_pos (by omega)]; omega) (this (c - 48) (by omega) (by omega))
      · rw [if_neg c1]
        by_cases c2 : 97 ≤ c ∧ c ≤ 102
        · exact absurd (by unfold hexD; rw [if_neg (by omega)]; omega) (this (c - 87) (by omega) (by omega))
        · rw [if_neg c2]

theorem number8_some (s : ByteArray) (lim n : Nat) (w : World) (hs : s.size ≤ maxLen) (hl : 100 ≤ lim) (hl2 : lim ≤ 9223372036854775808) (H : Hid (numB 8 lim s.data.toList = some n)) :
    Calls Try.prog 20 #[.string s, .int .u64 8, .int .u64 lim] w fun e w' => e = .returned (.tuple #[.int .u64 n, .bool true]) ∧ w = w' := by
  have h := number8_any s lim w hs hl hl2
  rw [H.out] at h; exact h
theorem number8_none (s : ByteArray) (lim : Nat) (w : World) (hs : s.size ≤ maxLen) (hl : 100 ≤ lim) (hl2 : lim ≤ 9223372036854775808) (H : Hid (numB 8 lim s.data.toList = none)) :
    Calls Try.prog 20 #[.string s, .int .u64 8, .int .u64 lim] w fun e w' => e = .returned (.tuple #[.int .u64 0, .bool false]) ∧ w = w' := by
  have h := number8_any s lim w hs hl hl2
  rw [H.out] at h; exact h
theorem number10_some (s : ByteArray) (lim n : Nat) (w : World) (hs : s.size ≤ maxLen) (hl : 100 ≤ lim) (hl2 : lim ≤ 9223372036854775808) (H : Hid (numB 10 lim s.data.toList = some n)) :
    Calls Try.prog 20 #[.string s, .int .u64 10, .int .u64 lim] w fun e w' => e = .returned (.tuple #[.int .u64 n, .bool true]) ∧ w = w' := by
  have h := number10_any s lim w hs hl hl2
  rw [H.out] at h; exact h
theorem number10_none (s : ByteArray) (lim : Nat) (w : World) (hs : s.size ≤ maxLen) (hl : 100 ≤ lim) (hl2 : lim ≤ 9223372036854775808) (H : Hid (numB 10 lim s.data.toList = none)) :
    Calls Try.prog 20 #[.string s, .int .u64 10, .int .u64 lim] w fun e w' => e = .returned (.tuple #[.int .u64 0, .bool false]) ∧ w = w' := by
  have h := number10_any s lim w hs hl hl2
  rw [H.out] at h; exact h

theorem numB_le (b lim : Nat) (l : List UInt8) (n : Nat) (h : numB b lim l = some n) : n ≤ lim := by
  unfold numB at h
  split at h
  · cases h
  · exact valLoop_le b lim l 0 n (Nat.zero_le _) h

/-- What an answer with an int and a bool tells. -/
def pairI (o : Option Int) : Value := match o with | some n => .tuple #[.int .i64 n, .bool true] | none => .tuple #[.int .i64 0, .bool false]
/-- What an answer with a number that is not negative and a bool tells. -/
def pairN (o : Option Nat) : Value := match o with | some n => .tuple #[.int .i64 n, .bool true] | none => .tuple #[.int .i64 0, .bool false]
/-- The number that octal digits tell, at most 21 of them. -/
def octN (l : List UInt8) : Option Nat := if l.length ≤ 21 then numB 8 9223372036854775807 l else none

theorem fromOctal_any (s : ByteArray) (w : World) (hs : s.size ≤ maxLen) :
    Calls Try.prog 14 #[.string s] w fun e w' => e = .returned (pairN (octN s.data.toList)) ∧ w = w' := by
  have hs' := hs
  unfold maxLen at hs
  have hl : s.data.toList.length = s.size := by simp
  unfold octN
  rw [hl]
  by_cases h21 : s.size ≤ 21
  · rw [if_pos h21]
    cases hn : numB 8 9223372036854775807 s.data.toList with
    | none =>
      have HN := Lib.hid hn
      clear hn hl
      go_enter Try.func14, Try.ntmps14
      go_wp2_with (go_at_call 20; refine (number8_none s 9223372036854775807 _ hs' (by omega) (by omega) HN).mono ?_; rintro e w' ⟨rfl, rfl⟩)
      go_ret2
      exact ⟨rfl, rfl⟩
    | some n =>
      have hle := numB_le _ _ _ _ hn
      have HN := Lib.hid hn
      clear hn hl
      go_enter Try.func14, Try.ntmps14
      go_wp2_with (go_at_call 20; refine (number8_some s 9223372036854775807 n _ hs' (by omega) (by omega) HN).mono ?_; rintro e w' ⟨rfl, rfl⟩)
      go_ret2
      exact ⟨rfl, rfl⟩
  · rw [if_neg h21]
    clear hl
    go_enter Try.func14, Try.ntmps14
    go_wp2
    go_ret2
    exact ⟨rfl, rfl⟩

theorem octN_loop (l : List UInt8) (h : l.length ≤ 21) (hne : l ≠ []) : octN l = valLoop 8 9223372036854775807 0 l := by
  unfold octN numB; rw [if_pos h, if_neg hne]

theorem refFromOctal_any (s : ByteArray) (w : World) (hs : s.size ≤ maxLen) :
    Calls Try.prog 15 #[.string s] w fun e w' => e = .returned (pairN (octN s.data.toList)) ∧ w = w' := by
  have hl : s.data.toList.length = s.size := by simp
  by_cases h21 : 1 ≤ s.size ∧ s.size ≤ 21
  · have hne : s.data.toList ≠ [] := by intro h; rw [h] at hl; simp at hl; omega
    rw [octN_loop _ (by omega) hne]
    obtain ⟨h1, h2⟩ := h21
    clear hl hne
    go_enter Try.func15, Try.ntmps15
    go_wp2
    go_loop [4, 5] (fun n i => ∃ k m : Nat, k ≤ s.size ∧ i = .int .i64 k ∧ n = .int .i64 m ∧ m ≤ 9223372036854775807 ∧ Hid (valLoop 8 9223372036854775807 m (s.data.toList.drop k) = valLoop 8 9223372036854775807 0 s.data.toList)) (fun _ i => s.size - (intOf i).toNat)
    case atStart => exact ⟨0, 0, Nat.zero_le _, rfl, rfl, Nat.zero_le _, rfl⟩
    case round =>
      obtain ⟨k, m, hk, rfl, rfl, hm, hv⟩ := hrel
      by_cases hlt : k < s.size
      · have hd := drop_cons s k hlt
        have HD := Lib.hid hd
        clear hd
        have b1 : (s[k].toNat : Int) ≤ 255 := by have := UInt8.toNat_lt s[k]; omega
        have b0 : 0 ≤ (s[k].toNat : Int) := by omega
        by_cases hc : 48 ≤ (s[k].toNat : Int) ∧ (s[k].toNat : Int) ≤ 55 ∧ (m : Int) ≤ 1152921504606846975
        · obtain ⟨c1, c2, c3⟩ := hc
          go_wp2
          go_round
          case rel =>
            refine ⟨k + 1, m * 8 + (s[k].toNat - 48), by omega, by go_num, ?_, by omega, ?_⟩
            · congr 1; omega
            · have := hv.out
              rw [HD.out] at this
              simp only [valLoop] at this
              rw [if_pos (by omega)] at this
              exact this
          case measure => simp [intOf]; omega
        · have hno : valLoop 8 9223372036854775807 0 s.data.toList = none := by
            rw [← hv.out, HD.out]
            simp only [valLoop]
            rw [if_neg (by omega)]
          have HNO := Lib.hid hno
          clear hno
          go_wp2
          all_goals go_ret2
          all_goals exact ⟨by rw [HNO.out]; rfl, rfl⟩
      · have hks : k = s.size := by omega
        have HV := Lib.hid (show valLoop 8 9223372036854775807 0 s.data.toList = some m by rw [← hv.out, hks, List.drop_of_length_le (by simp)]; rfl)
        clear hks
        go_wp2
        go_ret2
        exact ⟨by rw [HV.out]; rfl, rfl⟩
  · have hno : octN s.data.toList = none := by
      unfold octN
      split
      · have : s.data.toList = [] := by apply List.eq_nil_of_length_eq_zero; omega
        rw [this]; rfl
      · rfl
    rw [hno]
    clear hno hl
    go_enter Try.func15, Try.ntmps15
    go_wp2
    all_goals go_ret2
    all_goals first | exact ⟨rfl, rfl⟩ | omega

theorem natOf_zero (lim : Nat) (l : List UInt8) (h : l[0]? = some 48) (h2 : 1 < l.length) : natOf lim l = none := by
  cases l with
  | nil => simp at h
  | cons c t =>
    simp at h
    subst h
    simp only [natOf]
    rw [if_pos (by simp; rintro rfl; simp at h2)]
theorem natOf_num (lim : Nat) (l : List UInt8) (h : ¬ (l[0]? = some 48 ∧ 1 < l.length)) : natOf lim l = numB 10 lim l := by
  cases l with
  | nil => rfl
  | cons c t =>
    simp only [natOf, numB]
    rw [if_neg, if_neg (by simp)]
    rintro ⟨rfl, ht⟩
    apply h
    cases t with
    | nil => exact absurd rfl ht
    | cons a t => simp

theorem numZ_pos (l : List UInt8) (h : l[0]? ≠ some 45) : numZ l = (natOf 9223372036854775807 l).map fun m => (m : Int) := by
  unfold numZ
  split
  · simp at h
  · rfl
theorem numZ_neg (t : List UInt8) : numZ (45 :: t) = (natOf 9223372036854775808 t).bind fun m => if m = 0 then none else some (-(m : Int)) := rfl
theorem head_at (s : ByteArray) (h : 0 < s.size) : s.data.toList = s[0] :: s.data.toList.drop 1 := by
  have := drop_cons s 0 h
  simpa using this
theorem tail_data (s : ByteArray) : (s.extract 1 s.size).data.toList = s.data.toList.drop 1 := by
  rw [Lib.extract_data]
  apply List.take_of_length_le
  simp

theorem ret_pairI {a b : Int} (h : a = b) : Ending.returned (.tuple #[.int .i64 a, .bool true]) = .returned (pairI (some b)) := by rw [h]; rfl
theorem wrap_neg (n : Nat) (h1 : 1 ≤ n) (h2 : n ≤ 9223372036854775808) : wrap64 (IntKind.u64.wrap (-(n : Int))) = -(n : Int) := by
  rw [IntKind.wrap_u64]; unfold wrap64; omega

theorem num_any (s : ByteArray) (w : World) (hs : s.size ≤ maxLen) :
    Calls Try.prog 8 #[.string s] w fun e w' => e = .returned (pairI (numZ s.data.toList)) ∧ w = w' := by
  have hs' := hs
  unfold maxLen at hs
  have hl : s.data.toList.length = s.size := by simp
  by_cases h0 : s.size = 0
  · have hl0 : s.data.toList = [] := List.eq_nil_of_length_eq_zero (by omega)
    have hne : s.toList.isEmpty = true := by rw [toList_eq, hl0]; rfl
    have hno : numZ s.data.toList = none := by rw [hl0]; rfl
    have HN := Lib.hid (show numB 10 9223372036854775807 s.data.toList = none by rw [hl0]; rfl)
    rw [hno]
    clear hno hl0 hl
    go_enter Try.func8, Try.ntmps8
    go_wp2_with (go_at_call 20; refine (number10_none s 9223372036854775807 _ hs' (by omega) (by omega) HN).mono ?_; rintro e w' ⟨rfl, rfl⟩)
    go_ret2
    exact ⟨rfl, rfl⟩
  · have hpos : 0 < s.size := by omega
    have hne : s.toList.isEmpty = false := by
      rw [toList_eq]; cases hq : s.data.toList with
      | nil => rw [hq] at hl; simp at hl; omega
      | cons _ _ => rfl
    have hh := head_at s hpos
    clear h0
    by_cases hm : s[0].toNat = 45
    · have h45 : s[0] = 45 := UInt8.toNat_inj.1 hm
      rw [h45] at hh
      have hnz : numZ s.data.toList = (natOf 9223372036854775808 (s.data.toList.drop 1)).bind fun m => if m = 0 then none else some (-(m : Int)) := by
        conv => lhs; rw [hh]
        exact numZ_neg _
      rw [hnz]
      have hmm : ((s[0].toNat : Int) == 45) = true := by simp; omega
      obtain ⟨t, ht⟩ : ∃ t, s.extract 1 s.size = t := ⟨_, rfl⟩
      have htd : t.data.toList = s.data.toList.drop 1 := by rw [← ht]; exact tail_data s
      have hts : t.size = s.size - 1 := by rw [Lib.size_eq, htd, List.length_drop, hl]
      rw [← htd]
      have htm : t.size ≤ maxLen := by omega
      clear hh h45 hl hnz hm htd
      by_cases h1 : t.size = 0
      · have hl0 : t.data.toList = [] := List.eq_nil_of_length_eq_zero (by rw [← Lib.size_eq]; exact h1)
        have hte : t.toList.isEmpty = true := by rw [toList_eq, hl0]; rfl
        have HN := Lib.hid (show numB 10 9223372036854775808 t.data.toList = none by rw [hl0]; rfl)
        rw [hl0]
        clear hl0 h1
        have hts' := Lib.hid hts
        clear hts
        go_enter Try.func8, Try.ntmps8
        go_wp2_with (go_at_call 20; refine (number10_none t 9223372036854775808 _ htm (by omega) (by omega) HN).mono ?_; rintro e w' ⟨rfl, rfl⟩)
        go_ret2
        exact ⟨rfl, rfl⟩
      · have htp : 0 < t.size := by omega
        have htn : t.toList.isEmpty = false := by
          rw [toList_eq]; cases hq : t.data.toList with
          | nil => have := Lib.size_eq t; rw [hq, List.length_nil] at this; omega
          | cons _ _ => rfl
        have hth := head_at t htp
        have hts' := Lib.hid hts
        clear hts h1
        by_cases hz : t[0].toNat = 48
        · have hzz : ((t[0].toNat : Int) == 48) = true := by simp; omega
          have hno : ((natOf 9223372036854775808 t.data.toList).bind fun m => if m = 0 then none else some (-(m : Int))) = none := by
            have e48 : t[0] = 48 := UInt8.toNat_inj.1 hz
            by_cases h2 : 1 < t.data.toList.length
            · rw [natOf_zero _ _ (by rw [hth]; simp; exact e48) h2]; rfl
            · have : t.data.toList = [48] := by
                rw [e48] at hth
                cases hq : t.data.toList.drop 1 with
                | nil => rw [hq] at hth; exact hth
                | cons _ _ => rw [hq] at hth; rw [hth] at h2; simp at h2
              rw [this]; rfl
          rw [hno]
          clear hno hth hz
          go_enter Try.func8, Try.ntmps8
          go_wp2
          go_ret2
          exact ⟨rfl, rfl⟩
        · have hzz : ((t[0].toNat : Int) == 48) = false := by simp; omega
          have hnn := natOf_num 9223372036854775808 t.data.toList (by rw [hth]; simp; intro h; rw [h] at hz; exact absurd rfl hz)
          rw [hnn]
          cases hn : numB 10 9223372036854775808 t.data.toList with
          | none =>
            have HN := Lib.hid hn
            clear hn hnn hth hz
            go_enter Try.func8, Try.ntmps8
            go_wp2_with (go_at_call 20; refine (number10_none t 9223372036854775808 _ htm (by omega) (by omega) HN).mono ?_; rintro e w' ⟨rfl, rfl⟩)
            go_ret2
            exact ⟨rfl, rfl⟩
          | some n =>
            have hle := numB_le _ _ _ _ hn
            have hn1 : 1 ≤ n := by
              rw [← hnn] at hn
              have := ((natOf_iff _ _ _).1 hn).2
              rcases Nat.eq_zero_or_pos n with h | h
              · subst h; rw [decN_small 0 (by omega), hth] at this
                simp at this; rw [← this.1] at hz; exact absurd rfl hz
              · exact h
            have hres : ((some n).bind fun m => if m = 0 then none else some (-(m : Int))) = some (-(n : Int)) := by
              simp only [Option.bind_some]; rw [if_neg (by omega)]
            rw [hres]
            have HN := Lib.hid hn
            clear hn hnn hth hz hres
            go_enter Try.func8, Try.ntmps8
            go_wp2_with (go_at_call 20; refine (number10_some t 9223372036854775808 n _ htm (by omega) (by omega) HN).mono ?_; rintro e w' ⟨rfl, rfl⟩)
            go_ret2
            refine ⟨?_, rfl⟩
            exact ret_pairI (wrap_neg n hn1 hle)
    · have hmm : ((s[0].toNat : Int) == 45) = false := by simp; omega
      have hnz : numZ s.data.toList = (natOf 9223372036854775807 s.data.toList).map fun m => (m : Int) := numZ_pos _ (by rw [hh]; simp; intro h; rw [h] at hm; exact hm rfl)
      by_cases hz : s[0].toNat = 48 ∧ 1 < s.size
      · have hzz : ((s[0].toNat : Int) == 48) = true := by simp; omega
        have hno : numZ s.data.toList = none := by
          rw [hnz, natOf_zero _ _ (by rw [hh]; simp; exact UInt8.toNat_inj.1 hz.1) (by omega)]; rfl
        rw [hno]
        obtain ⟨_, hz2⟩ := hz
        clear hno hl hnz hh hm
        go_enter Try.func8, Try.ntmps8
        go_wp2
        all_goals go_ret2
        all_goals exact ⟨rfl, rfl⟩
      · have hnn := natOf_num 9223372036854775807 s.data.toList (by
          rintro ⟨q1, q2⟩
          rw [hh] at q1
          simp at q1
          rw [q1] at hz
          exact hz ⟨rfl, by rw [← hl]; exact q2⟩)
        rw [hnz, hnn]
        have hz2 : s[0].toNat ≠ 48 ∨ s.size ≤ 1 := by
          by_cases q : s[0].toNat = 48
          · exact Or.inr (Nat.le_of_not_lt fun h => hz ⟨q, h⟩)
          · exact Or.inl q
        cases hn : numB 10 9223372036854775807 s.data.toList with
        | none =>
          have HN := Lib.hid hn
          clear hn hnn hnz hh hl hz
          have hz3 : ((s[0].toNat : Int) == 48) = false ∨ (s.size : Int) ≤ 1 := by rcases hz2 with h | h; (left; simp; omega); (right; omega)
          rcases hz3 with hz3 | hz3
          all_goals
            go_enter Try.func8, Try.ntmps8
            go_wp2_with (go_at_call 20; refine (number10_none s 9223372036854775807 _ hs' (by omega) (by omega) HN).mono ?_; rintro e w' ⟨rfl, rfl⟩)
            all_goals go_ret2
            all_goals exact ⟨rfl, rfl⟩
        | some n =>
          have hle := numB_le _ _ _ _ hn
          have HN := Lib.hid hn
          clear hn hnn hnz hh hl hz
          have hz3 : ((s[0].toNat : Int) == 48) = false ∨ (s.size : Int) ≤ 1 := by rcases hz2 with h | h; (left; simp; omega); (right; omega)
          rcases hz3 with hz3 | hz3
          all_goals
            go_enter Try.func8, Try.ntmps8
            go_wp2_with (go_at_call 20; refine (number10_some s 9223372036854775807 n _ hs' (by omega) (by omega) HN).mono ?_; rintro e w' ⟨rfl, rfl⟩)
            all_goals go_ret2
            all_goals exact ⟨rfl, rfl⟩
end Go.Proofs.Ytgfpmjdkjflibaa

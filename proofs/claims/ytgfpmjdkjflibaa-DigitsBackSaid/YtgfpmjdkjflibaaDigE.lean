/- Contract of the reference's Num: the number whose decimal digits a text is. -/
import Derived.Test.YtgfpmjdkjflibaaDigD
namespace Go.Proofs.Ytgfpmjdkjflibaa
open Go.RowKit
set_option linter.unusedVariables false

theorem decZ_length (z : Int) (h0 : -9223372036854775808 ≤ z) (h1 : z ≤ 9223372036854775807) : (decZ z).length ≤ 20 := by
  have := decN_length 18 z.natAbs (by omega)
  unfold decZ
  split
  · simp; omega
  · omega

/-- What is told of a text whose first byte is no '-', once its digits are counted. -/
def posOut (l : List UInt8) (o : Option Nat) : Option Int :=
  match o with | some v => if v ≤ 9223372036854775807 ∧ decZ (v : Int) = l then some (v : Int) else none | none => none
def negOut (l : List UInt8) (o : Option Nat) : Option Int :=
  match o with | some v => if decZ (-(v : Int)) = l then some (-(v : Int)) else none | none => none

theorem numZ_posOut (l : List UInt8) (h : l[0]? ≠ some 45) : numZ l = posOut l (valLoop 10 9223372036854775808 0 l) := by
  apply Option.ext
  intro z
  rw [numZ_iff]
  constructor
  · rintro ⟨h0, h1, h2⟩
    have hz : 0 ≤ z := by
      rcases Int.lt_or_le z 0 with q | q
      · unfold decZ at h2; rw [if_pos q] at h2; rw [← h2] at h; simp at h
      · exact q
    have hl : decN z.natAbs = l := by unfold decZ at h2; rw [if_neg (by omega)] at h2; exact h2
    have hv := valLoop_decN 9223372036854775808 z.natAbs (by omega)
    rw [hl] at hv
    rw [hv]
    have hza : ((z.natAbs : Nat) : Int) = z := by omega
    simp only [posOut]
    rw [hza, if_pos ⟨by omega, h2⟩]
  · intro ho
    unfold posOut at ho
    split at ho
    · split at ho
      · rename_i hc
        cases ho
        exact ⟨by omega, by omega, hc.2⟩
      · cases ho
    · cases ho

theorem numZ_negOut (t : List UInt8) : numZ (45 :: t) = negOut (45 :: t) (valLoop 10 9223372036854775808 0 t) := by
  apply Option.ext
  intro z
  rw [numZ_iff]
  constructor
  · rintro ⟨h0, h1, h2⟩
    have hz : z < 0 := by
      rcases Int.lt_or_le z 0 with q | q
      · exact q
      · unfold decZ at h2; rw [if_neg (by omega)] at h2; exact absurd h2 (decN_head _ _)
    have hl : decN z.natAbs = t := by unfold decZ at h2; rw [if_pos hz] at h2; simpa using h2
    have hv := valLoop_decN 9223372036854775808 z.natAbs (by omega)
    rw [hl] at hv
    rw [hv]
    have hza : -((z.natAbs : Nat) : Int) = z := by omega
    simp only [negOut]
    rw [hza, if_pos h2]
  · intro ho
    unfold negOut at ho
    split at ho
    · rename_i v hv
      split at ho
      · rename_i hc
        cases ho
        have := valLoop_le _ _ _ _ _ (Nat.zero_le _) hv
        exact ⟨by omega, by omega, hc⟩
      · cases ho
    · cases ho

theorem digit_cases (c v : Int) (h0 : 0 ≤ c) (hv0 : 0 ≤ v) :
    ((0 ≤ c - 48 ∧ c - 48 ≤ 9 ∧ v ≤ 922337203685477579) ∨ (0 ≤ c - 48 ∧ c - 48 ≤ 8 ∧ v = 922337203685477580)) ∨
    (c - 48 < 0 ∨ (0 ≤ c - 48 ∧ 9 < c - 48) ∨ (0 ≤ c - 48 ∧ c - 48 ≤ 9 ∧ 922337203685477580 < v) ∨ (0 ≤ c - 48 ∧ c - 48 ≤ 9 ∧ v = 922337203685477580 ∧ 8 < c - 48)) := by omega

/-- One step of the count, as the reference keeps it (below 0). -/
theorem count_step (lim v c : Nat) (t : List UInt8) (u : UInt8) (hu : u.toNat = c) (hl1 : lim ≤ 9223372036854775808) (hl2 : 9223372036854775808 ≤ lim)
    (h : ((0 : Int) ≤ c - 48 ∧ (c : Int) - 48 ≤ 9 ∧ (v : Int) ≤ 922337203685477579) ∨ ((0 : Int) ≤ c - 48 ∧ (c : Int) - 48 ≤ 8 ∧ (v : Int) = 922337203685477580)) :
    valLoop 10 lim v (u :: t) = valLoop 10 lim (v * 10 + (c - 48)) t ∧ v * 10 + (c - 48) ≤ lim ∧ 10 * -(v : Int) - ((c : Int) - 48) = -((v * 10 + (c - 48) : Nat) : Int) := by
  simp only [valLoop]
  rw [hu, if_pos (by omega)]
  exact ⟨rfl, by omega, by omega⟩
theorem count_stop (lim v c : Nat) (t : List UInt8) (u : UInt8) (hu : u.toNat = c) (hl1 : lim ≤ 9223372036854775808) (hl2 : 9223372036854775808 ≤ lim)
    (h : (c : Int) - 48 < 0 ∨ (0 ≤ (c : Int) - 48 ∧ 9 < (c : Int) - 48) ∨ (0 ≤ (c : Int) - 48 ∧ (c : Int) - 48 ≤ 9 ∧ 922337203685477580 < (v : Int)) ∨ (0 ≤ (c : Int) - 48 ∧ (c : Int) - 48 ≤ 9 ∧ (v : Int) = 922337203685477580 ∧ 8 < (c : Int) - 48)) :
    valLoop 10 lim v (u :: t) = none := by
  simp only [valLoop]
  rw [hu, if_neg (by omega)]

set_option maxHeartbeats 1000000 in
set_option maxRecDepth 100000 in
theorem refNum_pos (s : ByteArray) (lim : Nat) (hl1 : lim ≤ 9223372036854775808) (hl2 : 9223372036854775808 ≤ lim) (w : World) (h1 : 1 ≤ s.size) (h2 : s.size ≤ 20) (hpos : 0 < s.size) (hmm : ((s[0].toNat : Int) == 45) = false) :
    Calls Try.prog 9 #[.string s] w fun e w' => e = .returned (pairI (posOut s.data.toList (valLoop 10 lim 0 s.data.toList))) ∧ Below w.heap.size w w' := by
  go_enter Try.func9, Try.ntmps9
  go_wp2_with fail
  go_loop [4, 5] (fun n i => ∃ k v : Nat, k ≤ s.size ∧ i = .int .i64 k ∧ n = .int .i64 (-(v : Int)) ∧ v ≤ lim ∧ Hid (valLoop 10 lim v (s.data.toList.drop k) = valLoop 10 lim 0 s.data.toList)) (fun _ i => s.size - (intOf i).toNat)
  case atStart => exact ⟨0, 0, Nat.zero_le _, rfl, rfl, Nat.zero_le _, rfl⟩
  case round =>
    obtain ⟨k, v, hk, rfl, rfl, hv9, hv⟩ := hrel
    by_cases hlt : k < s.size
    · have HD := Lib.hid (drop_cons s k hlt)
      have b1 : (s[k].toNat : Int) ≤ 255 := by have := UInt8.toNat_lt s[k]; omega
      have b0 : 0 ≤ (s[k].toNat : Int) := by omega
      have hk45 : ((k : Int) == 0) = false ∨ (((k : Int) == 0) = true ∧ ((s[k].toNat : Int) == 45) = false) := by
        by_cases q : k = 0
        · subst q; exact Or.inr ⟨rfl, hmm⟩
        · exact Or.inl (by simp; omega)
      clear hmm
      rcases digit_cases (s[k].toNat : Int) (v : Int) b0 (by omega) with hok | hno
      · have hst := count_step lim v s[k].toNat (s.data.toList.drop (k + 1)) s[k] rfl hl1 hl2 hok
        obtain ⟨e1, e2, e3⟩ := hst
        have E1 := Lib.hid e1
        have E3 := Lib.hid e3
        clear e1 e3
        have HL1 := Lib.hid hl1
        have HL2 := Lib.hid hl2
        clear hl1 hl2
        rcases hok with ⟨c1, c2, c3⟩ | ⟨c1, c2, c3⟩
        all_goals rcases hk45 with hk0 | ⟨hk0, h45⟩
        all_goals
          go_wp2_with fail
          go_round
          case rel =>
            refine ⟨k + 1, v * 10 + (s[k].toNat - 48), by omega, by first | go_num | (congr 1; omega), by first | (rw [E3.out]; done) | (congr 1; omega), e2, ?_⟩
            show valLoop 10 lim _ _ = _
            rw [← E1.out, ← HD.out]; exact hv.out
          case measure => simp [intOf]; omega
      · have hst := Lib.hid (count_stop lim v s[k].toNat (s.data.toList.drop (k + 1)) s[k] rfl hl1 hl2 hno)
        have HNO : Hid (valLoop 10 lim 0 s.data.toList = none) := by
          show valLoop 10 lim 0 s.data.toList = none
          rw [← hv.out, HD.out]; exact hst.out
        clear hl1 hl2 hst hv HD
        rcases hno with c1 | ⟨c1, c2⟩ | ⟨c1, c2, c3⟩ | ⟨c1, c2, c3, c4⟩
        all_goals rcases hk45 with hk0 | ⟨hk0, h45⟩
        all_goals
          go_wp2_with fail
          go_ret2
          exact ⟨by rw [HNO.out]; rfl, Below.refl _ _⟩
    · have hks : k = s.size := by omega
      have HV := Lib.hid (show valLoop 10 lim 0 s.data.toList = some v by rw [← hv.out, hks, List.drop_of_length_le (by simp)]; rfl)
      have hne : ((s[0].toNat : Int) != 45) = true := by simp [bne, hmm]
      have HL1 := Lib.hid hl1
      have HL2 := Lib.hid hl2
      clear hks hl1 hl2 hv
      by_cases hq : v ≤ 9223372036854775807
      · by_cases hd : decZ (v : Int) = s.data.toList
        · have hdt : (decZ (v : Int) == s.toList) = true := by rw [toList_eq]; simpa using hd
          have HD := Lib.hid hd
          clear hd
          go_wp2_with (go_at_call 11; refine (refDec_any v _ (by omega) (by omega)).mono ?_; rintro e w' ⟨rfl, hb⟩)
          go_ret2
          exact ⟨by rw [HV.out]; unfold posOut; simp only; rw [if_pos ⟨hq, HD.out⟩]; rfl, hb⟩
        · have hdt : (decZ (v : Int) == s.toList) = false := by rw [toList_eq]; simpa using hd
          have HD := Lib.hid hd
          clear hd
          go_wp2_with (go_at_call 11; refine (refDec_any v _ (by omega) (by omega)).mono ?_; rintro e w' ⟨rfl, hb⟩)
          go_ret2
          exact ⟨by rw [HV.out]; unfold posOut; simp only; rw [if_neg (fun h => HD.out h.2)]; rfl, hb⟩
      · have hv8 : (v : Int) = 9223372036854775808 := by have := HL1.out; omega
        have HQ := Lib.hid hq
        clear hq
        go_wp2_with fail
        go_ret2
        exact ⟨by rw [HV.out]; unfold posOut; simp only; rw [if_neg (fun h => HQ.out h.1)]; rfl, Below.refl _ _⟩

set_option maxHeartbeats 1000000 in
set_option maxRecDepth 100000 in
theorem refNum_neg (s : ByteArray) (t : List UInt8) (HT : Hid (s.data.toList.drop 1 = t)) (lim : Nat) (hl1 : lim ≤ 9223372036854775808) (hl2 : 9223372036854775808 ≤ lim) (w : World) (h1 : 1 ≤ s.size) (h2 : s.size ≤ 20) (hpos : 0 < s.size) (hmm : ((s[0].toNat : Int) == 45) = true) :
    Calls Try.prog 9 #[.string s] w fun e w' => e = .returned (pairI (negOut s.data.toList (valLoop 10 lim 0 t))) ∧ Below w.heap.size w w' := by
  go_enter Try.func9, Try.ntmps9
  go_wp2_with fail
  go_loop [4, 5] (fun n i => ∃ k v : Nat, k ≤ s.size ∧ i = .int .i64 k ∧ n = .int .i64 (-(v : Int)) ∧ v ≤ lim ∧ Hid ((k = 0 ∧ v = 0) ∨ (1 ≤ k ∧ valLoop 10 lim v (s.data.toList.drop k) = valLoop 10 lim 0 t))) (fun _ i => s.size - (intOf i).toNat)
  case atStart => exact ⟨0, 0, Nat.zero_le _, rfl, rfl, Nat.zero_le _, Or.inl ⟨rfl, rfl⟩⟩
  case round =>
    obtain ⟨k, v, hk, rfl, rfl, hv9, hv⟩ := hrel
    by_cases hlt : k < s.size
    · by_cases hk0 : k = 0
      · have hv0 : Hid (v = 0) := by rcases hv.out with h | h; exact h.2; exact absurd h.1 (by omega)
        subst hk0
        have hnn : s[0].toNat = 45 := by have := hmm; simp at this; omega
        have HL1 := Lib.hid hl1
        have HL2 := Lib.hid hl2
        clear hl1 hl2 hv hnn
        go_wp2_with fail
        go_round
        case rel => exact ⟨1, v, by omega, by rfl, by rfl, hv9, Or.inr ⟨by omega, by rw [hv0.out, HT.out]⟩⟩
        case measure => simp [intOf]; omega
      · have hvv : valLoop 10 lim v (s.data.toList.drop k) = valLoop 10 lim 0 t := by rcases hv.out with h | h; exact absurd h.1 hk0; exact h.2
        have HVV := Lib.hid hvv
        have hk0 : ((k : Int) == 0) = false := by simp; omega
        clear hv hvv
        have HD := Lib.hid (drop_cons s k hlt)
        have b1 : (s[k].toNat : Int) ≤ 255 := by have := UInt8.toNat_lt s[k]; omega
        have b0 : 0 ≤ (s[k].toNat : Int) := by omega
        clear hmm
        rcases digit_cases (s[k].toNat : Int) (v : Int) b0 (by omega) with hok | hno
        · have hst := count_step lim v s[k].toNat (s.data.toList.drop (k + 1)) s[k] rfl hl1 hl2 hok
          obtain ⟨e1, e2, e3⟩ := hst
          have E1 := Lib.hid e1
          have E3 := Lib.hid e3
          clear e1 e3
          have HL1 := Lib.hid hl1
          have HL2 := Lib.hid hl2
          clear hl1 hl2
          rcases hok with ⟨c1, c2, c3⟩ | ⟨c1, c2, c3⟩
          all_goals
            go_wp2_with fail
            go_round
            case rel =>
              refine ⟨k + 1, v * 10 + (s[k].toNat - 48), by omega, by first | go_num | (congr 1; omega), by first | (rw [E3.out]; done) | (congr 1; omega), e2, Or.inr ⟨by omega, ?_⟩⟩
              rw [← E1.out, ← HD.out]; exact HVV.out
            case measure => simp [intOf]; omega
        · have hst := Lib.hid (count_stop lim v s[k].toNat (s.data.toList.drop (k + 1)) s[k] rfl hl1 hl2 hno)
          have HNO : Hid (valLoop 10 lim 0 t = none) := by
            show valLoop 10 lim 0 t = none
            rw [← HVV.out, HD.out]; exact hst.out
          clear hl1 hl2 hst HVV HD
          rcases hno with c1 | ⟨c1, c2⟩ | ⟨c1, c2, c3⟩ | ⟨c1, c2, c3, c4⟩
          all_goals
            go_wp2_with fail
            go_ret2
            exact ⟨by rw [HNO.out]; rfl, Below.refl _ _⟩
    · have hks : k = s.size := by omega
      have hvv : valLoop 10 lim v (s.data.toList.drop k) = valLoop 10 lim 0 t := by rcases hv.out with h | h; exact absurd h.1 (by omega); exact h.2
      have HV := Lib.hid (show valLoop 10 lim 0 t = some v by rw [← hvv, hks, List.drop_of_length_le (by simp)]; rfl)
      have hne : ((s[0].toNat : Int) != 45) = false := by simp [bne, hmm]
      have HL1 := Lib.hid hl1
      have HL2 := Lib.hid hl2
      have hv2 : (v : Int) ≤ 9223372036854775808 := by omega
      clear hks hl1 hl2 hv hvv
      by_cases hd : decZ (-(v : Int)) = s.data.toList
      · have hdt : (decZ (-(v : Int)) == s.toList) = true := by rw [toList_eq]; simpa using hd
        have HD := Lib.hid hd
        clear hd
        go_wp2_with (go_at_call 11; refine (refDec_any (-(v : Int)) _ (by omega) (by omega)).mono ?_; rintro e w' ⟨rfl, hb⟩)
        go_ret2
        exact ⟨by rw [HV.out]; unfold negOut; simp only; rw [if_pos HD.out]; rfl, hb⟩
      · have hdt : (decZ (-(v : Int)) == s.toList) = false := by rw [toList_eq]; simpa using hd
        have HD := Lib.hid hd
        clear hd
        go_wp2_with (go_at_call 11; refine (refDec_any (-(v : Int)) _ (by omega) (by omega)).mono ?_; rintro e w' ⟨rfl, hb⟩)
        go_ret2
        exact ⟨by rw [HV.out]; unfold negOut; simp only; rw [if_neg HD.out]; rfl, hb⟩

theorem refNum_any (s : ByteArray) (w : World) (hs : s.size ≤ maxLen) :
    Calls Try.prog 9 #[.string s] w fun e w' => e = .returned (pairI (numZ s.data.toList)) ∧ Below w.heap.size w w' := by
  have hl : s.data.toList.length = s.size := by simp
  by_cases h20 : 1 ≤ s.size ∧ s.size ≤ 20
  · obtain ⟨h1, h2⟩ := h20
    have hpos : 0 < s.size := h1
    have hh := head_at s hpos
    by_cases hm : s[0].toNat = 45
    · have h45 : s[0] = 45 := UInt8.toNat_inj.1 hm
      have e := numZ_negOut (s.data.toList.drop 1)
      rw [h45] at hh
      rw [← hh] at e
      rw [e]
      exact refNum_neg s _ rfl _ (Nat.le_refl _) (Nat.le_refl _) w h1 h2 hpos (by simp; omega)
    · rw [numZ_posOut _ (by rw [hh]; simp; intro h; rw [h] at hm; exact hm rfl)]
      exact refNum_pos s _ (Nat.le_refl _) (Nat.le_refl _) w h1 h2 hpos (by simp; omega)
  · have hno : numZ s.data.toList = none := by
      cases hq : numZ s.data.toList with
      | none => rfl
      | some z =>
        obtain ⟨a, b, c⟩ := (numZ_iff _ _).1 hq
        have h3 := decZ_length z a b
        rw [c, hl] at h3
        have : s.size = 0 := by omega
        have h4 : s.data.toList = [] := List.eq_nil_of_length_eq_zero (by omega)
        rw [h4] at hq; cases hq
    rw [hno]
    clear hno hl
    unfold maxLen at hs
    go_enter Try.func9, Try.ntmps9
    go_wp2_with fail
    all_goals go_ret2
    all_goals first | exact ⟨rfl, Below.refl _ _⟩ | omega
end Go.Proofs.Ytgfpmjdkjflibaa

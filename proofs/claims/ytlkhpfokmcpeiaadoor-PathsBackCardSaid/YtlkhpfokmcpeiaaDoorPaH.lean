/- Layer 7: the reference's begins and Mark. -/
import Derived.Test.YtlkhpfokmcpeiaaDoorPaG
namespace Go.Proofs.YtlkhpfokmcpeiaaDoor
open Go.RowKit
set_option linter.unusedVariables false
set_option maxRecDepth 100000

theorem bs_ext0 (l : List UInt8) (k : Nat) : (bs l).extract 0 k = bs (l.take k) := by
  apply bs_eq; rw [Lib.extract_data, bs_list]; simp
theorem bs_extr (l : List UInt8) (k : Nat) : (bs l).extract k (bs l).size = bs (l.drop k) := by
  apply bs_eq; rw [Lib.extract_data, bs_list, bs_size, List.take_of_length_le (by simp)]
theorem pre_take (s p : List UInt8) (h : p.length ≤ s.length) : (s.take p.length == p) = p.isPrefixOf s := by
  rw [Bool.eq_iff_iff, beq_iff_eq, List.isPrefixOf_iff_prefix, List.prefix_iff_eq_take]
  exact ⟨fun e => e.symm, fun e => e.symm⟩
theorem pre_len {s p : List UInt8} (h : p.isPrefixOf s = true) : p.length ≤ s.length := (List.isPrefixOf_iff_prefix.1 h).length_le

set_option maxHeartbeats 1000000 in
theorem begins_any (s p : List UInt8) (w : World) (hs : s.length ≤ 1099511627776) (hp : p.length ≤ 1099511627776) :
    Calls Tryd.prog 30 #[.string (bs s), .string (bs p)] w fun e w' => e = .returned (.bool (p.isPrefixOf s)) ∧ w = w' := by
  have hz1 := bs_size s
  have hz2 := bs_size p
  obtain ⟨O, hO⟩ : ∃ O, O = p.isPrefixOf s := ⟨_, rfl⟩
  rw [← hO]
  have HO := Lib.hid hO
  clear hO
  have hb1 : (bs s).size ≤ 1099511627776 := by omega
  have hb2 : (bs p).size ≤ 1099511627776 := by omega
  by_cases hle : p.length ≤ s.length
  · have e1 : (((bs s).extract 0 (bs p).size).toList == (bs p).toList) = O := by
      rw [hz2, bs_ext0, bs_toList, bs_toList, pre_take _ _ hle, HO.out]
    have h2 : (bs p).size ≤ (bs s).size := by omega
    clear hz1 hz2
    generalize bs s = S at *
    generalize bs p = T at *
    go_enter Tryd.func30, Tryd.ntmps30
    go_wp2_with fail
    go_ret
    exact ⟨by first | rfl | exact ret_bool e1, rfl⟩
  · have HE : Hid (O = false) := by
      show _ = _
      rw [HO.out]
      cases h : p.isPrefixOf s with
      | false => rfl
      | true => exact absurd (pre_len h) hle
    have h2 : decide ((bs p).size ≤ (bs s).size) = false := decide_eq_false (by omega)
    have h3 : ¬ (bs p).size ≤ (bs s).size := by omega
    clear hz1 hz2
    generalize bs s = S at *
    generalize bs p = T at *
    go_enter Tryd.func30, Tryd.ntmps30
    go_wp2_with fail
    go_ret
    exact ⟨by rw [HE.out]; first | rfl | exact ret_bool (decide_eq_false (by omega)), rfl⟩

theorem eq_lit (l m : List UInt8) : ((bs l).toList == m) = decide (l = m) := by rw [bs_toList, Bool.eq_iff_iff]; simp
/-- What Mark answers. -/
def markV (x : Nat × List UInt8) : Value := .tuple #[.int .i64 (x.1 : Int), .string (bs x.2)]

set_option maxHeartbeats 2000000 in
theorem refMark_any (n : List UInt8) (w : World) (hn : n.length ≤ 1099511627776) :
    Calls Tryd.prog 10 #[.string (bs n)] w fun e w' => e = .returned (markV (markL n)) ∧ ∃ q, w' = w.drewN q := by
  have hz := bs_size n
  have hb1 : (bs n).size ≤ 1099511627776 := by omega
  have e1 : ((bs n).toList == [46, 119, 104, 46, 46, 119, 104, 46, 46, 111, 112, 113]) = decide (n = opqL) := eq_lit n opqL
  have e2 : ((bs n).toList == [46, 119, 104, 46]) = decide (n = whL) := eq_lit n whL
  have e3 : ((bs n).toList == [46, 119, 104, 46, 46]) = decide (n = whL ++ [46]) := eq_lit n (whL ++ [46])
  have e4 : ((bs n).toList == [46, 119, 104, 46, 46, 46]) = decide (n = whL ++ [46, 46]) := eq_lit n (whL ++ [46, 46])
  have hB1 : ∀ w0, Calls Tryd.prog 30 #[.string (bs n), .string ⟨#[46, 119, 104, 46, 46, 119, 104, 46]⟩] w0 fun e w' => e = .returned (.bool ((whL ++ whL).isPrefixOf n)) ∧ w0 = w' := fun w0 => begins_any n (whL ++ whL) w0 hn (by decide)
  have hB2 : ∀ w0, Calls Tryd.prog 30 #[.string (bs n), .string ⟨#[46, 119, 104, 46]⟩] w0 fun e w' => e = .returned (.bool (whL.isPrefixOf n)) ∧ w0 = w' := fun w0 => begins_any n whL w0 hn (by decide)
  obtain ⟨O, hO⟩ : ∃ O, O = markV (markL n) := ⟨_, rfl⟩
  rw [← hO]
  unfold markL at hO
  by_cases h1 : n = opqL
  · rw [decide_eq_true h1] at e1
    rw [if_pos h1] at hO
    have HO := Lib.hid hO
    clear hO h1 e2 e3 e4 hB1 hB2 hz
    generalize bs n = s at *
    go_enter Tryd.func10, Tryd.ntmps10
    go_wp2_with fail
    go_ret2
    exact ⟨by rw [HO.out]; rfl, 0, rfl⟩
  rw [decide_eq_false h1] at e1
  rw [if_neg h1] at hO
  by_cases h2 : (whL ++ whL).isPrefixOf n = true
  · rw [h2] at hB1
    rw [if_pos (.inl h2)] at hO
    have HO := Lib.hid hO
    have HB1 := Lib.hid hB1
    clear hO h1 h2 e2 e3 e4 hB1 hB2 hz
    generalize bs n = s at *
    go_enter Tryd.func10, Tryd.ntmps10
    go_wp2_with (go_at_call 30; (with_reducible refine (HB1.out _).mono ?_); rintro e w1 ⟨rfl, rfl⟩)
    go_ret2
    exact ⟨by rw [HO.out]; rfl, 0, rfl⟩
  have h2' : (whL ++ whL).isPrefixOf n = false := by
    cases h : (whL ++ whL).isPrefixOf n with
    | false => rfl
    | true => exact absurd h h2
  rw [h2'] at hB1
  have HB1 := Lib.hid hB1
  have HB2 := Lib.hid hB2
  clear hB1 hB2 h2'
  by_cases h3 : n = whL
  · rw [decide_eq_true h3] at e2
    rw [if_pos (.inr (.inl h3))] at hO
    have HO := Lib.hid hO
    clear hO h1 h2 h3 e3 e4 hz
    generalize bs n = s at *
    go_enter Tryd.func10, Tryd.ntmps10
    go_wp2_with (go_at_call 30; (with_reducible refine (HB1.out _).mono ?_); rintro e w1 ⟨rfl, rfl⟩)
    go_ret2
    exact ⟨by rw [HO.out]; rfl, 0, rfl⟩
  rw [decide_eq_false h3] at e2
  by_cases h4 : n = whL ++ [46]
  · rw [decide_eq_true h4] at e3
    rw [if_pos (.inr (.inr (.inl h4)))] at hO
    have HO := Lib.hid hO
    clear hO h1 h2 h3 h4 e4 hz
    generalize bs n = s at *
    go_enter Tryd.func10, Tryd.ntmps10
    go_wp2_with (go_at_call 30; (with_reducible refine (HB1.out _).mono ?_); rintro e w1 ⟨rfl, rfl⟩)
    go_ret2
    exact ⟨by rw [HO.out]; rfl, 0, rfl⟩
  rw [decide_eq_false h4] at e3
  by_cases h5 : n = whL ++ [46, 46]
  · rw [decide_eq_true h5] at e4
    rw [if_pos (.inr (.inr (.inr h5)))] at hO
    have HO := Lib.hid hO
    clear hO h1 h2 h3 h4 h5 hz
    generalize bs n = s at *
    go_enter Tryd.func10, Tryd.ntmps10
    go_wp2_with (go_at_call 30; (with_reducible refine (HB1.out _).mono ?_); rintro e w1 ⟨rfl, rfl⟩)
    go_ret2
    exact ⟨by rw [HO.out]; rfl, 0, rfl⟩
  rw [decide_eq_false h5] at e4
  rw [if_neg (by rintro (h | h | h | h); exact h2 h; exact h3 h; exact h4 h; exact h5 h)] at hO
  have hext := bs_extr n 4
  cases h6 : whL.isPrefixOf n with
  | true =>
    rw [h6, if_pos rfl] at hO
    have hsz4 : 4 ≤ (bs n).size := by have := pre_len h6; rw [hz]; exact this
    rw [h6] at HB2
    have HO := Lib.hid hO
    have HX := Lib.hid hext
    clear hO h1 h2 h3 h4 h5 h6 hz hext
    generalize bs (n.drop 4) = m at *
    have HM : Hid (O = .tuple #[.int .i64 1, .string ((bs n).extract 4 (bs n).size)]) := by
      show _ = _
      rw [HO.out, bs_extr]; rfl
    clear HO HX
    generalize bs n = s at *
    have hs0 : (0 : Int) ≤ 4 := by omega
    go_enter Tryd.func10, Tryd.ntmps10
    go_wp2_with (first
      | (go_at_call 30; (with_reducible refine (HB1.out _).mono ?_); rintro e w1 ⟨rfl, rfl⟩)
      | (go_at_call 30; (with_reducible refine (HB2.out _).mono ?_); rintro e w1 ⟨rfl, rfl⟩))
    go_quiet (fail)
    go_wp2_with fail
    go_ret2
    exact ⟨by rw [HM.out]; rfl, _, rfl⟩
  | false =>
    rw [h6, if_neg (by simp)] at hO
    rw [h6] at HB2
    have HO := Lib.hid hO
    clear hO h1 h2 h3 h4 h5 h6 hz hext
    have HM : Hid (O = .tuple #[.int .i64 0, .string (bs n)]) := HO
    clear HO
    generalize bs n = s at *
    go_enter Tryd.func10, Tryd.ntmps10
    go_wp2_with (first
      | (go_at_call 30; (with_reducible refine (HB1.out _).mono ?_); rintro e w1 ⟨rfl, rfl⟩)
      | (go_at_call 30; (with_reducible refine (HB2.out _).mono ?_); rintro e w1 ⟨rfl, rfl⟩))
    go_ret2
    exact ⟨by rw [HM.out]; rfl, 0, rfl⟩
end Go.Proofs.YtlkhpfokmcpeiaaDoor

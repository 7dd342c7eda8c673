/- The contract of awake, which each law of digest calls, and the walk of the law DigestIs. -/
import Derived.Test.YtjmiekhjkeioaaaDoorDstR
import Derived.Test.YtjmiekhjkeioaaaDoorDstY
namespace Go.Proofs.YtjmiekhjkeioaaaDoor
open Go.RowKit
set_option linter.unusedVariables false

theorem bt3 {w a b : World} (h1 : Below w.heap.size w a) (h2 : Below a.heap.size a b) : Below w.heap.size w b := h1.trans (h2.mono h1.size)
theorem TabOK.below {w w' : World} (h : TabOK w) (b : Below w.heap.size w w') : TabOK w' := h.keeps (Keeps.of_below b)

set_option maxRecDepth 100000 in
theorem awake3_any (w : World) (ht : TabOK w) :
    Calls Tryd.prog 6 #[] w fun e w' => e = .returned (.bool true) ∧ Below w.heap.size w w' := by
  have HT := Lib.hid ht
  have HO := Lib.hid (fun w0 (h : TabOK w0) => of_any ⟨#[97, 98, 99]⟩ w0 h (by decide))
  have HI := Lib.hid (fun w0 (h : TabOK w0) => is_dig (digS abcL) ⟨#[97, 98, 99]⟩ w0 h (by decide))
  have HJ := Lib.hid (fun w0 (h : TabOK w0) => is_dig (digS abcL) ⟨#[97, 98, 100]⟩ w0 h (by decide))
  have HC := Lib.hid (fun w0 : World => check_any (digS abcL) w0 (by rw [abc_size]; unfold maxLen; omega))
  have HK := Lib.hid (fun w0 : World => check_any ((digS abcL).extract 1 (digS abcL).size) w0 (by rw [ByteArray.size_extract, abc_size]; unfold maxLen; omega))
  rw [dgOk_digS] at HC
  rw [abc_tail] at HK
  rw [show (ByteArray.mk #[97, 98, 99]).data.toList = abcL from rfl] at HO HI
  rw [show (ByteArray.mk #[97, 98, 100]).data.toList = abdL from rfl] at HJ
  rw [beq_self_eq_true] at HI
  rw [show ((digS abcL).toList == (digS abdL).toList) = false from by simpa using abc_abd] at HJ
  have hz := abc_size
  have h15 : (((digS abcL).extract 0 15).toList == [115, 104, 97, 50, 53, 54, 58, 98, 97, 55, 56, 49, 54, 98, 102]) = true := by rw [abc_15]; rfl
  generalize digS abcL = D at *
  have z1 : ((D.size : Int) == 71) = true := by rw [hz]; rfl
  have z2 : (15 : Int) ≤ (D.size : Int) := by omega
  have z3 : (1 : Int) ≤ (D.size : Int) := by omega
  clear ht hz
  have hnot := on_not
  go_enter Tryd.func6, Tryd.ntmps6
  go_wp2_with (first
    | (go_at_call 7; refine (HO.out _ HT.out).mono ?_; rintro e w1 ⟨rfl, hb1⟩; have HB1 := Lib.hid hb1; have HT1 := Lib.hid (HT.out.below hb1); clear hb1)
    | (go_at_call 9; (with_reducible refine (HC.out _).mono ?_); rintro e w2 ⟨rfl, hb2⟩; have HB2 := Lib.hid hb2; have HT2 := Lib.hid (HT1.out.below hb2); clear hb2)
    | (go_at_call 9; (with_reducible refine (HK.out _).mono ?_); rintro e w3 ⟨rfl, hb3⟩; have HB3 := Lib.hid hb3; have HT3 := Lib.hid (HT2.out.below hb3); clear hb3)
    | (go_at_call 11; (with_reducible refine (HI.out _ HT3.out).mono ?_); rintro e w4 ⟨rfl, hb4⟩; have HB4 := Lib.hid hb4; have HT4 := Lib.hid (HT3.out.below hb4); clear hb4)
    | (go_at_call 11; (with_reducible refine (HJ.out _ HT4.out).mono ?_); rintro e w5 ⟨rfl, hb5⟩; have HB5 := Lib.hid hb5; clear hb5))
  go_ret
  exact ⟨rfl, bt3 (bt3 (bt3 (bt3 HB1.out HB2.out) HB3.out) HB4.out) HB5.out⟩

set_option maxRecDepth 100000 in
set_option maxHeartbeats 1000000 in
theorem dis_any (s t : ByteArray) (hz : t.size ≤ maxLen) (w : World) (ht : TabOK w) :
    Calls Tryd.prog 3 #[.string s, .string t] w fun e w' => e = .returned (.bool true) ∧ Keeps w w' := by
  have HT := Lib.hid ht
  clear ht
  by_cases hs : 1024 < s.size
  · have hs1 : (1024 : Int) < (s.size : Int) := by omega
    go_enter Tryd.func3, Tryd.ntmps3
    go_wp2_with (go_at_call 6; refine (awake3_any _ HT.out).mono ?_; rintro e w3 ⟨rfl, hb3⟩)
    go_ret
    exact ⟨rfl, Keeps.of_below hb3⟩
  · have hs1 : (s.size : Int) ≤ 1024 := by omega
    by_cases hq : 100 < t.size
    · have hq1 : (100 : Int) < (t.size : Int) := by omega
      go_enter Tryd.func3, Tryd.ntmps3
      go_wp2_with (go_at_call 6; refine (awake3_any _ HT.out).mono ?_; rintro e w3 ⟨rfl, hb3⟩)
      go_ret
      exact ⟨rfl, Keeps.of_below hb3⟩
    · have hq1 : (t.size : Int) ≤ 100 := by omega
      have hl : s.data.toList.length ≤ 900000 := by
        have : s.data.toList.length = s.size := by simp
        omega
      have H1 := Lib.hid (fun w0 (h : TabOK w0) => of_any s w0 h hl)
      have H2 := Lib.hid (fun w0 => refOf_any s w0 hl)
      have H3 := Lib.hid (fun w0 : World => check_any (digS s.data.toList) w0 (by show (digL _).toArray.size ≤ _; simp only [List.size_toArray]; rw [digL_length]; unfold maxLen; omega))
      have H4 := Lib.hid (fun w0 : World => check_any t w0 hz)
      have H5 := Lib.hid (fun w0 : World => refCheck_any t w0 hz)
      have H6 := Lib.hid (fun w0 (h : TabOK w0) => is_dig t s w0 h hl)
      have H7 := Lib.hid (fun w0 (h : TabOK w0) => is_dig (digS s.data.toList) s w0 h hl)
      rw [dgOk_digS] at H3
      rw [beq_self_eq_true] at H7
      generalize digS s.data.toList = D at *
      generalize dgErr t = E at *
      clear hs hq hl hz
      cases hB : (t.toList == D.toList)
      all_goals
        rw [hB] at H6
        go_enter Tryd.func3, Tryd.ntmps3
        go_wp2_with (first
          | (go_at_call 7; refine (H1.out _ HT.out).mono ?_; rintro e w1 ⟨rfl, hb1⟩; have HK1 := Lib.hid (Keeps.of_below hb1); clear hb1)
          | (go_at_call 8; (with_reducible refine (H2.out w1).mono ?_); rintro e w2 ⟨rfl, hb2⟩; have HK2 := Lib.hid (HK1.out.trans hb2); clear hb2)
          | (go_at_call 9; (with_reducible refine (H3.out _).mono ?_); rintro e w3 ⟨rfl, hb3⟩; have HK3 := Lib.hid (HK2.out.below hb3); clear hb3)
          | (go_at_call 9; (with_reducible refine (H4.out _).mono ?_); rintro e w4 ⟨rfl, hb4⟩; have HK4 := Lib.hid (HK3.out.below hb4); clear hb4)
          | (go_at_call 10; (with_reducible refine (H5.out _).mono ?_); rintro e w5 ⟨rfl, hb5⟩; have HK5 := Lib.hid (HK4.out.below hb5); clear hb5)
          | (go_at_call 11; (with_reducible refine (H6.out _ (HT.out.keeps HK5.out)).mono ?_); rintro e w6 ⟨rfl, hb6⟩; have HK6 := Lib.hid (HK5.out.below hb6); clear hb6)
          | (go_at_call 8; (with_reducible refine (H2.out w6).mono ?_); rintro e w7 ⟨rfl, hb7⟩; have HK7 := Lib.hid (HK6.out.trans hb7); clear hb7)
          | (go_at_call 11; (with_reducible refine (H7.out _ (HT.out.keeps HK7.out)).mono ?_); rintro e w8 ⟨rfl, hb8⟩; have HK8 := Lib.hid (HK7.out.below hb8); clear hb8)
          | (go_at_call 6; refine (awake3_any _ (HT.out.keeps HK8.out)).mono ?_; rintro e w9 ⟨rfl, hb9⟩))
        go_ret
        exact ⟨rfl, HK8.out.below hb9⟩
end Go.Proofs.YtjmiekhjkeioaaaDoor

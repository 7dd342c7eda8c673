/- The walk of the law QuoteBack. -/
import Derived.Test.YtghcjiblmkknaaaDoorQuoK
namespace Go.Proofs.YtghcjiblmkknaaaDoor
open Go.RowKit
set_option linter.unusedVariables false

/-- What is quoted, and what stands behind it, is unquoted as it was. -/
theorem back_facts (s behind : ByteArray) (hs : s.size ≤ 512) (hb : behind.size ≤ 512) (hv : Lib.validD s.data.toList = true) :
    ∃ Q QB : ByteArray, (∀ w0, Calls Tryd.prog 8 #[.string s] w0 fun e w' => e = .returned (.tuple #[.string Q, .int .i64 0]) ∧ Below w0.heap.size w0 w') ∧
      (∀ w0, (Op.stringOp .add Q behind).run Tryd.prog w0 = .ok (.string QB) w0) ∧
      (∀ w0, TabsW w0 → Calls Tryd.prog 12 #[.string QB] w0 fun e w' => e = .returned (.tuple #[.string s, .int .i64 (Q.size : Int), .int .i64 0]) ∧ Below w0.heap.size w0 w') := by
  have hl : s.data.toList.length = s.size := by simp
  have hlb : behind.data.toList.length = behind.size := by simp
  have hq6 := bodyG_len _ s.data.toList (Nat.le_refl _)
  have hqz := quoteG_len s.data.toList
  refine ⟨⟨(quoteG s.data.toList).toArray⟩, ⟨(quoteG s.data.toList ++ behind.data.toList).toArray⟩, fun w0 => ?_, fun w0 => ?_, fun w0 h0 => ?_⟩
  · have := quote_any s w0 (by omega)
    rw [quoteS_ok _ hv (by omega)] at this
    exact this
  · have := add_lists w0 (quoteG s.data.toList) behind.data.toList (by omega)
    rw [mk_list] at this
    exact this
  · have := unquote_any ⟨(quoteG s.data.toList ++ behind.data.toList).toArray⟩ w0 h0 (by show (quoteG s.data.toList ++ behind.data.toList).length ≤ _; rw [List.length_append]; omega)
    simp only at this
    rw [unq_quote _ _ hv] at this
    simp only [unqS] at this
    rw [mk_list] at this
    exact this

/-- What is told between quotes, and quoted again, tells the same. -/
theorem again_facts (behind : ByteArray) (hb : behind.size ≤ 512) (o : List UInt8) (m : Nat) (hu : unqG behind.data.toList = some (o, m)) :
    ∃ (T Q : ByteArray) (z : Int), (∀ w0, TabsW w0 → Calls Tryd.prog 12 #[.string behind] w0 fun e w' => e = .returned (.tuple #[.string T, .int .i64 z, .int .i64 0]) ∧ Below w0.heap.size w0 w') ∧
      (∀ w0, Calls Tryd.prog 8 #[.string T] w0 fun e w' => e = .returned (.tuple #[.string Q, .int .i64 0]) ∧ Below w0.heap.size w0 w') ∧
      (∀ w0, TabsW w0 → Calls Tryd.prog 12 #[.string Q] w0 fun e w' => e = .returned (.tuple #[.string T, .int .i64 (Q.size : Int), .int .i64 0]) ∧ Below w0.heap.size w0 w') ∧
      (∀ w0, Calls Tryd.prog 10 #[.string T] w0 fun e w' => e = .returned (.bool true) ∧ Below w0.heap.size w0 w') := by
  obtain ⟨v1, v2, v3⟩ := unqG_valid hu
  have hlb : behind.data.toList.length = behind.size := by simp
  have hq6 := bodyG_len _ o (Nat.le_refl _)
  have hqz := quoteG_len o
  refine ⟨⟨o.toArray⟩, ⟨(quoteG o).toArray⟩, (m : Int), fun w0 h0 => ?_, fun w0 => ?_, fun w0 h0 => ?_, fun w0 => ?_⟩
  · have := unquote_any behind w0 h0 (by omega)
    rw [hu] at this
    exact this
  · have := quote_any ⟨o.toArray⟩ w0 (by show o.length ≤ _; omega)
    simp only at this
    rw [quoteS_ok _ v1 (by omega)] at this
    exact this
  · have := unquote_any ⟨(quoteG o).toArray⟩ w0 h0 (by show (quoteG o).length ≤ _; omega)
    simp only at this
    have hb2 := unq_quote o [] v1
    rw [List.append_nil] at hb2
    rw [hb2] at this
    exact this
  · have := valid_any ⟨o.toArray⟩ w0 (by show o.length ≤ _; omega)
    simp only at this
    rw [v1] at this
    exact this

theorem none_facts (behind : ByteArray) (hb : behind.size ≤ 512) (hu : unqG behind.data.toList = none) (w0 : World) (h0 : TabsW w0) :
    Calls Tryd.prog 12 #[.string behind] w0 fun e w' => e = .returned (.tuple #[.string ⟨#[]⟩, .int .i64 0, .int .i64 2]) ∧ Below w0.heap.size w0 w' := by
  have := unquote_any behind w0 h0 (by omega)
  rw [hu] at this
  exact this
theorem bad_facts (s : ByteArray) (hs : s.size ≤ 512) (hv : Lib.validD s.data.toList = false) (w0 : World) :
    Calls Tryd.prog 8 #[.string s] w0 fun e w' => e = .returned (.tuple #[.string ⟨#[]⟩, .int .i64 2]) ∧ Below w0.heap.size w0 w' := by
  have := quote_any s w0 (by omega)
  rw [quoteS_bad _ hv] at this
  exact this
theorem notvalid_facts (s : ByteArray) (hs : s.size ≤ 512) (hv : Lib.validD s.data.toList = false) (w0 : World) :
    Calls Tryd.prog 10 #[.string s] w0 fun e w' => e = .returned (.bool false) ∧ Below w0.heap.size w0 w' := by
  have := valid_any s w0 (by omega)
  rw [hv] at this
  exact this

set_option maxRecDepth 100000 in
set_option maxHeartbeats 4000000 in
theorem quoteBack_any (s behind : ByteArray) (w : World) (ht : TabsW w) :
    Calls Tryd.prog 5 #[.string s, .string behind] w fun e w' => e = .returned (.bool true) ∧ Below w.heap.size w w' := by
  have HT := Lib.hid ht
  clear ht
  by_cases hs : 512 < s.size
  · have hs1 : (512 : Int) < (s.size : Int) := by omega
    go_enter Tryd.func5, Tryd.ntmps5
    go_wp2_with (go_at_call 7; refine (awake4_any _ HT.out).mono ?_; rintro e w3 ⟨rfl, hb3⟩)
    go_ret
    exact ⟨rfl, hb3⟩
  by_cases hb : 512 < behind.size
  · have hs1 : (s.size : Int) ≤ 512 := by omega
    have hb1 : (512 : Int) < (behind.size : Int) := by omega
    go_enter Tryd.func5, Tryd.ntmps5
    go_wp2_with (go_at_call 7; refine (awake4_any _ HT.out).mono ?_; rintro e w3 ⟨rfl, hb3⟩)
    go_ret
    exact ⟨rfl, hb3⟩
  have hs1 : (s.size : Int) ≤ 512 := by omega
  have hb1 : (behind.size : Int) ≤ 512 := by omega
  cases hv : Lib.validD s.data.toList with
  | true =>
    obtain ⟨Q, QB, f1, f2, f3⟩ := back_facts s behind (by omega) (by omega) hv
    have F1 := Lib.hid f1
    have F3 := Lib.hid f3
    clear f1 f3 hv
    cases hu : unqG behind.data.toList with
    | none =>
      have F4 := Lib.hid (none_facts behind (by omega) hu)
      clear hu hs hb
      go_enter Tryd.func5, Tryd.ntmps5
      go_wp2_with (first
        | (go_at_call 8; (with_reducible refine (F1.out _).mono ?_); rintro e w1 ⟨rfl, hb1⟩; have HB1 := Lib.hid hb1; have HT1 := Lib.hid (HT.out.below hb1); clear hb1)
        | (go_at_call 12; (with_reducible refine (F3.out _ HT1.out).mono ?_); rintro e w2 ⟨rfl, hb2⟩; have HB2 := Lib.hid hb2; have HT2 := Lib.hid (HT1.out.below hb2); clear hb2)
        | (go_at_call 12; (with_reducible refine (F4.out _ HT2.out).mono ?_); rintro e w3 ⟨rfl, hb3⟩; have HB3 := Lib.hid hb3; have HT3 := Lib.hid (HT2.out.below hb3); clear hb3)
        | (go_at_call 7; (with_reducible refine (awake4_any _ HT3.out).mono ?_); rintro e w7 ⟨rfl, hb7⟩; have HB7 := Lib.hid hb7; clear hb7))
      go_ret
      exact ⟨rfl, btz (btz (btz HB1.out HB2.out) HB3.out) HB7.out⟩
    | some x =>
      obtain ⟨o, m⟩ := x
      obtain ⟨T, Q2, z, g1, g2, g3, g4⟩ := again_facts behind (by omega) o m hu
      have F4 := Lib.hid g1
      have F5 := Lib.hid g2
      have F6 := Lib.hid g3
      have F7 := Lib.hid g4
      clear g1 g2 g3 g4 hu hs hb
      go_enter Tryd.func5, Tryd.ntmps5
      go_wp2_with (first
        | (go_at_call 8; (with_reducible refine (F1.out _).mono ?_); rintro e w1 ⟨rfl, hb1⟩; have HB1 := Lib.hid hb1; have HT1 := Lib.hid (HT.out.below hb1); clear hb1)
        | (go_at_call 12; (with_reducible refine (F3.out _ HT1.out).mono ?_); rintro e w2 ⟨rfl, hb2⟩; have HB2 := Lib.hid hb2; have HT2 := Lib.hid (HT1.out.below hb2); clear hb2)
        | (go_at_call 12; (with_reducible refine (F4.out _ HT2.out).mono ?_); rintro e w3 ⟨rfl, hb3⟩; have HB3 := Lib.hid hb3; have HT3 := Lib.hid (HT2.out.below hb3); clear hb3)
        | (go_at_call 8; (with_reducible refine (F5.out _).mono ?_); rintro e w4 ⟨rfl, hb4⟩; have HB4 := Lib.hid hb4; have HT4 := Lib.hid (HT3.out.below hb4); clear hb4)
        | (go_at_call 12; (with_reducible refine (F6.out _ HT4.out).mono ?_); rintro e w5 ⟨rfl, hb5⟩; have HB5 := Lib.hid hb5; have HT5 := Lib.hid (HT4.out.below hb5); clear hb5)
        | (go_at_call 10; (with_reducible refine (F7.out _).mono ?_); rintro e w6 ⟨rfl, hb6⟩; have HB6 := Lib.hid hb6; have HT6 := Lib.hid (HT5.out.below hb6); clear hb6)
        | (go_at_call 7; (with_reducible refine (awake4_any _ HT6.out).mono ?_); rintro e w7 ⟨rfl, hb7⟩; have HB7 := Lib.hid hb7; clear hb7))
      go_ret
      exact ⟨rfl, btz (btz (btz (btz (btz (btz HB1.out HB2.out) HB3.out) HB4.out) HB5.out) HB6.out) HB7.out⟩
  | false =>
    have F1 := Lib.hid (bad_facts s (by omega) hv)
    have F2 := Lib.hid (notvalid_facts s (by omega) hv)
    clear hv
    cases hu : unqG behind.data.toList with
    | none =>
      have F4 := Lib.hid (none_facts behind (by omega) hu)
      clear hu hs hb
      go_enter Tryd.func5, Tryd.ntmps5
      go_wp2_with (first
        | (go_at_call 8; (with_reducible refine (F1.out _).mono ?_); rintro e w1 ⟨rfl, hb1⟩; have HB1 := Lib.hid hb1; have HT1 := Lib.hid (HT.out.below hb1); clear hb1)
        | (go_at_call 10; (with_reducible refine (F2.out _).mono ?_); rintro e w2 ⟨rfl, hb2⟩; have HB2 := Lib.hid hb2; have HT2 := Lib.hid (HT1.out.below hb2); clear hb2)
        | (go_at_call 12; (with_reducible refine (F4.out _ HT2.out).mono ?_); rintro e w3 ⟨rfl, hb3⟩; have HB3 := Lib.hid hb3; have HT3 := Lib.hid (HT2.out.below hb3); clear hb3)
        | (go_at_call 7; (with_reducible refine (awake4_any _ HT3.out).mono ?_); rintro e w7 ⟨rfl, hb7⟩; have HB7 := Lib.hid hb7; clear hb7))
      go_ret
      exact ⟨rfl, btz (btz (btz HB1.out HB2.out) HB3.out) HB7.out⟩
    | some x =>
      obtain ⟨o, m⟩ := x
      obtain ⟨T, Q2, z, g1, g2, g3, g4⟩ := again_facts behind (by omega) o m hu
      have F4 := Lib.hid g1
      have F5 := Lib.hid g2
      have F6 := Lib.hid g3
      have F7 := Lib.hid g4
      clear g1 g2 g3 g4 hu hs hb
      go_enter Tryd.func5, Tryd.ntmps5
      go_wp2_with (first
        | (go_at_call 8; (with_reducible refine (F1.out _).mono ?_); rintro e w1 ⟨rfl, hb1⟩; have HB1 := Lib.hid hb1; have HT1 := Lib.hid (HT.out.below hb1); clear hb1)
        | (go_at_call 10; (with_reducible refine (F2.out _).mono ?_); rintro e w2 ⟨rfl, hb2⟩; have HB2 := Lib.hid hb2; have HT2 := Lib.hid (HT1.out.below hb2); clear hb2)
        | (go_at_call 12; (with_reducible refine (F4.out _ HT2.out).mono ?_); rintro e w3 ⟨rfl, hb3⟩; have HB3 := Lib.hid hb3; have HT3 := Lib.hid (HT2.out.below hb3); clear hb3)
        | (go_at_call 8; (with_reducible refine (F5.out _).mono ?_); rintro e w4 ⟨rfl, hb4⟩; have HB4 := Lib.hid hb4; have HT4 := Lib.hid (HT3.out.below hb4); clear hb4)
        | (go_at_call 12; (with_reducible refine (F6.out _ HT4.out).mono ?_); rintro e w5 ⟨rfl, hb5⟩; have HB5 := Lib.hid hb5; have HT5 := Lib.hid (HT4.out.below hb5); clear hb5)
        | (go_at_call 10; (with_reducible refine (F7.out _).mono ?_); rintro e w6 ⟨rfl, hb6⟩; have HB6 := Lib.hid hb6; have HT6 := Lib.hid (HT5.out.below hb6); clear hb6)
        | (go_at_call 7; (with_reducible refine (awake4_any _ HT6.out).mono ?_); rintro e w7 ⟨rfl, hb7⟩; have HB7 := Lib.hid hb7; clear hb7))
      go_ret
      exact ⟨rfl, btz (btz (btz (btz (btz (btz HB1.out HB2.out) HB3.out) HB4.out) HB5.out) HB6.out) HB7.out⟩
end Go.Proofs.YtghcjiblmkknaaaDoor

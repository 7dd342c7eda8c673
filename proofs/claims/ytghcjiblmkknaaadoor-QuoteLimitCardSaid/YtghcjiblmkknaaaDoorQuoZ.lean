/- The contract of awake, which each law of quote calls, and the walks of the laws QuoteIs and QuoteReads. -/
import Derived.Test.YtghcjiblmkknaaaDoorQuoY
namespace Go.Proofs.YtghcjiblmkknaaaDoor
open Go.RowKit
set_option linter.unusedVariables false

theorem btz {w a b : World} (h1 : Below w.heap.size w a) (h2 : Below a.heap.size a b) : Below w.heap.size w b := btr h1 (Nat.le_refl _) h2

theorem aw1 : quoteS [97, 10, 34, 1] = .tuple #[.string ⟨#[34, 97, 92, 110, 92, 34, 92, 117, 48, 48, 48, 49, 34]⟩, .int .i64 0] := by kernel_rfl
theorem aw2 : unqS (unqG [34, 92, 117, 48, 48, 101, 57, 92, 117, 100, 56, 51, 100, 92, 117, 100, 101, 48, 48, 34, 120]) = .tuple #[.string ⟨#[195, 169, 240, 159, 152, 128]⟩, .int .i64 20, .int .i64 0] := by kernel_rfl
theorem aw3 : unqS (unqG [34, 92, 117, 100, 56, 51, 100, 34]) = .tuple #[.string ⟨#[]⟩, .int .i64 0, .int .i64 2] := by kernel_rfl
theorem aw4 : Lib.validD [195, 169, 240, 159, 152, 128] = true := by kernel_rfl
theorem aw5 : Lib.validD [169, 240, 159, 152, 128] = false := by kernel_rfl

set_option maxRecDepth 100000 in
set_option maxHeartbeats 1000000 in
theorem awake4_any (w : World) (ht : TabsW w) :
    Calls Tryd.prog 7 #[] w fun e w' => e = .returned (.bool true) ∧ Below w.heap.size w w' := by
  have HT := Lib.hid ht
  have HQ := Lib.hid (fun w0 : World => quote_any ⟨#[97, 10, 34, 1]⟩ w0 (by decide))
  have HU := Lib.hid (fun w0 (h : TabsW w0) => unquote_any ⟨#[34, 92, 117, 48, 48, 101, 57, 92, 117, 100, 56, 51, 100, 92, 117, 100, 101, 48, 48, 34, 120]⟩ w0 h (by decide))
  have HB := Lib.hid (fun w0 (h : TabsW w0) => unquote_any ⟨#[34, 92, 117, 100, 56, 51, 100, 34]⟩ w0 h (by decide))
  simp only [aw1, aw2, aw3] at HQ HU HB
  obtain ⟨T, hT⟩ : ∃ T : ByteArray, (⟨#[195, 169, 240, 159, 152, 128]⟩ : ByteArray) = T := ⟨_, rfl⟩
  have hTl : T.data.toList = [195, 169, 240, 159, 152, 128] := by rw [← hT]
  have hTz : T.size = 6 := by rw [← hT]; rfl
  have heq : (T.toList == [195, 169, 240, 159, 152, 128]) = true := by rw [toList_eq, hTl]; rfl
  have HV := Lib.hid (fun w0 : World => valid_any T w0 (by omega))
  have HW := Lib.hid (fun w0 : World => valid_any (T.extract 1 6) w0 (by simp [hTz]))
  rw [hTl, aw4] at HV
  rw [show (T.extract 1 6).data.toList = [169, 240, 159, 152, 128] by rw [Lib.extract_data, hTl]; rfl, aw5] at HW
  rw [hT] at HU
  clear ht hTl hT
  go_enter Tryd.func7, Tryd.ntmps7
  go_wp2_with (first
    | (go_at_call 8; (with_reducible refine (HQ.out _).mono ?_); rintro e w1 ⟨rfl, hb1⟩; have HB1 := Lib.hid hb1; have HT1 := Lib.hid (HT.out.below hb1); clear hb1)
    | (go_at_call 12; (with_reducible refine (HU.out _ HT1.out).mono ?_); rintro e w2 ⟨rfl, hb2⟩; have HB2 := Lib.hid hb2; have HT2 := Lib.hid (HT1.out.below hb2); clear hb2)
    | (go_at_call 12; (with_reducible refine (HB.out _ HT2.out).mono ?_); rintro e w3 ⟨rfl, hb3⟩; have HB3 := Lib.hid hb3; clear hb3)
    | (go_at_call 10; (with_reducible refine (HV.out _).mono ?_); rintro e w4 ⟨rfl, hb4⟩; have HB4 := Lib.hid hb4; clear hb4)
    | (go_at_call 10; (with_reducible refine (HW.out _).mono ?_); rintro e w5 ⟨rfl, hb5⟩; have HB5 := Lib.hid hb5; clear hb5))
  go_ret
  exact ⟨rfl, btz (btz (btz (btz HB1.out HB2.out) HB3.out) HB4.out) HB5.out⟩

theorem quoteS_form (l : List UInt8) : ∃ (A : ByteArray) (e : Int), quoteS l = .tuple #[.string A, .int .i64 e] := by
  unfold quoteS
  repeat' split
  all_goals exact ⟨_, _, rfl⟩
theorem unqS_form (o : Option (List UInt8 × Nat)) : ∃ (A : ByteArray) (m e : Int), unqS o = .tuple #[.string A, .int .i64 m, .int .i64 e] := by
  cases o with
  | none => exact ⟨_, _, _, rfl⟩
  | some x => exact ⟨_, _, _, rfl⟩

set_option maxRecDepth 100000 in
set_option maxHeartbeats 1000000 in
theorem quoteIs_any (s : ByteArray) (w : World) (ht : TabsW w) :
    Calls Tryd.prog 3 #[.string s] w fun e w' => e = .returned (.bool true) ∧ Below w.heap.size w w' := by
  have HT := Lib.hid ht
  clear ht
  by_cases hs : 512 < s.size
  · have hs1 : (512 : Int) < (s.size : Int) := by omega
    go_enter Tryd.func3, Tryd.ntmps3
    go_wp2_with (go_at_call 7; refine (awake4_any _ HT.out).mono ?_; rintro e w3 ⟨rfl, hb3⟩)
    go_ret
    exact ⟨rfl, hb3⟩
  · have hs1 : (s.size : Int) ≤ 512 := by omega
    have HA := Lib.hid (fun w0 : World => quote_any s w0 (by omega))
    have HB := Lib.hid (fun w0 : World => refQuote_any s w0 (by omega))
    have HV := Lib.hid (fun w0 : World => valid_any s w0 (by omega))
    have HW := Lib.hid (fun w0 : World => refValid_any s w0 (by omega))
    obtain ⟨A, e, hA⟩ := quoteS_form s.data.toList
    obtain ⟨b, hb⟩ : ∃ b, Lib.validD s.data.toList = b := ⟨_, rfl⟩
    rw [hA] at HA HB
    rw [hb] at HV HW
    clear hA hb hs
    go_enter Tryd.func3, Tryd.ntmps3
    go_wp2_with (first
      | (go_at_call 8; (with_reducible refine (HA.out _).mono ?_); rintro e w1 ⟨rfl, hb1⟩; have HB1 := Lib.hid hb1; have HT1 := Lib.hid (HT.out.below hb1); clear hb1)
      | (go_at_call 9; (with_reducible refine (HB.out _).mono ?_); rintro e w2 ⟨rfl, hb2⟩; have HB2 := Lib.hid hb2; have HT2 := Lib.hid (HT1.out.below hb2); clear hb2)
      | (go_at_call 10; (with_reducible refine (HV.out _).mono ?_); rintro e w3 ⟨rfl, hb3⟩; have HB3 := Lib.hid hb3; have HT3 := Lib.hid (HT2.out.below hb3); clear hb3)
      | (go_at_call 11; (with_reducible refine (HW.out _).mono ?_); rintro e w4 ⟨rfl, hb4⟩; have HB4 := Lib.hid hb4; have HT4 := Lib.hid (HT3.out.below hb4); clear hb4)
      | (go_at_call 7; (with_reducible refine (awake4_any _ HT4.out).mono ?_); rintro e w5 ⟨rfl, hb5⟩; have HB5 := Lib.hid hb5; clear hb5))
    go_ret
    exact ⟨rfl, btz (btz (btz (btz HB1.out HB2.out) HB3.out) HB4.out) HB5.out⟩

set_option maxRecDepth 100000 in
set_option maxHeartbeats 1000000 in
theorem quoteReads_any (s : ByteArray) (w : World) (ht : TabsW w) :
    Calls Tryd.prog 4 #[.string s] w fun e w' => e = .returned (.bool true) ∧ Below w.heap.size w w' := by
  have HT := Lib.hid ht
  clear ht
  by_cases hs : 512 < s.size
  · have hs1 : (512 : Int) < (s.size : Int) := by omega
    go_enter Tryd.func4, Tryd.ntmps4
    go_wp2_with (go_at_call 7; refine (awake4_any _ HT.out).mono ?_; rintro e w3 ⟨rfl, hb3⟩)
    go_ret
    exact ⟨rfl, hb3⟩
  · have hs1 : (s.size : Int) ≤ 512 := by omega
    have HA := Lib.hid (fun (w0 : World) (h : TabsW w0) => unquote_any s w0 h (by omega))
    have HB := Lib.hid (fun w0 : World => refUnquote_any s w0 (by omega))
    obtain ⟨A, m, e, hA⟩ := unqS_form (unqG s.data.toList)
    rw [hA] at HA HB
    clear hA hs
    go_enter Tryd.func4, Tryd.ntmps4
    go_wp2_with (first
      | (go_at_call 12; (with_reducible refine (HA.out _ HT.out).mono ?_); rintro e w1 ⟨rfl, hb1⟩; have HB1 := Lib.hid hb1; have HT1 := Lib.hid (HT.out.below hb1); clear hb1)
      | (go_at_call 13; (with_reducible refine (HB.out _).mono ?_); rintro e w2 ⟨rfl, hb2⟩; have HB2 := Lib.hid hb2; have HT2 := Lib.hid (HT1.out.below hb2); clear hb2)
      | (go_at_call 7; (with_reducible refine (awake4_any _ HT2.out).mono ?_); rintro e w5 ⟨rfl, hb5⟩; have HB5 := Lib.hid hb5; clear hb5))
    go_ret
    exact ⟨rfl, btz (btz HB1.out HB2.out) HB5.out⟩
end Go.Proofs.YtghcjiblmkknaaaDoor

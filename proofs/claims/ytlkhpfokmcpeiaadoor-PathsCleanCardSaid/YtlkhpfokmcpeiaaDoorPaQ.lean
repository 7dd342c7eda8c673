/- Layer 7: awake; the walks of the laws PathsClean and PathsParts. -/
import Derived.Test.YtlkhpfokmcpeiaaDoorPaP
namespace Go.Proofs.YtlkhpfokmcpeiaaDoor
open Go.RowKit
set_option linter.unusedVariables false
set_option maxRecDepth 100000

theorem splitB_any (l : List UInt8) (w : World) (hl : l.length ≤ 1099511627776) :
    Calls Tryd.prog 11 #[.string (bs l)] w fun e w' => e = .returned (.tuple #[.string (bs (dirL l)), .string (bs (nameL l))]) ∧ Below w.heap.size w w' :=
  (split_any l w hl).mono fun e w' ⟨h, q, hq⟩ => ⟨h, by subst hq; exact belowDN (Below.refl _ _) q⟩
theorem refMarkB_any (n : List UInt8) (w : World) (hn : n.length ≤ 1099511627776) :
    Calls Tryd.prog 10 #[.string (bs n)] w fun e w' => e = .returned (markV (markL n)) ∧ Below w.heap.size w w' :=
  (refMark_any n w hn).mono fun e w' ⟨h, q, hq⟩ => ⟨h, by subst hq; exact belowDN (Below.refl _ _) q⟩
theorem inB_any (d n : List UInt8) (w : World) (hd : d.length ≤ 1099511627776) (hn : n.length ≤ 1099511627776) :
    Calls Tryd.prog 16 #[.string (bs d), .string (bs n)] w fun e w' => e = .returned (.string (bs (inL d n))) ∧ Below w.heap.size w w' :=
  (in_any d n w hd hn).mono fun e w' ⟨h, hq⟩ => ⟨h, by subst hq; exact Below.refl _ _⟩
theorem refInB_any (d n : List UInt8) (w : World) (hd : d.length ≤ 1099511627776) (hn : n.length ≤ 1099511627776) :
    Calls Tryd.prog 17 #[.string (bs d), .string (bs n)] w fun e w' => e = .returned (.string (bs (inL d n))) ∧ Below w.heap.size w w' :=
  (refIn_any d n w hd hn).mono fun e w' ⟨h, hq⟩ => ⟨h, by subst hq; exact Below.refl _ _⟩

set_option maxHeartbeats 4000000 in
theorem awake7_any (w : World) (hM : MaxOK w) : Calls Tryd.prog 6 #[] w fun e w' => e = .returned (.bool true) ∧ Below w.heap.size w w' := by
  have A1 : Hid (∀ w0, Calls Tryd.prog 7 #[.string ⟨#[46, 47, 97, 47, 47, 98, 47]⟩] w0 fun e w' => e = .returned (.tuple #[.string ⟨#[97, 47, 98]⟩, .int .i64 0]) ∧ Below w0.heap.size w0 w') := fun w0 => by
    have := clean_any [46, 47, 97, 47, 47, 98, 47] w0 (by decide)
    rw [show cleanL [46, 47, 97, 47, 47, 98, 47] = some [97, 47, 98] by decide] at this
    exact this
  have A2 : Hid (∀ w0, Calls Tryd.prog 7 #[.string ⟨#[97, 47, 46, 46, 47, 98]⟩] w0 fun e w' => e = .returned (.tuple #[.string ⟨#[]⟩, .int .i64 2]) ∧ Below w0.heap.size w0 w') := fun w0 => by
    have := clean_any [97, 47, 46, 46, 47, 98] w0 (by decide)
    rw [show cleanL [97, 47, 46, 46, 47, 98] = none by decide] at this
    exact this
  have A3 : Hid (∀ w0, Calls Tryd.prog 9 #[.string ⟨#[46, 119, 104, 46, 120]⟩] w0 fun e w' => e = .returned (.tuple #[.int .i64 1, .string ⟨#[120]⟩]) ∧ Below w0.heap.size w0 w') := fun w0 => by
    have := mark_any [46, 119, 104, 46, 120] w0 (by decide)
    rw [show markL [46, 119, 104, 46, 120] = (1, [120]) by decide] at this
    exact this
  have A4 : Hid (∀ w0, Calls Tryd.prog 11 #[.string ⟨#[97, 47, 98, 47, 99]⟩] w0 fun e w' => e = .returned (.tuple #[.string ⟨#[97, 47, 98]⟩, .string ⟨#[99]⟩]) ∧ Below w0.heap.size w0 w') := fun w0 => by
    have := splitB_any [97, 47, 98, 47, 99] w0 (by decide)
    rw [show dirL [97, 47, 98, 47, 99] = [97, 47, 98] by decide, show nameL [97, 47, 98, 47, 99] = [99] by decide] at this
    exact this
  have A5 : Hid (∀ w0, MaxOK w0 → Calls Tryd.prog 18 #[.string ⟨#[97, 47, 98]⟩, .string ⟨#[97]⟩] w0 fun e w' => e = .returned (.bool true) ∧ Below w0.heap.size w0 w') := fun w0 h => by
    have := under_any [97, 47, 98] [97] w0 (by decide) (by decide) h
    rw [show underL (partsL [97, 47, 98]) (partsL [97]) = true by decide] at this
    exact this
  have A6 : Hid (∀ w0, MaxOK w0 → Calls Tryd.prog 18 #[.string ⟨#[97, 98]⟩, .string ⟨#[97]⟩] w0 fun e w' => e = .returned (.bool false) ∧ Below w0.heap.size w0 w') := fun w0 h => by
    have := under_any [97, 98] [97] w0 (by decide) (by decide) h
    rw [show underL (partsL [97, 98]) (partsL [97]) = false by decide] at this
    exact this
  have A7 : Hid (∀ w0, MaxOK w0 → Calls Tryd.prog 20 #[.string ⟨#[97, 47, 98]⟩, .string ⟨#[97, 45]⟩] w0 fun e w' => e = .returned (.int .i64 (-1)) ∧ Below w0.heap.size w0 w') := fun w0 h => by
    have := compare_any [97, 47, 98] [97, 45] w0 (by decide) (by decide) h
    rw [show cmpL (partsL [97, 47, 98]) (partsL [97, 45]) = -1 by decide] at this
    exact this
  have HM0 := Lib.hid hM
  have HB0 := Lib.hid (Below.refl w.heap.size w)
  clear hM
  have f1 : ((⟨#[97, 47, 98]⟩ : ByteArray).toList == [97, 47, 98]) = true := by rw [Lib.toList_data]; decide
  have f2 : ((⟨#[120]⟩ : ByteArray).toList == [120]) = true := by rw [Lib.toList_data]; decide
  have f3 : ((⟨#[99]⟩ : ByteArray).toList == [99]) = true := by rw [Lib.toList_data]; decide
  go_enter Tryd.func6, Tryd.ntmps6
  go_wp2_with (first
    | (go_at_call 7; (with_reducible refine (A1.out _).mono ?_); rintro e w1 ⟨rfl, hb⟩; have HB1 := Lib.hid (btz HB0.out hb); have HM1 := Lib.hid (HM0.out.below hb); clear hb)
    | (go_at_call 7; (with_reducible refine (A2.out _).mono ?_); rintro e w2 ⟨rfl, hb⟩; have HB2 := Lib.hid (btz HB1.out hb); have HM2 := Lib.hid (HM1.out.below hb); clear hb)
    | (go_at_call 9; (with_reducible refine (A3.out _).mono ?_); rintro e w3 ⟨rfl, hb⟩; have HB3 := Lib.hid (btz HB2.out hb); have HM3 := Lib.hid (HM2.out.below hb); clear hb)
    | (go_at_call 11; (with_reducible refine (A4.out _).mono ?_); rintro e w4 ⟨rfl, hb⟩; have HB4 := Lib.hid (btz HB3.out hb); have HM4 := Lib.hid (HM3.out.below hb); clear hb)
    | (go_at_call 18; (with_reducible refine (A5.out _ HM4.out).mono ?_); rintro e w5 ⟨rfl, hb⟩; have HB5 := Lib.hid (btz HB4.out hb); have HM5 := Lib.hid (HM4.out.below hb); clear hb)
    | (go_at_call 18; (with_reducible refine (A6.out _ HM5.out).mono ?_); rintro e w6 ⟨rfl, hb⟩; have HB6 := Lib.hid (btz HB5.out hb); have HM6 := Lib.hid (HM5.out.below hb); clear hb)
    | (go_at_call 20; (with_reducible refine (A7.out _ HM6.out).mono ?_); rintro e w7 ⟨rfl, hb⟩; have HB7 := Lib.hid (btz HB6.out hb); have HM7 := Lib.hid (HM6.out.below hb); clear hb))
  go_ret
  exact ⟨rfl, HB7.out⟩

theorem pairC_form (o : Option (List UInt8)) : ∃ (x : List UInt8) (z : Int), pairC o = .tuple #[.string (bs x), .int .i64 z] := by
  cases o with
  | none => exact ⟨[], 2, rfl⟩
  | some p => exact ⟨p, 0, rfl⟩
theorem size_of (s : ByteArray) : s.data.toList.length = s.size := by simp

set_option maxHeartbeats 4000000 in
theorem lawClean_any (s name : ByteArray) (w : World) (hM : MaxOK w) :
    Calls Tryd.prog 3 #[.string s, .string name] w fun e w' => e = .returned (.bool true) ∧ Below w.heap.size w w' := by
  have HM0 := Lib.hid hM
  have HB0 := Lib.hid (Below.refl w.heap.size w)
  have AW : Hid (∀ w0, MaxOK w0 → Calls Tryd.prog 6 #[] w0 fun e w' => e = .returned (.bool true) ∧ Below w0.heap.size w0 w') := fun w0 h => awake7_any w0 h
  clear hM
  by_cases h1 : 256 < s.size
  · have h1' : (256 : Int) < (s.size : Int) := by omega
    go_enter Tryd.func3, Tryd.ntmps3
    go_wp2_with (go_at_call 6; (with_reducible refine (AW.out _ HM0.out).mono ?_); rintro e w1 ⟨rfl, hb⟩; have HB1 := Lib.hid (btz HB0.out hb); have HM1 := Lib.hid (HM0.out.below hb); clear hb)
    go_ret
    exact ⟨rfl, HB1.out⟩
  by_cases h2 : 256 < name.size
  · have h1' : (s.size : Int) ≤ 256 := by omega
    have h2' : (256 : Int) < (name.size : Int) := by omega
    go_enter Tryd.func3, Tryd.ntmps3
    go_wp2_with (go_at_call 6; (with_reducible refine (AW.out _ HM0.out).mono ?_); rintro e w1 ⟨rfl, hb⟩; have HB1 := Lib.hid (btz HB0.out hb); have HM1 := Lib.hid (HM0.out.below hb); clear hb)
    go_ret
    exact ⟨rfl, HB1.out⟩
  have h1' : (s.size : Int) ≤ 256 := by omega
  have h2' : (name.size : Int) ≤ 256 := by omega
  obtain ⟨x, z, hx⟩ := pairC_form (cleanL s.data.toList)
  have hz1 := size_of s
  have hz2 := size_of name
  have C1 : Hid (∀ w0, Calls Tryd.prog 7 #[.string s] w0 fun e w' => e = .returned (.tuple #[.string (bs x), .int .i64 z]) ∧ Below w0.heap.size w0 w') := fun w0 => by
    have := clean_any s.data.toList w0 (by omega)
    rwa [of_bs, hx] at this
  have C2 : Hid (∀ w0, Calls Tryd.prog 8 #[.string s] w0 fun e w' => e = .returned (.tuple #[.string (bs x), .int .i64 z]) ∧ Below w0.heap.size w0 w') := fun w0 => by
    have := refClean_any s.data.toList w0 (by omega)
    rwa [of_bs, hx] at this
  obtain ⟨m1, m2, hm⟩ : ∃ (m1 : Int) (m2 : ByteArray), markV (markL name.data.toList) = .tuple #[.int .i64 m1, .string m2] := ⟨_, _, rfl⟩
  have C3 : Hid (∀ w0, Calls Tryd.prog 9 #[.string name] w0 fun e w' => e = .returned (.tuple #[.int .i64 m1, .string m2]) ∧ Below w0.heap.size w0 w') := fun w0 => by
    have := mark_any name.data.toList w0 (by omega)
    rwa [of_bs, hm] at this
  have C4 : Hid (∀ w0, Calls Tryd.prog 10 #[.string name] w0 fun e w' => e = .returned (.tuple #[.int .i64 m1, .string m2]) ∧ Below w0.heap.size w0 w') := fun w0 => by
    have := refMarkB_any name.data.toList w0 (by omega)
    rwa [of_bs, hm] at this
  generalize bs x = xs at *
  clear hx hm hz1 hz2 h1 h2
  go_enter Tryd.func3, Tryd.ntmps3
  go_wp2_with (first
    | (go_at_call 7; (with_reducible refine (C1.out _).mono ?_); rintro e w1 ⟨rfl, hb⟩; have HB1 := Lib.hid (btz HB0.out hb); have HM1 := Lib.hid (HM0.out.below hb); clear hb)
    | (go_at_call 8; (with_reducible refine (C2.out _).mono ?_); rintro e w2 ⟨rfl, hb⟩; have HB2 := Lib.hid (btz HB1.out hb); have HM2 := Lib.hid (HM1.out.below hb); clear hb)
    | (go_at_call 9; (with_reducible refine (C3.out _).mono ?_); rintro e w3 ⟨rfl, hb⟩; have HB3 := Lib.hid (btz HB2.out hb); have HM3 := Lib.hid (HM2.out.below hb); clear hb)
    | (go_at_call 10; (with_reducible refine (C4.out _).mono ?_); rintro e w4 ⟨rfl, hb⟩; have HB4 := Lib.hid (btz HB3.out hb); have HM4 := Lib.hid (HM3.out.below hb); clear hb)
    | (go_at_call 6; (with_reducible refine (AW.out _ HM4.out).mono ?_); rintro e w5 ⟨rfl, hb⟩; have HB5 := Lib.hid (btz HB4.out hb); have HM5 := Lib.hid (HM4.out.below hb); clear hb))
  go_ret
  exact ⟨rfl, HB5.out⟩

set_option maxHeartbeats 8000000 in
theorem lawParts_any (s t : ByteArray) (w : World) (hM : MaxOK w) :
    Calls Tryd.prog 4 #[.string s, .string t] w fun e w' => e = .returned (.bool true) ∧ Below w.heap.size w w' := by
  have HM0 := Lib.hid hM
  have HB0 := Lib.hid (Below.refl w.heap.size w)
  have AW : Hid (∀ w0, MaxOK w0 → Calls Tryd.prog 6 #[] w0 fun e w' => e = .returned (.bool true) ∧ Below w0.heap.size w0 w') := fun w0 h => awake7_any w0 h
  clear hM
  by_cases h1 : 256 < s.size
  · have h1' : (256 : Int) < (s.size : Int) := by omega
    go_enter Tryd.func4, Tryd.ntmps4
    go_wp2_with (go_at_call 6; (with_reducible refine (AW.out _ HM0.out).mono ?_); rintro e w1 ⟨rfl, hb⟩; have HB1 := Lib.hid (btz HB0.out hb); have HM1 := Lib.hid (HM0.out.below hb); clear hb)
    go_ret
    exact ⟨rfl, HB1.out⟩
  by_cases h2 : 256 < t.size
  · have h1' : (s.size : Int) ≤ 256 := by omega
    have h2' : (256 : Int) < (t.size : Int) := by omega
    go_enter Tryd.func4, Tryd.ntmps4
    go_wp2_with (go_at_call 6; (with_reducible refine (AW.out _ HM0.out).mono ?_); rintro e w1 ⟨rfl, hb⟩; have HB1 := Lib.hid (btz HB0.out hb); have HM1 := Lib.hid (HM0.out.below hb); clear hb)
    go_ret
    exact ⟨rfl, HB1.out⟩
  have h1' : (s.size : Int) ≤ 256 := by omega
  have h2' : (t.size : Int) ≤ 256 := by omega
  have hz1 := size_of s
  have hz2 := size_of t
  have C1 : Hid (∀ w0, Calls Tryd.prog 11 #[.string s] w0 fun e w' => e = .returned (.tuple #[.string (bs (dirL s.data.toList)), .string (bs (nameL s.data.toList))]) ∧ Below w0.heap.size w0 w') := fun w0 => by
    have := splitB_any s.data.toList w0 (by omega)
    rwa [of_bs] at this
  have C2 : Hid (∀ w0, Calls Tryd.prog 12 #[.string s] w0 fun e w' => e = .returned (.tuple #[.string (bs (dirL s.data.toList)), .string (bs (nameL s.data.toList))]) ∧ Below w0.heap.size w0 w') := fun w0 => by
    have := refSplit_any s.data.toList w0 (by omega)
    rwa [of_bs] at this
  have C3 : Hid (∀ w0, MaxOK w0 → Calls Tryd.prog 14 #[.string s] w0 (RetSl w0 (partsL s.data.toList))) := fun w0 h => by
    have := parts_any s.data.toList w0 (by omega) h
    rwa [of_bs] at this
  have C4 : Hid (∀ w0, Calls Tryd.prog 15 #[.string s] w0 (RetSl w0 (partsL s.data.toList))) := fun w0 => refParts_any s w0 (by omega)
  have hpl := parts_len s.data.toList
  have C5 : Hid (∀ (a a2 : Option Addr) (c c2 : Nat) (w0 : World), SlAt w0 a (partsL s.data.toList) → SlAt w0 a2 (partsL s.data.toList) → Calls Tryd.prog 13 #[.slice a (partsL s.data.toList).length c, .slice a2 (partsL s.data.toList).length c2] w0 fun e w' => e = .returned (.bool true) ∧ Below w0.heap.size w0 w') := fun a a2 c c2 w0 q1 q2 => by
    have := sameTexts_any _ _ a a2 c c2 w0 q1 q2 (by omega) (by omega)
    rwa [decide_eq_true rfl] at this
  have C6 : Hid (∀ w0, Calls Tryd.prog 16 #[.string s, .string t] w0 fun e w' => e = .returned (.string (bs (inL s.data.toList t.data.toList))) ∧ Below w0.heap.size w0 w') := fun w0 => by
    have := inB_any s.data.toList t.data.toList w0 (by omega) (by omega)
    rwa [of_bs, of_bs] at this
  have C7 : Hid (∀ w0, Calls Tryd.prog 17 #[.string s, .string t] w0 fun e w' => e = .returned (.string (bs (inL s.data.toList t.data.toList))) ∧ Below w0.heap.size w0 w') := fun w0 => by
    have := refInB_any s.data.toList t.data.toList w0 (by omega) (by omega)
    rwa [of_bs, of_bs] at this
  have C8 : Hid (∀ w0, MaxOK w0 → Calls Tryd.prog 18 #[.string s, .string t] w0 fun e w' => e = .returned (.bool (underL (partsL s.data.toList) (partsL t.data.toList))) ∧ Below w0.heap.size w0 w') := fun w0 h => by
    have := under_any s.data.toList t.data.toList w0 (by omega) (by omega) h
    rwa [of_bs, of_bs] at this
  have C9 : Hid (∀ w0, Calls Tryd.prog 19 #[.string s, .string t] w0 fun e w' => e = .returned (.bool (underL (partsL s.data.toList) (partsL t.data.toList))) ∧ Below w0.heap.size w0 w') := fun w0 => by
    have := refUnder_any s.data.toList t.data.toList w0 (by omega) (by omega)
    rwa [of_bs, of_bs] at this
  have D1 : Hid (∀ w0, MaxOK w0 → Calls Tryd.prog 20 #[.string s, .string t] w0 fun e w' => e = .returned (.int .i64 (cmpL (partsL s.data.toList) (partsL t.data.toList))) ∧ Below w0.heap.size w0 w') := fun w0 h => by
    have := compare_any s.data.toList t.data.toList w0 (by omega) (by omega) h
    rwa [of_bs, of_bs] at this
  have D2 : Hid (∀ w0, Calls Tryd.prog 21 #[.string s, .string t] w0 fun e w' => e = .returned (.int .i64 (cmpL (partsL s.data.toList) (partsL t.data.toList))) ∧ Below w0.heap.size w0 w') := fun w0 => by
    have := refCompare_any s.data.toList t.data.toList w0 (by omega) (by omega)
    rwa [of_bs, of_bs] at this
  clear hz1 hz2 h1 h2 hpl
  generalize bs (inL s.data.toList t.data.toList) = J at *
  generalize cmpL (partsL s.data.toList) (partsL t.data.toList) = O at *
  generalize underL (partsL s.data.toList) (partsL t.data.toList) = U at *
  generalize bs (dirL s.data.toList) = X1 at *
  generalize bs (nameL s.data.toList) = X2 at *
  generalize partsL s.data.toList = ls at *
  go_enter Tryd.func4, Tryd.ntmps4
  go_wp2_with (first
    | (go_at_call 11; (with_reducible refine (C1.out _).mono ?_); rintro e w1 ⟨rfl, hb⟩; have HB1 := Lib.hid (btz HB0.out hb); have HM1 := Lib.hid (HM0.out.below hb); clear hb)
    | (go_at_call 12; (with_reducible refine (C2.out _).mono ?_); rintro e w2 ⟨rfl, hb⟩; have HB2 := Lib.hid (btz HB1.out hb); have HM2 := Lib.hid (HM1.out.below hb); clear hb)
    | (go_at_call 14; (with_reducible refine (C3.out _ HM2.out).mono ?_); rintro e w3 hr; obtain ⟨a, c, rfl, hS, hb⟩ := one_use hr; have HS := Lib.hid hS; have HB3 := Lib.hid (btz HB2.out hb); have HM3 := Lib.hid (HM2.out.below hb); clear hS hb hr)
    | (go_at_call 15; (with_reducible refine (C4.out _).mono ?_); rintro e w4 hr; obtain ⟨a2, c2, rfl, hS1, hS2, hb2⟩ := two_use HS.out HB3.out hr; have hb4 := hr.choose_spec.2.2; have HS1 := Lib.hid hS1; have HS2 := Lib.hid hS2; have HB4 := Lib.hid hb2; have HM4 := Lib.hid (HM3.out.below hb4); clear hS1 hS2 hb2 hb4 hr)
    | (go_at_call 13; (with_reducible refine (C5.out _ _ _ _ _ HS1.out HS2.out).mono ?_); rintro e w5 ⟨rfl, hb⟩; have HB5 := Lib.hid (btz HB4.out hb); have HM5 := Lib.hid (HM4.out.below hb); clear hb)
    | (go_at_call 16; (with_reducible refine (C6.out _).mono ?_); rintro e w6 ⟨rfl, hb⟩; have HB6 := Lib.hid (btz HB5.out hb); have HM6 := Lib.hid (HM5.out.below hb); clear hb)
    | (go_at_call 17; (with_reducible refine (C7.out _).mono ?_); rintro e w7 ⟨rfl, hb⟩; have HB7 := Lib.hid (btz HB6.out hb); have HM7 := Lib.hid (HM6.out.below hb); clear hb)
    | (go_at_call 18; (with_reducible refine (C8.out _ HM7.out).mono ?_); rintro e w8 ⟨rfl, hb⟩; have HB8 := Lib.hid (btz HB7.out hb); have HM8 := Lib.hid (HM7.out.below hb); clear hb)
    | (go_at_call 19; (with_reducible refine (C9.out _).mono ?_); rintro e w9 ⟨rfl, hb⟩; have HB9 := Lib.hid (btz HB8.out hb); have HM9 := Lib.hid (HM8.out.below hb); clear hb)
    | (go_at_call 20; (with_reducible refine (D1.out _ HM9.out).mono ?_); rintro e w10 ⟨rfl, hb⟩; have HB10 := Lib.hid (btz HB9.out hb); have HM10 := Lib.hid (HM9.out.below hb); clear hb)
    | (go_at_call 21; (with_reducible refine (D2.out _).mono ?_); rintro e w11 ⟨rfl, hb⟩; have HB11 := Lib.hid (btz HB10.out hb); have HM11 := Lib.hid (HM10.out.below hb); clear hb)
    | (go_at_call 6; (with_reducible refine (AW.out _ HM11.out).mono ?_); rintro e w12 ⟨rfl, hb⟩; have HB12 := Lib.hid (btz HB11.out hb); have HM12 := Lib.hid (HM11.out.below hb); clear hb))
  go_ret
  exact ⟨rfl, HB12.out⟩
end Go.Proofs.YtlkhpfokmcpeiaaDoor

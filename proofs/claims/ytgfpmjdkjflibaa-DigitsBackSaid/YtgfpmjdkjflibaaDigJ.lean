/- Contract of awake, which each law of digits calls, and the walks of the laws DigitsDec, DigitsOctal and DigitsHex. -/
import Derived.Test.YtgfpmjdkjflibaaDigI
namespace Go.Proofs.Ytgfpmjdkjflibaa
open Go.RowKit
set_option linter.unusedVariables false

theorem bt {w a b : World} (h1 : Below w.heap.size w a) (h2 : Below a.heap.size a b) : Below w.heap.size w b := h1.trans (h2.mono h1.size)

theorem octal_493 (w : World) : Calls Try.prog 12 #[.int .i64 493, .int .i64 7] w fun e w' => e = .returned (.tuple #[.string ⟨#[48, 48, 48, 48, 55, 53, 53]⟩, .bool true]) ∧ Below w.heap.size w w' :=
  octal_any 493 7 w (by omega) (by omega)
theorem num_min (w : World) : Calls Try.prog 8 #[.string ⟨#[45, 57, 50, 50, 51, 51, 55, 50, 48, 51, 54, 56, 53, 52, 55, 55, 53, 56, 48, 56]⟩] w fun e w' => e = .returned (.tuple #[.int .i64 (-9223372036854775808), .bool true]) ∧ w = w' :=
  num_any ⟨#[45, 57, 50, 50, 51, 51, 55, 50, 48, 51, 54, 56, 53, 52, 55, 55, 53, 56, 48, 56]⟩ w (by show 20 ≤ _; unfold maxLen; omega)
theorem num_01 (w : World) : Calls Try.prog 8 #[.string ⟨#[48, 49]⟩] w fun e w' => e = .returned (.tuple #[.int .i64 0, .bool false]) ∧ w = w' :=
  num_any ⟨#[48, 49]⟩ w (by show 2 ≤ _; unfold maxLen; omega)
theorem unhex_00ff (w : World) : Calls Try.prog 16 #[.string ⟨#[48, 48, 102, 102]⟩] w fun e w' => e = .returned (.tuple #[.string ⟨#[0, 255]⟩, .bool true]) ∧ Below w.heap.size w w' :=
  unhex_any ⟨#[48, 48, 102, 102]⟩ w (by show 4 ≤ _; omega)
theorem dec_70 (w : World) : Calls Try.prog 10 #[.int .i64 (-70)] w fun e w' => e = .returned (.string ⟨#[45, 55, 48]⟩) ∧ Below w.heap.size w w' := by
  have h := dec_any (-70) w (by omega) (by omega)
  have e : decZ (-70) = [45, 55, 48] := by
    unfold decZ
    rw [if_pos (by omega), show (-70 : Int).natAbs = 70 from rfl, decN_big 70 (by omega), decN_small (70 / 10) (by omega)]
    rfl
  rw [e] at h
  exact h
theorem hex_A (w : World) : Calls Try.prog 18 #[.string ⟨#[65]⟩] w fun e w' => e = .returned (.string ⟨#[52, 49]⟩) ∧ Below w.heap.size w w' :=
  hex_any ⟨#[65]⟩ w (by show 1 ≤ _; omega)

theorem awake_any (w : World) : Calls Try.prog 7 #[] w fun e w' => e = .returned (.bool true) ∧ Below w.heap.size w w' := by
  go_enter Try.func7, Try.ntmps7
  go_wp2_with (first
    | (go_at_call 12; (with_reducible refine (octal_493 _).mono ?_); rintro e w1 ⟨rfl, hb1⟩)
    | (go_at_call 8; (with_reducible refine (num_min _).mono ?_); rintro e w2 ⟨rfl, rfl⟩)
    | (go_at_call 8; (with_reducible refine (num_01 _).mono ?_); rintro e w2 ⟨rfl, rfl⟩)
    | (go_at_call 16; (with_reducible refine (unhex_00ff _).mono ?_); rintro e w3 ⟨rfl, hb3⟩)
    | (go_at_call 10; (with_reducible refine (dec_70 _).mono ?_); rintro e w4 ⟨rfl, hb4⟩)
    | (go_at_call 18; (with_reducible refine (hex_A _).mono ?_); rintro e w5 ⟨rfl, hb5⟩))
  go_ret
  exact ⟨rfl, bt (bt (bt hb1 hb3) hb4) hb5⟩

theorem pairI_none : pairI none = .tuple #[.int .i64 0, .bool false] := rfl
theorem pairI_some (z : Int) : pairI (some z) = .tuple #[.int .i64 z, .bool true] := rfl
theorem pairN_none : pairN none = .tuple #[.int .i64 0, .bool false] := rfl
theorem pairN_some (z : Nat) : pairN (some z) = .tuple #[.int .i64 z, .bool true] := rfl
theorem pairS_none : pairS none = .tuple #[.string ⟨#[]⟩, .bool false] := rfl
theorem pairS_some (l : List UInt8) : pairS (some l) = .tuple #[.string ⟨l.toArray⟩, .bool true] := rfl

theorem digitsDec_walk (n : Int) (s : ByteArray) (w0 : (Lit.int .i64 n).wf = true) (w1 : s.size ≤ maxLen) (w : World) :
    Calls Try.prog 3 #[.int .i64 n, .string s] w fun e w' => e = .returned (.bool true) ∧ Below w.heap.size w w' := by
  have hx : -9223372036854775808 ≤ n ∧ n ≤ 9223372036854775807 := by simpa [Lit.wf, IntKind.min, IntKind.max, IntKind.signed, IntKind.bits] using w0
  obtain ⟨hx0, hx1⟩ := hx
  clear w0
  by_cases hlen : 100 < s.size
  · have hl : (100 : Int) < (s.size : Int) := by omega
    go_enter Try.func3, Try.ntmps3
    go_wp2_with (go_at_call 7; refine (awake_any _).mono ?_; rintro e w6 ⟨rfl, hb6⟩)
    go_ret
    exact ⟨rfl, hb6⟩
  · have hl : (s.size : Int) ≤ 100 := by omega
    have c1 := num_any s w w1
    have c2 := fun w0 : World => refNum_any s w0 w1
    cases hq : numZ s.data.toList with
    | none =>
      rw [hq, pairI_none] at c1
      simp only [hq, pairI_none] at c2
      have C1 := Lib.hid c1
      have C2 := Lib.hid c2
      clear c1 c2 hq
      go_enter Try.func3, Try.ntmps3
      go_wp2_with (first
        | (go_at_call 8; refine C1.out.mono ?_; rintro e w1 ⟨rfl, rfl⟩)
        | (go_at_call 9; refine (C2.out _).mono ?_; rintro e w2 ⟨rfl, hb2⟩)
        | (go_at_call 10; refine (dec_any n _ hx0 hx1).mono ?_; rintro e w3 ⟨rfl, hb3⟩)
        | (go_at_call 11; refine (refDec_any n _ hx0 hx1).mono ?_; rintro e w4 ⟨rfl, hb4⟩)
        | (go_at_call 7; refine (awake_any _).mono ?_; rintro e w5 ⟨rfl, hb5⟩))
      go_ret
      exact ⟨rfl, bt (bt (bt hb2 hb3) hb4) hb5⟩
    | some z =>
      rw [hq, pairI_some] at c1
      simp only [hq, pairI_some] at c2
      have C1 := Lib.hid c1
      have C2 := Lib.hid c2
      clear c1 c2 hq
      go_enter Try.func3, Try.ntmps3
      go_wp2_with (first
        | (go_at_call 8; refine C1.out.mono ?_; rintro e w1 ⟨rfl, rfl⟩)
        | (go_at_call 9; refine (C2.out _).mono ?_; rintro e w2 ⟨rfl, hb2⟩)
        | (go_at_call 10; refine (dec_any n _ hx0 hx1).mono ?_; rintro e w3 ⟨rfl, hb3⟩)
        | (go_at_call 11; refine (refDec_any n _ hx0 hx1).mono ?_; rintro e w4 ⟨rfl, hb4⟩)
        | (go_at_call 7; refine (awake_any _).mono ?_; rintro e w5 ⟨rfl, hb5⟩))
      go_ret
      exact ⟨rfl, bt (bt (bt hb2 hb3) hb4) hb5⟩

theorem pairS_form (o : Option (List UInt8)) : ∃ a b, pairS o = .tuple #[.string a, .bool b] := by cases o <;> exact ⟨_, _, rfl⟩
theorem pairN_form (o : Option Nat) : ∃ a b, pairN o = .tuple #[.int .i64 a, .bool b] := by cases o <;> exact ⟨_, _, rfl⟩

theorem digitsOctal_walk (n d : Int) (s : ByteArray) (w0 : (Lit.int .i64 n).wf = true) (w1 : (Lit.int .i64 d).wf = true) (w2 : s.size ≤ maxLen) (w : World) :
    Calls Try.prog 4 #[.int .i64 n, .int .i64 d, .string s] w fun e w' => e = .returned (.bool true) ∧ Below w.heap.size w w' := by
  have hx : -9223372036854775808 ≤ n ∧ n ≤ 9223372036854775807 := by simpa [Lit.wf, IntKind.min, IntKind.max, IntKind.signed, IntKind.bits] using w0
  obtain ⟨hx0, hx1⟩ := hx
  clear w0
  by_cases hlen : 100 < s.size
  · have hl : (100 : Int) < (s.size : Int) := by omega
    go_enter Try.func4, Try.ntmps4
    go_wp2_with (go_at_call 7; refine (awake_any _).mono ?_; rintro e w6 ⟨rfl, hb6⟩)
    go_ret
    exact ⟨rfl, hb6⟩
  · have hl : (s.size : Int) ≤ 100 := by omega
    have c1 := fun w0 : World => octal_any n d w0 hx0 hx1
    have c2 := fun w0 : World => refOctal_any n d w0 hx0 hx1
    have c3 := fun w0 : World => fromOctal_any s w0 w2
    have c4 := fun w0 : World => refFromOctal_any s w0 w2
    obtain ⟨sa, sb, hs⟩ := pairS_form (octS n d)
    obtain ⟨na, nb, hn⟩ := pairN_form (octN s.data.toList)
    simp only [hs] at c1 c2
    simp only [hn] at c3 c4
    have C1 := Lib.hid c1
    have C2 := Lib.hid c2
    have C3 := Lib.hid c3
    have C4 := Lib.hid c4
    clear c1 c2 c3 c4 hs hn
    go_enter Try.func4, Try.ntmps4
    go_wp2_with (first
      | (go_at_call 12; refine (C1.out _).mono ?_; rintro e w1 ⟨rfl, hb1⟩)
      | (go_at_call 13; refine (C2.out _).mono ?_; rintro e w2 ⟨rfl, hb2⟩)
      | (go_at_call 14; refine (C3.out _).mono ?_; rintro e w3 ⟨rfl, rfl⟩)
      | (go_at_call 15; refine (C4.out _).mono ?_; rintro e w3 ⟨rfl, rfl⟩)
      | (go_at_call 7; refine (awake_any _).mono ?_; rintro e w5 ⟨rfl, hb5⟩))
    go_ret
    exact ⟨rfl, bt (bt hb1 hb2) hb5⟩

theorem digitsHex_walk (a b : ByteArray) (w0 : a.size ≤ maxLen) (w1 : b.size ≤ maxLen) (w : World) :
    Calls Try.prog 5 #[.string a, .string b] w fun e w' => e = .returned (.bool true) ∧ Below w.heap.size w w' := by
  by_cases hla : 512 < a.size
  · have hl : (512 : Int) < (a.size : Int) := by omega
    go_enter Try.func5, Try.ntmps5
    go_wp2_with (go_at_call 7; refine (awake_any _).mono ?_; rintro e w6 ⟨rfl, hb6⟩)
    go_ret
    exact ⟨rfl, hb6⟩
  · have hl : (a.size : Int) ≤ 512 := by omega
    by_cases hlb : 512 < b.size
    · have hl2 : (512 : Int) < (b.size : Int) := by omega
      go_enter Try.func5, Try.ntmps5
      go_wp2_with (go_at_call 7; refine (awake_any _).mono ?_; rintro e w6 ⟨rfl, hb6⟩)
      go_ret
      exact ⟨rfl, hb6⟩
    · have hl2 : (b.size : Int) ≤ 512 := by omega
      have c1 := fun w0 : World => unhex_any b w0 (by omega)
      have c2 := fun w0 : World => refUnhex_any b w0 (by omega)
      have C3 := Lib.hid (fun w0 : World => hex_any a w0 (by omega))
      have C4 := Lib.hid (fun w0 : World => refHex_any a w0 (by omega))
      obtain ⟨sa, sb, hs⟩ := pairS_form (unhexG [] b.data.toList)
      simp only [hs] at c1 c2
      have C1 := Lib.hid c1
      have C2 := Lib.hid c2
      clear c1 c2 hs
      go_enter Try.func5, Try.ntmps5
      go_wp2_with (first
        | (go_at_call 16; refine (C1.out _).mono ?_; rintro e w1 ⟨rfl, hb1⟩)
        | (go_at_call 17; refine (C2.out _).mono ?_; rintro e w2 ⟨rfl, hb2⟩)
        | (go_at_call 18; refine (C3.out _).mono ?_; rintro e w3 ⟨rfl, hb3⟩)
        | (go_at_call 19; refine (C4.out _).mono ?_; rintro e w4 ⟨rfl, hb4⟩)
        | (go_at_call 7; refine (awake_any _).mono ?_; rintro e w5 ⟨rfl, hb5⟩))
      go_ret
      exact ⟨rfl, bt (bt (bt (bt hb1 hb2) hb3) hb4) hb5⟩
end Go.Proofs.Ytgfpmjdkjflibaa

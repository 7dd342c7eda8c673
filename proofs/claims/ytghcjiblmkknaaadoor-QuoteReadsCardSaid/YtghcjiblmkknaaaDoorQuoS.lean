/- Contracts of the reference's Valid, short and hexs. -/
import Derived.Test.YtghcjiblmkknaaaDoorQuoL
namespace Go.Proofs.YtghcjiblmkknaaaDoor
open Go.RowKit
set_option linter.unusedVariables false

theorem extr_list (s : ByteArray) (pos : Nat) : (s.extract pos s.size).data.toList = s.data.toList.drop pos := by
  rw [Lib.extract_data, List.take_of_length_le (by simp)]

theorem refValid_any (s : ByteArray) (w : World) (hs : s.size ≤ 1099511627776) :
    Calls Tryd.prog 11 #[.string s] w fun e w' => e = .returned (.bool (Lib.validD s.data.toList)) ∧ Below w.heap.size w w' := by
  have HL := Lib.hid (show s.data.toList.length = s.size by simp)
  obtain ⟨O, hO⟩ : ∃ O, O = Lib.validD s.data.toList := ⟨_, rfl⟩
  rw [← hO]
  have HO := Lib.hid hO
  clear hO
  go_enter Tryd.func11, Tryd.ntmps11
  go_wp2_with fail
  go_loopw [3] (fun ii wr => ∃ pos : Nat, pos ≤ s.size ∧ ii = .int .i64 (pos : Int) ∧ Hid (Below w.heap.size w wr) ∧ Hid (Lib.validD (s.data.toList.drop pos) = O) ∧ w.heap.size ≤ wr.heap.size) (fun ii _ => s.size - (intOf ii).toNat)
  case atStart => exact ⟨0, Nat.zero_le _, rfl, Below.refl _ _, HO.out.symm, Nat.le_refl _⟩
  case round =>
    obtain ⟨pos, hpos, rfl, hbel, hval, hsz⟩ := hrel
    by_cases hp : pos < s.size
    · have hne : s.data.toList.drop pos ≠ [] := by
        intro h
        have := congrArg List.length h
        rw [List.length_drop, HL.out] at this; simp at this; omega
      have hv := valid_step _ hne
      have hle := fun w0 => refLetter_any (s.extract pos s.size) w0 (by rw [Lib.size_eq, extr_list, List.length_drop, HL.out]; omega)
      rw [extr_list] at hle
      have hpz : (pos : Int) < (s.size : Int) := by omega
      cases hL : letterG (s.data.toList.drop pos) with
      | none =>
        have HV := Lib.hid (show O = false by rw [← hval.out, hv, hL])
        rw [hL] at hle
        change ∀ w0, Calls Tryd.prog 17 #[.string (s.extract pos s.size)] w0 fun e w' => e = .returned (.tuple #[.int .i64 0, .int .i64 0]) ∧ Below w0.heap.size w0 w' at hle
        clear hL hv hne hval
        go_wp2_with (go_at_call 17; refine (hle _).mono ?_)
        first | rintro e W1 rfl b1 | rintro e W1 ⟨rfl, b1⟩
        have B1 := Lib.hid (btr hbel.out (Nat.le_refl _) b1)
        clear b1
        go_wp2_with fail
        go_ret
        exact ⟨by rw [HV.out]; rfl, B1.out⟩
      | some x =>
        obtain ⟨n, k⟩ := x
        obtain ⟨i1, i2, i3, i4, i5, i6, i7⟩ := letter_facts hL
        rw [List.length_drop, HL.out] at i4
        rw [hL] at hv
        simp only [List.drop_drop] at hv
        have HV := Lib.hid (hv.symm.trans hval.out)
        rw [hL] at hle
        change ∀ w0, Calls Tryd.prog 17 #[.string (s.extract pos s.size)] w0 fun e w' => e = .returned (.tuple #[.int .i64 (n : Int), .int .i64 (k : Int)]) ∧ Below w0.heap.size w0 w' at hle
        have hk0 : ((k : Int) == 0) = false := by simp; omega
        have hw1 : IntKind.i64.wrap ((pos : Int) + (k : Int)) = (pos : Int) + (k : Int) := IntWalk.i64_in _ (by omega)
        clear hL hv hne hval i1 i5 i6 i7
        go_wp2_with (go_at_call 17; refine (hle _).mono ?_)
        first | rintro e W1 rfl b1 | rintro e W1 ⟨rfl, b1⟩
        have B1 := Lib.hid (btr hbel.out (Nat.le_refl _) b1)
        have S1 := b1.size
        clear b1
        go_wp2_with fail
        go_roundw
        case rel => exact ⟨pos + k, by omega, by go_num, B1.out, HV.out, by omega⟩
        case measure => simp [intOf]; omega
    · have HV := Lib.hid (show O = true by rw [← hval.out, List.drop_of_length_le (by rw [HL.out]; omega)]; rfl)
      have hpz : ¬ (pos : Int) < (s.size : Int) := by omega
      clear hval
      go_wp2_with fail
      go_ret
      exact ⟨by rw [HV.out]; rfl, hbel.out⟩

theorem refShort_any (n : Nat) (w : World) :
    Calls Tryd.prog 18 #[.int .i64 (n : Int)] w fun e w' => e = .returned (.int .u8 (shortG n : Int)) ∧ w' = w := by
  have key : ∀ z r : Int, (z = 34 ∧ r = 34) ∨ (z = 92 ∧ r = 92) ∨ (z = 8 ∧ r = 98) ∨ (z = 12 ∧ r = 102) ∨ (z = 10 ∧ r = 110) ∨ (z = 13 ∧ r = 114) ∨ (z = 9 ∧ r = 116) →
      Calls Tryd.prog 18 #[.int .i64 z] w fun e w' => e = .returned (.int .u8 r) ∧ w' = w := by
    intro z r h
    rcases h with ⟨rfl, rfl⟩ | ⟨rfl, rfl⟩ | ⟨rfl, rfl⟩ | ⟨rfl, rfl⟩ | ⟨rfl, rfl⟩ | ⟨rfl, rfl⟩ | ⟨rfl, rfl⟩
    all_goals
      go_enter Tryd.func18, Tryd.ntmps18
      go_wp2
      go_ret
      exact ⟨rfl, rfl⟩
  have key2 : ∀ z : Int, (z == 34) = false → (z == 92) = false → (z == 8) = false → (z == 12) = false → (z == 10) = false → (z == 13) = false → (z == 9) = false →
      Calls Tryd.prog 18 #[.int .i64 z] w fun e w' => e = .returned (.int .u8 0) ∧ w' = w := by
    intro z h1 h2 h3 h4 h5 h6 h7
    go_enter Tryd.func18, Tryd.ntmps18
    go_wp2
    go_ret
    exact ⟨rfl, rfl⟩
  by_cases h : 0 < shortG n
  · apply key
    unfold shortG at h ⊢
    repeat' split at h
    all_goals first | omega | (rename_i hh; subst hh; simp) | simp_all
  · have h0 : shortG n = 0 := by omega
    rw [h0]
    unfold shortG at h0
    repeat' split at h0
    all_goals first | (exfalso; omega) | (apply key2 <;> (simp; omega))

def hexN : Nat → Nat → List UInt8
  | 0, _ => []
  | d + 1, n => hexN d (n / 16) ++ [hByte (n % 16)]
theorem hexN_four (n : Nat) (h : n < 256) : hexN 4 n = [48, 48, hByte (n / 16), hByte (n % 16)] := by
  have e1 : n / 16 % 16 = n / 16 := by omega
  have e2 : n / 16 / 16 = 0 := by omega
  simp [hexN, e1, e2]
  decide
theorem add_frontR (w : World) (d : UInt8) (y : List UInt8) (h : y.length + 1 ≤ 9223372036854775807) : (Op.stringOp .add ⟨#[d]⟩ ⟨y.toArray⟩).run Tryd.prog w = .ok (.string ⟨(d :: y).toArray⟩) w := by
  rw [run_string_add_sum w _ _ (by simp [ByteArray.size]; omega)]
  have := ByteArray.mk_append_mk [d] y
  rw [List.singleton_append] at this
  rw [← this]

theorem refHexs_any (m : Nat) (w : World) (hm : m < 65536) :
    Calls Tryd.prog 19 #[.int .i64 (m : Int)] w fun e w' => e = .returned (.string ⟨(hexN 4 m).toArray⟩) ∧ Below w.heap.size w w' := by
  obtain ⟨O, hO⟩ : ∃ O, O = hexN 4 m := ⟨_, rfl⟩
  rw [← hO]
  have HO := Lib.hid hO
  clear hO
  go_enter Tryd.func19, Tryd.ntmps19
  go_wp2
  go_loopw [0, 3, 4] (fun rest txt cnt wr => ∃ (r k : Nat) (acc : List UInt8), rest = .int .i64 r ∧ txt = .string ⟨acc.toArray⟩ ∧ cnt = .int .i64 k ∧ k ≤ 4 ∧ r ≤ m ∧ Hid (acc.length = k) ∧ Hid (hexN (4 - k) r ++ acc = O) ∧ Hid (Below w.heap.size w wr) ∧ w.heap.size ≤ wr.heap.size) (fun _ _ cnt _ => 4 - (intOf cnt).toNat)
  case atStart => exact ⟨m, 0, [], rfl, rfl, rfl, by omega, by omega, rfl, by show hexN 4 m ++ [] = O; rw [HO.out, List.append_nil], Below.refl _ _, Nat.le_refl _⟩
  case round =>
    obtain ⟨r, k, acc, rfl, rfl, rfl, hk, hr, hacc, hhex, hbel, hsz⟩ := hrel
    by_cases hlt : k < 4
    · have hd0 := hByte_toNat (r % 16) (by omega)
      have hadd := fun w0 : World => add_frontR w0 (hByte (r % 16)) acc (by have := hacc.out; omega)
      have HX := Lib.hid (show hexN (4 - (k + 1)) (r / 16) ++ (hByte (r % 16) :: acc) = O by
        rw [← hhex.out, show 4 - k = (4 - (k + 1)) + 1 by omega]; simp [hexN])
      by_cases h10 : r % 16 < 10
      · have hz10 : (r : Int) % 16 < 10 := by omega
        have hcv := conv1 wr (hByte (r % 16)) (48 + (r : Int) % 16) (by rw [hd0, if_pos h10]; omega)
        clear hd0 hhex h10
        go_wp2
        go_roundw
        case rel => exact ⟨r / 16, k + 1, hByte (r % 16) :: acc, by go_num, rfl, by go_num, by omega, by omega, by have := hacc.out; show List.length _ = _; simpa using this, HX.out, hbel.out.alloc hsz _, by simp; omega⟩
        case measure => simp [intOf]; omega
      · have hz10 : ¬ (r : Int) % 16 < 10 := by omega
        have hcv := conv1 wr (hByte (r % 16)) (97 + (r : Int) % 16 - 10) (by rw [hd0, if_neg h10]; omega)
        clear hd0 hhex h10
        go_wp2
        go_roundw
        case rel => exact ⟨r / 16, k + 1, hByte (r % 16) :: acc, by go_num, rfl, by go_num, by omega, by omega, by have := hacc.out; show List.length _ = _; simpa using this, HX.out, hbel.out.alloc hsz _, by simp; omega⟩
        case measure => simp [intOf]; omega
    · have hk4 : k = 4 := by omega
      have HA := Lib.hid (show acc = O by rw [← hhex.out, hk4]; rfl)
      clear hhex
      go_wp2
      go_ret
      exact ⟨by rw [← HA.out]; rfl, hbel.out⟩
end Go.Proofs.YtghcjiblmkknaaaDoor

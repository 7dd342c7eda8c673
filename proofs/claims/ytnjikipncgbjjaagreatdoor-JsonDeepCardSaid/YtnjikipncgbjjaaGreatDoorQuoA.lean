/- Contracts of quote.isBroken and quote.Valid: whether bytes are those of letters. -/
import Derived.Test.YtnjikipncgbjjaaGreatDoorShelfB
import Derived.Test.YtnjikipncgbjjaaGreatDoorQuoT
import Derived.Test.YtnjikipncgbjjaaGreatDoorHexP
import Derived.BigCall
import Derived.WalkKit
namespace Go.Proofs.YtnjikipncgbjjaaGreatDoor
open Go.RowKit
set_option linter.unusedVariables false
set_option maxRecDepth 100000

def decodeLn (l : List UInt8) : Nat := (Lib.decodeL l).1
theorem hasFFFD (l : List UInt8) : Lib.hasPrefix l [239, 191, 189] = true ↔ ∃ r, l = enc 65533 ++ r := by
  have e : enc 65533 = [239, 191, 189] := by decide
  rw [e]
  show List.isPrefixOf [239, 191, 189] l = true ↔ _
  rw [List.isPrefixOf_iff_prefix]
  constructor
  · rintro ⟨r, h⟩; exact ⟨r, h.symm⟩
  · rintro ⟨r, h⟩; exact ⟨r, h.symm⟩
/-- A decoded letter that is U+FFFD, where its bytes do not stand, is none. -/
theorem broken_iff (l : List UInt8) (hne : l ≠ []) : (((decodeLn l : Nat) : Int) = 65533 ∧ Lib.hasPrefix l [239, 191, 189] = false) ↔ letterG l = none := by
  unfold decodeLn
  constructor
  · rintro ⟨h1, h2⟩
    cases hL : letterG l with
    | none => rfl
    | some x =>
      obtain ⟨n, k⟩ := x
      have hd := (letter_facts hL).2.2.2.2.2.2
      rw [hd] at h1
      have hn : n = 65533 := by simp only at h1; omega
      subst hn
      have := (hasFFFD l).2 ⟨_, (letter_split hL).1⟩
      rw [this] at h2; cases h2
  · intro h
    have hd := letter_none hne h
    refine ⟨by rw [hd]; rfl, ?_⟩
    cases hp : Lib.hasPrefix l [239, 191, 189] with
    | false => rfl
    | true =>
      obtain ⟨r, e⟩ := (hasFFFD l).1 hp
      rw [e, letter_enc 65533 (by decide) r] at h
      cases h

theorem broken_any (r : Int) (t : ByteArray) (w : World) :
    Calls Tryz.prog 85 #[.int .i32 r, .string t] w fun e w' => e = .returned (.bool (decide (r = 65533 ∧ Lib.hasPrefix t.data.toList [239, 191, 189] = false))) ∧ w' = w := by
  by_cases h : r = 65533
  · subst h
    cases hp : Lib.hasPrefix t.data.toList [239, 191, 189]
    all_goals
      go_enter Tryz.func85, Tryz.ntmps85
      go_wp2_with (go_at_call 95; refine (Tryz.strings_HasPrefix _ _ _).mono ?_; rintro e w' ⟨rfl, rfl⟩)
      go_ret
      simp
  · have hb : (r == (65533 : Int)) = false := by simp [h]
    have HO := Lib.hid (show decide (r = 65533 ∧ Lib.hasPrefix t.data.toList [239, 191, 189] = false) = false by simp [h])
    clear h
    go_enter Tryz.func85, Tryz.ntmps85
    go_wp2_with fail
    go_ret
    exact ⟨by rw [HO.out]; rfl, rfl⟩

theorem ext_list (s : ByteArray) (pos : Nat) : (s.extract pos s.size).data.toList = s.data.toList.drop pos := by
  rw [Lib.extract_data, List.take_of_length_le (by simp)]
/-- isBroken at place pos of a text, of what is decoded there. -/
theorem broken_at (s : ByteArray) (pos : Nat) (hp : pos < s.size) (b : Bool) (hb : (letterG (s.data.toList.drop pos)).isNone = b) (w : World) :
    Calls Tryz.prog 85 #[.int .i32 ((Utf8.decode s pos).1 : Int), .string (s.extract pos s.size)] w fun e w' => e = .returned (.bool b) ∧ w' = w := by
  refine (broken_any _ _ _).mono ?_
  rintro e w' ⟨rfl, rfl⟩
  refine ⟨?_, rfl⟩
  congr 2
  have hne : s.data.toList.drop pos ≠ [] := by
    intro h
    have := congrArg List.length h
    simp at this; omega
  have hi := broken_iff (s.data.toList.drop pos) hne
  unfold decodeLn at hi
  rw [Lib.decodeL_drop] at hi
  rw [ext_list, ← hb]
  cases hL : letterG (s.data.toList.drop pos) with
  | none => simp only [Option.isNone_none, decide_eq_true_eq]; exact hi.2 hL
  | some x =>
    simp only [Option.isNone_some, decide_eq_false_iff_not]
    intro h; rw [hi.1 h] at hL; cases hL

theorem valid_any (s : ByteArray) (w : World) (hs : s.size ≤ 35184372088832) :
    Calls Tryz.prog 62 #[.string s] w fun e w' => e = .returned (.bool (Lib.validD s.data.toList)) ∧ Below w.heap.size w w' := by
  have HL := Lib.hid (show s.data.toList.length = s.size by simp)
  go_enter Tryz.func62, Tryz.ntmps62
  go_wp2_with fail
  go_loopw [] (fun wr => ∃ pos : Nat, pos ≤ s.size ∧ wr.heap[w.heap.size]? = some (.stringIter s pos) ∧ Hid (Below w.heap.size w wr) ∧ Hid (Lib.validD (s.data.toList.drop pos) = Lib.validD s.data.toList)) (fun wr => s.size - wr.iterPos w.heap.size)
  case atStart =>
    refine ⟨0, Nat.zero_le _, ?_, (Below.refl _ w).alloc (Nat.le_refl _) _, rfl⟩
    have := World.iter_heap w s 0
    simpa using this
  case round =>
    obtain ⟨pos, hpos, hit, hbel, hval⟩ := hrel
    have hsz : w.heap.size < wr.heap.size := (Array.getElem?_eq_some_iff.1 hit).1
    by_cases hp : pos < s.size
    · have hnx : ∀ ty, (Instr.next (.pointer (some ⟨w.heap.size, 0, none⟩)) true ty).run Tryz.prog wr = _ := fun ty => Lib.run_next_any_at wr w.heap.size s pos ty hit hp
      have hne : s.data.toList.drop pos ≠ [] := by
        intro h
        have := congrArg List.length h
        rw [List.length_drop, HL.out] at this; simp at this; omega
      have hv := valid_step _ hne
      have hdl := Lib.decodeL_drop s pos
      cases hL : letterG (s.data.toList.drop pos) with
      | none =>
        have hc := fun w0 : World => broken_at s pos hp true (by rw [hL]; rfl) w0
        have HV := Lib.hid (show Lib.validD s.data.toList = false by rw [← hval.out, hv, hL])
        have hbw2 := Lib.hid (Lib.below_iterAt hbel.out (k := w.heap.size) (Nat.le_refl _) s (pos + (Utf8.decode s pos).2))
        clear hL hv hdl hne hval hbel
        go_wp2_with (go_at_call 85; refine (hc _).mono ?_; rintro e w' ⟨rfl, rfl⟩)
        go_ret
        exact ⟨by rw [HV.out]; rfl, hbw2.out⟩
      | some x =>
        obtain ⟨n, k⟩ := x
        obtain ⟨i1, i2, i3, i4, i5, i6, i7⟩ := letter_facts hL
        rw [List.length_drop, HL.out] at i4
        rw [hL] at hv
        simp only [List.drop_drop] at hv
        rw [hdl] at i7
        have hc := fun w0 : World => broken_at s pos hp false (by rw [hL]; rfl) w0
        have HV := Lib.hid (hv.symm.trans hval.out)
        have hit2 := Lib.iterAt_heap wr w.heap.size s pos (pos + (Utf8.decode s pos).2) hit
        have hbw2 := Lib.hid (Lib.below_iterAt hbel.out (k := w.heap.size) (Nat.le_refl _) s (pos + (Utf8.decode s pos).2))
        have H7 := Lib.hid i7
        have hk : (Utf8.decode s pos).2 = k := by rw [i7]
        have HK := Lib.hid hk
        clear hL hv hdl hne hval hbel i5 i6 i7 i1 hk
        go_wp2_with (go_at_call 85; refine (hc _).mono ?_; rintro e w' ⟨rfl, rfl⟩)
        rw [HK.out] at hit2 hbw2 ⊢
        go_roundw
        case rel => exact ⟨pos + k, by omega, hit2, hbw2.out, HV.out⟩
        case measure =>
          simp only [World.iterPos, hit2, hit]
          omega
    · have hnx : ∀ ty, (Instr.next (.pointer (some ⟨w.heap.size, 0, none⟩)) true ty).run Tryz.prog wr = _ := fun ty => Lib.run_next_end_at wr w.heap.size s pos ty hit hp
      have HV := Lib.hid (show Lib.validD s.data.toList = true by rw [← hval.out, List.drop_of_length_le (by rw [HL.out]; omega)]; rfl)
      clear hval
      go_wp2_with fail
      go_ret
      exact ⟨by rw [HV.out]; rfl, hbel.out⟩
end Go.Proofs.YtnjikipncgbjjaaGreatDoor

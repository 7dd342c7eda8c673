/- Layer 7: the program's isForbidden, isName, Mark. -/
import Derived.Test.YtagdhghjcibfbaaGreatDoorPaJ
namespace Go.Proofs.YtagdhghjcibfbaaGreatDoor
open Go.RowKit
set_option linter.unusedVariables false
set_option maxRecDepth 100000

theorem arr3 : Tryz.prog.underlying 173 = some (.array (Tryz.prog.arrayLen 173) (Tryz.prog.elem 173)) := by kernel_rfl
theorem arrLen3 : Tryz.prog.arrayLen 173 = 3 := by kernel_rfl
theorem size3 (w : World) : (sizeOf (Tryz.prog.elem 173)).run Tryz.prog w = .ok 1 w := by kernel_rfl
theorem slice3 (b : Nat) (w : World) : (Instr.sliceAt 173 (.pointer (some ⟨b, 0, none⟩)) none none none).run Tryz.prog w = .ok (.slice (some ⟨b, 0, none⟩) 3 3) w := by
  rw [run_sliceAt_array_all w 173 ⟨b, 0, none⟩ arr3, size3]
  show Result.ok _ w = _
  unfold slicedAt
  rw [arrLen3]
  rfl

theorem contains3 (p : List UInt8) : Lib.containsS ([bs [], bs [46], bs [46, 46]].take 3) (bs p) = forbB p := by
  rw [Bool.eq_iff_iff, Lib.containsS_iff]
  unfold forbB
  simp only [List.take_succ_cons, List.take_zero, List.mem_cons, List.mem_nil_iff, or_false, Bool.or_eq_true, decide_eq_true_eq]
  constructor
  · rintro (h | h | h)
    · exact .inl (.inl (bs_inj h))
    · exact .inl (.inr (bs_inj h))
    · exact .inr (bs_inj h)
  · rintro ((h | h) | h)
    · exact .inl (by rw [h])
    · exact .inr (.inl (by rw [h]))
    · exact .inr (.inr (by rw [h]))
theorem cell3 (w : World) : ∀ j, j < 3 → (w.alloc (.cells #[.string ⟨#[]⟩, .string ⟨#[46]⟩, .string ⟨#[46, 46]⟩] 173)).cell? ⟨w.heap.size, 0 + j, none⟩ = some (.string ([bs [], bs [46], bs [46, 46]].getD j ByteArray.empty)) := by
  intro j hj
  rw [Nat.zero_add, World.cell?_alloc_new]
  match j, hj with
  | 0, _ => rfl
  | 1, _ => rfl
  | 2, _ => rfl

set_option maxHeartbeats 1000000 in
theorem forb_any (p : List UInt8) (w : World) :
    Calls Tryz.prog 112 #[.string (bs p)] w fun e w' => e = .returned (.bool (forbB p)) ∧ Below w.heap.size w w' := by
  have HC : Hid (∀ w0 : World, (∀ j, j < 3 → w0.cell? ⟨w.heap.size, 0 + j, none⟩ = some (.string ([bs [], bs [46], bs [46, 46]].getD j ByteArray.empty))) → Calls Tryz.prog 134 #[.slice (some ⟨w.heap.size, 0, none⟩) 3 3, .string (bs p)] w0 fun e w' => e = .returned (.bool (forbB p)) ∧ w0 = w') := fun w0 h => by
    have := Tryz.slices_Contains_string w.heap.size 0 3 3 [bs [], bs [46], bs [46, 46]] (bs p) w0 (by decide) (by decide) h
    rw [contains3] at this
    exact this.mono fun e w' h => ⟨h.1, h.2.symm⟩
  have hsl := fun w0 => slice3 w.heap.size w0
  have H3 := Lib.hid (cell3 w)
  generalize forbB p = O at *
  generalize bs p = s at *
  go_enter Tryz.func112, Tryz.ntmps112
  go_wp2_with (go_at_call 134; (with_reducible refine (HC.out _ H3.out).mono ?_); rintro e w1 ⟨rfl, rfl⟩)
  go_ret
  exact ⟨rfl, (Below.refl _ _).alloc (Nat.le_refl _) _⟩

theorem index_has (l : List UInt8) (c : UInt8) : decide (0 ≤ Lib.indexByte l c) = l.contains c := by
  induction l with
  | nil => rfl
  | cons b l ih =>
    rw [List.contains_cons, ← ih]
    rw [show Lib.indexByte (b :: l) c = if b == c then 0 else if Lib.indexByte l c == -1 then -1 else Lib.indexByte l c + 1 from rfl]
    have := Lib.indexByte_ge l c
    by_cases h : b = c
    · subst h; simp
    · have h1 : (b == c) = false := by simpa using h
      have h2 : (c == b) = false := by simpa using fun e : c = b => h e.symm
      rw [h1, h2, if_neg (by simp), Bool.false_or]
      by_cases hm : Lib.indexByte l c = -1
      · rw [hm]; rfl
      · rw [if_neg (by simpa using hm)]
        rw [decide_eq_true (by omega), decide_eq_true (by omega)]

set_option maxHeartbeats 1000000 in
theorem name_any (p : List UInt8) (w : World) :
    Calls Tryz.prog 88 #[.string (bs p)] w fun e w' => e = .returned (.bool (nameB p)) ∧ Below w.heap.size w w' := by
  have HC : Hid (∀ w0, Calls Tryz.prog 111 #[.string (bs p), .string ⟨#[0]⟩] w0 fun e w' => e = .returned (.bool (p.contains 0)) ∧ w0 = w') := fun w0 => by
    have := Tryz.strings_Contains_one (bs p) 0 w0
    rw [bs_list, index_has] at this
    exact this.mono fun e w' h => ⟨h.1, h.2.symm⟩
  have HF : Hid (∀ w0, Calls Tryz.prog 112 #[.string (bs p)] w0 fun e w' => e = .returned (.bool (forbB p)) ∧ Below w0.heap.size w0 w') := fun w0 => forb_any p w0
  obtain ⟨O, hO⟩ : ∃ O, O = nameB p := ⟨_, rfl⟩
  rw [← hO]
  unfold nameB at hO
  have hz := bs_size p
  rw [← hz] at hO
  clear hz
  generalize bs p = s at *
  generalize p.contains 0 = c0 at *
  generalize forbB p = f0 at *
  by_cases hle : s.size ≤ 32
  · rw [decide_eq_true hle] at hO
    have HO := Lib.hid hO
    clear hO
    cases c0
    · cases f0
      all_goals
        go_enter Tryz.func88, Tryz.ntmps88
        go_wp2_with (first
          | (go_at_call 111; (with_reducible refine (HC.out _).mono ?_); rintro e w1 ⟨rfl, rfl⟩)
          | (go_at_call 112; (with_reducible refine (HF.out _).mono ?_); rintro e w1 ⟨rfl, hb⟩; have HB := Lib.hid hb; clear hb))
        go_ret
        exact ⟨by rw [HO.out]; rfl, HB.out⟩
    · have HE : Hid (O = false) := by show _ = _; rw [HO.out]; rfl
      go_enter Tryz.func88, Tryz.ntmps88
      go_wp2_with (go_at_call 111; (with_reducible refine (HC.out _).mono ?_); rintro e w1 ⟨rfl, rfl⟩)
      go_ret
      exact ⟨by rw [HE.out]; rfl, Below.refl _ _⟩
  · have HE : Hid (O = false) := by show _ = _; rw [hO, decide_eq_false hle]; rfl
    have h2 : decide (s.size ≤ 32) = false := decide_eq_false hle
    clear hO
    go_enter Tryz.func88, Tryz.ntmps88
    go_wp2_with fail
    go_ret
    exact ⟨by rw [HE.out]; first | rfl | exact ret_bool (decide_eq_false (by omega)), Below.refl _ _⟩

/-- Marks as the program tells them. -/
def markP (n : List UInt8) : Nat × List UInt8 :=
  if whL.isPrefixOf n = false then (0, n) else if n = opqL then (2, []) else if forbB (n.drop 4) = true ∨ whL.isPrefixOf (n.drop 4) = true then (3, []) else (1, n.drop 4)
theorem mark_same (n : List UInt8) : markP n = markL n := by
  unfold markP markL
  cases h : whL.isPrefixOf n with
  | false =>
    have h1 : n ≠ opqL := by rintro rfl; revert h; decide
    have h2 : ¬ ((whL ++ whL).isPrefixOf n = true ∨ n = whL ∨ n = whL ++ [46] ∨ n = whL ++ [46, 46]) := by
      rintro (h2 | rfl | rfl | rfl)
      · have : whL.isPrefixOf n = true := List.isPrefixOf_iff_prefix.2 ((List.prefix_append whL whL).trans (List.isPrefixOf_iff_prefix.1 h2))
        rw [h] at this; cases this
      all_goals (revert h; decide)
    rw [if_pos rfl, if_neg h1, if_neg h2, if_neg (by simp)]
  | true =>
    obtain ⟨m, rfl⟩ := List.isPrefixOf_iff_prefix.1 h
    rw [if_neg (by simp)]
    have hd : (whL ++ m).drop 4 = m := by simp [whL]
    rw [hd]
    split
    · rfl
    · have e1 : (whL ++ whL).isPrefixOf (whL ++ m) = whL.isPrefixOf m := by simp [whL, List.isPrefixOf]
      have e2 : (whL ++ m = whL) ↔ m = [] := by constructor; intro e; simpa using e; rintro rfl; simp
      have e3 : (whL ++ m = whL ++ [46]) ↔ m = [46] := by constructor; intro e; exact List.append_cancel_left e; rintro rfl; rfl
      have e4 : (whL ++ m = whL ++ [46, 46]) ↔ m = [46, 46] := by constructor; intro e; exact List.append_cancel_left e; rintro rfl; rfl
      have e5 : (forbB m = true ∨ whL.isPrefixOf m = true) ↔ ((whL ++ whL).isPrefixOf (whL ++ m) = true ∨ whL ++ m = whL ∨ whL ++ m = whL ++ [46] ∨ whL ++ m = whL ++ [46, 46]) := by
        rw [e1, e2, e3, e4]
        unfold forbB
        simp only [Bool.or_eq_true, decide_eq_true_eq]
        constructor
        · rintro (((h | h) | h) | h)
          · exact .inr (.inl h)
          · exact .inr (.inr (.inl h))
          · exact .inr (.inr (.inr h))
          · exact .inl h
        · rintro (h | h | h | h)
          · exact .inr h
          · exact .inl (.inl (.inl h))
          · exact .inl (.inl (.inr h))
          · exact .inl (.inr h)
      by_cases hc : forbB m = true ∨ whL.isPrefixOf m = true
      · rw [if_pos hc, if_pos (e5.1 hc)]
      · rw [if_neg hc, if_neg (fun h => hc (e5.2 h)), if_pos rfl]


end Go.Proofs.YtagdhghjcibfbaaGreatDoor

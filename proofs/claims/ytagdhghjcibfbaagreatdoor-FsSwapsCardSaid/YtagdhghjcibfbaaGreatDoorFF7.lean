/- Layer 9: the law FsSwaps: its walk. -/
import Derived.Test.YtagdhghjcibfbaaGreatDoorFF6
namespace Go.Proofs.YtagdhghjcibfbaaGreatDoor
open Go.RowKit
set_option linter.unusedVariables false
set_option linter.unusedSectionVars false
set_option maxRecDepth 100000

set_option maxHeartbeats 8000000 in
theorem lawSwaps_any (sa sb : ByteArray) (w : World) (hm : MaxOK w) : Calls Tryz.prog 4 #[.string sa, .string sb] w fun e w' => e = .returned (.bool true) ∧ Below w.heap.size w w' := by
  have hi : ∀ x : Int, 0 ≤ x → x ≤ 2000 → InI x := fun x h1 h2 => by unfold InI; omega
  have CN := Lib.hid (ls_new 1048576 (by decide) (by decide) w hm)
  have HM := Lib.hid hm
  by_cases hsz : sa.size ≤ 256 ∧ sb.size ≤ 256
  · obtain ⟨ha, hb⟩ := hsz
    obtain ⟨a, hae⟩ : ∃ a, sa = bs a := ⟨sa.data.toList, (of_bs sa).symm⟩
    obtain ⟨b, hbe⟩ : ∃ b, sb = bs b := ⟨sb.data.toList, (of_bs sb).symm⟩
    subst hae
    subst hbe
    have la : a.length ≤ 256 := by rw [← bs_size]; exact ha
    have lb : b.length ≤ 256 := by rw [← bs_size]; exact hb
    obtain ⟨Y0, hY0⟩ : ∃ Y0, Y0 = x0 := ⟨_, rfl⟩
    obtain ⟨Y1, hY1⟩ : ∃ Y1, Y1 = (xA 128 [] 1 [(1, r8 2)]) := ⟨_, rfl⟩
    obtain ⟨Y2, hY2⟩ : ∃ Y2, Y2 = (xA (128 + a.length) a 1 [(1, r8 2)]) := ⟨_, rfl⟩
    obtain ⟨Y3, hY3⟩ : ∃ Y3, Y3 = (xA (128 + a.length) a 0 []) := ⟨_, rfl⟩
    obtain ⟨Y4, hY4⟩ : ∃ Y4, Y4 = (xB (128 + a.length + 64) a [] 1 0 1 [([120], 2), ([121], 3)] [(1, r8 3)]) := ⟨_, rfl⟩
    obtain ⟨Y5, hY5⟩ : ∃ Y5, Y5 = (xB (128 + a.length + 64 + b.length) a b 1 0 1 [([120], 2), ([121], 3)] [(1, r8 3)]) := ⟨_, rfl⟩
    obtain ⟨Y6, hY6⟩ : ∃ Y6, Y6 = (xB (128 + a.length + 64 + b.length) a b 1 0 0 [([120], 2), ([121], 3)] []) := ⟨_, rfl⟩
    obtain ⟨Y7, hY7⟩ : ∃ Y7, Y7 = (xB (128 + a.length + 64 + b.length) a b 1 1 0 [([120], 2), ([121], 3)] [(2, r8 2)]) := ⟨_, rfl⟩
    obtain ⟨Y8, hY8⟩ : ∃ Y8, Y8 = (xB (128 + a.length + 64 + b.length) a b 0 1 0 [([120], 3)] [(2, r8 2)]) := ⟨_, rfl⟩
    obtain ⟨Y9, hY9⟩ : ∃ Y9, Y9 = (xB (128 + a.length + 64 + b.length) a b 0 1 1 [([120], 3)] [(2, r8 2), (3, r8 3)]) := ⟨_, rfl⟩
    obtain ⟨Y10, hY10⟩ : ∃ Y10, Y10 = xC (128 + a.length + 64 + b.length - (64 + a.length)) b [(3, r8 3)] := ⟨_, rfl⟩
    have C1 : Hid (∀ fb t hb L w1, LS w fb t hb Y0 0 L w1 → Calls Tryz.prog 9 #[.pointer (some ⟨fb, 0, none⟩), .int .i64 1, .agg #[.int .i64 3, .string ⟨#[120]⟩, .string ⟨#[]⟩, .int .i64 0, .int .i64 0, .int .i64 0, .string ⟨#[]⟩, .int .i64 0, .int .i64 0]] w1 fun e w' => ∃ aa nn cc, e = .returned (.agg #[.int .i64 0, .int .i64 1, .string ⟨#[]⟩, .slice aa nn cc]) ∧ LS w fb t hb Y1 3 L w') := Lib.hid fun fb t hb L w1 h => by
      have e : Y0.step 1 (oCr [120]) = (Y1, ⟨0, 1, [], []⟩) := by rw [hY0, hY1]; exact xs1
      have := ls_do h (by decide) (hi 1 (by decide) (by decide)) (oCr [120]) (ok_cr _ (by decide))
      rw [e] at this
      exact this
    have C2 : Hid (∀ fb t hb L w1, LS w fb t hb Y1 3 L w1 → Calls Tryz.prog 9 #[.pointer (some ⟨fb, 0, none⟩), .int .i64 1, .agg #[.int .i64 7, .string ⟨#[]⟩, .string ⟨#[]⟩, .int .i64 1, .int .i64 0, .int .i64 0, .string (bs a), .int .i64 0, .int .i64 0]] w1 fun e w' => ∃ aa nn cc, e = .returned (.agg #[.int .i64 0, .int .i64 0, .string ⟨#[]⟩, .slice aa nn cc]) ∧ LS w fb t hb Y2 6 L w') := Lib.hid fun fb t hb L w1 h => by
      have e : Y1.step 1 (oWr a) = (Y2, ⟨0, 0, [], []⟩) := by rw [hY1, hY2]; exact xs2 a la
      have := ls_do h (by decide) (hi 1 (by decide) (by decide)) (oWr a) (ok_wr a la)
      rw [e] at this
      exact this
    have C3 : Hid (∀ fb t hb L w1, LS w fb t hb Y2 6 L w1 → Calls Tryz.prog 9 #[.pointer (some ⟨fb, 0, none⟩), .int .i64 1, .agg #[.int .i64 5, .string ⟨#[]⟩, .string ⟨#[]⟩, .int .i64 1, .int .i64 0, .int .i64 0, .string ⟨#[]⟩, .int .i64 0, .int .i64 0]] w1 fun e w' => ∃ aa nn cc, e = .returned (.agg #[.int .i64 0, .int .i64 0, .string ⟨#[]⟩, .slice aa nn cc]) ∧ LS w fb t hb Y3 9 L w') := Lib.hid fun fb t hb L w1 h => by
      have e : Y2.step 1 oCl = (Y3, ⟨0, 0, [], []⟩) := by rw [hY2, hY3]; exact xs3 _ _
      have := ls_do h (by decide) (hi 1 (by decide) (by decide)) oCl ok_cl
      rw [e] at this
      exact this
    have C4 : Hid (∀ fb t hb L w1, LS w fb t hb Y3 9 L w1 → Calls Tryz.prog 9 #[.pointer (some ⟨fb, 0, none⟩), .int .i64 1, .agg #[.int .i64 3, .string ⟨#[121]⟩, .string ⟨#[]⟩, .int .i64 0, .int .i64 0, .int .i64 0, .string ⟨#[]⟩, .int .i64 0, .int .i64 0]] w1 fun e w' => ∃ aa nn cc, e = .returned (.agg #[.int .i64 0, .int .i64 1, .string ⟨#[]⟩, .slice aa nn cc]) ∧ LS w fb t hb Y4 12 L w') := Lib.hid fun fb t hb L w1 h => by
      have e : Y3.step 1 (oCr [121]) = (Y4, ⟨0, 1, [], []⟩) := by rw [hY3, hY4]; exact xs4 _ (by omega) a
      have := ls_do h (by decide) (hi 1 (by decide) (by decide)) (oCr [121]) (ok_cr _ (by decide))
      rw [e] at this
      exact this
    have C5 : Hid (∀ fb t hb L w1, LS w fb t hb Y4 12 L w1 → Calls Tryz.prog 9 #[.pointer (some ⟨fb, 0, none⟩), .int .i64 1, .agg #[.int .i64 7, .string ⟨#[]⟩, .string ⟨#[]⟩, .int .i64 1, .int .i64 0, .int .i64 0, .string (bs b), .int .i64 0, .int .i64 0]] w1 fun e w' => ∃ aa nn cc, e = .returned (.agg #[.int .i64 0, .int .i64 0, .string ⟨#[]⟩, .slice aa nn cc]) ∧ LS w fb t hb Y5 15 L w') := Lib.hid fun fb t hb L w1 h => by
      have e : Y4.step 1 (oWr b) = (Y5, ⟨0, 0, [], []⟩) := by rw [hY4, hY5]; exact xs5 _ (by omega) a b lb
      have := ls_do h (by decide) (hi 1 (by decide) (by decide)) (oWr b) (ok_wr b lb)
      rw [e] at this
      exact this
    have C6 : Hid (∀ fb t hb L w1, LS w fb t hb Y5 15 L w1 → Calls Tryz.prog 9 #[.pointer (some ⟨fb, 0, none⟩), .int .i64 1, .agg #[.int .i64 5, .string ⟨#[]⟩, .string ⟨#[]⟩, .int .i64 1, .int .i64 0, .int .i64 0, .string ⟨#[]⟩, .int .i64 0, .int .i64 0]] w1 fun e w' => ∃ aa nn cc, e = .returned (.agg #[.int .i64 0, .int .i64 0, .string ⟨#[]⟩, .slice aa nn cc]) ∧ LS w fb t hb Y6 18 L w') := Lib.hid fun fb t hb L w1 h => by
      have e : Y5.step 1 oCl = (Y6, ⟨0, 0, [], []⟩) := by rw [hY5, hY6]; exact xs6 _ _ _
      have := ls_do h (by decide) (hi 1 (by decide) (by decide)) oCl ok_cl
      rw [e] at this
      exact this
    have C7 : Hid (∀ fb t hb L w1, LS w fb t hb Y6 18 L w1 → Calls Tryz.prog 9 #[.pointer (some ⟨fb, 0, none⟩), .int .i64 2, .agg #[.int .i64 4, .string ⟨#[120]⟩, .string ⟨#[]⟩, .int .i64 0, .int .i64 0, .int .i64 0, .string ⟨#[]⟩, .int .i64 0, .int .i64 0]] w1 fun e w' => ∃ aa nn cc, e = .returned (.agg #[.int .i64 0, .int .i64 1, .string ⟨#[]⟩, .slice aa nn cc]) ∧ LS w fb t hb Y7 21 L w') := Lib.hid fun fb t hb L w1 h => by
      have e : Y6.step 2 (oOp [120]) = (Y7, ⟨0, 1, [], []⟩) := by rw [hY6, hY7]; exact xs7 _ _ _
      have := ls_do h (by decide) (hi 2 (by decide) (by decide)) (oOp [120]) (ok_op _ (by decide))
      rw [e] at this
      exact this
    have C8 : Hid (∀ fb t hb L w1, LS w fb t hb Y7 21 L w1 → Calls Tryz.prog 9 #[.pointer (some ⟨fb, 0, none⟩), .int .i64 1, .agg #[.int .i64 12, .string ⟨#[121]⟩, .string ⟨#[120]⟩, .int .i64 0, .int .i64 0, .int .i64 0, .string ⟨#[]⟩, .int .i64 0, .int .i64 0]] w1 fun e w' => ∃ aa nn cc, e = .returned (.agg #[.int .i64 0, .int .i64 0, .string ⟨#[]⟩, .slice aa nn cc]) ∧ LS w fb t hb Y8 24 L w') := Lib.hid fun fb t hb L w1 h => by
      have e : Y7.step 1 (oRn [121] [120]) = (Y8, ⟨0, 0, [], []⟩) := by rw [hY7, hY8]; exact xs8 _ _ _
      have := ls_do h (by decide) (hi 1 (by decide) (by decide)) (oRn [121] [120]) (ok_rn _ _ (by decide) (by decide))
      rw [e] at this
      exact this
    have C9 : Hid (∀ fb t hb L w1, LS w fb t hb Y8 24 L w1 → Calls Tryz.prog 9 #[.pointer (some ⟨fb, 0, none⟩), .int .i64 3, .agg #[.int .i64 4, .string ⟨#[120]⟩, .string ⟨#[]⟩, .int .i64 0, .int .i64 0, .int .i64 0, .string ⟨#[]⟩, .int .i64 0, .int .i64 0]] w1 fun e w' => ∃ aa nn cc, e = .returned (.agg #[.int .i64 0, .int .i64 1, .string ⟨#[]⟩, .slice aa nn cc]) ∧ LS w fb t hb Y9 27 L w') := Lib.hid fun fb t hb L w1 h => by
      have e : Y8.step 3 (oOp [120]) = (Y9, ⟨0, 1, [], []⟩) := by rw [hY8, hY9]; exact xs9 _ _ _
      have := ls_do h (by decide) (hi 3 (by decide) (by decide)) (oOp [120]) (ok_op _ (by decide))
      rw [e] at this
      exact this
    have C10 : Hid (∀ fb t hb L w1, LS w fb t hb Y9 27 L w1 → Calls Tryz.prog 9 #[.pointer (some ⟨fb, 0, none⟩), .int .i64 3, .agg #[.int .i64 4, .string ⟨#[121]⟩, .string ⟨#[]⟩, .int .i64 0, .int .i64 0, .int .i64 0, .string ⟨#[]⟩, .int .i64 0, .int .i64 0]] w1 fun e w' => ∃ aa nn cc, e = .returned (.agg #[.int .i64 3, .int .i64 0, .string ⟨#[]⟩, .slice aa nn cc]) ∧ LS w fb t hb Y9 30 L w') := Lib.hid fun fb t hb L w1 h => by
      have e : Y9.step 3 (oOp [121]) = (Y9, ⟨3, 0, [], []⟩) := by rw [hY9]; exact xs10 _ _ _
      have := ls_do h (by decide) (hi 3 (by decide) (by decide)) (oOp [121]) (ok_op _ (by decide))
      rw [e] at this
      exact this
    have C11 : Hid (∀ fb t hb L w1, LS w fb t hb Y9 30 L w1 → Calls Tryz.prog 9 #[.pointer (some ⟨fb, 0, none⟩), .int .i64 2, .agg #[.int .i64 6, .string ⟨#[]⟩, .string ⟨#[]⟩, .int .i64 1, .int .i64 0, .int .i64 1024, .string ⟨#[]⟩, .int .i64 0, .int .i64 0]] w1 fun e w' => ∃ aa nn cc, e = .returned (.agg #[.int .i64 0, .int .i64 0, .string (bs a), .slice aa nn cc]) ∧ LS w fb t hb Y9 33 L w') := Lib.hid fun fb t hb L w1 h => by
      have e : Y9.step 2 (oRd 1024) = (Y9, ⟨0, 0, a, []⟩) := by rw [hY9]; exact xs11 _ a b la
      have := ls_do h (by decide) (hi 2 (by decide) (by decide)) (oRd 1024) (ok_rd _ (by unfold InI; omega))
      rw [e] at this
      exact this
    have C12 : Hid (∀ fb t hb L w1, LS w fb t hb Y9 33 L w1 → Calls Tryz.prog 9 #[.pointer (some ⟨fb, 0, none⟩), .int .i64 3, .agg #[.int .i64 6, .string ⟨#[]⟩, .string ⟨#[]⟩, .int .i64 1, .int .i64 0, .int .i64 1024, .string ⟨#[]⟩, .int .i64 0, .int .i64 0]] w1 fun e w' => ∃ aa nn cc, e = .returned (.agg #[.int .i64 0, .int .i64 0, .string (bs b), .slice aa nn cc]) ∧ LS w fb t hb Y9 36 L w') := Lib.hid fun fb t hb L w1 h => by
      have e : Y9.step 3 (oRd 1024) = (Y9, ⟨0, 0, b, []⟩) := by rw [hY9]; exact xs12 _ a b lb
      have := ls_do h (by decide) (hi 3 (by decide) (by decide)) (oRd 1024) (ok_rd _ (by unfold InI; omega))
      rw [e] at this
      exact this
    have CU1 : Hid (∀ fb t hb L w1, LS w fb t hb Y9 36 L w1 → Calls Tryz.prog 11 #[.pointer (some ⟨fb, 0, none⟩)] w1 fun e w' => e = .returned (.int .i64 (192 + a.length + b.length)) ∧ w' = w1) := Lib.hid fun fb t hb L w1 h => by
      have := ls_used h
      rw [hY9] at this
      rw [show (192 : Int) + a.length + b.length = 128 + a.length + 64 + b.length by omega]
      exact this
    have CX : Hid (∀ fb t hb L w1, LS w fb t hb Y9 36 L w1 → Calls Tryz.prog 10 #[.pointer (some ⟨fb, 0, none⟩), .int .i64 2] w1 fun e w' => e = .returned (.tuple #[]) ∧ LS w fb t hb Y10 52 L w') := Lib.hid fun fb t hb L w1 h => by
      have e : Y9.exit 2 = Y10 := by rw [hY9, hY10]; exact xs13 _ a b
      have := ls_exit h (by decide) (hi 2 (by decide) (by decide))
      rw [e] at this
      exact this
    have CU2 : Hid (∀ fb t hb L w1, LS w fb t hb Y10 52 L w1 → Calls Tryz.prog 11 #[.pointer (some ⟨fb, 0, none⟩)] w1 fun e w' => e = .returned (.int .i64 (128 + b.length)) ∧ w' = w1) := Lib.hid fun fb t hb L w1 h => by
      have := ls_used h
      rw [hY10] at this
      rw [show (128 : Int) + b.length = 128 + a.length + 64 + b.length - (64 + a.length) by omega]
      exact this
    have H00 : Hid (∀ fb t hb L w1, LS w fb t hb ⟨Tb.fresh 1048576, []⟩ 0 L w1 → LS w fb t hb Y0 0 L w1) := Lib.hid fun fb t hb L w1 h => by rw [hY0]; exact h
    clear hY0 hY1 hY2 hY3 hY4 hY5 hY6 hY7 hY8 hY9 hY10 hi hm
    have hfld := field0
    have za := bs_size a
    have zb := bs_size b
    go_enter Tryz.func4, Tryz.ntmps4
    go_wp2_with (first
      | (go_at_call 6; (with_reducible refine CN.out.mono ?_); rintro e w0 ⟨fb, t, hb, rfl, h⟩; have H0 := Lib.hid (H00.out _ _ _ _ _ h); clear h))
    go_loopw [7] (fun i wr => (i = .int .i64 0 ∧ Hid (LS w fb t hb Y0 0 [] wr)) ∨ (i = .int .i64 1 ∧ Hid (LS w fb t hb Y3 9 [] wr)) ∨ (i = .int .i64 2 ∧ Hid (LS w fb t hb Y6 18 [] wr))) (fun i _ => 2 - (intOf i).toNat)
    case atStart => exact .inl ⟨rfl, H0⟩
    case round =>
      rcases hrel with ⟨rfl, HL⟩ | ⟨rfl, HL⟩ | ⟨rfl, HL⟩
      · clear H0
        go_wp2_with (first
          | (go_at_call 9; (with_reducible refine (C1.out _ _ _ _ _ HL.out).mono ?_); rintro e w1 ⟨a1, n1, c1, rfl, h⟩; obtain ⟨W1, hW1, hl⟩ := h.new (.int .i64 0) (.int .i64 1) (.string ⟨#[]⟩) (.slice a1 n1 c1); have H1 := Lib.hid hl; have x0 := (hl.rs _ (List.mem_cons_self ..)).c0; have x1 := (hl.rs _ (List.mem_cons_self ..)).c1; clear h hl)
          | (go_at_call 9; (with_reducible refine (C2.out _ _ _ _ _ H1.out).mono ?_); rintro e w2 ⟨a2, n2, c2, rfl, h⟩; have H2 := Lib.hid h; have x1' := (h.rs _ (List.mem_cons_self ..)).c1; clear h)
          | (go_at_call 9; (with_reducible refine (C3.out _ _ _ _ _ H2.out).mono ?_); rintro e w3 ⟨a3, n3, c3, rfl, h⟩; have H3 := Lib.hid (h.sub (L' := []) (fun r hr => by cases hr)); clear h))
        go_roundw
        case rel => exact .inr (.inl ⟨by go_num, H3⟩)
        case measure => simp [intOf]
      · clear H0
        go_wp2_with (first
          | (go_at_call 9; (with_reducible refine (C4.out _ _ _ _ _ HL.out).mono ?_); rintro e w1 ⟨a1, n1, c1, rfl, h⟩; obtain ⟨W1, hW1, hl⟩ := h.new (.int .i64 0) (.int .i64 1) (.string ⟨#[]⟩) (.slice a1 n1 c1); have H1 := Lib.hid hl; have x0 := (hl.rs _ (List.mem_cons_self ..)).c0; have x1 := (hl.rs _ (List.mem_cons_self ..)).c1; clear h hl)
          | (go_at_call 9; (with_reducible refine (C5.out _ _ _ _ _ H1.out).mono ?_); rintro e w2 ⟨a2, n2, c2, rfl, h⟩; have H2 := Lib.hid h; have x1' := (h.rs _ (List.mem_cons_self ..)).c1; clear h)
          | (go_at_call 9; (with_reducible refine (C6.out _ _ _ _ _ H2.out).mono ?_); rintro e w3 ⟨a3, n3, c3, rfl, h⟩; have H3 := Lib.hid (h.sub (L' := []) (fun r hr => by cases hr)); clear h))
        go_roundw
        case rel => exact .inr (.inr ⟨by go_num, H3⟩)
        case measure => simp [intOf]
      · clear H0
        have CA : Hid (∀ w', Below w.heap.size w w' → Calls Tryz.prog 8 #[] w' fun e w'' => e = .returned (.bool true) ∧ Below w'.heap.size w' w'') := Lib.hid fun w' hb' => awake9_any w' (HM.out.below hb')
        have H6 := HL
        have e1 : ((bs a).toList == (bs a).toList) = true := by simp
        have e2 : ((bs b).toList == (bs b).toList) = true := by simp
        have g1 : wrap64 (192 + (a.length : Int)) = 192 + a.length := IntWalk.wrap64_in _ (by omega)
        have g2 : wrap64 (192 + (a.length : Int) + b.length) = 192 + a.length + b.length := IntWalk.wrap64_in _ (by omega)
        have g3 : wrap64 (128 + (b.length : Int)) = 128 + b.length := IntWalk.wrap64_in _ (by omega)
        clear HL
        go_wp2_with (first
          | (go_at_call 9; (with_reducible refine (C7.out _ _ _ _ _ H6.out).mono ?_); rintro e w7 ⟨a7, n7, c7, rfl, h⟩; obtain ⟨W7, hW7, hl⟩ := h.new (.int .i64 0) (.int .i64 1) (.string ⟨#[]⟩) (.slice a7 n7 c7); have H7 := Lib.hid hl; clear h hl)
          | (go_at_call 9; (with_reducible refine (C8.out _ _ _ _ _ H7.out).mono ?_); rintro e w8 ⟨a8, n8, c8, rfl, h⟩; obtain ⟨W8, hW8, hl⟩ := h.new (.int .i64 0) (.int .i64 0) (.string ⟨#[]⟩) (.slice a8 n8 c8); have H8 := Lib.hid hl; clear h hl)
          | (go_at_call 9; (with_reducible refine (C9.out _ _ _ _ _ H8.out).mono ?_); rintro e w9 ⟨a9, n9, c9, rfl, h⟩; obtain ⟨W9, hW9, hl⟩ := h.new (.int .i64 0) (.int .i64 1) (.string ⟨#[]⟩) (.slice a9 n9 c9); have H9 := Lib.hid hl; clear h hl)
          | (go_at_call 9; (with_reducible refine (C10.out _ _ _ _ _ H9.out).mono ?_); rintro e w10 ⟨a10, n10, c10, rfl, h⟩; obtain ⟨W10, hW10, hl⟩ := h.new (.int .i64 3) (.int .i64 0) (.string ⟨#[]⟩) (.slice a10 n10 c10); have H10 := Lib.hid hl; have y7 := (hl.rs _ (List.mem_cons_of_mem _ (List.mem_cons_of_mem _ (List.mem_cons_of_mem _ (List.mem_cons_self ..))))).c1; clear h hl)
          | (go_at_call 9; (with_reducible refine (C11.out _ _ _ _ _ H10.out).mono ?_); rintro e w11 ⟨a11, n11, c11, rfl, h⟩; obtain ⟨W11, hW11, hl⟩ := h.new (.int .i64 0) (.int .i64 0) (.string (bs a)) (.slice a11 n11 c11); have H11 := Lib.hid hl; have y9 := (hl.rs _ (List.mem_cons_of_mem _ (List.mem_cons_of_mem _ (List.mem_cons_self ..)))).c1; clear h hl)
          | (go_at_call 9; (with_reducible refine (C12.out _ _ _ _ _ H11.out).mono ?_); rintro e w12 ⟨a12, n12, c12, rfl, h⟩; obtain ⟨W12, hW12, hl⟩ := h.new (.int .i64 0) (.int .i64 0) (.string (bs b)) (.slice a12 n12 c12); have H12 := Lib.hid hl; clear h hl)
          | (go_at_call 11; (with_reducible refine (CU1.out _ _ _ _ _ H12.out).mono ?_); rintro e w13 ⟨rfl, hw⟩; obtain rfl : W12 = w13 := hw.symm; clear hw)
          | (go_at_call 10; (with_reducible refine (CX.out _ _ _ _ _ H12.out).mono ?_); rintro e w14 ⟨rfl, h⟩; have H14 := Lib.hid h; clear h; refine Hid.out ?_))
        refine Lib.hid ?_
        have z12 := H14.out.rs _ (List.mem_cons_self ..)
        have z11 := H14.out.rs _ (List.mem_cons_of_mem _ (List.mem_cons_self ..))
        have z10 := H14.out.rs _ (List.mem_cons_of_mem _ (List.mem_cons_of_mem _ (List.mem_cons_self ..)))
        have z8 := H14.out.rs _ (List.mem_cons_of_mem _ (List.mem_cons_of_mem _ (List.mem_cons_of_mem _ (List.mem_cons_of_mem _ (List.mem_cons_self ..)))))
        have q1 := z8.c0; have q2 := z10.c0; have q3 := z11.c2; have q4 := z12.c2; have q5 := z11.c0; have q6 := z12.c0
        simp only at q1 q2 q3 q4 q5 q6
        clear z12 z11 z10 z8 hW7 hW8 hW9 hW10 hW11 hW12 y7 y9
        go_wp2_with (first
          | (go_at_call 11; (with_reducible refine (CU2.out _ _ _ _ _ H14.out).mono ?_); rintro e w15 ⟨rfl, hw⟩; obtain rfl : w14 = w15 := hw.symm; clear hw)
          | (go_at_call 8; (with_reducible refine (CA.out _ H14.out.st.bel).mono ?_); rintro e w16 ⟨rfl, hb2⟩; have HB2 := Lib.hid hb2; clear hb2))
        go_ret
        exact ⟨rfl, H14.out.st.bel.trans (HB2.out.mono H14.out.st.bel.size)⟩
  · have CA : Hid (∀ w', Below w.heap.size w w' → Calls Tryz.prog 8 #[] w' fun e w'' => e = .returned (.bool true) ∧ Below w'.heap.size w' w'') := Lib.hid fun w' hb' => awake9_any w' (HM.out.below hb')
    clear hm hi
    by_cases h1 : sa.size ≤ 256
    · have h2 : ¬ sb.size ≤ 256 := fun e => hsz ⟨h1, e⟩
      have d1 : decide (256 < (sa.size : Int)) = false := decide_eq_false (by omega)
      have d2 : decide (256 < (sb.size : Int)) = true := decide_eq_true (by omega)
      clear h1 h2 hsz
      go_enter Tryz.func4, Tryz.ntmps4
      go_wp2_with (first
        | (go_at_call 6; (with_reducible refine CN.out.mono ?_); rintro e w0 ⟨fb, t, hb, rfl, h⟩; have H0 := Lib.hid h; clear h)
        | (go_at_call 8; (with_reducible refine (CA.out _ H0.out.st.bel).mono ?_); rintro e w16 ⟨rfl, hb2⟩; have HB2 := Lib.hid hb2; clear hb2))
      go_ret
      exact ⟨rfl, H0.out.st.bel.trans (HB2.out.mono H0.out.st.bel.size)⟩
    · have d1 : decide (256 < (sa.size : Int)) = true := decide_eq_true (by omega)
      clear h1 hsz
      go_enter Tryz.func4, Tryz.ntmps4
      go_wp2_with (first
        | (go_at_call 6; (with_reducible refine CN.out.mono ?_); rintro e w0 ⟨fb, t, hb, rfl, h⟩; have H0 := Lib.hid h; clear h)
        | (go_at_call 8; (with_reducible refine (CA.out _ H0.out.st.bel).mono ?_); rintro e w16 ⟨rfl, hb2⟩; have HB2 := Lib.hid hb2; clear hb2))
      go_ret
      exact ⟨rfl, H0.out.st.bel.trans (HB2.out.mono H0.out.st.bel.size)⟩
end Go.Proofs.YtagdhghjcibfbaaGreatDoor

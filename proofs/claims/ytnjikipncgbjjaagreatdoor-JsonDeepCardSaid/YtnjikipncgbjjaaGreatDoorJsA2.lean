/- The contract of isNumber: whether a text is that of a number. -/
import Derived.Test.YtnjikipncgbjjaaGreatDoorJsA
namespace Go.Proofs.YtnjikipncgbjjaaGreatDoor
open Go.RowKit
set_option linter.unusedVariables false
set_option maxRecDepth 100000

/-- What stands behind the whole part of a number's text: a fraction or none, an exponent or none. -/
def restG (r : List UInt8) : Bool := match fracG r with
  | none => false
  | some r => if r = [] then true else expG r
def wholeBad (W : List UInt8) : Prop := W = [] ∨ (1 < W.length ∧ W.head? = some 48)
instance (W : List UInt8) : Decidable (wholeBad W) := by unfold wholeBad; infer_instance
theorem numG_eq (l : List UInt8) : numG l = if wholeBad (figL (Lib.trimPrefix l [45])) then false else restG (figR (Lib.trimPrefix l [45])) := rfl
theorem trimPrefix_len (l p : List UInt8) : (Lib.trimPrefix l p).length ≤ l.length := by
  unfold Lib.trimPrefix; split <;> simp
theorem trim1 {l : List UInt8} {c : UInt8} (h : Lib.hasPrefix l [c] = true) : Lib.trimPrefix l [c] = l.drop 1 := by
  unfold Lib.trimPrefix; rw [if_pos h]; rfl
theorem figR_len (l : List UInt8) : (figR l).length ≤ l.length := trimLeftS_len _ _
theorem figL_len (l : List UInt8) : (figL l).length ≤ l.length := by unfold figL; simp

theorem emp_t : (bs []).toList.isEmpty = true := by rw [bs_isEmpty]; rfl
theorem emp_f {l : List UInt8} (h : l ≠ []) : (bs l).toList.isEmpty = false := by rw [bs_isEmpty]; cases l <;> simp at h ⊢
theorem nil_t : (bs []).toList = [] := by rw [Lib.toList_data]; rfl
theorem nil_f {l : List UInt8} (h : l ≠ []) : ¬ (bs l).toList = [] := by rw [Lib.toList_data]; exact h
theorem head_at {W : List UInt8} (h : 0 < (bs W).size) : ∃ a, W.head? = some a ∧ (bs W)[0] = a := by
  cases W with
  | nil => rw [bs_size] at h; simp at h
  | cons a r => exact ⟨a, rfl, rfl⟩

set_option maxHeartbeats 2000000 in
theorem num_any (l : List UInt8) (hl : l.length ≤ 1099511627775) (w : World) :
    Calls Tryz.prog 61 #[.string (bs l)] w fun e w' => e = .returned (.bool (numG l)) ∧ Below w.heap.size w w' := by
  have CT : Hid (∀ w0, Calls Tryz.prog 82 #[.string (bs l), .string ⟨#[45]⟩] w0 fun e w' => e = .returned (.string (bs (Lib.trimPrefix l [45]))) ∧ w0 = w') := fun w0 => trimPrefix_any (bs l) ⟨#[45]⟩ w0
  have HL := Lib.hid (trimPrefix_len l [45])
  rw [numG_eq]
  generalize Lib.trimPrefix l [45] = l0 at *
  have C0 : Hid (∀ w0, Calls Tryz.prog 81 #[.string (bs l0)] w0 fun e w' => e = .returned (.tuple #[.string (bs (figL l0)), .string (bs (figR l0))]) ∧ Below w0.heap.size w0 w') := fun w0 => cutF_any _ (by have := HL.out; omega) w0
  have H1 := Lib.hid (figL_len l0)
  have H2 := Lib.hid (figR_len l0)
  generalize figL l0 = W at *
  generalize figR l0 = R0 at *
  have hW : (bs W).size ≤ 1099511627775 := by rw [bs_size]; have := H1.out; have := HL.out; omega
  by_cases hb : wholeBad W
  · rw [if_pos hb]
    rcases hb with rfl | ⟨hb1, hb2⟩
    · have e1 := nil_t
      have e2 := emp_t
      clear H1 H2 HL hl
      go_enter Tryz.func61, Tryz.ntmps61
      go_wp2_with (first
        | (go_at_call 82; (with_reducible refine (CT.out _).mono ?_); rintro e w1 ⟨rfl, rfl⟩)
        | (go_at_call 81; (with_reducible refine (C0.out _).mono ?_); rintro e w1 ⟨rfl, hb⟩))
      all_goals (go_ret; exact ⟨rfl, hb⟩)
    · have e1 : (bs W).toList.isEmpty = false := emp_f (by intro h; rw [h] at hb2; cases hb2)
      have e3 : 1 < (bs W).size := by rw [bs_size]; exact hb1
      have e4 : (((bs W)[0]'(by omega)).toNat : Int) = 48 := by
        obtain ⟨a, ha, h0⟩ := head_at (W := W) (by omega)
        rw [h0]; rw [hb2] at ha; cases ha; rfl
      clear H1 H2 HL hl hb1 hb2
      go_enter Tryz.func61, Tryz.ntmps61
      go_wp2_with (first
        | (go_at_call 82; (with_reducible refine (CT.out _).mono ?_); rintro e w1 ⟨rfl, rfl⟩)
        | (go_at_call 81; (with_reducible refine (C0.out _).mono ?_); rintro e w1 ⟨rfl, hb⟩))
      all_goals (go_ret; exact ⟨rfl, hb⟩)
  · rw [if_neg hb]
    have e1 : (bs W).toList.isEmpty = false := emp_f (fun h => hb (.inl h))
    have e1' : ¬ (bs W).toList = [] := nil_f (fun h => hb (.inl h))
    have e4 : (h : 1 < (bs W).size) → ((((bs W)[0]'(by omega)).toNat : Int) == 48) = false := fun h => by
      obtain ⟨a, ha, h0⟩ := head_at (W := W) (by omega)
      rw [h0, beq_eq_false_iff_ne]
      intro e
      have : a = 48 := u8_eq e
      subst this
      exact hb (.inr ⟨by rw [← bs_size]; exact h, ha⟩)
    have hR : R0.length ≤ 1099511627775 := by have := H2.out; have := HL.out; omega
    have CC : Hid (∀ w0, Calls Tryz.prog 83 #[.string (bs R0), .string ⟨#[46]⟩] w0 fun e w' => e = .returned (.tuple #[.string (bs (Lib.trimPrefix R0 [46])), .bool (Lib.hasPrefix R0 [46])]) ∧ w0 = w') := fun w0 => cutPrefix_any (bs R0) ⟨#[46]⟩ w0
    have CX : Hid (∀ (m : List UInt8), m ≠ [] → m.length ≤ 1099511627775 → ∀ w0, Calls Tryz.prog 84 #[.string (bs m)] w0 fun e w' => e = .returned (.bool (expG m)) ∧ Below w0.heap.size w0 w') := fun m h1 h2 w0 => exp_any _ m h1 rfl h2 w0
    clear H1 H2 HL hl hb
    unfold restG fracG
    by_cases hlen : 1 < (bs W).size
    all_goals
      first
        | (have e4' := e4 hlen; clear e4)
        | (clear e4)
      cases hf : Lib.hasPrefix R0 [46] with
      | true =>
        rw [hf, trim1 hf] at CC
        rw [if_pos rfl]
        have hD : (R0.drop 1).length ≤ 1099511627775 := by rw [List.length_drop]; omega
        have C1 : Hid (∀ w0, Calls Tryz.prog 81 #[.string (bs (R0.drop 1))] w0 fun e w' => e = .returned (.tuple #[.string (bs (figL (R0.drop 1))), .string (bs (figR (R0.drop 1)))]) ∧ Below w0.heap.size w0 w') := fun w0 => cutF_any _ (by omega) w0
        have hD2 := Nat.le_trans (figR_len (R0.drop 1)) hD
        generalize figL (R0.drop 1) = A at C1 ⊢
        generalize figR (R0.drop 1) = R1 at C1 hD2 ⊢
        generalize bs (R0.drop 1) = T at C1 CC
        clear hf hD
        by_cases hA : A = []
        · subst hA
          rw [if_pos rfl]
          have e2 := nil_t
          have e3 := emp_t
          clear hD2
          go_enter Tryz.func61, Tryz.ntmps61
          go_wp2_with (first
            | (go_at_call 82; (with_reducible refine (CT.out _).mono ?_); rintro e w1 ⟨rfl, rfl⟩)
            | (go_at_call 83; (with_reducible refine (CC.out _).mono ?_); rintro e w1 ⟨rfl, rfl⟩)
            | (go_at_call_of 81 (bs l0); (with_reducible refine (C0.out _).mono ?_); rintro e w1 ⟨rfl, hb⟩)
            | (go_at_call 81; (with_reducible refine (C1.out _).mono ?_); rintro e w2 ⟨rfl, hb2⟩))
          all_goals (go_ret; exact ⟨rfl, hb.trans (hb2.mono hb.size)⟩)
        · rw [if_neg hA]
          simp only
          have a1 := emp_f hA
          have a2 := nil_f hA
          by_cases hr : R1 = []
          · subst hr
            have e2 := nil_t
            have e3 := emp_t
            rw [if_pos rfl]
            clear hD2 hA
            go_enter Tryz.func61, Tryz.ntmps61
            go_wp2_with (first
              | (go_at_call 82; (with_reducible refine (CT.out _).mono ?_); rintro e w1 ⟨rfl, rfl⟩)
              | (go_at_call 83; (with_reducible refine (CC.out _).mono ?_); rintro e w1 ⟨rfl, rfl⟩)
              | (go_at_call_of 81 (bs l0); (with_reducible refine (C0.out _).mono ?_); rintro e w1 ⟨rfl, hb⟩)
              | (go_at_call 81; (with_reducible refine (C1.out _).mono ?_); rintro e w2 ⟨rfl, hb2⟩))
            all_goals (go_ret; exact ⟨rfl, hb.trans (hb2.mono hb.size)⟩)
          · have e2 := emp_f hr
            have e3 := nil_f hr
            rw [if_neg hr]
            have CE := Lib.hid (CX.out R1 hr hD2)
            generalize expG R1 = E at CE ⊢
            clear hD2 hA hr
            go_enter Tryz.func61, Tryz.ntmps61
            go_wp2_with (first
              | (go_at_call 82; (with_reducible refine (CT.out _).mono ?_); rintro e w1 ⟨rfl, rfl⟩)
              | (go_at_call 83; (with_reducible refine (CC.out _).mono ?_); rintro e w1 ⟨rfl, rfl⟩)
              | (go_at_call_of 81 (bs l0); (with_reducible refine (C0.out _).mono ?_); rintro e w1 ⟨rfl, hb⟩)
              | (go_at_call 84; (with_reducible refine (CE.out _).mono ?_); rintro e w3 ⟨rfl, hb3⟩)
              | (go_at_call 81; (with_reducible refine (C1.out _).mono ?_); rintro e w2 ⟨rfl, hb2⟩))
            all_goals (go_ret; exact ⟨rfl, (hb.trans (hb2.mono hb.size)).trans (hb3.mono (Nat.le_trans hb.size hb2.size))⟩)
      | false =>
        rw [hf] at CC
        rw [if_neg (by simp)]
        simp only
        by_cases hr : R0 = []
        · subst hr
          have e2 := nil_t
          have e3 := emp_t
          rw [if_pos rfl]
          clear hf
          go_enter Tryz.func61, Tryz.ntmps61
          go_wp2_with (first
            | (go_at_call 82; (with_reducible refine (CT.out _).mono ?_); rintro e w1 ⟨rfl, rfl⟩)
            | (go_at_call 83; (with_reducible refine (CC.out _).mono ?_); rintro e w1 ⟨rfl, rfl⟩)
            | (go_at_call_of 81 (bs l0); (with_reducible refine (C0.out _).mono ?_); rintro e w1 ⟨rfl, hb⟩))
          all_goals (go_ret; exact ⟨rfl, hb⟩)
        · have e2 := emp_f hr
          have e3 := nil_f hr
          rw [if_neg hr]
          have CE := Lib.hid (CX.out R0 hr hR)
          generalize expG R0 = E at CE ⊢
          clear hf hr
          go_enter Tryz.func61, Tryz.ntmps61
          go_wp2_with (first
            | (go_at_call 82; (with_reducible refine (CT.out _).mono ?_); rintro e w1 ⟨rfl, rfl⟩)
            | (go_at_call 83; (with_reducible refine (CC.out _).mono ?_); rintro e w1 ⟨rfl, rfl⟩)
            | (go_at_call_of 81 (bs l0); (with_reducible refine (C0.out _).mono ?_); rintro e w1 ⟨rfl, hb⟩)
            | (go_at_call 84; (with_reducible refine (CE.out _).mono ?_); rintro e w3 ⟨rfl, hb3⟩))
          all_goals (go_ret; exact ⟨rfl, hb.trans (hb3.mono hb.size)⟩)
end Go.Proofs.YtnjikipncgbjjaaGreatDoor

/- Layer 7: the program's Parts, Split, Join, isForbidden, isName, Mark. -/
import Derived.Test.YtagdhghjcibfbaaGreatDoorPaI
namespace Go.Proofs.YtagdhghjcibfbaaGreatDoor
open Go.RowKit
set_option linter.unusedVariables false
set_option maxRecDepth 100000

/-- The library's variable internal/bytealg.MaxLen holds some number. -/
def MaxOK (w : World) : Prop := ∃ m, w.cell? ⟨0, 0, none⟩ = some (.int .i64 m)
theorem MaxOK.below {w w' : World} (h : MaxOK w) (hb : Below w.heap.size w w') : MaxOK w' := by
  obtain ⟨m, hm⟩ := h
  exact ⟨m, (hb.cell (p := ⟨0, 0, none⟩) (World.block_lt_of_cell? w _ hm)).trans hm⟩

theorem libSplit_any (l : List UInt8) (w : World) (hl : l.length ≤ 4294967280) (hm : MaxOK w) :
    Calls Tryz.prog 72 #[.string (bs l), .string ⟨#[47]⟩] w (RetSl w (splitP l)) := by
  obtain ⟨m, hm⟩ := hm
  refine (Any.strings_Split Tryz.lays146 (by kernel_rfl) (bs l) ⟨#[47]⟩ m w (by rw [bs_size]; omega) hm (by decide)).mono ?_
  rintro e w' ⟨rfl, rfl⟩
  refine ⟨_, rfl, ?_, (Below.refl _ _).alloc (Nat.le_refl _) _⟩
  rw [count_len, splitB_parts]
  have hsl := split_len l
  refine ⟨_, _, rfl, Nat.le_refl _, by unfold maxLen; omega, .inr ⟨_, 0, rfl, by simp, fun j hj => ?_⟩⟩
  rw [Nat.zero_add, World.cell?_alloc_new]
  simp [hj]

set_option maxHeartbeats 1000000 in
theorem parts_any (l : List UInt8) (w : World) (hl : l.length ≤ 4294967280) (hm : MaxOK w) :
    Calls Tryz.prog 47 #[.string (bs l)] w (RetSl w (partsL l)) := by
  have HL : Hid (∀ w0, MaxOK w0 → Calls Tryz.prog 72 #[.string (bs l), .string ⟨#[47]⟩] w0 (RetSl w0 (splitP l))) := fun w0 h => libSplit_any l w0 hl h
  have HM := Lib.hid hm
  by_cases h0 : l = []
  · have e0 : (bs l).toList.isEmpty = true := by rw [bs_toList, h0]; rfl
    have e1 : (bs l).toList = [] := by rw [bs_toList, h0]
    have HP : Hid (partsL l = []) := by show _ = _; subst h0; rfl
    clear h0 hm HL
    generalize bs l = s at *
    go_enter Tryz.func47, Tryz.ntmps47
    go_wp2_with fail
    go_ret
    exact ⟨_, rfl, by rw [HP.out]; exact Sl_nil w, Below.refl _ _⟩
  · have e0 : (bs l).toList.isEmpty = false := by rw [bs_toList]; cases l with | nil => exact absurd rfl h0 | cons => rfl
    have HP : Hid (partsL l = splitP l) := by show _ = _; unfold partsL; rw [if_neg h0]
    clear h0 hm
    generalize bs l = s at *
    go_enter Tryz.func47, Tryz.ntmps47
    go_wp2_with (go_at_call 72; (with_reducible refine (HL.out _ HM.out).mono ?_); rintro e w1 hr; obtain ⟨a, c, rfl, hS, hb⟩ := one_use hr; have HR := Lib.hid hr; clear hr hS hb)
    go_ret
    unfold RetSl
    rw [HP.out]
    exact HR.out

set_option maxHeartbeats 1000000 in
theorem split_any (l : List UInt8) (w : World) (hl : l.length ≤ 1099511627776) :
    Calls Tryz.prog 68 #[.string (bs l)] w fun e w' => e = .returned (.tuple #[.string (bs (dirL l)), .string (bs (nameL l))]) ∧ ∃ q, w' = w.drewN q := by
  have HL : Hid (∀ w0, Calls Tryz.prog 90 #[.string (bs l), .string ⟨#[47]⟩] w0 fun e w' => e = .returned (.int .i64 (Lib.lastIndexByte (bs l) 47)) ∧ w0 = w') := fun w0 =>
    (Tryz.strings_LastIndex_one (bs l) ⟨#[47]⟩ rfl (by rw [bs_size]; omega) w0).mono fun e w' h => ⟨h.1, h.2.symm⟩
  have hz := bs_size l
  rcases last_cases l with ⟨hi, hno⟩ | ⟨i, hi, he, hcat, hno⟩
  · rw [hi] at HL
    obtain ⟨d1, d2⟩ := dir_no l hno
    have HD1 := Lib.hid d1
    have HD2 : Hid (nameL l = l) := d2
    clear hi hno d1 d2 hz
    have HR : Hid (Value.tuple #[.string (bs (dirL l)), .string (bs (nameL l))] = .tuple #[.string ⟨#[]⟩, .string (bs l)]) := by show _ = _; rw [HD1.out, HD2.out]; rfl
    generalize Value.tuple #[.string (bs (dirL l)), .string (bs (nameL l))] = O at *
    clear HD1 HD2
    generalize bs l = s at *
    go_enter Tryz.func68, Tryz.ntmps68
    go_wp2_with (go_at_call 90; (with_reducible refine (HL.out _).mono ?_); rintro e w1 ⟨rfl, rfl⟩)
    go_ret2
    exact ⟨by rw [HR.out]; rfl, 0, rfl⟩
  · rw [he] at HL
    have hcat2 := hcat
    generalize hdd : l.drop (i + 1) = n at hcat hno
    generalize htt : l.take i = d at hcat
    obtain ⟨d1, d2⟩ := dir_app d n hno
    rw [← hcat] at d1 d2
    have HR : Hid (Value.tuple #[.string (bs (dirL l)), .string (bs (nameL l))] = .tuple #[.string ((bs l).extract 0 i), .string ((bs l).extract (i + 1) (bs l).size)]) := by
      show _ = _
      rw [d1, d2, bs_ext0, bs_extr, hdd, htt]
    generalize Value.tuple #[.string (bs (dirL l)), .string (bs (nameL l))] = O at *
    clear hdd htt hcat hcat2 d1 d2 hno he
    have hsz : i + 1 ≤ (bs l).size := by omega
    clear hz hi
    have hbb : (bs l).size ≤ 1099511627776 := by rw [bs_size]; exact hl
    generalize bs l = s at *
    have w1 : IntKind.i64.wrap ((i : Int) + 1) = (i : Int) + 1 := IntWalk.i64_in _ (by omega)
    have w2 : (0 : Int) ≤ (i : Int) + 1 := by omega
    have w3 : ((i : Int) + 1).toNat = i + 1 := by omega
    have w4 : (i : Int) ≤ (s.size : Int) := by omega
    have w5 : (i : Int) + 1 ≤ (s.size : Int) := by omega
    go_enter Tryz.func68, Tryz.ntmps68
    go_wp2_with (go_at_call 90; (with_reducible refine (HL.out _).mono ?_); rintro e w1 ⟨rfl, rfl⟩)
    go_quiet (fail)
    go_wp2_with fail
    go_ret2
    exact ⟨by rw [HR.out]; rfl, _, rfl⟩

theorem in_any (d n : List UInt8) (w : World) (hd : d.length ≤ 1099511627776) (hn : n.length ≤ 1099511627776) :
    Calls Tryz.prog 61 #[.string (bs d), .string (bs n)] w fun e w' => e = .returned (.string (bs (inL d n))) ∧ w = w' := by
  by_cases h0 : d = []
  · have e0 : (bs d).toList.isEmpty = true := by rw [bs_toList, h0]; rfl
    have e1 : (bs d).toList = [] := by rw [bs_toList, h0]
    have HR : Hid (inL d n = n) := by show _ = _; unfold inL; rw [if_pos h0]
    have HA := fun w0 => bs_add w0 d n (by omega)
    have HR2 : Hid (d ++ n = n) := by show _ = _; rw [h0]; rfl
    clear h0
    go_enter Tryz.func61, Tryz.ntmps61
    go_wp2_with fail
    go_ret
    exact ⟨by rw [HR.out]; first | rfl | (show Ending.returned (.string (bs (d ++ n))) = _; rw [HR2.out]), rfl⟩
  · have e0 : (bs d).toList.isEmpty = false := by rw [bs_toList]; cases d with | nil => exact absurd rfl h0 | cons => rfl
    by_cases h1 : n = []
    · have e1 : (bs n).toList.isEmpty = true := by rw [bs_toList, h1]; rfl
      have e2 : (bs n).toList = [] := by rw [bs_toList, h1]
      have HR : Hid (inL d n = d) := by show _ = _; unfold inL; rw [if_neg h0, if_pos h1]
      have HA := fun w0 => bs_add w0 d n (by omega)
      have HR2 : Hid (d ++ n = d) := by show _ = _; rw [h1]; simp
      clear h0 h1
      go_enter Tryz.func61, Tryz.ntmps61
      go_wp2_with fail
      go_ret
      exact ⟨by rw [HR.out]; first | rfl | (show Ending.returned (.string (bs (d ++ n))) = _; rw [HR2.out]), rfl⟩
    · have e1 : (bs n).toList.isEmpty = false := by rw [bs_toList]; cases n with | nil => exact absurd rfl h1 | cons => rfl
      have HR : Hid (inL d n = d ++ 47 :: n) := by show _ = _; unfold inL; rw [if_neg h0, if_neg h1]
      have HA := fun w0 => (add3 w0 d n (by omega)).1
      have HA2 := fun w0 => (add3 w0 d n (by omega)).2
      clear h0 h1
      go_enter Tryz.func61, Tryz.ntmps61
      go_wp2_with fail
      go_ret
      exact ⟨by rw [HR.out]; rfl, rfl⟩
end Go.Proofs.YtagdhghjcibfbaaGreatDoor

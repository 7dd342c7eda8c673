/- Layer 8: inode, inodeOf, directory, file, fileAt. -/
import Derived.Test.YtagdhghjcibfbaaGreatInC
import Derived.WalkSpells
import Derived.OwnWalk
namespace Go.Proofs.YtagdhghjcibfbaaGreat
open Go.RowKit
set_option linter.unusedVariables false
set_option maxRecDepth 100000

theorem kindE_none {T : Tb} {id : Int} {b : Bool} (h : aget id T.nodes = none) : T.kindE id b = 3 := by unfold Tb.kindE; rw [h]
theorem kindE_some {T : Tb} {id : Int} {b : Bool} {n : Nd} (h : aget id T.nodes = some n) : T.kindE id b = if n.dir = b then 0 else 12 := by unfold Tb.kindE; rw [h]
theorem nd_of {T : Tb} {id : Int} {n : Nd} (h : aget id T.nodes = some n) : T.nd id = n := by unfold Tb.nd; rw [h]; rfl
theorem nodeP_some {T : Tb} {A : Int → Nat × Nat} {id : Int} {n : Nd} (h : aget id T.nodes = some n) : nodeP T A id = .pointer (some ⟨(A id).1, 0, none⟩) := by unfold nodeP; rw [h]
theorem nodeP_none {T : Tb} {A : Int → Nat × Nat} {id : Int} (h : aget id T.nodes = none) : nodeP T A id = .pointer none := by unfold nodeP; rw [h]

theorem qM (w : World) (r : Option Nat) : (binOp .eql 57 (.map r) (.map none)).run Tryz.prog w = .ok (.bool r.isNone) w := run_eql_map_nil w _ _ _ r Tryz.underlying57
section
variable {w : World} {t : Nat} {T : Tb} {A : Int → Nat × Nat} {mb : Nat} (h : TbAt w t T A mb) {id : Int} (hid : InI id)
include h hid
theorem inode_some {n : Nd} (hn : aget id T.nodes = some n) :
    Calls Tryz.prog 61 #[.pointer (some ⟨t, 0, none⟩), .int .i64 id] w fun e w' => e = .returned (.tuple #[.pointer (some ⟨(A id).1, 0, none⟩), .int .i64 0]) ∧ w' = w := by
  have c3 := h.tb.c3
  have hl := h.look hid
  have hq := qM w (some mb)
  rw [nodeP_some hn] at hl
  go_enter Tryz.func61, Tryz.ntmps61
  go_wp2
  go_ret2
  exact ⟨rfl, rfl⟩
theorem inode_none (hn : aget id T.nodes = none) :
    Calls Tryz.prog 61 #[.pointer (some ⟨t, 0, none⟩), .int .i64 id] w fun e w' => e = .returned (.tuple #[.pointer none, .int .i64 3]) ∧ w' = w := by
  have c3 := h.tb.c3
  have hl := h.look hid
  have hq := qM w (some mb)
  rw [nodeP_none hn] at hl
  go_enter Tryz.func61, Tryz.ntmps61
  go_wp2
  go_ret2
  exact ⟨rfl, rfl⟩
theorem inodeOf_no (b : Bool) (hE : T.kindE id b ≠ 0) :
    Calls Tryz.prog 79 #[.pointer (some ⟨t, 0, none⟩), .int .i64 id, .bool b] w fun e w' => e = .returned (.tuple #[.pointer none, .int .i64 (T.kindE id b)]) ∧ w' = w := by
  cases hn : aget id T.nodes with
  | none =>
    have C := inode_none h hid hn
    rw [kindE_none hn]
    clear hE
    go_enter Tryz.func79, Tryz.ntmps79
    go_wp2_with (go_at_call 61; (with_reducible refine C.mono ?_); rintro e w1 ⟨rfl, rfl⟩)
    go_ret2
    exact ⟨rfl, rfl⟩
  | some n =>
    have C := inode_some h hid hn
    have c0 := (h.nd id n hn).c0
    rw [kindE_some hn] at hE ⊢
    have hne : n.dir ≠ b := fun e => hE (if_pos e)
    rw [if_neg hne]
    clear hE
    generalize n.dir = nd at *
    obtain rfl : b = !nd := by revert hne; cases b <;> cases nd <;> simp
    clear hne
    cases nd <;> simp only [Bool.not_true, Bool.not_false]
    all_goals
      go_enter Tryz.func79, Tryz.ntmps79
      go_wp2_with (go_at_call 61; (with_reducible refine C.mono ?_); rintro e w1 ⟨rfl, rfl⟩)
      go_ret2
      exact ⟨rfl, rfl⟩
theorem inodeOf_ok (b : Bool) (hE : T.kindE id b = 0) :
    Calls Tryz.prog 79 #[.pointer (some ⟨t, 0, none⟩), .int .i64 id, .bool b] w fun e w' => e = .returned (.tuple #[.pointer (some ⟨(A id).1, 0, none⟩), .int .i64 0]) ∧ w' = w := by
  cases hn : aget id T.nodes with
  | none => rw [kindE_none hn] at hE; cases hE
  | some n =>
    have C := inode_some h hid hn
    have c0 := (h.nd id n hn).c0
    rw [kindE_some hn] at hE
    have he : n.dir = b := by by_cases e : n.dir = b; exact e; rw [if_neg e] at hE; cases hE
    subst he
    clear hE
    generalize n.dir = nd at *
    cases nd
    all_goals
      go_enter Tryz.func79, Tryz.ntmps79
      go_wp2_with (go_at_call 61; (with_reducible refine C.mono ?_); rintro e w1 ⟨rfl, rfl⟩)
      go_ret2
      exact ⟨rfl, rfl⟩
theorem directory_ok (hE : T.kindE id true = 0) :
    Calls Tryz.prog 54 #[.pointer (some ⟨t, 0, none⟩), .int .i64 id] w fun e w' => e = .returned (.tuple #[.pointer (some ⟨(A id).1, 0, none⟩), .int .i64 0]) ∧ w' = w := by
  have C := inodeOf_ok h hid true hE
  clear hE
  go_enter Tryz.func54, Tryz.ntmps54
  go_wp2_with (go_at_call 79; (with_reducible refine C.mono ?_); rintro e w1 ⟨rfl, rfl⟩)
  go_ret2
  exact ⟨rfl, rfl⟩
theorem directory_no (hE : T.kindE id true ≠ 0) :
    Calls Tryz.prog 54 #[.pointer (some ⟨t, 0, none⟩), .int .i64 id] w fun e w' => e = .returned (.tuple #[.pointer none, .int .i64 (T.kindE id true)]) ∧ w' = w := by
  have C := inodeOf_no h hid true hE
  generalize T.kindE id true = k at *
  go_enter Tryz.func54, Tryz.ntmps54
  go_wp2_with (go_at_call 79; (with_reducible refine C.mono ?_); rintro e w1 ⟨rfl, rfl⟩)
  go_ret2
  exact ⟨rfl, rfl⟩
theorem file_ok (hE : T.kindE id false = 0) :
    Calls Tryz.prog 51 #[.pointer (some ⟨t, 0, none⟩), .int .i64 id] w fun e w' => e = .returned (.tuple #[.pointer (some ⟨(A id).1, 0, none⟩), .int .i64 0]) ∧ w' = w := by
  have C := inodeOf_ok h hid false hE
  clear hE
  go_enter Tryz.func51, Tryz.ntmps51
  go_wp2_with (go_at_call 79; (with_reducible refine C.mono ?_); rintro e w1 ⟨rfl, rfl⟩)
  go_ret2
  exact ⟨rfl, rfl⟩
theorem file_no (hE : T.kindE id false ≠ 0) :
    Calls Tryz.prog 51 #[.pointer (some ⟨t, 0, none⟩), .int .i64 id] w fun e w' => e = .returned (.tuple #[.pointer none, .int .i64 (T.kindE id false)]) ∧ w' = w := by
  have C := inodeOf_no h hid false hE
  generalize T.kindE id false = k at *
  go_enter Tryz.func51, Tryz.ntmps51
  go_wp2_with (go_at_call 79; (with_reducible refine C.mono ?_); rintro e w1 ⟨rfl, rfl⟩)
  go_ret2
  exact ⟨rfl, rfl⟩
theorem fileAt_ok (a : Int) (ha : InI a) (hE : T.fileE id a = 0) :
    Calls Tryz.prog 47 #[.pointer (some ⟨t, 0, none⟩), .int .i64 id, .int .i64 a] w fun e w' => e = .returned (.tuple #[.pointer (some ⟨(A id).1, 0, none⟩), .int .i64 0]) ∧ w' = w := by
  unfold Tb.fileE at hE
  have hk : T.kindE id false = 0 := by by_cases e : T.kindE id false = 0; exact e; rw [if_neg e] at hE; exact hE
  rw [if_pos hk] at hE
  have h0 : ¬ a < 0 := fun e => by rw [if_pos e] at hE; cases hE
  have h0' : (0 : Int) ≤ a := by omega
  have C := file_ok h hid hk
  clear hE hk h0
  go_enter Tryz.func47, Tryz.ntmps47
  go_wp2_with (go_at_call 51; (with_reducible refine C.mono ?_); rintro e w1 ⟨rfl, rfl⟩)
  go_ret2
  exact ⟨rfl, rfl⟩
theorem fileAt_no (a : Int) (ha : InI a) (hE : T.fileE id a ≠ 0) :
    Calls Tryz.prog 47 #[.pointer (some ⟨t, 0, none⟩), .int .i64 id, .int .i64 a] w fun e w' => e = .returned (.tuple #[.pointer none, .int .i64 (T.fileE id a)]) ∧ w' = w := by
  unfold Tb.fileE at *
  by_cases hk : T.kindE id false = 0
  · have C := file_ok h hid hk
    rw [if_pos hk] at hE ⊢
    have h0 : a < 0 := by by_cases e : a < 0; exact e; rw [if_neg e] at hE; exact absurd rfl hE
    rw [if_pos h0]
    clear hE hk
    go_enter Tryz.func47, Tryz.ntmps47
    go_wp2_with (go_at_call 51; (with_reducible refine C.mono ?_); rintro e w1 ⟨rfl, rfl⟩)
    go_ret2
    exact ⟨rfl, rfl⟩
  · have C := file_no h hid hk
    rw [if_neg hk] at hE ⊢
    have hk2 : (T.kindE id false == 0) = false := by simpa using hk
    have hk3 : (T.kindE id false != 0) = true := by simpa using hk
    clear hE hk
    generalize T.kindE id false = k at *
    go_enter Tryz.func47, Tryz.ntmps47
    go_wp2_with (go_at_call 51; (with_reducible refine C.mono ?_); rintro e w1 ⟨rfl, rfl⟩)
    go_ret2
    exact ⟨rfl, rfl⟩
end
end Go.Proofs.YtagdhghjcibfbaaGreat

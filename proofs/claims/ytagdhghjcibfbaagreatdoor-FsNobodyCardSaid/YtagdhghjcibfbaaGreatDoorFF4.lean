/- Layer 9: isMade, isPath, isInside, mayBe. Layer 9: a result in memory; what is done in blocks of the call's own. Layer 9: use. Layer 9: use: Read, Write, Truncate, size. -/
import Derived.Test.YtagdhghjcibfbaaGreatDoorFF2
import Derived.Test.YtagdhghjcibfbaaGreatDoorPaP
import Derived.Test.YtagdhghjcibfbaaGreatDoorFsM
import Derived.Test.YtagdhghjcibfbaaGreatDoorFF3
import Derived.Laws.Rows
import Derived.Deep.RegionHeld3
namespace Go.Proofs.YtagdhghjcibfbaaGreatDoor
open Go.RowKit
set_option linter.unusedVariables false
set_option linter.unusedSectionVars false
set_option maxRecDepth 100000

theorem made_any {w : World} {fb t hb : Nat} (h : FB w fb t hb) : Calls Tryz.prog 17 #[.pointer (some ⟨fb, 0, none⟩)] w fun e w' => e = .returned (.bool true) ∧ w' = w := by
  have c0 : w.cell? ⟨fb, 0, none⟩ = some (.pointer (some ⟨t, 0, none⟩)) := h.c0
  go_enter Tryz.func17, Tryz.ntmps17
  go_wp2
  go_ret
  exact ⟨rfl, rfl⟩
theorem unmade_any {w : World} {p : Option Addr} (h : p = none ∨ ∃ b, p = some ⟨b, 0, none⟩ ∧ w.cell? ⟨b, 0, none⟩ = some (.pointer none)) : Calls Tryz.prog 17 #[.pointer p] w fun e w' => e = .returned (.bool false) ∧ w' = w := by
  rcases h with rfl | ⟨b, rfl, c0⟩
  · go_enter Tryz.func17, Tryz.ntmps17
    go_wp2
    go_ret
    exact ⟨rfl, rfl⟩
  · go_enter Tryz.func17, Tryz.ntmps17
    go_wp2
    go_ret
    exact ⟨rfl, rfl⟩
theorem isPath_any (p : List UInt8) (w : World) (hp : p.length ≤ 1048576) : Calls Tryz.prog 40 #[.string (bs p)] w fun e w' => e = .returned (.bool (canon p)) ∧ Below w.heap.size w w' := by
  have CC := Lib.hid (clean_any p w hp)
  unfold canon
  cases hc : cleanL p with
  | none =>
    rw [hc] at CC
    have CC2 : Hid (Calls Tryz.prog 67 #[.string (bs p)] w fun e w' => e = .returned (.tuple #[.string (bs []), .int .i64 2]) ∧ Below w.heap.size w w') := CC
    clear CC hc
    go_enter Tryz.func40, Tryz.ntmps40
    go_wp2_with (go_at_call 67; (with_reducible refine CC2.out.mono ?_); rintro e w1 ⟨rfl, hb⟩; have HB := Lib.hid hb; clear hb)
    go_ret
    exact ⟨rfl, HB.out⟩
  | some x =>
    rw [hc] at CC
    have CC2 : Hid (Calls Tryz.prog 67 #[.string (bs p)] w fun e w' => e = .returned (.tuple #[.string (bs x), .int .i64 0]) ∧ Below w.heap.size w w') := CC
    have e1 : ((bs x).toList == (bs p).toList) = decide (some x = some p) := by rw [bs_toList, bs_toList, Bool.eq_iff_iff]; simp
    generalize decide (some x = some p) = O at *
    clear CC hc
    go_enter Tryz.func40, Tryz.ntmps40
    go_wp2_with (go_at_call 67; (with_reducible refine CC2.out.mono ?_); rintro e w1 ⟨rfl, hb⟩; have HB := Lib.hid hb; clear hb)
    go_ret
    exact ⟨by first | rfl | (simp only [e1]; rfl), HB.out⟩
theorem isInside_any (p : List UInt8) (w : World) (hp : p.length ≤ 1048576) : Calls Tryz.prog 39 #[.string (bs p)] w fun e w' => e = .returned (.bool (insd p)) ∧ Below w.heap.size w w' := by
  have CC := Lib.hid (isPath_any p w hp)
  unfold insd
  by_cases h0 : p = []
  · have e0 : (bs p).toList.isEmpty = true := by rw [bs_toList, h0]; rfl
    have e1 : (bs p).toList = [] := by rw [bs_toList, h0]
    rw [decide_eq_true h0]
    clear h0
    generalize bs p = s at *
    go_enter Tryz.func39, Tryz.ntmps39
    go_wp2_with fail
    go_ret
    exact ⟨rfl, Below.refl _ _⟩
  · have e0 : (bs p).toList.isEmpty = false := by rw [bs_toList]; cases p with | nil => exact absurd rfl h0 | cons => rfl
    rw [decide_eq_false h0]
    generalize canon p = O at *
    clear h0
    generalize bs p = s at *
    go_enter Tryz.func39, Tryz.ntmps39
    go_wp2_with (go_at_call 40; (with_reducible refine CC.out.mono ?_); rintro e w1 ⟨rfl, hb⟩; have HB := Lib.hid hb; clear hb)
    go_ret
    exact ⟨rfl, HB.out⟩

/-! ### An operation in memory -/
def opV (o : OpT) : Value := .agg #[.int .i64 o.kind, .string (bs o.path), .string (bs o.dst), .int .i64 o.h, .int .i64 o.at_, .int .i64 o.n, .string (bs o.data), .int .i64 o.pid, .int .i64 o.birth]
def OB (w : World) (b : Nat) (o : OpT) : Prop := w.heap[b]? = some (.cells #[.int .i64 o.kind, .string (bs o.path), .string (bs o.dst), .int .i64 o.h, .int .i64 o.at_, .int .i64 o.n, .string (bs o.data), .int .i64 o.pid, .int .i64 o.birth] 34 (0, 0))
structure OpOk (o : OpT) : Prop where
  kind : InI o.kind
  path : o.path.length ≤ 1048576
  dst : o.dst.length ≤ 1048576
  h : InI o.h
  at_ : InI o.at_
  n : InI o.n
  data : o.data.length ≤ 140737488355328
section
variable {w : World} {b : Nat} {o : OpT} (h : OB w b o)
include h
theorem OB.c0 : w.cell? ⟨b, 0, none⟩ = some (.int .i64 o.kind) := by unfold OB at h; simp [World.cell?, h]
theorem OB.c1 : w.cell? ⟨b, 1, none⟩ = some (.string (bs o.path)) := by unfold OB at h; simp [World.cell?, h]
theorem OB.c2 : w.cell? ⟨b, 2, none⟩ = some (.string (bs o.dst)) := by unfold OB at h; simp [World.cell?, h]
theorem OB.c3 : w.cell? ⟨b, 3, none⟩ = some (.int .i64 o.h) := by unfold OB at h; simp [World.cell?, h]
theorem OB.c4 : w.cell? ⟨b, 4, none⟩ = some (.int .i64 o.at_) := by unfold OB at h; simp [World.cell?, h]
theorem OB.c5 : w.cell? ⟨b, 5, none⟩ = some (.int .i64 o.n) := by unfold OB at h; simp [World.cell?, h]
theorem OB.c6 : w.cell? ⟨b, 6, none⟩ = some (.string (bs o.data)) := by unfold OB at h; simp [World.cell?, h]
theorem OB.c7 : w.cell? ⟨b, 7, none⟩ = some (.int .i64 o.pid) := by unfold OB at h; simp [World.cell?, h]
theorem OB.c8 : w.cell? ⟨b, 8, none⟩ = some (.int .i64 o.birth) := by unfold OB at h; simp [World.cell?, h]
end
theorem OB.ch {w w' : World} {b : Nat} {o : OpT} {M : Nat → Prop} (h : OB w b o) (g : Ch M w w') (hn : ¬ M b) : OB w' b o := g.heap h hn
theorem OB.lt {w : World} {b : Nat} {o : OpT} (h : OB w b o) : b < w.heap.size := (Array.getElem?_eq_some_iff.1 h).1
theorem OB.below {w w' : World} {b : Nat} {o : OpT} (h : OB w b o) (g : Below w.heap.size w w') : OB w' b o := (g.block b h.lt).trans h
theorem may_1 (o : OpT) (ok : OpOk o) (w : World) (hk : o.kind = 1 ∨ o.kind = 2 ∨ o.kind = 3 ∨ o.kind = 4 ∨ o.kind = 11) : Calls Tryz.prog 18 #[opV o] w fun e w' => e = .returned (.bool (insd o.path)) ∧ Below w.heap.size w w' := by
  obtain ⟨W0, hW0⟩ : ∃ W0, w.alloc (.cells #[.int .i64 o.kind, .string (bs o.path), .string (bs o.dst), .int .i64 o.h, .int .i64 o.at_, .int .i64 o.n, .string (bs o.data), .int .i64 o.pid, .int .i64 o.birth] 34) = W0 := ⟨_, rfl⟩
  have hb0 : Below w.heap.size w W0 := by rw [← hW0]; exact (Below.refl _ w).alloc (Nat.le_refl _) _
  have bx : OB W0 w.heap.size o := by rw [← hW0]; exact (MapKept.heap_alloc w _).1
  have HB0 := Lib.hid hb0
  have x0 := bx.c0
  have x1 := bx.c1
  have x2 := bx.c2
  unfold opV
  have CI := Lib.hid (isInside_any o.path W0 ok.path)
  generalize insd o.path = O at *
  clear bx hb0 ok
  generalize o.kind = kd at *
  rcases hk with rfl | rfl | rfl | rfl | rfl
  all_goals
    go_enter Tryz.func18, Tryz.ntmps18
    go_wp2_with (go_at_call 39; (with_reducible refine CI.out.mono ?_); rintro e w1 ⟨rfl, hb⟩; have HB := Lib.hid hb; clear hb)
    go_ret
    exact ⟨rfl, HB0.out.trans (HB.out.mono HB0.out.size)⟩
theorem may_2 (o : OpT) (ok : OpOk o) (w : World) (hk : o.kind = 10 ∨ o.kind = 12) : Calls Tryz.prog 18 #[opV o] w fun e w' => e = .returned (.bool (insd o.path && insd o.dst)) ∧ Below w.heap.size w w' := by
  obtain ⟨W0, hW0⟩ : ∃ W0, w.alloc (.cells #[.int .i64 o.kind, .string (bs o.path), .string (bs o.dst), .int .i64 o.h, .int .i64 o.at_, .int .i64 o.n, .string (bs o.data), .int .i64 o.pid, .int .i64 o.birth] 34) = W0 := ⟨_, rfl⟩
  have hb0 : Below w.heap.size w W0 := by rw [← hW0]; exact (Below.refl _ w).alloc (Nat.le_refl _) _
  have bx : OB W0 w.heap.size o := by rw [← hW0]; exact (MapKept.heap_alloc w _).1
  have HB0 := Lib.hid hb0
  have x0 := bx.c0
  have x1 := bx.c1
  have x2 := bx.c2
  unfold opV
  have CI := Lib.hid (isInside_any o.path W0 ok.path)
  have CJ : Hid (∀ w1, Below W0.heap.size W0 w1 → Calls Tryz.prog 39 #[.string (bs o.dst)] w1 fun e w' => e = .returned (.bool (insd o.dst)) ∧ Below w1.heap.size w1 w') := Lib.hid fun w1 _ => isInside_any o.dst w1 ok.dst
  have HX2 : Hid (∀ w1, Below W0.heap.size W0 w1 → w1.cell? ⟨w.heap.size, 2, none⟩ = some (.string (bs o.dst))) := Lib.hid fun w1 hb => (bx.below hb).c2
  clear bx hb0 ok x2
  generalize insd o.dst = O2 at *
  cases hO : insd o.path
  all_goals
    rw [hO] at CI
    clear hO
    generalize o.kind = kd at *
    rcases hk with rfl | rfl
    all_goals
      go_enter Tryz.func18, Tryz.ntmps18
      go_wp2_with (first
        | (go_at_call 39; (with_reducible refine CI.out.mono ?_); rintro e w1 ⟨rfl, hb⟩; have HB := Lib.hid hb; have x2 := HX2.out _ hb; clear hb)
        | (go_at_call 39; (with_reducible refine (CJ.out _ HB.out).mono ?_); rintro e w2 ⟨rfl, hb⟩; replace HB := Lib.hid (HB.out.trans (hb.mono HB.out.size)); clear hb))
      go_ret
      exact ⟨rfl, HB0.out.trans (HB.out.mono HB0.out.size)⟩
theorem may_3 (o : OpT) (ok : OpOk o) (w : World) (hk : o.kind = 13) : Calls Tryz.prog 18 #[opV o] w fun e w' => e = .returned (.bool (canon o.path)) ∧ Below w.heap.size w w' := by
  obtain ⟨W0, hW0⟩ : ∃ W0, w.alloc (.cells #[.int .i64 o.kind, .string (bs o.path), .string (bs o.dst), .int .i64 o.h, .int .i64 o.at_, .int .i64 o.n, .string (bs o.data), .int .i64 o.pid, .int .i64 o.birth] 34) = W0 := ⟨_, rfl⟩
  have hb0 : Below w.heap.size w W0 := by rw [← hW0]; exact (Below.refl _ w).alloc (Nat.le_refl _) _
  have bx : OB W0 w.heap.size o := by rw [← hW0]; exact (MapKept.heap_alloc w _).1
  have HB0 := Lib.hid hb0
  have x0 := bx.c0
  have x1 := bx.c1
  have x2 := bx.c2
  unfold opV
  have CI := Lib.hid (isPath_any o.path W0 ok.path)
  generalize canon o.path = O at *
  clear bx hb0 ok
  generalize o.kind = kd at *
  subst hk
  go_enter Tryz.func18, Tryz.ntmps18
  go_wp2_with (go_at_call 40; (with_reducible refine CI.out.mono ?_); rintro e w1 ⟨rfl, hb⟩; have HB := Lib.hid hb; clear hb)
  go_ret
  exact ⟨rfl, HB0.out.trans (HB.out.mono HB0.out.size)⟩
theorem may_4 (o : OpT) (w : World) (hk : o.kind = 5 ∨ o.kind = 6 ∨ o.kind = 7 ∨ o.kind = 8 ∨ o.kind = 9) : Calls Tryz.prog 18 #[opV o] w fun e w' => e = .returned (.bool true) ∧ Below w.heap.size w w' := by
  obtain ⟨W0, hW0⟩ : ∃ W0, w.alloc (.cells #[.int .i64 o.kind, .string (bs o.path), .string (bs o.dst), .int .i64 o.h, .int .i64 o.at_, .int .i64 o.n, .string (bs o.data), .int .i64 o.pid, .int .i64 o.birth] 34) = W0 := ⟨_, rfl⟩
  have hb0 : Below w.heap.size w W0 := by rw [← hW0]; exact (Below.refl _ w).alloc (Nat.le_refl _) _
  have bx : OB W0 w.heap.size o := by rw [← hW0]; exact (MapKept.heap_alloc w _).1
  have HB0 := Lib.hid hb0
  have x0 := bx.c0
  have x1 := bx.c1
  have x2 := bx.c2
  unfold opV
  clear bx hb0
  generalize o.kind = kd at *
  rcases hk with rfl | rfl | rfl | rfl | rfl
  all_goals
    go_enter Tryz.func18, Tryz.ntmps18
    go_wp2_with fail
    go_ret
    exact ⟨rfl, HB0.out⟩
theorem may_5 (o : OpT) (w : World) (hk : ∀ i : Int, 1 ≤ i → i ≤ 13 → o.kind ≠ i) : Calls Tryz.prog 18 #[opV o] w fun e w' => e = .returned (.bool false) ∧ Below w.heap.size w w' := by
  obtain ⟨W0, hW0⟩ : ∃ W0, w.alloc (.cells #[.int .i64 o.kind, .string (bs o.path), .string (bs o.dst), .int .i64 o.h, .int .i64 o.at_, .int .i64 o.n, .string (bs o.data), .int .i64 o.pid, .int .i64 o.birth] 34) = W0 := ⟨_, rfl⟩
  have hb0 : Below w.heap.size w W0 := by rw [← hW0]; exact (Below.refl _ w).alloc (Nat.le_refl _) _
  have bx : OB W0 w.heap.size o := by rw [← hW0]; exact (MapKept.heap_alloc w _).1
  have HB0 := Lib.hid hb0
  have x0 := bx.c0
  have x1 := bx.c1
  have x2 := bx.c2
  unfold opV
  have kf : ∀ i : Int, 1 ≤ i → i ≤ 13 → (o.kind == i) = false := fun i h1 h2 => by simpa using hk i h1 h2
  have k1 := kf 1 (by omega) (by omega)
  have k2 := kf 2 (by omega) (by omega)
  have k3 := kf 3 (by omega) (by omega)
  have k4 := kf 4 (by omega) (by omega)
  have k5 := kf 5 (by omega) (by omega)
  have k6 := kf 6 (by omega) (by omega)
  have k7 := kf 7 (by omega) (by omega)
  have k8 := kf 8 (by omega) (by omega)
  have k9 := kf 9 (by omega) (by omega)
  have k10 := kf 10 (by omega) (by omega)
  have k11 := kf 11 (by omega) (by omega)
  have k12 := kf 12 (by omega) (by omega)
  have k13 := kf 13 (by omega) (by omega)
  clear bx hb0 kf hk
  go_enter Tryz.func18, Tryz.ntmps18
  go_wp2_with fail
  go_ret
  exact ⟨rfl, HB0.out⟩
theorem may_any (o : OpT) (ok : OpOk o) (w : World) : Calls Tryz.prog 18 #[opV o] w fun e w' => e = .returned (.bool (mayB o)) ∧ Below w.heap.size w w' := by
  unfold mayB
  by_cases h1 : o.kind = 1 ∨ o.kind = 2 ∨ o.kind = 3 ∨ o.kind = 4 ∨ o.kind = 11
  · rw [if_pos h1]; exact may_1 o ok w h1
  rw [if_neg h1]
  by_cases h2 : o.kind = 10 ∨ o.kind = 12
  · rw [if_pos h2]; exact may_2 o ok w h2
  rw [if_neg h2]
  by_cases h3 : o.kind = 13
  · rw [if_pos h3]; exact may_3 o ok w h3
  rw [if_neg h3]
  by_cases h4 : o.kind = 5 ∨ o.kind = 6 ∨ o.kind = 7 ∨ o.kind = 8 ∨ o.kind = 9
  · rw [decide_eq_true h4]; exact may_4 o w h4
  · rw [decide_eq_false h4]; exact may_5 o w (fun i a b e => by omega)
end Go.Proofs.YtagdhghjcibfbaaGreatDoor

namespace Go.Proofs.YtagdhghjcibfbaaGreatDoor
open Go.RowKit
set_option linter.unusedVariables false
set_option linter.unusedSectionVars false
set_option maxRecDepth 100000

section
variable {w w' : World} {b : Nat} {x0 x1 x2 x3 y : Value}
def RS (w : World) (b : Nat) (x0 x1 x2 x3 : Value) : Prop := w.heap[b]? = some (.cells #[x0, x1, x2, x3] 31 (0, 0))
theorem RS.c0 (h : RS w b x0 x1 x2 x3) : w.cell? ⟨b, 0, none⟩ = some x0 := by unfold RS at h; simp [World.cell?, h]
theorem RS.c1 (h : RS w b x0 x1 x2 x3) : w.cell? ⟨b, 1, none⟩ = some x1 := by unfold RS at h; simp [World.cell?, h]
theorem RS.c2 (h : RS w b x0 x1 x2 x3) : w.cell? ⟨b, 2, none⟩ = some x2 := by unfold RS at h; simp [World.cell?, h]
theorem RS.c3 (h : RS w b x0 x1 x2 x3) : w.cell? ⟨b, 3, none⟩ = some x3 := by unfold RS at h; simp [World.cell?, h]
theorem RS.fr (h : RS w b x0 x1 x2 x3) (i : Nat) : w.frozen? ⟨b, i, none⟩ = false := by unfold RS at h; simp [World.frozen?, h]
theorem RS.lt (h : RS w b x0 x1 x2 x3) : b < w.heap.size := (Array.getElem?_eq_some_iff.1 h).1
theorem RS.ch {M : Nat → Prop} (h : RS w b x0 x1 x2 x3) (g : Ch M w w') (hn : ¬ M b) : RS w' b x0 x1 x2 x3 := g.heap h hn
theorem RS.below (h : RS w b x0 x1 x2 x3) (g : Below w.heap.size w w') : RS w' b x0 x1 x2 x3 := (g.block b h.lt).trans h
theorem RS.s0 (h : RS w b x0 x1 x2 x3) : RS (w.setCell ⟨b, 0, none⟩ y) b y x1 x2 x3 := by unfold RS at h ⊢; simp [World.setCell, Array.getElem?_modify, h]
theorem RS.s1 (h : RS w b x0 x1 x2 x3) : RS (w.setCell ⟨b, 1, none⟩ y) b x0 y x2 x3 := by unfold RS at h ⊢; simp [World.setCell, Array.getElem?_modify, h]
theorem RS.s2 (h : RS w b x0 x1 x2 x3) : RS (w.setCell ⟨b, 2, none⟩ y) b x0 x1 y x3 := by unfold RS at h ⊢; simp [World.setCell, Array.getElem?_modify, h]
theorem RS.s3 (h : RS w b x0 x1 x2 x3) : RS (w.setCell ⟨b, 3, none⟩ y) b x0 x1 x2 y := by unfold RS at h ⊢; simp [World.setCell, Array.getElem?_modify, h]
/-- A whole result is stored. -/
def set4 (w : World) (b : Nat) (y0 y1 y2 y3 : Value) : World := (((w.setCell ⟨b, 0, none⟩ y0).setCell ⟨b, 1, none⟩ y1).setCell ⟨b, 2, none⟩ y2).setCell ⟨b, 3, none⟩ y3
theorem RS.set4 (h : RS w b x0 x1 x2 x3) (y0 y1 y2 y3 : Value) : RS (set4 w b y0 y1 y2 y3) b y0 y1 y2 y3 := by
  unfold RS at h ⊢; simp [Go.Proofs.YtagdhghjcibfbaaGreatDoor.set4, World.setCell, Array.getElem?_modify, h]
theorem ch_set4 {M : Nat → Prop} (w : World) (b : Nat) (y0 y1 y2 y3 : Value) (hb : M b) : Ch M w (set4 w b y0 y1 y2 y3) := by
  have tr : ∀ {a b c : World}, Ch M a b → Ch M b c → Ch M a c := fun h k => h.trans k (fun _ _ e => e)
  exact tr (tr (tr (Ch.set w ⟨b, 0, none⟩ y0 hb) (Ch.set _ ⟨b, 1, none⟩ y1 hb)) (Ch.set _ ⟨b, 2, none⟩ y2 hb)) (Ch.set _ ⟨b, 3, none⟩ y3 hb)
end
theorem res_size : (Tryz.prog.info? 31).map (·.size) = some 4 := by kernel_rfl
theorem results_one {fn : Func} {p : Tmp} {ty : TypeId} (h : fn.results = #[.cell p ty]) (tmps : Array Value) (P : Program) (w : World) {b : Addr} {v : Value} (hp : tmps.getD p undef = .pointer (some b)) (hl : (loadVar ty b).run P w = .ok v w) : (results fn tmps).run P w = .ok v w := by
  have hp' : tmps[p]?.getD undef = .pointer (some b) := by simpa using hp
  simp only [results, h]
  simp [hp', asAddr, hl]
/-- A result that is an operation's. -/
theorem ret_res {fn : Func} {R : Ending → World → Prop} {a : Act} {w : World} {p : Tmp} {b : Nat} {x0 x1 x2 x3 : Value} (hres : fn.results = #[.cell p 31]) (hp : a.tmps.getD p undef = .pointer (some ⟨b, 0, none⟩))
    (hd : a.defers = []) (hb : RS w b x0 x1 x2 x3) (hR : R (.returned (.agg #[x0, x1, x2, x3])) w) : bodyPost Tryz.prog fn R .ret a w :=
  bodyPost_ret (v := .agg #[x0, x1, x2, x3]) (results_one hres _ _ _ hp (run_loadVar_row (P := Tryz.prog) (ty := 31) w b _ _ _ _ hb Tryz.underlying31 rfl res_size)) hd hR

section
variable {w W1 w2 w3 : World} {fb t hb : Nat} {F F' : Fs} {S : Nat → Prop} {N N' : Nat}
/-- Blocks of the call's own, then a call, then writes to those blocks. -/
theorem FsP.after (b : Below w.heap.size w W1) (h : FsAt w fb t hb F S N) (k : FsP W1 fb t hb F' S N' w2) {M : Nat → Prop} (hM : ∀ x, M x → w.heap.size ≤ x ∧ x < W1.heap.size) (g : Ch M w2 w3) : FsP w fb t hb F' S N' w3 := by
  have s2 := k.ch.size
  have s3 := g.size
  have hgm := h.gm
  have s1 := b.size
  refine ⟨(k.at_.ch g (fun x hx e => ?_) (fun e => by have := hM _ e; omega)).grow (fun x hx => ?_) (fun x hx => ?_) (fun e => ?_), ((Ch.of_below b).trans k.ch (fun _ _ e => e)).trans g (fun x hx e => by have := hM _ e; omega)⟩
  · have hm := hM _ e
    rcases hx with hx | hx
    · have := h.lt _ hx; omega
    · unfold New at hx; omega
  · rcases hx with hx | hx
    · exact .inl hx
    · right; unfold New at *; omega
  · rcases hx with hx | hx
    · have := h.lt x hx; omega
    · exact hx.2
  · rcases e with e | e
    · exact h.gl e
    · unfold New at e; omega
/-- .. where the call left the file system alone. -/
theorem FsP.own (h : FsAt w fb t hb F S N) (g : Below w.heap.size w w2) : FsP w fb t hb F S N w2 := FsP.of_below h g
end
end Go.Proofs.YtagdhghjcibfbaaGreatDoor

namespace Go.Proofs.YtagdhghjcibfbaaGreatDoor
open Go.RowKit
set_option linter.unusedVariables false
set_option linter.unusedSectionVars false
set_option maxRecDepth 100000

def resV (r : ResT) : Value := .agg #[.int .i64 r.err, .int .i64 r.n, .string (bs r.data), .slice none 0 0]
section
variable {w : World} {fb t hb : Nat} {F : Fs} {S : Nat → Prop} {N : Nat} (h : FsAt w fb t hb F S N) (hN : N < 999999000)
include h hN
set_option maxHeartbeats 1000000 in
theorem use_no {o : Int} (ho : InI o) (op : OpT) (ok : OpOk op) (hz : F.file o op.h = 0) :
    Calls Tryz.prog 30 #[.pointer (some ⟨fb, 0, none⟩), .int .i64 o, opV op] w fun e w' => e = .returned (resV (errR 13)) ∧ FsP w fb t hb F S N w' := by
  obtain ⟨W0, hW0⟩ : ∃ W0, (w.alloc (.cells #[.int .i64 op.kind, .string (bs op.path), .string (bs op.dst), .int .i64 op.h, .int .i64 op.at_, .int .i64 op.n, .string (bs op.data), .int .i64 op.pid, .int .i64 op.birth] 34)).alloc (.cells #[.int .i64 0, .int .i64 0, .string ⟨#[]⟩, .slice none 0 0] 31) = W0 := ⟨_, rfl⟩
  have hb0 : Below w.heap.size w W0 := by rw [← hW0]; exact ((Below.refl _ w).alloc (Nat.le_refl _) _).alloc (by simp) _
  have bx : OB W0 w.heap.size op := by rw [← hW0]; exact (Below.heap_alloc _ _ _ (by simp)).trans (MapKept.heap_alloc w _).1
  have hs0 : W0.heap.size = w.heap.size + 2 := by rw [← hW0]; simp
  have r0 : RS W0 (w.heap.size + 1) (.int .i64 0) (.int .i64 0) (.string ⟨#[]⟩) (.slice none 0 0) := by
    have := (MapKept.heap_alloc (w.alloc (.cells #[.int .i64 op.kind, .string (bs op.path), .string (bs op.dst), .int .i64 op.h, .int .i64 op.at_, .int .i64 op.n, .string (bs op.data), .int .i64 op.pid, .int .i64 op.birth] 34)) (.cells #[.int .i64 0, .int .i64 0, .string ⟨#[]⟩, .slice none 0 0] 31)).1
    rw [hW0] at this
    have e : (w.alloc (.cells #[.int .i64 op.kind, .string (bs op.path), .string (bs op.dst), .int .i64 op.h, .int .i64 op.at_, .int .i64 op.n, .string (bs op.data), .int .i64 op.pid, .int .i64 op.birth] 34)).heap.size = w.heap.size + 1 := by simp
    rw [e] at this
    exact this
  have x3 := bx.c3
  have CF := Lib.hid (fs_file (h.below hb0) hN ho op.h ok.h)
  have H := Lib.hid h
  have HB0 := Lib.hid hb0
  rw [hz] at CF
  unfold opV
  have y0 := r0.c0; have y1 := r0.c1; have y2 := r0.c2; have y3 := r0.c3
  have g0 := r0.fr 0; have g1 := r0.fr 1; have g2 := r0.fr 2; have g3 := r0.fr 3
  have R0 := Lib.hid r0
  clear bx hb0 ok hz h r0 hs0
  go_enter Tryz.func30, Tryz.ntmps30
  go_wp2_with (go_at_call 55; (with_reducible refine CF.out.mono ?_); rintro e w1 ⟨rfl, rfl⟩)
  have hb' : Below w.heap.size w (set4 w1 (w.heap.size + 1) (.int .i64 13) (.int .i64 0) (.string ⟨#[]⟩) (.slice none 0 0)) := (Ch.below (M := fun x => x = w.heap.size + 1) (ch_set4 w1 _ _ _ _ _ rfl) HB0.out HB0.out.size (fun x hx e => by omega))
  exact ret_res rfl rfl rfl (R0.out.set4 (.int .i64 13) (.int .i64 0) (.string ⟨#[]⟩) (.slice none 0 0)) ⟨rfl, FsP.own H.out hb'⟩
set_option maxHeartbeats 1000000 in
theorem use_5 {o : Int} (ho : InI o) (op : OpT) (ok : OpOk op) (hz : F.file o op.h ≠ 0) (hk : op.kind = 5) :
    Calls Tryz.prog 30 #[.pointer (some ⟨fb, 0, none⟩), .int .i64 o, opV op] w fun e w' => e = .returned (resV (errR 0)) ∧ FsP w fb t hb (F.shut o (op.h - 1).toNat) S (N + 2) w' := by
  obtain ⟨W0, hW0⟩ : ∃ W0, (w.alloc (.cells #[.int .i64 op.kind, .string (bs op.path), .string (bs op.dst), .int .i64 op.h, .int .i64 op.at_, .int .i64 op.n, .string (bs op.data), .int .i64 op.pid, .int .i64 op.birth] 34)).alloc (.cells #[.int .i64 0, .int .i64 0, .string ⟨#[]⟩, .slice none 0 0] 31) = W0 := ⟨_, rfl⟩
  have hb0 : Below w.heap.size w W0 := by rw [← hW0]; exact ((Below.refl _ w).alloc (Nat.le_refl _) _).alloc (by simp) _
  have bx : OB W0 w.heap.size op := by rw [← hW0]; exact (Below.heap_alloc _ _ _ (by simp)).trans (MapKept.heap_alloc w _).1
  have hs0 : W0.heap.size = w.heap.size + 2 := by rw [← hW0]; simp
  have r0 : RS W0 (w.heap.size + 1) (.int .i64 0) (.int .i64 0) (.string ⟨#[]⟩) (.slice none 0 0) := by
    have := (MapKept.heap_alloc (w.alloc (.cells #[.int .i64 op.kind, .string (bs op.path), .string (bs op.dst), .int .i64 op.h, .int .i64 op.at_, .int .i64 op.n, .string (bs op.data), .int .i64 op.pid, .int .i64 op.birth] 34)) (.cells #[.int .i64 0, .int .i64 0, .string ⟨#[]⟩, .slice none 0 0] 31)).1
    rw [hW0] at this
    have e : (w.alloc (.cells #[.int .i64 op.kind, .string (bs op.path), .string (bs op.dst), .int .i64 op.h, .int .i64 op.at_, .int .i64 op.n, .string (bs op.data), .int .i64 op.pid, .int .i64 op.birth] 34)).heap.size = w.heap.size + 1 := by simp
    rw [e] at this
    exact this
  have x3 := bx.c3
  have CF := Lib.hid (fs_file (h.below hb0) hN ho op.h ok.h)
  have H := Lib.hid h
  have HB0 := Lib.hid hb0
  obtain ⟨W1, hW1⟩ : ∃ W1, W0.alloc (.cells #[.int .i64 0, .int .i64 0, .string ⟨#[]⟩, .slice none 0 0] 31) = W1 := ⟨_, rfl⟩
  have hb1 : Below w.heap.size w W1 := by rw [← hW1]; exact hb0.alloc hb0.size _
  have hs1 : W1.heap.size = w.heap.size + 3 := by rw [← hW1]; simp [hs0]
  have r1 : RS W1 (w.heap.size + 1) (.int .i64 0) (.int .i64 0) (.string ⟨#[]⟩) (.slice none 0 0) := by rw [← hW1]; exact r0.below ((Below.refl _ _).alloc (Nat.le_refl _) _)
  have q1 : RS W1 W0.heap.size (.int .i64 0) (.int .i64 0) (.string ⟨#[]⟩) (.slice none 0 0) := by rw [← hW1]; exact (MapKept.heap_alloc W0 _).1
  have bx1 : OB W1 w.heap.size op := by rw [← hW1]; exact bx.below ((Below.refl _ _).alloc (Nat.le_refl _) _)
  have HB1 := Lib.hid hb1
  have HS0 := Lib.hid hs0
  have HS1 := Lib.hid hs1
  have R1 := Lib.hid r1
  have Q1 := Lib.hid q1
  have BX1 := Lib.hid bx1
  have SLT := Lib.hid h.lt
  have hz2 : (F.file o op.h == 0) = false := by simpa using hz
  have c0 : W1.cell? ⟨fb, 0, none⟩ = some (.pointer (some ⟨t, 0, none⟩)) := (h.below hb1).fs.c0
  have hh : 1 ≤ op.h ∧ op.h ≤ 8 := by
    unfold Fs.file at hz
    split at hz
    · exact absurd rfl hz
    · omega
  have CS := Lib.hid (fs_shut (h.below hb1) hN ho op.h (op.h - 1).toNat (by omega) (by omega))
  have HR : Hid (∀ F' N' w2, FsP W1 fb t hb F' S N' w2 → RS w2 (w.heap.size + 1) (.int .i64 0) (.int .i64 0) (.string ⟨#[]⟩) (.slice none 0 0) ∧ RS w2 W0.heap.size (.int .i64 0) (.int .i64 0) (.string ⟨#[]⟩) (.slice none 0 0)) := Lib.hid fun F' N' w2 hp =>
    ⟨r1.ch hp.ch (fun e => by have := h.lt _ e; omega), q1.ch hp.ch (fun e => by have := h.lt _ e; omega)⟩
  have z0 := bx1.c0
  have z3 := bx1.c3
  rw [hk] at z0
  unfold opV
  generalize F.shut o (op.h - 1).toNat = F2 at *
  generalize F.file o op.h = id at *
  clear bx bx1 hb0 hb1 ok hz h r0 hs0 hs1 hh r1 q1 hk
  go_enter Tryz.func30, Tryz.ntmps30
  go_wp2_with (first
    | (go_at_call 55; (with_reducible refine CF.out.mono ?_); rintro e w1 ⟨rfl, hw⟩; obtain rfl : W0 = w1 := hw.symm; clear hw)
    | (go_at_call 31; (with_reducible refine CS.out.mono ?_); rintro e w2 ⟨rfl, hp⟩; have HP := Lib.hid hp; obtain ⟨ra, qa⟩ := HR.out _ _ _ hp; have RA := Lib.hid ra; have y0 := ra.c0; have y1 := ra.c1; have y2 := ra.c2; have y3 := ra.c3; have g0 := ra.fr 0; have g1 := ra.fr 1; have g2 := ra.fr 2; have g3 := ra.fr 3; have v0 := qa.c0; have v1 := qa.c1; have v2 := qa.c2; have v3 := qa.c3; clear hp ra qa; refine Hid.out ?_))
  refine Lib.hid ?_
  go_wp2_with fail
  exact ret_res rfl rfl rfl (RA.out.set4 (.int .i64 0) (.int .i64 0) (.string ⟨#[]⟩) (.slice none 0 0)) ⟨rfl, FsP.after HB1.out H.out HP.out (M := fun x => x = w.heap.size + 1) (fun x e => by have := HS1.out; omega) (ch_set4 _ _ _ _ _ _ rfl)⟩
end
end Go.Proofs.YtagdhghjcibfbaaGreatDoor

namespace Go.Proofs.YtagdhghjcibfbaaGreatDoor
open Go.RowKit
set_option linter.unusedVariables false
set_option linter.unusedSectionVars false
set_option maxRecDepth 100000

section
variable {w : World} {fb t hb : Nat} {F : Fs} {S : Nat → Prop} {N : Nat} (h : FsAt w fb t hb F S N) (hN : N < 999999000)
include h hN
set_option maxHeartbeats 2000000 in
theorem use_6 {o : Int} (ho : InI o) (op : OpT) (ok : OpOk op) (hz : F.file o op.h ≠ 0) (hk : op.kind = 6) :
    Calls Tryz.prog 30 #[.pointer (some ⟨fb, 0, none⟩), .int .i64 o, opV op] w fun e w' => e = .returned (resV ⟨(F.T.step (aRead (F.file o op.h) op.at_ op.n)).2.2.2, 0, (F.T.step (aRead (F.file o op.h) op.at_ op.n)).2.2.1, []⟩) ∧ FsP w fb t hb F S N w' := by
  obtain ⟨W0, hW0⟩ : ∃ W0, (w.alloc (.cells #[.int .i64 op.kind, .string (bs op.path), .string (bs op.dst), .int .i64 op.h, .int .i64 op.at_, .int .i64 op.n, .string (bs op.data), .int .i64 op.pid, .int .i64 op.birth] 34)).alloc (.cells #[.int .i64 0, .int .i64 0, .string ⟨#[]⟩, .slice none 0 0] 31) = W0 := ⟨_, rfl⟩
  have hb0 : Below w.heap.size w W0 := by rw [← hW0]; exact ((Below.refl _ w).alloc (Nat.le_refl _) _).alloc (by simp) _
  have bx : OB W0 w.heap.size op := by rw [← hW0]; exact (Below.heap_alloc _ _ _ (by simp)).trans (MapKept.heap_alloc w _).1
  have hs0 : W0.heap.size = w.heap.size + 2 := by rw [← hW0]; simp
  have r0 : RS W0 (w.heap.size + 1) (.int .i64 0) (.int .i64 0) (.string ⟨#[]⟩) (.slice none 0 0) := by
    have := (MapKept.heap_alloc (w.alloc (.cells #[.int .i64 op.kind, .string (bs op.path), .string (bs op.dst), .int .i64 op.h, .int .i64 op.at_, .int .i64 op.n, .string (bs op.data), .int .i64 op.pid, .int .i64 op.birth] 34)) (.cells #[.int .i64 0, .int .i64 0, .string ⟨#[]⟩, .slice none 0 0] 31)).1
    rw [hW0] at this
    have e : (w.alloc (.cells #[.int .i64 op.kind, .string (bs op.path), .string (bs op.dst), .int .i64 op.h, .int .i64 op.at_, .int .i64 op.n, .string (bs op.data), .int .i64 op.pid, .int .i64 op.birth] 34)).heap.size = w.heap.size + 1 := by simp
    rw [e] at this
    exact this
  have x3 := bx.c3
  have CF := Lib.hid (fs_file (h.below hb0) hN ho op.h ok.h)
  have H := Lib.hid h
  have HB0 := Lib.hid hb0
  obtain ⟨W1, hW1⟩ : ∃ W1, W0.alloc (.cells #[.int .i64 0, .int .i64 0, .string ⟨#[]⟩, .slice none 0 0] 31) = W1 := ⟨_, rfl⟩
  have hb1 : Below w.heap.size w W1 := by rw [← hW1]; exact hb0.alloc hb0.size _
  have hs1 : W1.heap.size = w.heap.size + 3 := by rw [← hW1]; simp [hs0]
  have r1 : RS W1 (w.heap.size + 1) (.int .i64 0) (.int .i64 0) (.string ⟨#[]⟩) (.slice none 0 0) := by rw [← hW1]; exact r0.below ((Below.refl _ _).alloc (Nat.le_refl _) _)
  have q1 : RS W1 W0.heap.size (.int .i64 0) (.int .i64 0) (.string ⟨#[]⟩) (.slice none 0 0) := by rw [← hW1]; exact (MapKept.heap_alloc W0 _).1
  have bx1 : OB W1 w.heap.size op := by rw [← hW1]; exact bx.below ((Below.refl _ _).alloc (Nat.le_refl _) _)
  have HB1 := Lib.hid hb1
  have HS0 := Lib.hid hs0
  have HS1 := Lib.hid hs1
  have R1 := Lib.hid r1
  have Q1 := Lib.hid q1
  have BX1 := Lib.hid bx1
  have SLT := Lib.hid h.lt
  have hz2 : (F.file o op.h == 0) = false := by simpa using hz
  have c0 : W1.cell? ⟨fb, 0, none⟩ = some (.pointer (some ⟨t, 0, none⟩)) := (h.below hb1).fs.c0
  have hid : InI (F.file o op.h) := by
    unfold Fs.file
    split
    · unfold InI; omega
    · exact h.hok.get_in o _
  have hfb := h.fs.lt
  have CR := Lib.hid (tm_read (h.below hb1.drew) (by omega) hid op.at_ op.n ok.at_ ok.n)
  have z0 := bx1.c0
  have z4 := bx1.c4
  have z5 := bx1.c5
  rw [hk] at z0
  have hn1 : W0.heap.size ≠ fb := by omega
  have hn2 : W0.heap.size ≠ w.heap.size := by omega
  have KEEP : Hid (∀ w' : World, Ch (fun b => b = W0.heap.size) W1.drew w' → w'.cell? ⟨fb, 0, none⟩ = some (.pointer (some ⟨t, 0, none⟩)) ∧ w'.cell? ⟨w.heap.size, 4, none⟩ = some (.int .i64 op.at_) ∧ w'.cell? ⟨w.heap.size, 5, none⟩ = some (.int .i64 op.n)) := Lib.hid fun w' hc =>
    ⟨(FB.ch (w := W1.drew) (h.below hb1).fs hc (fun e => hn1 e.symm)).c0, (OB.ch (w := W1.drew) bx1 hc (fun e => hn2 e.symm)).c4, (OB.ch (w := W1.drew) bx1 hc (fun e => hn2 e.symm)).c5⟩
  have KEEP2 : Hid (∀ (wc : World) (i : Nat) (v : Value), Below W1.drew.heap.size W1.drew wc → (wc.setCell ⟨W0.heap.size, i, none⟩ v).cell? ⟨fb, 0, none⟩ = some (.pointer (some ⟨t, 0, none⟩)) ∧ (wc.setCell ⟨W0.heap.size, i, none⟩ v).cell? ⟨w.heap.size, 4, none⟩ = some (.int .i64 op.at_) ∧ (wc.setCell ⟨W0.heap.size, i, none⟩ v).cell? ⟨w.heap.size, 5, none⟩ = some (.int .i64 op.n)) :=
    Lib.hid fun wc i v hbc => KEEP.out _ (Ch.trans (M := fun b => b = W0.heap.size) (M' := fun b => b = W0.heap.size) (Ch.of_below hbc) (Ch.set wc ⟨W0.heap.size, i, none⟩ v rfl) (fun _ _ e => e))
  have KEEP3 : Hid (∀ (wc : World) (i j : Nat) (v u : Value), Below W1.drew.heap.size W1.drew wc → ((wc.setCell ⟨W0.heap.size, i, none⟩ v).setCell ⟨W0.heap.size, j, none⟩ u).cell? ⟨fb, 0, none⟩ = some (.pointer (some ⟨t, 0, none⟩)) ∧ ((wc.setCell ⟨W0.heap.size, i, none⟩ v).setCell ⟨W0.heap.size, j, none⟩ u).cell? ⟨w.heap.size, 4, none⟩ = some (.int .i64 op.at_) ∧ ((wc.setCell ⟨W0.heap.size, i, none⟩ v).setCell ⟨W0.heap.size, j, none⟩ u).cell? ⟨w.heap.size, 5, none⟩ = some (.int .i64 op.n)) :=
    Lib.hid fun wc i j v u hbc => KEEP.out _ (Ch.trans (M := fun b => b = W0.heap.size) (M' := fun b => b = W0.heap.size) (Ch.trans (M := fun b => b = W0.heap.size) (M' := fun b => b = W0.heap.size) (Ch.of_below hbc) (Ch.set wc ⟨W0.heap.size, i, none⟩ v rfl) (fun _ _ e => e)) (Ch.set _ ⟨W0.heap.size, j, none⟩ u rfl) (fun _ _ e => e))
  have HR : Hid (∀ w2, Below W1.heap.size W1.drew w2 → RS w2 (w.heap.size + 1) (.int .i64 0) (.int .i64 0) (.string ⟨#[]⟩) (.slice none 0 0) ∧ RS w2 W0.heap.size (.int .i64 0) (.int .i64 0) (.string ⟨#[]⟩) (.slice none 0 0)) := Lib.hid fun w2 hp =>
    ⟨RS.below (w := W1.drew) r1 hp, RS.below (w := W1.drew) q1 hp⟩
  unfold opV
  generalize (F.T.step (aRead (F.file o op.h) op.at_ op.n)).2.2.2 = er at *
  generalize (F.T.step (aRead (F.file o op.h) op.at_ op.n)).2.2.1 = d at *
  generalize F.file o op.h = id at *
  clear bx bx1 hb0 hb1 ok hz h r0 hs0 hs1 r1 q1 hk hid hn1 hn2 hfb
  go_enter Tryz.func30, Tryz.ntmps30
  go_wp2_with (first
    | (go_at_call 55; (with_reducible refine CF.out.mono ?_); rintro e w1 ⟨rfl, hw⟩; obtain rfl : W0 = w1 := hw.symm; clear hw))
  go_region_held3 (fun w' => w'.cell? ⟨fb, 0, none⟩ = some (.pointer (some ⟨t, 0, none⟩)) ∧ w'.cell? ⟨w.heap.size, 4, none⟩ = some (.int .i64 op.at_) ∧ w'.cell? ⟨w.heap.size, 5, none⟩ = some (.int .i64 op.n))
    (first | exact ⟨c0, z4, z5⟩ | exact KEEP.out _ (Ch.of_below hbc) | exact KEEP2.out _ _ _ hbc | exact KEEP3.out _ _ _ _ _ hbc | go_keep)
    (first
      | (go_at_call 56; (with_reducible refine CR.out.mono ?_); rintro e wc ⟨rfl, hbc⟩; obtain ⟨ra, qa⟩ := HR.out _ hbc; have v2 := qa.c2; have v0 := qa.c0; have g2 := qa.fr 2; have g0 := qa.fr 0; have v0' := (qa.s2 (y := .string (bs d))).c0; have g0' := (qa.s2 (y := .string (bs d))).fr 0; have v2' := (qa.s0 (y := .int .i64 er)).c2; have g2' := (qa.s0 (y := .int .i64 er)).fr 2; have QA := Lib.hid qa; have RA := Lib.hid ra; clear ra qa))
  have hne : w.heap.size + 1 ≠ W0.heap.size := by have := HS0.out; omega
  have HG : Hid (Ch (fun b => b = W0.heap.size) wc ((wc.setCell ⟨W0.heap.size, 2, none⟩ (.string (bs d))).setCell ⟨W0.heap.size, 0, none⟩ (.int .i64 er))) := Lib.hid (Ch.trans (M := fun b => b = W0.heap.size) (M' := fun b => b = W0.heap.size) (Ch.set _ ⟨W0.heap.size, 2, none⟩ _ rfl) (Ch.set _ ⟨W0.heap.size, 0, none⟩ _ rfl) (fun _ _ e => e))
  have qa2 := (QA.out.s2 (y := .string (bs d))).s0 (y := .int .i64 er)
  have ra2 := RA.out.ch HG.out hne
  have HBC := Lib.hid hbc
  clear v0 v2 g0 g2 v0' g0' v2' g2' z0 z4 z5 c0 QA RA hbc KEEP KEEP2 KEEP3 hne
  generalize (wc.setCell ⟨W0.heap.size, 2, none⟩ (.string (bs d))).setCell ⟨W0.heap.size, 0, none⟩ (.int .i64 er) = W3 at *
  have RA := Lib.hid ra2
  have v0 := qa2.c0; have v1 := qa2.c1; have v2 := qa2.c2; have v3 := qa2.c3
  have y0 := ra2.c0; have y1 := ra2.c1; have y2 := ra2.c2; have y3 := ra2.c3
  have g0 := ra2.fr 0; have g1 := ra2.fr 1; have g2 := ra2.fr 2; have g3 := ra2.fr 3
  clear qa2 ra2
  go_wp2_with fail
  exact ret_res rfl rfl rfl (RA.out.set4 (.int .i64 er) (.int .i64 0) (.string (bs d)) (.slice none 0 0)) ⟨rfl, FsP.own H.out (Ch.below (M := fun x => w.heap.size ≤ x) ((HG.out.mono (fun x _ e => by have := HS0.out; omega)).trans (ch_set4 W3 (w.heap.size + 1) _ _ _ _ rfl) (fun x _ e => by omega)) (HB1.out.drew.trans (HBC.out.mono HB1.out.size)) (Nat.le_trans HB1.out.size HBC.out.size) (fun x hx e => by omega))⟩
set_option maxHeartbeats 2000000 in
theorem use_7 {o : Int} (ho : InI o) (op : OpT) (ok : OpOk op) (hz : F.file o op.h ≠ 0) (hk : op.kind = 7) :
    Calls Tryz.prog 30 #[.pointer (some ⟨fb, 0, none⟩), .int .i64 o, opV op] w fun e w' => e = .returned (resV (errR (F.T.step (aWrite (F.file o op.h) op.at_ op.data)).2.2.2)) ∧ FsP w fb t hb ⟨(F.T.step (aWrite (F.file o op.h) op.at_ op.data)).1, F.H⟩ S (N + 1) w' := by
  obtain ⟨W0, hW0⟩ : ∃ W0, (w.alloc (.cells #[.int .i64 op.kind, .string (bs op.path), .string (bs op.dst), .int .i64 op.h, .int .i64 op.at_, .int .i64 op.n, .string (bs op.data), .int .i64 op.pid, .int .i64 op.birth] 34)).alloc (.cells #[.int .i64 0, .int .i64 0, .string ⟨#[]⟩, .slice none 0 0] 31) = W0 := ⟨_, rfl⟩
  have hb0 : Below w.heap.size w W0 := by rw [← hW0]; exact ((Below.refl _ w).alloc (Nat.le_refl _) _).alloc (by simp) _
  have bx : OB W0 w.heap.size op := by rw [← hW0]; exact (Below.heap_alloc _ _ _ (by simp)).trans (MapKept.heap_alloc w _).1
  have hs0 : W0.heap.size = w.heap.size + 2 := by rw [← hW0]; simp
  have r0 : RS W0 (w.heap.size + 1) (.int .i64 0) (.int .i64 0) (.string ⟨#[]⟩) (.slice none 0 0) := by
    have := (MapKept.heap_alloc (w.alloc (.cells #[.int .i64 op.kind, .string (bs op.path), .string (bs op.dst), .int .i64 op.h, .int .i64 op.at_, .int .i64 op.n, .string (bs op.data), .int .i64 op.pid, .int .i64 op.birth] 34)) (.cells #[.int .i64 0, .int .i64 0, .string ⟨#[]⟩, .slice none 0 0] 31)).1
    rw [hW0] at this
    have e : (w.alloc (.cells #[.int .i64 op.kind, .string (bs op.path), .string (bs op.dst), .int .i64 op.h, .int .i64 op.at_, .int .i64 op.n, .string (bs op.data), .int .i64 op.pid, .int .i64 op.birth] 34)).heap.size = w.heap.size + 1 := by simp
    rw [e] at this
    exact this
  have x3 := bx.c3
  have CF := Lib.hid (fs_file (h.below hb0) hN ho op.h ok.h)
  have H := Lib.hid h
  have HB0 := Lib.hid hb0
  obtain ⟨W1, hW1⟩ : ∃ W1, W0.alloc (.cells #[.int .i64 0, .int .i64 0, .string ⟨#[]⟩, .slice none 0 0] 31) = W1 := ⟨_, rfl⟩
  have hb1 : Below w.heap.size w W1 := by rw [← hW1]; exact hb0.alloc hb0.size _
  have hs1 : W1.heap.size = w.heap.size + 3 := by rw [← hW1]; simp [hs0]
  have r1 : RS W1 (w.heap.size + 1) (.int .i64 0) (.int .i64 0) (.string ⟨#[]⟩) (.slice none 0 0) := by rw [← hW1]; exact r0.below ((Below.refl _ _).alloc (Nat.le_refl _) _)
  have q1 : RS W1 W0.heap.size (.int .i64 0) (.int .i64 0) (.string ⟨#[]⟩) (.slice none 0 0) := by rw [← hW1]; exact (MapKept.heap_alloc W0 _).1
  have bx1 : OB W1 w.heap.size op := by rw [← hW1]; exact bx.below ((Below.refl _ _).alloc (Nat.le_refl _) _)
  have HB1 := Lib.hid hb1
  have HS0 := Lib.hid hs0
  have HS1 := Lib.hid hs1
  have R1 := Lib.hid r1
  have Q1 := Lib.hid q1
  have BX1 := Lib.hid bx1
  have SLT := Lib.hid h.lt
  have hz2 : (F.file o op.h == 0) = false := by simpa using hz
  have c0 : W1.cell? ⟨fb, 0, none⟩ = some (.pointer (some ⟨t, 0, none⟩)) := (h.below hb1).fs.c0
  have hid : InI (F.file o op.h) := by
    unfold Fs.file
    split
    · unfold InI; omega
    · exact h.hok.get_in o _
  have hfb := h.fs.lt
  have CR := Lib.hid (tm_write (h.below hb1.drew) (by omega) hid op.at_ ok.at_ op.data ok.data)
  have z0 := bx1.c0
  have z4 := bx1.c4
  have z6 := bx1.c6
  rw [hk] at z0
  have hn1 : W0.heap.size ≠ fb := by omega
  have hn2 : W0.heap.size ≠ w.heap.size := by omega
  have hn3 : ¬ S w.heap.size := fun e => by have := h.lt _ e; omega
  have KEEP : Hid (∀ (wc : World) F' N', FsP W1.drew fb t hb F' S N' wc → wc.cell? ⟨fb, 0, none⟩ = some (.pointer (some ⟨t, 0, none⟩)) ∧ wc.cell? ⟨w.heap.size, 4, none⟩ = some (.int .i64 op.at_) ∧ wc.cell? ⟨w.heap.size, 6, none⟩ = some (.string (bs op.data))) := Lib.hid fun wc F' N' hp =>
    ⟨hp.at_.fs.c0, (OB.ch (w := W1.drew) bx1 hp.ch hn3).c4, (OB.ch (w := W1.drew) bx1 hp.ch hn3).c6⟩
  have KEEP2 : Hid (∀ (wc : World) (v : Value), (wc.cell? ⟨fb, 0, none⟩ = some (.pointer (some ⟨t, 0, none⟩)) ∧ wc.cell? ⟨w.heap.size, 4, none⟩ = some (.int .i64 op.at_) ∧ wc.cell? ⟨w.heap.size, 6, none⟩ = some (.string (bs op.data))) → (wc.setCell ⟨W0.heap.size, 0, none⟩ v).cell? ⟨fb, 0, none⟩ = some (.pointer (some ⟨t, 0, none⟩)) ∧ (wc.setCell ⟨W0.heap.size, 0, none⟩ v).cell? ⟨w.heap.size, 4, none⟩ = some (.int .i64 op.at_) ∧ (wc.setCell ⟨W0.heap.size, 0, none⟩ v).cell? ⟨w.heap.size, 6, none⟩ = some (.string (bs op.data))) :=
    Lib.hid fun wc v hs => ⟨(World.cell?_setCell_other _ _ _ _ (fun e => hn1 (congrArg Addr.block e))).trans hs.1, (World.cell?_setCell_other _ _ _ _ (fun e => hn2 (congrArg Addr.block e))).trans hs.2.1, (World.cell?_setCell_other _ _ _ _ (fun e => hn2 (congrArg Addr.block e))).trans hs.2.2⟩
  have HR : Hid (∀ F' N' w2, FsP W1.drew fb t hb F' S N' w2 → RS w2 (w.heap.size + 1) (.int .i64 0) (.int .i64 0) (.string ⟨#[]⟩) (.slice none 0 0) ∧ RS w2 W0.heap.size (.int .i64 0) (.int .i64 0) (.string ⟨#[]⟩) (.slice none 0 0)) := Lib.hid fun F' N' w2 hp =>
    ⟨RS.ch (w := W1.drew) r1 hp.ch (fun e => by have := h.lt _ e; omega), RS.ch (w := W1.drew) q1 hp.ch (fun e => by have := h.lt _ e; omega)⟩
  unfold opV
  generalize F.T.step (aWrite (F.file o op.h) op.at_ op.data) = st at *
  generalize F.file o op.h = id at *
  clear bx bx1 hb0 hb1 ok hz h r0 hs0 hs1 r1 q1 hk hid hn1 hn2 hn3 hfb
  go_enter Tryz.func30, Tryz.ntmps30
  go_wp2_with (first
    | (go_at_call 55; (with_reducible refine CF.out.mono ?_); rintro e w1 ⟨rfl, hw⟩; obtain rfl : W0 = w1 := hw.symm; clear hw))
  go_region_held3 (fun w' => w'.cell? ⟨fb, 0, none⟩ = some (.pointer (some ⟨t, 0, none⟩)) ∧ w'.cell? ⟨w.heap.size, 4, none⟩ = some (.int .i64 op.at_) ∧ w'.cell? ⟨w.heap.size, 6, none⟩ = some (.string (bs op.data)))
    (first | exact ⟨c0, z4, z6⟩ | exact KEEP.out _ _ _ hbc | exact KEEP2.out _ _ (KEEP.out _ _ _ hbc) | go_keep)
    (first
      | (go_at_call 57; (with_reducible refine CR.out.mono ?_); rintro e wc ⟨rfl, hbc⟩; obtain ⟨ra, qa⟩ := HR.out _ _ _ hbc; have v0 := qa.c0; have g0 := qa.fr 0; have QA := Lib.hid qa; have RA := Lib.hid ra; clear ra qa))
  have hne : w.heap.size + 1 ≠ W0.heap.size := by have := HS0.out; omega
  have HG : Hid (Ch (fun b => b = W0.heap.size) wc (wc.setCell ⟨W0.heap.size, 0, none⟩ (.int .i64 st.2.2.2))) := Lib.hid (Ch.set _ ⟨W0.heap.size, 0, none⟩ _ rfl)
  have qa2 := QA.out.s0 (y := .int .i64 st.2.2.2)
  have ra2 := RA.out.ch HG.out hne
  have HBC := Lib.hid hbc
  clear v0 g0 z0 z4 z6 c0 QA RA hbc KEEP KEEP2 hne
  generalize wc.setCell ⟨W0.heap.size, 0, none⟩ (.int .i64 st.2.2.2) = W3 at *
  have RA := Lib.hid ra2
  have v0 := qa2.c0; have v1 := qa2.c1; have v2 := qa2.c2; have v3 := qa2.c3
  have y0 := ra2.c0; have y1 := ra2.c1; have y2 := ra2.c2; have y3 := ra2.c3
  have g0 := ra2.fr 0; have g1 := ra2.fr 1; have g2 := ra2.fr 2; have g3 := ra2.fr 3
  clear qa2 ra2
  go_wp2_with fail
  exact ret_res rfl rfl rfl (RA.out.set4 (.int .i64 st.2.2.2) (.int .i64 0) (.string ⟨#[]⟩) (.slice none 0 0)) ⟨rfl, FsP.after HB1.out.drew H.out HBC.out (M := fun x => x = W0.heap.size ∨ x = w.heap.size + 1) (fun x e => by have := HS0.out; have := HS1.out; show _ ∧ x < W1.heap.size; rcases e with e | e <;> omega) ((HG.out.mono (fun x _ e => .inl e)).trans (ch_set4 (M := fun x => x = w.heap.size + 1) W3 (w.heap.size + 1) _ _ _ _ rfl) (fun x _ e => .inr e))⟩
set_option maxHeartbeats 2000000 in
theorem use_8 {o : Int} (ho : InI o) (op : OpT) (ok : OpOk op) (hz : F.file o op.h ≠ 0) (hk : op.kind = 8) :
    Calls Tryz.prog 30 #[.pointer (some ⟨fb, 0, none⟩), .int .i64 o, opV op] w fun e w' => e = .returned (resV (errR (F.T.step (aTrunc (F.file o op.h) op.n)).2.2.2)) ∧ FsP w fb t hb ⟨(F.T.step (aTrunc (F.file o op.h) op.n)).1, F.H⟩ S (N + 1) w' := by
  obtain ⟨W0, hW0⟩ : ∃ W0, (w.alloc (.cells #[.int .i64 op.kind, .string (bs op.path), .string (bs op.dst), .int .i64 op.h, .int .i64 op.at_, .int .i64 op.n, .string (bs op.data), .int .i64 op.pid, .int .i64 op.birth] 34)).alloc (.cells #[.int .i64 0, .int .i64 0, .string ⟨#[]⟩, .slice none 0 0] 31) = W0 := ⟨_, rfl⟩
  have hb0 : Below w.heap.size w W0 := by rw [← hW0]; exact ((Below.refl _ w).alloc (Nat.le_refl _) _).alloc (by simp) _
  have bx : OB W0 w.heap.size op := by rw [← hW0]; exact (Below.heap_alloc _ _ _ (by simp)).trans (MapKept.heap_alloc w _).1
  have hs0 : W0.heap.size = w.heap.size + 2 := by rw [← hW0]; simp
  have r0 : RS W0 (w.heap.size + 1) (.int .i64 0) (.int .i64 0) (.string ⟨#[]⟩) (.slice none 0 0) := by
    have := (MapKept.heap_alloc (w.alloc (.cells #[.int .i64 op.kind, .string (bs op.path), .string (bs op.dst), .int .i64 op.h, .int .i64 op.at_, .int .i64 op.n, .string (bs op.data), .int .i64 op.pid, .int .i64 op.birth] 34)) (.cells #[.int .i64 0, .int .i64 0, .string ⟨#[]⟩, .slice none 0 0] 31)).1
    rw [hW0] at this
    have e : (w.alloc (.cells #[.int .i64 op.kind, .string (bs op.path), .string (bs op.dst), .int .i64 op.h, .int .i64 op.at_, .int .i64 op.n, .string (bs op.data), .int .i64 op.pid, .int .i64 op.birth] 34)).heap.size = w.heap.size + 1 := by simp
    rw [e] at this
    exact this
  have x3 := bx.c3
  have CF := Lib.hid (fs_file (h.below hb0) hN ho op.h ok.h)
  have H := Lib.hid h
  have HB0 := Lib.hid hb0
  obtain ⟨W1, hW1⟩ : ∃ W1, W0.alloc (.cells #[.int .i64 0, .int .i64 0, .string ⟨#[]⟩, .slice none 0 0] 31) = W1 := ⟨_, rfl⟩
  have hb1 : Below w.heap.size w W1 := by rw [← hW1]; exact hb0.alloc hb0.size _
  have hs1 : W1.heap.size = w.heap.size + 3 := by rw [← hW1]; simp [hs0]
  have r1 : RS W1 (w.heap.size + 1) (.int .i64 0) (.int .i64 0) (.string ⟨#[]⟩) (.slice none 0 0) := by rw [← hW1]; exact r0.below ((Below.refl _ _).alloc (Nat.le_refl _) _)
  have q1 : RS W1 W0.heap.size (.int .i64 0) (.int .i64 0) (.string ⟨#[]⟩) (.slice none 0 0) := by rw [← hW1]; exact (MapKept.heap_alloc W0 _).1
  have bx1 : OB W1 w.heap.size op := by rw [← hW1]; exact bx.below ((Below.refl _ _).alloc (Nat.le_refl _) _)
  have HB1 := Lib.hid hb1
  have HS0 := Lib.hid hs0
  have HS1 := Lib.hid hs1
  have R1 := Lib.hid r1
  have Q1 := Lib.hid q1
  have BX1 := Lib.hid bx1
  have SLT := Lib.hid h.lt
  have hz2 : (F.file o op.h == 0) = false := by simpa using hz
  have c0 : W1.cell? ⟨fb, 0, none⟩ = some (.pointer (some ⟨t, 0, none⟩)) := (h.below hb1).fs.c0
  have hid : InI (F.file o op.h) := by
    unfold Fs.file
    split
    · unfold InI; omega
    · exact h.hok.get_in o _
  have hfb := h.fs.lt
  have CR := Lib.hid (tm_trunc (h.below hb1.drew) (by omega) hid op.n ok.n)
  have z0 := bx1.c0
  have z5 := bx1.c5
  rw [hk] at z0
  have hn1 : W0.heap.size ≠ fb := by omega
  have hn2 : W0.heap.size ≠ w.heap.size := by omega
  have hn3 : ¬ S w.heap.size := fun e => by have := h.lt _ e; omega
  have KEEP : Hid (∀ (wc : World) F' N', FsP W1.drew fb t hb F' S N' wc → wc.cell? ⟨fb, 0, none⟩ = some (.pointer (some ⟨t, 0, none⟩)) ∧ wc.cell? ⟨w.heap.size, 5, none⟩ = some (.int .i64 op.n)) := Lib.hid fun wc F' N' hp =>
    ⟨hp.at_.fs.c0, (OB.ch (w := W1.drew) bx1 hp.ch hn3).c5⟩
  have KEEP2 : Hid (∀ (wc : World) (v : Value), (wc.cell? ⟨fb, 0, none⟩ = some (.pointer (some ⟨t, 0, none⟩)) ∧ wc.cell? ⟨w.heap.size, 5, none⟩ = some (.int .i64 op.n)) → (wc.setCell ⟨W0.heap.size, 0, none⟩ v).cell? ⟨fb, 0, none⟩ = some (.pointer (some ⟨t, 0, none⟩)) ∧ (wc.setCell ⟨W0.heap.size, 0, none⟩ v).cell? ⟨w.heap.size, 5, none⟩ = some (.int .i64 op.n)) :=
    Lib.hid fun wc v hs => ⟨(World.cell?_setCell_other _ _ _ _ (fun e => hn1 (congrArg Addr.block e))).trans hs.1, (World.cell?_setCell_other _ _ _ _ (fun e => hn2 (congrArg Addr.block e))).trans hs.2⟩
  have HR : Hid (∀ F' N' w2, FsP W1.drew fb t hb F' S N' w2 → RS w2 (w.heap.size + 1) (.int .i64 0) (.int .i64 0) (.string ⟨#[]⟩) (.slice none 0 0) ∧ RS w2 W0.heap.size (.int .i64 0) (.int .i64 0) (.string ⟨#[]⟩) (.slice none 0 0)) := Lib.hid fun F' N' w2 hp =>
    ⟨RS.ch (w := W1.drew) r1 hp.ch (fun e => by have := h.lt _ e; omega), RS.ch (w := W1.drew) q1 hp.ch (fun e => by have := h.lt _ e; omega)⟩
  unfold opV
  generalize F.T.step (aTrunc (F.file o op.h) op.n) = st at *
  generalize F.file o op.h = id at *
  clear bx bx1 hb0 hb1 ok hz h r0 hs0 hs1 r1 q1 hk hid hn1 hn2 hn3 hfb
  go_enter Tryz.func30, Tryz.ntmps30
  go_wp2_with (first
    | (go_at_call 55; (with_reducible refine CF.out.mono ?_); rintro e w1 ⟨rfl, hw⟩; obtain rfl : W0 = w1 := hw.symm; clear hw))
  go_region_held3 (fun w' => w'.cell? ⟨fb, 0, none⟩ = some (.pointer (some ⟨t, 0, none⟩)) ∧ w'.cell? ⟨w.heap.size, 5, none⟩ = some (.int .i64 op.n))
    (first | exact ⟨c0, z5⟩ | exact KEEP.out _ _ _ hbc | exact KEEP2.out _ _ (KEEP.out _ _ _ hbc) | go_keep)
    (first
      | (go_at_call 58; (with_reducible refine CR.out.mono ?_); rintro e wc ⟨rfl, hbc⟩; obtain ⟨ra, qa⟩ := HR.out _ _ _ hbc; have v0 := qa.c0; have g0 := qa.fr 0; have QA := Lib.hid qa; have RA := Lib.hid ra; clear ra qa))
  have hne : w.heap.size + 1 ≠ W0.heap.size := by have := HS0.out; omega
  have HG : Hid (Ch (fun b => b = W0.heap.size) wc (wc.setCell ⟨W0.heap.size, 0, none⟩ (.int .i64 st.2.2.2))) := Lib.hid (Ch.set _ ⟨W0.heap.size, 0, none⟩ _ rfl)
  have qa2 := QA.out.s0 (y := .int .i64 st.2.2.2)
  have ra2 := RA.out.ch HG.out hne
  have HBC := Lib.hid hbc
  clear v0 g0 z0 z5 c0 QA RA hbc KEEP KEEP2 hne
  generalize wc.setCell ⟨W0.heap.size, 0, none⟩ (.int .i64 st.2.2.2) = W3 at *
  have RA := Lib.hid ra2
  have v0 := qa2.c0; have v1 := qa2.c1; have v2 := qa2.c2; have v3 := qa2.c3
  have y0 := ra2.c0; have y1 := ra2.c1; have y2 := ra2.c2; have y3 := ra2.c3
  have g0 := ra2.fr 0; have g1 := ra2.fr 1; have g2 := ra2.fr 2; have g3 := ra2.fr 3
  clear qa2 ra2
  go_wp2_with fail
  exact ret_res rfl rfl rfl (RA.out.set4 (.int .i64 st.2.2.2) (.int .i64 0) (.string ⟨#[]⟩) (.slice none 0 0)) ⟨rfl, FsP.after HB1.out.drew H.out HBC.out (M := fun x => x = W0.heap.size ∨ x = w.heap.size + 1) (fun x e => by have := HS0.out; have := HS1.out; show _ ∧ x < W1.heap.size; rcases e with e | e <;> omega) ((HG.out.mono (fun x _ e => .inl e)).trans (ch_set4 (M := fun x => x = w.heap.size + 1) W3 (w.heap.size + 1) _ _ _ _ rfl) (fun x _ e => .inr e))⟩
set_option maxHeartbeats 2000000 in
theorem use_9 {o : Int} (ho : InI o) (op : OpT) (ok : OpOk op) (hz : F.file o op.h ≠ 0) (hk : op.kind = 9) :
    Calls Tryz.prog 30 #[.pointer (some ⟨fb, 0, none⟩), .int .i64 o, opV op] w fun e w' => e = .returned (resV ⟨(F.T.step (aRead (F.file o op.h) 0 1048576)).2.2.2, (F.T.step (aRead (F.file o op.h) 0 1048576)).2.2.1.length, [], []⟩) ∧ FsP w fb t hb F S N w' := by
  obtain ⟨W0, hW0⟩ : ∃ W0, (w.alloc (.cells #[.int .i64 op.kind, .string (bs op.path), .string (bs op.dst), .int .i64 op.h, .int .i64 op.at_, .int .i64 op.n, .string (bs op.data), .int .i64 op.pid, .int .i64 op.birth] 34)).alloc (.cells #[.int .i64 0, .int .i64 0, .string ⟨#[]⟩, .slice none 0 0] 31) = W0 := ⟨_, rfl⟩
  have hb0 : Below w.heap.size w W0 := by rw [← hW0]; exact ((Below.refl _ w).alloc (Nat.le_refl _) _).alloc (by simp) _
  have bx : OB W0 w.heap.size op := by rw [← hW0]; exact (Below.heap_alloc _ _ _ (by simp)).trans (MapKept.heap_alloc w _).1
  have hs0 : W0.heap.size = w.heap.size + 2 := by rw [← hW0]; simp
  have r0 : RS W0 (w.heap.size + 1) (.int .i64 0) (.int .i64 0) (.string ⟨#[]⟩) (.slice none 0 0) := by
    have := (MapKept.heap_alloc (w.alloc (.cells #[.int .i64 op.kind, .string (bs op.path), .string (bs op.dst), .int .i64 op.h, .int .i64 op.at_, .int .i64 op.n, .string (bs op.data), .int .i64 op.pid, .int .i64 op.birth] 34)) (.cells #[.int .i64 0, .int .i64 0, .string ⟨#[]⟩, .slice none 0 0] 31)).1
    rw [hW0] at this
    have e : (w.alloc (.cells #[.int .i64 op.kind, .string (bs op.path), .string (bs op.dst), .int .i64 op.h, .int .i64 op.at_, .int .i64 op.n, .string (bs op.data), .int .i64 op.pid, .int .i64 op.birth] 34)).heap.size = w.heap.size + 1 := by simp
    rw [e] at this
    exact this
  have x3 := bx.c3
  have CF := Lib.hid (fs_file (h.below hb0) hN ho op.h ok.h)
  have H := Lib.hid h
  have HB0 := Lib.hid hb0
  obtain ⟨W1, hW1⟩ : ∃ W1, W0.alloc (.cells #[.int .i64 0, .int .i64 0, .string ⟨#[]⟩, .slice none 0 0] 31) = W1 := ⟨_, rfl⟩
  have hb1 : Below w.heap.size w W1 := by rw [← hW1]; exact hb0.alloc hb0.size _
  have hs1 : W1.heap.size = w.heap.size + 3 := by rw [← hW1]; simp [hs0]
  have r1 : RS W1 (w.heap.size + 1) (.int .i64 0) (.int .i64 0) (.string ⟨#[]⟩) (.slice none 0 0) := by rw [← hW1]; exact r0.below ((Below.refl _ _).alloc (Nat.le_refl _) _)
  have q1 : RS W1 W0.heap.size (.int .i64 0) (.int .i64 0) (.string ⟨#[]⟩) (.slice none 0 0) := by rw [← hW1]; exact (MapKept.heap_alloc W0 _).1
  have bx1 : OB W1 w.heap.size op := by rw [← hW1]; exact bx.below ((Below.refl _ _).alloc (Nat.le_refl _) _)
  have HB1 := Lib.hid hb1
  have HS0 := Lib.hid hs0
  have HS1 := Lib.hid hs1
  have R1 := Lib.hid r1
  have Q1 := Lib.hid q1
  have BX1 := Lib.hid bx1
  have SLT := Lib.hid h.lt
  have hz2 : (F.file o op.h == 0) = false := by simpa using hz
  have c0 : W1.cell? ⟨fb, 0, none⟩ = some (.pointer (some ⟨t, 0, none⟩)) := (h.below hb1).fs.c0
  have hid : InI (F.file o op.h) := by
    unfold Fs.file
    split
    · unfold InI; omega
    · exact h.hok.get_in o _
  have hfb := h.fs.lt
  have CR := Lib.hid (fs_size (h.below hb1) hN hid)
  have z0 := bx1.c0
  rw [hk] at z0
  have HR : Hid (∀ w2, Below W1.heap.size W1 w2 → RS w2 (w.heap.size + 1) (.int .i64 0) (.int .i64 0) (.string ⟨#[]⟩) (.slice none 0 0) ∧ RS w2 W0.heap.size (.int .i64 0) (.int .i64 0) (.string ⟨#[]⟩) (.slice none 0 0)) := Lib.hid fun w2 hp => ⟨r1.below hp, q1.below hp⟩
  unfold opV
  generalize (F.T.step (aRead (F.file o op.h) 0 1048576)).2.2.2 = er at *
  generalize ((F.T.step (aRead (F.file o op.h) 0 1048576)).2.2.1.length : Int) = n at *
  generalize F.file o op.h = id at *
  clear bx bx1 hb0 hb1 ok hz h r0 hs0 hs1 r1 q1 hk hid hfb
  go_enter Tryz.func30, Tryz.ntmps30
  go_wp2_with (first
    | (go_at_call 55; (with_reducible refine CF.out.mono ?_); rintro e w1 ⟨rfl, hw⟩; obtain rfl : W0 = w1 := hw.symm; clear hw)
    | (go_at_call 59; (with_reducible refine CR.out.mono ?_); rintro e wc ⟨rfl, hbc⟩; obtain ⟨ra, qa⟩ := HR.out _ hbc; have v1 := qa.c1; have g1 := qa.fr 1; have qb := qa.s1 (y := .int .i64 n); have v0 := qb.c0; have g0 := qb.fr 0; have QA := Lib.hid qa; have RA := Lib.hid ra; have HBC := Lib.hid hbc; have HG : Hid (Ch (fun b => b = W0.heap.size) wc ((wc.setCell ⟨W0.heap.size, 1, none⟩ (.int .i64 n)).setCell ⟨W0.heap.size, 0, none⟩ (.int .i64 er))) := Lib.hid (Ch.trans (M := fun b => b = W0.heap.size) (M' := fun b => b = W0.heap.size) (Ch.set _ ⟨W0.heap.size, 1, none⟩ _ rfl) (Ch.set _ ⟨W0.heap.size, 0, none⟩ _ rfl) (fun _ _ e => e)); have qa2 := qb.s0 (y := .int .i64 er); have ra2 := ra.ch HG.out (by have := HS0.out; omega); obtain ⟨W3, hW3⟩ : ∃ W3, (wc.setCell ⟨W0.heap.size, 1, none⟩ (.int .i64 n)).setCell ⟨W0.heap.size, 0, none⟩ (.int .i64 er) = W3 := ⟨_, rfl⟩; rw [hW3] at HG qa2 ra2; clear hbc ra qa qb; have RA3 := Lib.hid ra2; have v0' := qa2.c0; have v1' := qa2.c1; have v2 := qa2.c2; have v3 := qa2.c3; have y0 := ra2.c0; have y1 := ra2.c1; have y2 := ra2.c2; have y3 := ra2.c3; have g0' := ra2.fr 0; have g1' := ra2.fr 1; have g2 := ra2.fr 2; have g3 := ra2.fr 3; clear qa2 ra2; refine Hid.out ?_))
  refine Lib.hid ?_
  go_wp2_with fail
  exact ret_res rfl rfl rfl (RA3.out.set4 (.int .i64 er) (.int .i64 n) (.string ⟨#[]⟩) (.slice none 0 0)) ⟨rfl, FsP.own H.out (Ch.below (M := fun x => w.heap.size ≤ x) ((HG.out.mono (fun x _ e => by have := HS0.out; omega)).trans (ch_set4 W3 (w.heap.size + 1) _ _ _ _ rfl) (fun x _ e => by omega)) (HB1.out.trans (HBC.out.mono HB1.out.size)) (Nat.le_trans HB1.out.size HBC.out.size) (fun x hx e => by omega))⟩
theorem fs_use {o : Int} (ho : InI o) (op : OpT) (ok : OpOk op) (hk : op.kind = 5 ∨ op.kind = 6 ∨ op.kind = 7 ∨ op.kind = 8 ∨ op.kind = 9) :
    Calls Tryz.prog 30 #[.pointer (some ⟨fb, 0, none⟩), .int .i64 o, opV op] w fun e w' => e = .returned (resV (F.use o op).2) ∧ (F.use o op).2.names = [] ∧ FsP w fb t hb (F.use o op).1 S (N + 2) w' := by
  unfold Fs.use
  by_cases hz : F.file o op.h = 0
  · rw [if_pos hz]; exact (use_no h hN ho op ok hz).mono fun e w' ⟨a, b⟩ => ⟨a, rfl, b.up (by omega)⟩
  rw [if_neg hz]
  by_cases h5 : op.kind = 5
  · rw [if_pos h5]; exact (use_5 h hN ho op ok hz h5).mono fun e w' ⟨a, b⟩ => ⟨a, rfl, b⟩
  rw [if_neg h5]
  by_cases h6 : op.kind = 6
  · rw [if_pos h6]; exact (use_6 h hN ho op ok hz h6).mono fun e w' ⟨a, b⟩ => ⟨a, rfl, b.up (by omega)⟩
  rw [if_neg h6]
  by_cases h7 : op.kind = 7
  · rw [if_pos h7]; exact (use_7 h hN ho op ok hz h7).mono fun e w' ⟨a, b⟩ => ⟨a, rfl, b.up (by omega)⟩
  rw [if_neg h7]
  by_cases h8 : op.kind = 8
  · rw [if_pos h8]; exact (use_8 h hN ho op ok hz h8).mono fun e w' ⟨a, b⟩ => ⟨a, rfl, b.up (by omega)⟩
  rw [if_neg h8]
  have h9 : op.kind = 9 := by omega
  rw [if_pos h9]; exact (use_9 h hN ho op ok hz h9).mono fun e w' ⟨a, b⟩ => ⟨a, rfl, b.up (by omega)⟩
end
end Go.Proofs.YtagdhghjcibfbaaGreatDoor

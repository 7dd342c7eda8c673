/- The contracts of open and begin. -/
import Derived.Test.YtnjikipncgbjjaaGreatDoorJsH
namespace Go.Proofs.YtnjikipncgbjjaaGreatDoor
open Go.RowKit
set_option linter.unusedVariables false
set_option maxRecDepth 100000
variable {X : Nat → Prop}

theorem close_new {w : World} {S : Nat → Prop} (o : Bool) : LV w S (Fr.new o).close (.int .i64 (kindOf o)) (.string ⟨#[]⟩) (.slice none 0 0) (.slice none 0 0) := by
  cases o
  · exact ⟨rfl, rfl, ⟨none, 0, rfl, .inl rfl⟩, ⟨none, 0, rfl, .inl rfl⟩⟩
  · exact ⟨rfl, rfl, ⟨none, 0, rfl, .inl rfl⟩, ⟨none, 0, rfl, .inl rfl⟩⟩

section
variable {w0 w W w4 : World} {P : Nat} {l r : List UInt8} {F : Fr} {K : List Fr} {sv sv' : Value} {R R' : List Value} {v : JV}
/-- The end of a step that answers a value. -/
theorem val_end {fn : Func} {p u : Tmp} {a : Act} {b : Nat} {M : List Nat} {x0 x1 x2 x3 y0 y1 y2 y3 : Value} (hres : fn.results = #[.cell p 26, .tmp u]) (hWb : Below w.heap.size w W) (hw0 : w0.heap.size ≤ w.heap.size) (hb0 : w.heap.size ≤ b) (hb1 : b < W.heap.size)
    (c4 : Ch (· ∈ M) W w4) (hsub : ∀ x ∈ blks P sv' R', x ∈ M ∨ W.heap.size ≤ x)
    (h4 : PS (newer X w W) w0 w4 P r K sv' R') (hv : LV w4 (free (blks P sv' R') (newer X w W)) v x0 x1 x2 x3)
    (hz : RB w4 b y0 y1 y2 y3) (hp : a.tmps.getD p undef = .pointer (some ⟨b, 0, none⟩)) (hu : a.tmps.getD u undef = .bool true) (hd : a.defers = []) :
    bodyPost Tryz.prog fn (OutPost (X := X) w0 w P M (.val v r K)) .ret a ((((w4.setCell ⟨b, 0, none⟩ x0).setCell ⟨b, 1, none⟩ x1).setCell ⟨b, 2, none⟩ x2).setCell ⟨b, 3, none⟩ x3) := by
  have hW := hWb.size
  have c5 := (Ch.of_gb (gb_set4 w4 b x0 x1 x2 x3)).mono (M' := (· = b)) (fun x _ e => by cases e; rfl)
  refine ret_val hres hp hu hd (hz.set4 _ _ _ _) ⟨((Ch.of_below (M := (· ∈ M)) hWb).trans c4 (fun x _ e => e)).trans c5 (fun x hx e => by subst e; omega), ?_⟩
  refine ⟨x0, x1, x2, x3, sv', R', rfl, (h4.other c5 (fun x e => by subst e; exact .inr ⟨hb0, hb1⟩) (fun x hx e => by subst e; omega)).leave, ?_, fun x hx => ?_⟩
  · exact LV.move (fun x hx hs => ⟨c5.block x hx (fun e => by subst e; exact hs.2 (.inr ⟨hb0, hb1⟩)), free_less hs⟩) v hv
  · rcases hsub x hx with e | e
    · exact .inl e
    · exact .inr (by omega)
end

set_option maxHeartbeats 2000000 in
theorem open_yes (o : Bool) (l r : List UInt8) (hl : l.length ≤ 500000) (P : Nat) (K : List Fr) (sv : Value) (R : List Value) (w0 w : World) (h : PS X w0 w P l K sv R) (ht : takeG (Fr.new o).mark l = some r) :
    Calls Tryz.prog 70 #[.pointer (some ⟨P, 0, none⟩), .int .i64 (kindOf o), .int .u8 (Fr.new o).mark.toNat] w (OutPost (X := X) w0 w P (blks P sv R) (openG o K l)) := by
  have CT : Hid (∀ wx, PB wx P (bs l) sv → Calls Tryz.prog 69 #[.pointer (some ⟨P, 0, none⟩), .int .u8 (Fr.new o).mark.toNat] wx fun e w' => e = .returned (.bool true) ∧ PB w' P (bs r) sv ∧ wx.grownBy w' (some P)) := fun wx hx => take_yes _ l r ht (by omega) P _ wx hx
  obtain ⟨W, hW⟩ : ∃ W, W = (w.alloc (.cells #[.int .i64 0, .string ⟨#[]⟩, .slice none 0 0, .slice none 0 0] 26)).alloc (.cells #[.int .i64 (kindOf o), .string ⟨#[]⟩, .slice none 0 0, .slice none 0 0] 26) := ⟨_, rfl⟩
  have hWb : Below w.heap.size w W := by rw [hW]; exact ((Below.refl _ _).alloc (Nat.le_refl _) _).alloc (by simp) _
  have HWZ : Hid (W.heap.size = w.heap.size + 2) := by show W.heap.size = _; rw [hW]; simp
  have HA : Hid (RB W w.heap.size (.int .i64 0) (.string ⟨#[]⟩) (.slice none 0 0) (.slice none 0 0)) := by
    show RB W _ _ _ _ _
    rw [hW]; exact RB.below (RB.new w) ((Below.refl _ _).alloc (Nat.le_refl _) _)
  have HB : Hid (RB W (w.heap.size + 1) (.int .i64 (kindOf o)) (.string ⟨#[]⟩) (.slice none 0 0) (.slice none 0 0)) := by
    show RB W _ _ _ _ _
    rw [hW, show w.heap.size + 1 = (w.alloc (.cells #[.int .i64 0, .string ⟨#[]⟩, .slice none 0 0, .slice none 0 0] 26)).heap.size by simp]; exact RB.new _
  have H := Lib.hid h
  have HOG : Hid (openG o K l = .val (Fr.new o).close r K) := by show openG o K l = _; unfold openG; rw [ht]
  have HW := Lib.hid (h.enter hWb)
  have HWB := Lib.hid hWb
  have HCN : Hid (∀ (w : World) (S : Nat → Prop), LV w S (Fr.new o).close (.int .i64 (kindOf o)) (.string ⟨#[]⟩) (.slice none 0 0) (.slice none 0 0)) := fun w S => close_new o
  generalize hm : ((Fr.new o).mark.toNat : Int) = mk at *
  generalize hkd : kindOf o = kd at *
  clear hm hkd ht h hWb
  go_enter Tryz.func70, Tryz.ntmps70
  go_wp2_with fail
  rw [← hW]
  clear hW
  have hwl : w.heap.size < W.heap.size := by have := HWZ.out; omega
  have hwn : w.heap.size ≠ P := by have := H.out.blk.lt; omega
  have hwn1 : w.heap.size + 1 ≠ P := by have := H.out.blk.lt; omega
  have HZ : Hid (∀ w4 : World, W.grownBy w4 (some P) → RB w4 w.heap.size (.int .i64 0) (.string ⟨#[]⟩) (.slice none 0 0) (.slice none 0 0) ∧ RB w4 (w.heap.size + 1) (.int .i64 kd) (.string ⟨#[]⟩) (.slice none 0 0) (.slice none 0 0)) :=
    fun w4 g => ⟨HA.out.gb g (by simpa using hwn), HB.out.gb g (by simpa using hwn1)⟩
  clear hwn hwn1
  go_wp2_with (go_at_call 69; (with_reducible refine (CT.out _ HW.out.blk).mono ?_); rintro e w4 ⟨rfl, hp4, hg4⟩; have HZ4 := Lib.hid (HZ.out w4 hg4); have H4 := Lib.hid (HW.out.text hg4 hp4); have HG4 := Lib.hid (HW.out.inP hg4); have z0 := RB.c0 HZ4.out.1; have z1 := RB.c1 HZ4.out.1; have z2 := RB.c2 HZ4.out.1; have z3 := RB.c3 HZ4.out.1; have f0 := RB.fr HZ4.out.1 0; have f1 := RB.fr HZ4.out.1 1; have f2 := RB.fr HZ4.out.1 2; have f3 := RB.fr HZ4.out.1 3; have y0 := RB.c0 HZ4.out.2; have y1 := RB.c1 HZ4.out.2; have y2 := RB.c2 HZ4.out.2; have y3 := RB.c3 HZ4.out.2; clear hp4 hg4)
  rw [HOG.out]
  exact val_end (p := 6) (u := 7) rfl HWB.out H.out.below.size (Nat.le_refl _) hwl HG4.out (fun x hx => .inl hx) H4.out (HCN.out _ _) HZ4.out.1 rfl rfl rfl

theorem open_any (o : Bool) (l : List UInt8) (hl : l.length ≤ 500000) (P : Nat) (K : List Fr) (hK : K.length ≤ 500000) (sv : Value) (R : List Value) (w0 w : World) (hT : Tab5 w0) (h : PS X w0 w P l K sv R) :
    Calls Tryz.prog 70 #[.pointer (some ⟨P, 0, none⟩), .int .i64 (kindOf o), .int .u8 (Fr.new o).mark.toNat] w (OutPost (X := X) w0 w P (blks P sv R) (openG o K l)) := by
  cases ht : takeG (Fr.new o).mark l with
  | none => exact open_no o l hl P K hK sv R w0 w hT h ht
  | some r => exact open_yes o l r hl P K sv R w0 w h ht
end Go.Proofs.YtnjikipncgbjjaaGreatDoor

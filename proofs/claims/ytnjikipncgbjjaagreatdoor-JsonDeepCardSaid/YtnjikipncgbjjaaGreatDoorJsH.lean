/- The contract of open: a list or an object begins. -/
import Derived.Test.YtnjikipncgbjjaaGreatDoorJsG
import Derived.Deep.AppendLies
import Derived.Deep.RegionHeld3
namespace Go.Proofs.YtnjikipncgbjjaaGreatDoor
open Go.RowKit
set_option linter.unusedVariables false
set_option maxRecDepth 100000
variable {X : Nat → Prop}

/-- How a step of the parser ends: it fails; a value has ended; another one has to follow. -/
def OutPost (w0 w : World) (P : Nat) (M : List Nat) (o : Out) (e : Ending) (w' : World) : Prop :=
  Ch (· ∈ M) w w' ∧ match o with
    | .fail => ∃ (k : Int) (t : ByteArray) (a : Option Addr) (n c : Nat) (a2 : Option Addr) (n2 c2 : Nat), e = .returned (.tuple #[.agg #[.int .i64 k, .string t, .slice a n c, .slice a2 n2 c2], .bool false])
    | .val v r K => ∃ x0 x1 x2 x3 sv R, e = .returned (.tuple #[.agg #[x0, x1, x2, x3], .bool true]) ∧ PS X w0 w' P r K sv R ∧ LV w' (free (blks P sv R) X) v x0 x1 x2 x3 ∧ ∀ b ∈ blks P sv R, b ∈ M ∨ w.heap.size ≤ b
    | .more r K => ∃ sv R, e = .returned (.tuple #[.agg #[.int .i64 0, .string ⟨#[]⟩, .slice none 0 0, .slice none 0 0], .bool true]) ∧ PS X w0 w' P r K sv R ∧ ∀ b ∈ blks P sv R, b ∈ M ∨ w.heap.size ≤ b

section
variable {w0 w W w3 w4 : World} {P : Nat} {l : List UInt8} {F : Fr} {K : List Fr} {sv sv' : Value} {R R' : List Value}
/-- takeName's answer, in one form. -/
theorem name_one (l : List UInt8) (hl : l.length ≤ 500000) (P : Nat) (F : Fr) (K : List Fr) (sv : Value) (R : List Value) (w0 w : World) (hT : Tab5 w0) (h : PS X w0 w P l (F :: K) sv R) :
    Calls Tryz.prog 72 #[.pointer (some ⟨P, 0, none⟩)] w fun e w' => e = .returned (.bool (nameG F l).isSome) ∧ Ch (· ∈ blks P sv R) w w' ∧ ∀ F' r, nameG F l = some (F', r) → PS X w0 w' P r (F' :: K) sv R := by
  refine (name_any l hl P F K sv R w0 w hT h).mono ?_
  rintro e w' ⟨hc, ⟨rfl, hn⟩ | ⟨rfl, F', r, hn, hp⟩⟩
  · exact ⟨by rw [hn]; rfl, hc, fun F' r e => by rw [hn] at e; cases e⟩
  · exact ⟨by rw [hn]; rfl, hc, fun F2 r2 e => by rw [hn] at e; cases e; exact hp⟩
/-- A change of foreign blocks. -/
theorem PS.other {M : Nat → Prop} (h : PS X w0 w P l K sv R) (c : Ch M w W) (hM : ∀ b, M b → X b) (hL : ∀ b, b < w0.heap.size → ¬ M b) : PS X w0 W P l K sv R :=
  ⟨c.heap h.blk (fun e => h.out P (by simp [blks]) (hM P e)), h.low, ownsRow_ch h.own c (fun b hb e => h.out b (List.mem_cons_of_mem _ (List.mem_append_left _ (mem_ownB.2 hb))) (hM b e)),
    h.rows.move c (fun b hb hs => ⟨fun e => hs.2 (hM b e), hs⟩) (fun x hx b hb e => h.out b (List.mem_cons_of_mem _ (List.mem_append_right _ (List.mem_flatMap.2 ⟨x, hx, mem_ownB.2 hb⟩))) (hM b e)), h.nodup, c.below h.below h.below.size hL, h.frok, h.out, fun b hb => Nat.lt_of_lt_of_le (h.xlt b hb) c.size⟩
/-- The blocks that were made since. -/
def newer (X : Nat → Prop) (w W : World) (b : Nat) : Prop := X b ∨ (w.heap.size ≤ b ∧ b < W.heap.size)
theorem free_newer {M : List Nat} {b : Nat} (hb : b < w.heap.size) (h : free M X b) : free M (newer X w W) b := ⟨h.1, fun e => by rcases e with e | e; exact h.2 e; omega⟩
theorem free_less {M : List Nat} {b : Nat} (h : free M (newer X w W) b) : free M X b := ⟨h.1, fun e => h.2 (.inl e)⟩
theorem PS.enter (h : PS X w0 w P l K sv R) (g : Below w.heap.size w W) : PS (newer X w W) w0 W P l K sv R := by
  have hP := h.blk.lt
  have c : Ch (fun _ => False) w W := Ch.of_below g
  exact ⟨h.blk.below g, h.low, ownsRow_ch h.own c (fun _ _ e => e), h.rows.move c (fun b hb hs => ⟨fun e => e, free_newer hb hs⟩) (fun _ _ _ _ e => e), h.nodup, c.below h.below h.below.size (fun _ _ e => e), h.frok,
    fun b hb e => by
      rcases e with e | e
      · exact h.out b hb e
      · have := (h.lt b hb).1; omega,
    fun b hb => by
      rcases hb with hb | hb
      · exact Nat.lt_of_lt_of_le (h.xlt b hb) g.size
      · exact hb.2⟩
theorem PS.leave {w1 : World} (h : PS (newer X w1 W) w0 w P l K sv R) : PS X w0 w P l K sv R :=
  ⟨h.blk, h.low, h.own, h.rows.move (Ch.refl (fun _ => False) w) (fun b _ hs => ⟨fun e => e, free_less hs⟩) (fun _ _ _ _ e => e), h.nodup, h.below, h.frok, fun b hb e => h.out b hb (.inl e), fun b hb => h.xlt b (.inl hb)⟩
/-- The end of a step behind which a name is taken. -/
theorem more_end {fn : Func} {p u : Tmp} {a : Act} {b : Nat} {M : List Nat} {y0 y1 y2 y3 : Value} (hres : fn.results = #[.cell p 26, .tmp u]) (hWb : Below w.heap.size w W) (hw0 : w0.heap.size ≤ w.heap.size) (hb0 : w.heap.size ≤ b) (hb1 : b < W.heap.size)
    (c3 : Ch (· ∈ M) W w3) (hsub : ∀ x ∈ blks P sv' R', x ∈ M ∨ W.heap.size ≤ x) (c4 : Ch (· ∈ blks P sv' R') w3 w4)
    (h4 : ∀ F' r, nameG F l = some (F', r) → PS (newer X w W) w0 w4 P r (F' :: K) sv' R')
    (hz : RB w4 b y0 y1 y2 y3) (hp : a.tmps.getD p undef = .pointer (some ⟨b, 0, none⟩)) (hu : a.tmps.getD u undef = .bool (nameG F l).isSome) (hd : a.defers = []) :
    bodyPost Tryz.prog fn (OutPost (X := X) w0 w P M (moreG F K l)) .ret a ((((w4.setCell ⟨b, 0, none⟩ (.int .i64 0)).setCell ⟨b, 1, none⟩ (.string ⟨#[]⟩)).setCell ⟨b, 2, none⟩ (.slice none 0 0)).setCell ⟨b, 3, none⟩ (.slice none 0 0)) := by
  have hW := hWb.size
  have c5 := (Ch.of_gb (gb_set4 w4 b (.int .i64 0) (.string ⟨#[]⟩) (.slice none 0 0) (.slice none 0 0))).mono (M' := (· = b)) (fun x _ e => by cases e; rfl)
  have hin : ∀ x, x < w.heap.size → x ∈ blks P sv' R' → x ∈ M := fun x hx e => by
    rcases hsub x e with e | e
    · exact e
    · omega
  refine ret_val hres hp hu hd (hz.set4 _ _ _ _) ⟨(((Ch.of_below (M := (· ∈ M)) hWb).trans c3 (fun x _ e => e)).trans c4 hin).trans c5 (fun x hx e => by subst e; omega), ?_⟩
  unfold moreG
  cases hn : nameG F l with
  | none => exact ⟨_, _, _, _, _, _, _, _, rfl⟩
  | some x =>
    obtain ⟨F', r⟩ := x
    refine ⟨sv', R', rfl, ((h4 F' r hn).other c5 (fun x e => by subst e; exact .inr ⟨hb0, hb1⟩) (fun x hx e => by subst e; omega)).leave, fun x hx => ?_⟩
    rcases hsub x hx with e | e
    · exact .inl e
    · exact .inr (by omega)
end
theorem info_unf : (Tryz.prog.info? 109).map (fun i => (i.zero, i.size, i.bytes)) = some (some (.agg #[.int .i64 0, .string ⟨#[]⟩, .slice none 0 0, .slice none 0 0, .int .u8 0, .string ⟨#[]⟩]), 6, 96) := by kernel_rfl

def kindOf (o : Bool) : Int := if o then 7 else 6

set_option maxHeartbeats 4000000 in
theorem open_no (o : Bool) (l : List UInt8) (hl : l.length ≤ 500000) (P : Nat) (K : List Fr) (hK : K.length ≤ 500000) (sv : Value) (R : List Value) (w0 w : World) (hT : Tab5 w0) (h : PS X w0 w P l K sv R) (ht : takeG (Fr.new o).mark l = none) :
    Calls Tryz.prog 70 #[.pointer (some ⟨P, 0, none⟩), .int .i64 (kindOf o), .int .u8 (Fr.new o).mark.toNat] w (OutPost (X := X) w0 w P (blks P sv R) (openG o K l)) := by
  obtain ⟨i0, hi, hz0, hz1, hz2⟩ := info_parts info_unf
  have CT : Hid (∀ wx, PB wx P (bs l) sv → Calls Tryz.prog 69 #[.pointer (some ⟨P, 0, none⟩), .int .u8 (Fr.new o).mark.toNat] wx fun e w' => e = .returned (.bool false) ∧ wx = w') := fun wx hx => take_no _ l ht P _ wx hx
  obtain ⟨W, hW⟩ : ∃ W, W = (w.alloc (.cells #[.int .i64 0, .string ⟨#[]⟩, .slice none 0 0, .slice none 0 0] 26)).alloc (.cells #[.int .i64 (kindOf o), .string ⟨#[]⟩, .slice none 0 0, .slice none 0 0] 26) := ⟨_, rfl⟩
  have hWb : Below w.heap.size w W := by rw [hW]; exact ((Below.refl _ _).alloc (Nat.le_refl _) _).alloc (by simp) _
  have hWz : W.heap.size = w.heap.size + 2 := by rw [hW]; simp
  have HA : Hid (RB W w.heap.size (.int .i64 0) (.string ⟨#[]⟩) (.slice none 0 0) (.slice none 0 0)) := by
    show RB W _ _ _ _ _
    rw [hW]; exact RB.below (RB.new w) ((Below.refl _ _).alloc (Nat.le_refl _) _)
  have HB : Hid (RB W (w.heap.size + 1) (.int .i64 (kindOf o)) (.string ⟨#[]⟩) (.slice none 0 0) (.slice none 0 0)) := by
    show RB W _ _ _ _ _
    rw [hW, show w.heap.size + 1 = (w.alloc (.cells #[.int .i64 0, .string ⟨#[]⟩, .slice none 0 0, .slice none 0 0] 26)).heap.size by simp]; exact RB.new _
  have H := Lib.hid h
  have HOG : Hid (openG o K l = moreG (Fr.new o) K l) := by show openG o K l = _; unfold openG; rw [ht]
  have HW := Lib.hid (h.enter hWb)
  have HWB := Lib.hid hWb
  generalize hm : ((Fr.new o).mark.toNat : Int) = mk at *
  generalize hkd : kindOf o = kd at *
  have HMK := Lib.hid hm
  have HKD := Lib.hid hkd
  clear hm hkd ht h
  go_enter Tryz.func70, Tryz.ntmps70
  go_wp2_with fail
  rw [← hW]
  clear hW
  go_wp2_with (go_at_call 69; (with_reducible refine (CT.out _ HW.out.blk).mono ?_); rintro e w1 ⟨rfl, rfl⟩)
  have c1 := HW.out.blk.c1
  have fP := HW.out.blk.fr 1
  have b0 := HB.out.c0
  have b1 := HB.out.c1
  have b2 := HB.out.c2
  have b3 := HB.out.c3
  have hlt := HW.out.blk.lt
  have HO := Lib.hid HW.out.own
  have HWZ := Lib.hid hWz
  clear hWz
  have hca : ∀ o, (W.alloc o).cell? ⟨P, 1, none⟩ = some sv := fun o => (World.cell?_alloc_lt W o ⟨P, 1, none⟩ hlt).trans c1
  have HKP : Hid (∀ (o : Obj) (wz : World), ((W.alloc o).drew).grownBy wz sv.ownBlock → wz.frozen? ⟨P, 1, none⟩ = false ∧ wz.cell? ⟨P, 1, none⟩ = some sv) := fun o wz hg => by
    have := ((HW.out.blk.below ((Below.refl _ _).alloc (Nat.le_refl _) o)).gb (w := (W.alloc o).drew) hg (fun e => HW.out.apart.1 P e.symm rfl))
    exact ⟨this.fr 1, this.c1⟩
  go_region_law (refine step_append_lies _ (by rfl) _ _ _ (by rfl) w0.heap.size 109 i0 _ 6 96 Tryz.underlying41 hi hz0 hz1 hz2 rfl (by omega) sv K.length (stCells K R) (by rfl) ((HO.out.alloc _).drew) ⟨W.heap.size, 0, none⟩ 1 1 [.int .i64 kd, .string ⟨#[]⟩, .slice none 0 0, .slice none 0 0, .int .u8 mk, .string ⟨#[]⟩] (by rfl) (by rfl) (World.news_of_block (cs := #[.int .i64 kd, .string ⟨#[]⟩, .slice none 0 0, .slice none 0 0, .int .u8 mk, .string ⟨#[]⟩]) (t := 109) (fr := (0, 0)) (heap_alloc_new W _)) (by simp [Value.oneCell']) (by omega) (by unfold maxLen; omega) (by omega) (by have := HW.out.below.size; simp; omega) (W.heap.size + 1) (by simp) ?_; intro gg cap w1 hown1 hgrow hat hltt; have fw := (HKP.out _ _ hgrow).1; have cw := (HKP.out _ _ hgrow).2)
  all_goals
    have HP := Lib.hid (HW.out.pushed (o := o) (g := gg) (cap := cap) ((Below.refl _ _).alloc (Nat.le_refl _) _).drew rfl (by
      have e : frCells (Fr.new o) nilS = [.int .i64 kd, .string ⟨#[]⟩, .slice none 0 0, .slice none 0 0, .int .u8 mk, .string ⟨#[]⟩] := by
        rw [← HKD.out, ← HMK.out]; cases o <;> rfl
      rw [e]; exact hown1) hgrow (by simpa using hat))
    clear hown1 hgrow hat hltt fw cw hca c1 fP b0 b1 b2 b3 HO HKP hlt
    have HZ : Hid (RB (w1.setCell ⟨P, 1, none⟩ (.slice (some ⟨gg, 0, none⟩) (K.length + 1) cap)) w.heap.size (.int .i64 0) (.string ⟨#[]⟩) (.slice none 0 0) (.slice none 0 0)) :=
      HP.out.2.1.heap HA.out (fun e => by have := (H.out.lt w.heap.size e).1; omega)
    generalize w1.setCell ⟨P, 1, none⟩ (.slice (some ⟨gg, 0, none⟩) (K.length + 1) cap) = w3 at *
    have CN := Lib.hid (name_one l hl P (Fr.new o) K (.slice (some ⟨gg, 0, none⟩) (K.length + 1) cap) (nilS :: R) w0 w3 hT HP.out.1)
    have HNB : Hid (w.heap.size ∉ blks P (.slice (some ⟨gg, 0, none⟩) (K.length + 1) cap) (nilS :: R)) := fun e => by
      rcases HP.out.2.2 _ e with e | e
      · have := (H.out.lt w.heap.size e).1; omega
      · have := HWZ.out; omega
    have HOP : Hid (openG o K l = moreG (Fr.new o) K l) := HOG.out
    generalize hbb : (nameG (Fr.new o) l).isSome = bb at CN
    have HBB := Lib.hid hbb
    clear hbb hT
    go_wp2_with (go_at_call 72; (with_reducible refine CN.out.mono ?_); rintro e w4 ⟨rfl, hc4, h4⟩; have HZ4 := Lib.hid (hc4.heap HZ.out HNB.out); have HC4 := Lib.hid hc4; have H4 := Lib.hid h4; have z0 := RB.c0 HZ4.out; have z1 := RB.c1 HZ4.out; have z2 := RB.c2 HZ4.out; have z3 := RB.c3 HZ4.out; have f0 := RB.fr HZ4.out 0; have f1 := RB.fr HZ4.out 1; have f2 := RB.fr HZ4.out 2; have f3 := RB.fr HZ4.out 3; clear hc4 h4)
    rw [HOP.out]
    refine more_end (p := 6) (u := 7) rfl HWB.out H.out.below.size (Nat.le_refl _) (by have := HWZ.out; omega) HP.out.2.1 HP.out.2.2 HC4.out H4.out HZ4.out rfl (by rw [HBB.out]; rfl) rfl
end Go.Proofs.YtnjikipncgbjjaaGreatDoor

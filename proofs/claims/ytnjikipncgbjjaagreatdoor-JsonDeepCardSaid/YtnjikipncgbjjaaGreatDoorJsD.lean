/- The contract of single: a word, a string or a number. -/
import Derived.Test.YtnjikipncgbjjaaGreatDoorJsC
import Derived.Deep.QuietTactic
import Derived.Deep.RegionHeld3
import Derived.IntWalk
import Derived.Laws.ResultCell
import Derived.Laws.Rows
namespace Go.Proofs.YtnjikipncgbjjaaGreatDoor
open Go.RowKit
set_option linter.unusedVariables false
set_option maxRecDepth 100000

/-- The library's tables, and the project's words, lie as their text lays them. -/
structure Tab5 (w : World) : Prop where
  tabs : TabsW w
  w1 : w.cell? ⟨0, 1, none⟩ = some (.string ⟨#[110, 117, 108, 108]⟩)
  w2 : w.cell? ⟨0, 2, none⟩ = some (.string ⟨#[102, 97, 108, 115, 101]⟩)
  w3 : w.cell? ⟨0, 3, none⟩ = some (.string ⟨#[116, 114, 117, 101]⟩)
theorem Tab5.below {w w' : World} (h : Tab5 w) (b : Below w.heap.size w w') : Tab5 w' :=
  ⟨h.tabs.below b, (b.cell (p := ⟨0, 1, none⟩) (World.block_lt_of_cell? w _ h.w1)).trans h.w1, (b.cell (p := ⟨0, 2, none⟩) (World.block_lt_of_cell? w _ h.w2)).trans h.w2, (b.cell (p := ⟨0, 3, none⟩) (World.block_lt_of_cell? w _ h.w3)).trans h.w3⟩
theorem Tab5.drewN {w : World} (h : Tab5 w) (n : Nat) : Tab5 (w.drewN n) := h.below ⟨rfl, rfl, rfl, Nat.le_refl _, fun _ _ => rfl⟩

/-- A value of no others, as a result. -/
def flat (k : Int) (t : ByteArray) : Value := .agg #[.int .i64 k, .string t, .slice none 0 0, .slice none 0 0]
/-- What single answers. -/
def SinglePost (l : List UInt8) (P : Nat) (sv : Value) (w : World) (e : Ending) (w' : World) : Prop :=
  (∃ (k : Int) (t : ByteArray) (b : Bool) (s' : ByteArray), e = .returned (.tuple #[flat k t, .bool b]) ∧ PB w' P s' sv ∧
    ((b = false ∧ singleG l = none) ∨ (b = true ∧ ∃ r, s' = bs r ∧ singleG l = some (⟨k, t, [], []⟩, r)))) ∧ w.grownBy w' (some P)

/-- A block that holds a value alone (a result, a variable). -/
def RB (w : World) (b : Nat) (x0 x1 x2 x3 : Value) : Prop := w.heap[b]? = some (.cells #[x0, x1, x2, x3] 26 (0, 0))
section
variable {w w' : World} {b : Nat} {x0 x1 x2 x3 : Value}
theorem RB.c0 (h : RB w b x0 x1 x2 x3) : w.cell? ⟨b, 0, none⟩ = some x0 := by unfold RB at h; simp [World.cell?, h]
theorem RB.c1 (h : RB w b x0 x1 x2 x3) : w.cell? ⟨b, 1, none⟩ = some x1 := by unfold RB at h; simp [World.cell?, h]
theorem RB.c2 (h : RB w b x0 x1 x2 x3) : w.cell? ⟨b, 2, none⟩ = some x2 := by unfold RB at h; simp [World.cell?, h]
theorem RB.c3 (h : RB w b x0 x1 x2 x3) : w.cell? ⟨b, 3, none⟩ = some x3 := by unfold RB at h; simp [World.cell?, h]
theorem RB.fr (h : RB w b x0 x1 x2 x3) (i : Nat) : w.frozen? ⟨b, i, none⟩ = false := by unfold RB at h; simp [World.frozen?, h]
theorem RB.lt (h : RB w b x0 x1 x2 x3) : b < w.heap.size := (Array.getElem?_eq_some_iff.1 h).1
theorem RB.gb {r : Option Nat} (h : RB w b x0 x1 x2 x3) (g : w.grownBy w' r) (hn : some b ≠ r) : RB w' b x0 x1 x2 x3 := gb_heap g h hn
theorem RB.below (h : RB w b x0 x1 x2 x3) (g : Below w.heap.size w w') : RB w' b x0 x1 x2 x3 := (g.block b h.lt).trans h
theorem RB.new (w : World) : RB (w.alloc (.cells #[x0, x1, x2, x3] 26)) w.heap.size x0 x1 x2 x3 := heap_alloc_new w _
end

theorem val_size : (Tryz.prog.info? 26).map (·.size) = some 4 := by kernel_rfl
/-- A result that is a value, and one in a slot beside it. -/
theorem ret_val {fn : Func} {R : Ending → World → Prop} {a : Act} {w : World} {p u : Tmp} {b : Nat} {x0 x1 x2 x3 v : Value} (hres : fn.results = #[.cell p 26, .tmp u]) (hp : a.tmps.getD p undef = .pointer (some ⟨b, 0, none⟩))
    (hu : a.tmps.getD u undef = v) (hd : a.defers = []) (hb : RB w b x0 x1 x2 x3) (hR : R (.returned (.tuple #[.agg #[x0, x1, x2, x3], v])) w) : bodyPost Tryz.prog fn R .ret a w := by
  refine bodyPost_ret (v := .tuple #[.agg #[x0, x1, x2, x3], v]) ?_ hd hR
  rw [results_cell_tmp hres, hp, hu]
  have hl := run_loadVar_row (P := Tryz.prog) (ty := 26) w b _ _ _ _ hb Tryz.underlying26 rfl val_size
  simp only [asAddr, Sem.run_pure, Result.andThen_ok, hl]
theorem RB.set4 {w : World} {b : Nat} {x0 x1 x2 x3 : Value} (h : RB w b x0 x1 x2 x3) (y0 y1 y2 y3 : Value) :
    RB ((((w.setCell ⟨b, 0, none⟩ y0).setCell ⟨b, 1, none⟩ y1).setCell ⟨b, 2, none⟩ y2).setCell ⟨b, 3, none⟩ y3) b y0 y1 y2 y3 := by
  unfold RB at h ⊢; simp [World.setCell, Array.getElem?_modify, h]
theorem gb_set4 (w : World) (b : Nat) (y0 y1 y2 y3 : Value) :
    w.grownBy ((((w.setCell ⟨b, 0, none⟩ y0).setCell ⟨b, 1, none⟩ y1).setCell ⟨b, 2, none⟩ y2).setCell ⟨b, 3, none⟩ y3) (some b) :=
  gb_trans (gb_trans (gb_trans (gb_set w ⟨b, 0, none⟩ y0) (gb_set _ ⟨b, 1, none⟩ y1)) (gb_set _ ⟨b, 2, none⟩ y2)) (gb_set _ ⟨b, 3, none⟩ y3)
/-- Behind a new block of one's own that was written: as if it were not. -/
theorem gb_own {w w1 w2 : World} {r : Option Nat} {b : Nat} (h : w.grownBy w1 r) (hb : w.heap.size ≤ b) (g : w1.grownBy w2 (some b)) : w.grownBy w2 r :=
  ⟨g.os.trans h.os, g.tape.trans h.tape, g.output.trans h.output, Nat.le_trans h.size g.size, fun k hk hn => (g.block k (Nat.lt_of_lt_of_le hk h.size) (fun e => by cases e; omega)).trans (h.block k hk hn)⟩

/-- What holds all through single, ahead of its end. -/
structure SInv (l : List UInt8) (P : Nat) (sv : Value) (w wr : World) : Prop where
  p : PB wr P (bs l) sv
  t : Tab5 wr
  b : Below w.heap.size w wr
  z : RB wr w.heap.size (.int .i64 0) (.string ⟨#[]⟩) (.slice none 0 0) (.slice none 0 0)
theorem SInv.drewN {l : List UInt8} {P : Nat} {sv : Value} {w wr : World} (h : SInv l P sv w wr) (n : Nat) : SInv l P sv w (wr.drewN n) :=
  ⟨h.p, h.t.drewN n, h.b.trans ⟨rfl, rfl, rfl, Nat.le_refl _, fun _ _ => rfl⟩, h.z⟩

theorem SInv.below {l : List UInt8} {P : Nat} {sv : Value} {w wr wt : World} (h : SInv l P sv w wr) (g : Below wr.heap.size wr wt) : SInv l P sv w wt :=
  ⟨h.p.below g, h.t.below g, h.b.trans (g.mono h.b.size), h.z.below g⟩
/-- The end of single: a value is stored, and answered. -/
theorem single_end {l : List UInt8} {P : Nat} {sv : Value} {w w1 : World} {a : Act} {k : Int} {t s' : ByteArray} {bo : Bool} {x0 x1 x2 x3 : Value} (hPl : P < w.heap.size) (hg : w.grownBy w1 (some P)) (hR : RB w1 w.heap.size x0 x1 x2 x3) (h1 : PB w1 P s' sv)
    (hp : a.tmps.getD 2 undef = .pointer (some ⟨w.heap.size, 0, none⟩)) (hu : a.tmps.getD 3 undef = .bool bo) (hd : a.defers = [])
    (hv : (bo = false ∧ singleG l = none) ∨ (bo = true ∧ ∃ r, s' = bs r ∧ singleG l = some (⟨k, t, [], []⟩, r))) :
    bodyPost Tryz.prog Tryz.f71 (SinglePost l P sv w) .ret a ((((w1.setCell ⟨w.heap.size, 0, none⟩ (.int .i64 k)).setCell ⟨w.heap.size, 1, none⟩ (.string t)).setCell ⟨w.heap.size, 2, none⟩ (.slice none 0 0)).setCell ⟨w.heap.size, 3, none⟩ (.slice none 0 0)) := by
  have g4 := gb_set4 w1 w.heap.size (.int .i64 k) (.string t) (.slice none 0 0) (.slice none 0 0)
  exact ret_val (p := 2) (u := 3) rfl hp hu hd (hR.set4 _ _ _ _) ⟨⟨k, t, bo, s', rfl, h1.gb g4 (by simp; omega), hv⟩, gb_own hg (Nat.le_refl _) g4⟩
theorem SInv.skipped {l : List UInt8} {P : Nat} {sv : Value} {w wr w1 : World} (h : SInv l P sv w wr) (hPl : P < w.heap.size) (g : wr.grownBy w1 (some P)) : w.grownBy w1 (some P) ∧ RB w1 w.heap.size (.int .i64 0) (.string ⟨#[]⟩) (.slice none 0 0) (.slice none 0 0) :=
  ⟨gb_trans (gb_below h.b _) g, h.z.gb g (by simp; omega)⟩

theorem has_len {l p : List UInt8} (h : Lib.hasPrefix l p = true) : p.length ≤ l.length := (List.isPrefixOf_iff_prefix.1 (show List.isPrefixOf p l = true from h)).length_le

set_option maxHeartbeats 4000000 in
theorem single_any (l : List UInt8) (hl : l.length ≤ 500000) (P : Nat) (sv : Value) (w0 w : World) (hT : Tab5 w0) (hb : Below w0.heap.size w0 w) (hP : w0.heap.size ≤ P) (h : PB w P (bs l) sv) :
    Calls Tryz.prog 71 #[.pointer (some ⟨P, 0, none⟩)] w (SinglePost l P sv w) := by
  have hTw : Tab5 w := hT.below hb
  have HS0 : Hid (SInv l P sv w (w.alloc (.cells #[.int .i64 0, .string ⟨#[]⟩, .slice none 0 0, .slice none 0 0] 26))) :=
    ⟨(Below.heap_alloc w _ P h.lt).trans h, hTw.below ((Below.refl _ _).alloc (Nat.le_refl _) _), (Below.refl _ _).alloc (Nat.le_refl _) _, RB.new w⟩
  have hPl : P < w.heap.size := h.lt
  clear hT hTw h hb hP
  go_enter Tryz.func71, Tryz.ntmps71
  go_wp2_with fail
  go_loopw [4] (fun i wr => ∃ k : Nat, i = .int .i64 k ∧ 1 ≤ k ∧ k ≤ 4 ∧ Hid (SInv l P sv w wr) ∧ Hid ((1 < k → Lib.hasPrefix l [110, 117, 108, 108] = false) ∧ (2 < k → Lib.hasPrefix l [102, 97, 108, 115, 101] = false) ∧ (3 < k → Lib.hasPrefix l [116, 114, 117, 101] = false))) (fun i _ => 4 - (intOf i).toNat)
  case atStart => exact ⟨1, rfl, by omega, by omega, HS0, by show _ ∧ _ ∧ _; omega⟩
  case round =>
    obtain ⟨k, rfl, hk1, hk4, HI, HN⟩ := hrel
    have c0 := HI.out.p.c0
    have W1 := HI.out.t.w1
    have W2 := HI.out.t.w2
    have W3 := HI.out.t.w3
    have CPt : Hid (∀ t w0, Calls Tryz.prog 95 #[.string (bs l), .string t] w0 fun e w' => e = .returned (.bool (Lib.hasPrefix l t.data.toList)) ∧ w' = w0) := fun t w0 => Tryz.strings_HasPrefix (bs l) t w0
    have CSn : Hid (∀ (n : Nat) (wx : World), n ≤ l.length → PB wx P (bs l) sv → Calls Tryz.prog 43 #[.pointer (some ⟨P, 0, none⟩), .int .i64 n] wx fun e w' => e = .returned (.tuple #[]) ∧ PB w' P (bs (sk (l.drop n))) sv ∧ wx.grownBy w' (some P)) :=
      fun n wx hn hx => skip_any l n hn (by omega) P sv wx hx
    rcases (show k = 1 ∨ k = 2 ∨ k = 3 ∨ k = 4 by omega) with rfl | rfl | rfl | rfl
    · clear W2 W3 hk1 hk4 HS0
      by_cases hp : Lib.hasPrefix l [110, 117, 108, 108] = true
      · have CP := Lib.hid (CPt.out ⟨#[110, 117, 108, 108]⟩)
        rw [show (ByteArray.mk #[110, 117, 108, 108]).data.toList = [110, 117, 108, 108] from rfl, hp] at CP
        have HG : Hid (singleG l = some (⟨1, ⟨#[]⟩, [], []⟩, sk (l.drop 4))) := by show singleG l = _; unfold singleG; rw [if_pos hp]; rfl
        have HL := Lib.hid (has_len hp)
        clear hp CPt
        go_wp2_with fail
        go_quiet ((go_at_call 95; exact Calls.quiet_of_same (CP.out _)))
        have CS : Hid (Calls Tryz.prog 43 #[.pointer (some ⟨P, 0, none⟩), .int .i64 4] (wr.drewN nq) fun e w' => e = .returned (.tuple #[]) ∧ PB w' P (bs (sk (l.drop 4))) sv ∧ (wr.drewN nq).grownBy w' (some P)) := CSn.out 4 (wr.drewN nq) HL.out (HI.out.p.drewN nq)
        go_wp2_with (go_at_call 43; (with_reducible refine CS.out.mono ?_); rintro e w1 ⟨rfl, h1, hg⟩; have HR := Lib.hid (SInv.skipped (HI.out.drewN nq) hPl hg); have r0 := HR.out.2.c0; have r1 := HR.out.2.c1; have r2 := HR.out.2.c2; have r3 := HR.out.2.c3; have f0 := HR.out.2.fr 0; have f1 := HR.out.2.fr 1; have f2 := HR.out.2.fr 2; have f3 := HR.out.2.fr 3)
        exact single_end hPl HR.out.1 HR.out.2 h1 rfl rfl rfl (.inr ⟨rfl, _, rfl, HG.out⟩)
      · have HP := Lib.hid (Bool.eq_false_iff.2 hp)
        have CP := Lib.hid (CPt.out ⟨#[110, 117, 108, 108]⟩)
        rw [show (ByteArray.mk #[110, 117, 108, 108]).data.toList = [110, 117, 108, 108] from rfl, HP.out] at CP
        clear hp CPt CSn
        go_wp2_with fail
        go_quiet ((go_at_call 95; exact Calls.quiet_of_same (CP.out _)))
        go_wp2_with fail
        go_roundw
        case rel => exact ⟨2, rfl, by omega, by omega, HI.out.drewN nq, fun _ => HP.out, fun h => absurd h (by omega), fun h => absurd h (by omega)⟩
        case measure => simp [intOf]
    · clear W1 W3 hk1 hk4 HS0
      by_cases hp : Lib.hasPrefix l [102, 97, 108, 115, 101] = true
      · have CP := Lib.hid (CPt.out ⟨#[102, 97, 108, 115, 101]⟩)
        rw [show (ByteArray.mk #[102, 97, 108, 115, 101]).data.toList = [102, 97, 108, 115, 101] from rfl, hp] at CP
        have HG : Hid (singleG l = some (⟨2, ⟨#[]⟩, [], []⟩, sk (l.drop 5))) := by show singleG l = _; unfold singleG; rw [if_neg (by rw [HN.out.1 (by omega)]; simp)]; rw [if_pos hp]; rfl
        have HL := Lib.hid (has_len hp)
        clear hp CPt
        go_wp2_with fail
        go_quiet ((go_at_call 95; exact Calls.quiet_of_same (CP.out _)))
        have CS : Hid (Calls Tryz.prog 43 #[.pointer (some ⟨P, 0, none⟩), .int .i64 5] (wr.drewN nq) fun e w' => e = .returned (.tuple #[]) ∧ PB w' P (bs (sk (l.drop 5))) sv ∧ (wr.drewN nq).grownBy w' (some P)) := CSn.out 5 (wr.drewN nq) HL.out (HI.out.p.drewN nq)
        go_wp2_with (go_at_call 43; (with_reducible refine CS.out.mono ?_); rintro e w1 ⟨rfl, h1, hg⟩; have HR := Lib.hid (SInv.skipped (HI.out.drewN nq) hPl hg); have r0 := HR.out.2.c0; have r1 := HR.out.2.c1; have r2 := HR.out.2.c2; have r3 := HR.out.2.c3; have f0 := HR.out.2.fr 0; have f1 := HR.out.2.fr 1; have f2 := HR.out.2.fr 2; have f3 := HR.out.2.fr 3)
        exact single_end hPl HR.out.1 HR.out.2 h1 rfl rfl rfl (.inr ⟨rfl, _, rfl, HG.out⟩)
      · have HP := Lib.hid (Bool.eq_false_iff.2 hp)
        have CP := Lib.hid (CPt.out ⟨#[102, 97, 108, 115, 101]⟩)
        rw [show (ByteArray.mk #[102, 97, 108, 115, 101]).data.toList = [102, 97, 108, 115, 101] from rfl, HP.out] at CP
        clear hp CPt CSn
        go_wp2_with fail
        go_quiet ((go_at_call 95; exact Calls.quiet_of_same (CP.out _)))
        go_wp2_with fail
        go_roundw
        case rel => exact ⟨3, rfl, by omega, by omega, HI.out.drewN nq, fun _ => HN.out.1 (by omega), fun _ => HP.out, fun h => absurd h (by omega)⟩
        case measure => simp [intOf]
    · clear W1 W2 hk1 hk4 HS0
      by_cases hp : Lib.hasPrefix l [116, 114, 117, 101] = true
      · have CP := Lib.hid (CPt.out ⟨#[116, 114, 117, 101]⟩)
        rw [show (ByteArray.mk #[116, 114, 117, 101]).data.toList = [116, 114, 117, 101] from rfl, hp] at CP
        have HG : Hid (singleG l = some (⟨3, ⟨#[]⟩, [], []⟩, sk (l.drop 4))) := by show singleG l = _; unfold singleG; rw [if_neg (by rw [HN.out.1 (by omega)]; simp), if_neg (by rw [HN.out.2.1 (by omega)]; simp)]; rw [if_pos hp]; rfl
        have HL := Lib.hid (has_len hp)
        clear hp CPt
        go_wp2_with fail
        go_quiet ((go_at_call 95; exact Calls.quiet_of_same (CP.out _)))
        have CS : Hid (Calls Tryz.prog 43 #[.pointer (some ⟨P, 0, none⟩), .int .i64 4] (wr.drewN nq) fun e w' => e = .returned (.tuple #[]) ∧ PB w' P (bs (sk (l.drop 4))) sv ∧ (wr.drewN nq).grownBy w' (some P)) := CSn.out 4 (wr.drewN nq) HL.out (HI.out.p.drewN nq)
        go_wp2_with (go_at_call 43; (with_reducible refine CS.out.mono ?_); rintro e w1 ⟨rfl, h1, hg⟩; have HR := Lib.hid (SInv.skipped (HI.out.drewN nq) hPl hg); have r0 := HR.out.2.c0; have r1 := HR.out.2.c1; have r2 := HR.out.2.c2; have r3 := HR.out.2.c3; have f0 := HR.out.2.fr 0; have f1 := HR.out.2.fr 1; have f2 := HR.out.2.fr 2; have f3 := HR.out.2.fr 3)
        exact single_end hPl HR.out.1 HR.out.2 h1 rfl rfl rfl (.inr ⟨rfl, _, rfl, HG.out⟩)
      · have HP := Lib.hid (Bool.eq_false_iff.2 hp)
        have CP := Lib.hid (CPt.out ⟨#[116, 114, 117, 101]⟩)
        rw [show (ByteArray.mk #[116, 114, 117, 101]).data.toList = [116, 114, 117, 101] from rfl, HP.out] at CP
        clear hp CPt CSn
        go_wp2_with fail
        go_quiet ((go_at_call 95; exact Calls.quiet_of_same (CP.out _)))
        go_wp2_with fail
        go_roundw
        case rel => exact ⟨4, rfl, by omega, by omega, HI.out.drewN nq, fun _ => HN.out.1 (by omega), fun _ => HN.out.2.1 (by omega), fun _ => HP.out⟩
        case measure => simp [intOf]
    · clear W1 W2 W3 hk1 hk4 HS0
      have N1 := Lib.hid (HN.out.1 (by omega))
      have N2 := Lib.hid (HN.out.2.1 (by omega))
      have N3 := Lib.hid (HN.out.2.2 (by omega))
      clear HN
      have HS0 : Hid (singleG l = if Lib.hasPrefix l [34] = true then (match unqG l with | some (t, m) => some (jText t, sk (l.drop m)) | none => none) else if numG (numL l) = true then some (jNum (numL l), sk (l.drop (l.length - (numR l).length))) else none) := by
        show singleG l = _
        unfold singleG
        rw [if_neg (by rw [N1.out]; simp), if_neg (by rw [N2.out]; simp), if_neg (by rw [N3.out]; simp)]
        rfl
      have CP := Lib.hid (CPt.out ⟨#[34]⟩)
      rw [show (ByteArray.mk #[34]).data.toList = [34] from rfl] at CP
      clear N1 N2 N3 CPt
      by_cases hp : Lib.hasPrefix l [34] = true
      · rw [hp] at CP
        cases hu : unqG l with
        | some x =>
          obtain ⟨t, m⟩ := x
          have HG : Hid (singleG l = some (⟨5, bs t, [], []⟩, sk (l.drop m))) := by show singleG l = _; rw [HS0.out, if_pos hp, hu]; rfl
          have CQ := Lib.hid (takeQ_yes l t m hu hl P sv wr HI.out.t.tabs HI.out.p)
          clear hp hu HS0 CSn
          go_wp2_with (first
            | (go_at_call 95; (with_reducible refine (CP.out _).mono ?_); rintro e w1 ⟨rfl, rfl⟩)
            | (go_at_call 96; (with_reducible refine CQ.out.mono ?_); rintro e w1 ⟨rfl, h1, hg⟩; have HR := Lib.hid (SInv.skipped HI.out hPl hg); have r0 := HR.out.2.c0; have r1 := HR.out.2.c1; have r2 := HR.out.2.c2; have r3 := HR.out.2.c3; have f0 := HR.out.2.fr 0; have f1 := HR.out.2.fr 1; have f2 := HR.out.2.fr 2; have f3 := HR.out.2.fr 3))
          exact single_end hPl HR.out.1 HR.out.2 h1 rfl rfl rfl (.inr ⟨rfl, _, rfl, HG.out⟩)
        | none =>
          have HG : Hid (singleG l = none) := by show singleG l = _; rw [HS0.out, if_pos hp, hu]
          have CQ := Lib.hid (takeQ_no l hu hl P sv wr HI.out.t.tabs HI.out.p)
          clear hp hu HS0 CSn
          go_wp2_with (first
            | (go_at_call 95; (with_reducible refine (CP.out _).mono ?_); rintro e w1 ⟨rfl, rfl⟩)
            | (go_at_call 96; (with_reducible refine CQ.out.mono ?_); rintro e w1 ⟨rfl, h1, hg⟩; have HR := Lib.hid (SInv.skipped HI.out hPl hg); have r0 := HR.out.2.c0; have r1 := HR.out.2.c1; have r2 := HR.out.2.c2; have r3 := HR.out.2.c3; have f0 := HR.out.2.fr 0; have f1 := HR.out.2.fr 1; have f2 := HR.out.2.fr 2; have f3 := HR.out.2.fr 3))
          exact single_end hPl HR.out.1 HR.out.2 h1 rfl rfl rfl (.inl ⟨rfl, HG.out⟩)
      · rw [Bool.eq_false_iff.2 hp] at CP
        have HG0 : Hid (singleG l = if numG (numL l) = true then some (jNum (numL l), sk (l.drop (l.length - (numR l).length))) else none) := by show singleG l = _; rw [HS0.out, if_neg hp]
        have CT : Hid (∀ wx, Calls Tryz.prog 68 #[.string (bs l), .string ⟨#[48, 49, 50, 51, 52, 53, 54, 55, 56, 57, 43, 45, 46, 101, 69]⟩] wx fun e w' => e = .returned (.string (bs (numR l))) ∧ Below wx.heap.size wx w') :=
          fun wx => trim_any (bs l) ⟨#[48, 49, 50, 51, 52, 53, 54, 55, 56, 57, 43, 45, 46, 101, 69]⟩ wx (by decide) (by decide)
        have hm1 : (bs (numR l)).size ≤ (bs l).size := by rw [bs_size, bs_size]; exact trimLeftS_len _ _
        have hm2 : (bs l).size ≤ 500000 := by rw [bs_size]; exact hl
        have HM : Hid ((bs l).extract 0 ((bs l).size - (bs (numR l)).size) = bs (numL l)) := by
          show (bs l).extract 0 ((bs l).size - (bs (numR l)).size) = bs (numL l)
          rw [bs_extract0, bs_size, bs_size]; rfl
        have CN : Hid (∀ wx, Calls Tryz.prog 61 #[.string (bs (numL l))] wx fun e w' => e = .returned (.bool (numG (numL l))) ∧ Below wx.heap.size wx w') := fun wx => num_any (numL l) (by unfold numL; simp; omega) wx
        have CS : Hid (∀ wx, SInv l P sv w wx → Calls Tryz.prog 43 #[.pointer (some ⟨P, 0, none⟩), .int .i64 (((bs l).size : Int) - (bs (numR l)).size)] wx fun e w' => e = .returned (.tuple #[]) ∧ PB w' P (bs (sk (l.drop (l.length - (numR l).length)))) sv ∧ wx.grownBy w' (some P)) := fun wx hx => by
          have := CSn.out (l.length - (numR l).length) wx (by omega) hx.p
          rwa [show ((l.length - (numR l).length : Nat) : Int) = ((bs l).size : Int) - (bs (numR l)).size by rw [bs_size, bs_size] at *; omega] at this
        have hPw : P < wr.heap.size := HI.out.p.lt
        clear HS0 hp CSn
        generalize bs (numR l) = R at *
        generalize bs l = s at *
        have hw : IntKind.i64.wrap ((s.size : Int) - (R.size : Int)) = (s.size : Int) - (R.size : Int) := IntWalk.i64_in _ (by omega)
        go_wp2_with (go_at_call 95; (with_reducible refine (CP.out _).mono ?_); rintro e w1 ⟨rfl, rfl⟩)
        go_region_held3 (fun w' => w'.cell? ⟨P, 0, none⟩ = some (.string s)) (first | exact c0 | exact (hbt.cell (p := ⟨P, 0, none⟩) hPw).trans c0) (first | (go_at_call 68; (with_reducible refine (CT.out _).mono ?_); rintro e wt ⟨rfl, hbt⟩))
        have HIt : Hid (SInv l P sv w wt) := HI.out.below ((Below.refl _ w1).drew.trans hbt)
        clear hw HI hbt
        go_wp2_with (first
          | (go_at_call 43; (with_reducible refine (CS.out _ HIt.out).mono ?_); rintro e w1 ⟨rfl, h1, hg⟩; have HR := Lib.hid (SInv.skipped HIt.out hPl hg); have H1 := Lib.hid h1; clear h1 hg)
          | (go_at_call 61; rw [HM.out]; (with_reducible refine (CN.out _).mono ?_); rintro e w2 ⟨rfl, h2⟩; have HR2 := Lib.hid (HR.out.2.below h2); have r0 := HR2.out.c0; have r1 := HR2.out.c1; have r2 := HR2.out.c2; have r3 := HR2.out.c3; have f0 := HR2.out.fr 0; have f1 := HR2.out.fr 1; have f2 := HR2.out.fr 2; have f3 := HR2.out.fr 3))
        refine single_end hPl (gb_trans HR.out.1 (gb_below h2 _)) HR2.out (H1.out.below h2) rfl rfl rfl ?_
        by_cases hn : numG (numL l) = true
        · exact .inr ⟨hn, _, rfl, by rw [HG0.out, if_pos hn]; rfl⟩
        · exact .inl ⟨Bool.eq_false_iff.2 hn, by rw [HG0.out, if_neg hn]⟩
end Go.Proofs.YtnjikipncgbjjaaGreatDoor

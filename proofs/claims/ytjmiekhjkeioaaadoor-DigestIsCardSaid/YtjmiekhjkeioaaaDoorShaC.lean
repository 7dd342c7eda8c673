/- The contract of (*Stream).takeBlock: the waiting block is mixed into the words. -/
import Derived.Test.YtjmiekhjkeioaaaDoorShaB
import Derived.Laws.Rows
import Derived.Laws.Tables
namespace Go.Proofs.YtjmiekhjkeioaaaDoor
open Go.RowKit
set_option linter.unusedVariables false

/-- Nothing of what was there has changed, but block b. -/
structure Only (b : Nat) (w w' : World) : Prop where
  os : w'.os = w.os
  tape : w'.tape = w.tape
  output : w'.output = w.output
  size : w.heap.size ≤ w'.heap.size
  block : ∀ k, k < w.heap.size → k ≠ b → w'.heap[k]? = w.heap[k]?
theorem Only.refl (b : Nat) (w : World) : Only b w w := ⟨rfl, rfl, rfl, Nat.le_refl _, fun _ _ _ => rfl⟩
theorem Only.trans {b : Nat} {u v w : World} (h : Only b u v) (k : Only b v w) : Only b u w :=
  ⟨k.os.trans h.os, k.tape.trans h.tape, k.output.trans h.output, Nat.le_trans h.size k.size, fun j hj hb => (k.block j (Nat.lt_of_lt_of_le hj h.size) hb).trans (h.block j hj hb)⟩
theorem Only.of_below {b : Nat} {w w' : World} (h : Below w.heap.size w w') : Only b w w' := ⟨h.os, h.tape, h.output, h.size, fun k hk _ => h.block k hk⟩
theorem Only.to_below {b : Nat} {w w' : World} (h : Only b w w') {B : Nat} (hB : B ≤ b) (hs : B ≤ w.heap.size) : Below B w w' := ⟨h.os, h.tape, h.output, h.size, fun k hk => h.block k (by omega) (by omega)⟩
theorem Only.drewN {b : Nat} {w w' : World} (h : Only b w w') (q : Nat) : Only b w (w'.drewN q) := ⟨h.os, h.tape, h.output, h.size, h.block⟩
theorem Only.drew {b : Nat} {w w' : World} (h : Only b w w') : Only b w w'.drew := ⟨h.os, h.tape, h.output, h.size, h.block⟩
theorem Only.setCell {b : Nat} {w w' : World} (h : Only b w w') {a : Addr} (ha : a.block = b ∨ w.heap.size ≤ a.block) (v : Value) : Only b w (w'.setCell a v) :=
  ⟨h.os, h.tape, h.output, by rw [World.size_setCell]; exact h.size, fun k hk hb => by rw [Below.heap_setCell _ _ _ _ (by omega)]; exact h.block k hk hb⟩
theorem Only.setRow {b : Nat} {w w' : World} (h : Only b w w') {g : Nat} (hg : g = b ∨ w.heap.size ≤ g) (cs : Array Value) : Only b w (w'.setRow g cs) :=
  ⟨h.os, h.tape, h.output, by simpa using h.size, fun k hk hb => by rw [setRow_other w' g k cs (by omega)]; exact h.block k hk hb⟩
theorem Only.alloc {b : Nat} {w w' : World} (h : Only b w w') (o : Obj) : Only b w (w'.alloc o) :=
  ⟨h.os, h.tape, h.output, by show _ ≤ (w'.heap.push o).size; simp; have := h.size; omega, fun k hk hb => by rw [Below.heap_alloc _ _ _ (Nat.lt_of_lt_of_le hk h.size)]; exact h.block k hk hb⟩

/-- The table of round words lies where it lies. -/
def TabOK (w : World) : Prop := 0 < w.heap.size ∧ ∀ t, t < 64 → w.cell? ⟨0, t, none⟩ = some (.int .u32 ((Kc t).toNat : Int))
theorem TabOK.only {b : Nat} {w w' : World} (h : TabOK w) (hb : b ≠ 0) (o : Only b w w') : TabOK w' :=
  ⟨Nat.lt_of_lt_of_le h.1 o.size, fun t ht => by rw [← h.2 t ht]; exact World.cell?_of_block (w := w) (o.block _ h.1 (fun e => hb e.symm))⟩

/-- What holds in the rounds: the Stream, the words of the block, the table. -/
def TbInv (w : World) (b q : Nat) (h : Nat → UInt32) (wt : Nat → UInt8) (n : Nat) (wr : World) : Prop :=
  strIs wr b h wt n ∧ wr.rowIs q 78 64 (wdV wt) ∧ TabOK wr ∧ Only b w wr
theorem TbInv.drewN {w : World} {b q : Nat} {h : Nat → UInt32} {wt : Nat → UInt8} {n : Nat} {wr : World} (i : TbInv w b q h wt n wr) (k : Nat) : TbInv w b q h wt n (wr.drewN k) :=
  ⟨World.rowIs.of_block i.1 rfl, i.2.1.of_block rfl, i.2.2.1, i.2.2.2.drewN k⟩
theorem tb_start (b : Nat) (h : Nat → UInt32) (wt : Nat → UInt8) (n : Nat) (w w1 : World) (hs : strIs w b h wt n) (hb : Below w.heap.size w w1) (ht : TabOK w) :
    TbInv w b w1.heap.size h wt n ((w1.alloc (.cells (Array.replicate 64 (.int .u32 0)) 78)).setRow w1.heap.size (wds wt).toArray) := by
  rw [World.setRow_alloc_new]
  have o : Only b w (w1.alloc (.cells (wds wt).toArray 78)) := (Only.of_below hb).alloc _
  refine ⟨World.rowIs.alloc (World.rowIs.of_block hs (hb.block b hs.lt)) _, ?_, ⟨by have := o.size; have := ht.1; omega, fun t h64 => ?_⟩, o⟩
  · have r := World.rowIs_alloc w1 (wds wt).toArray 78 (wdV wt) (fun i hi => by
      simp only [List.size_toArray, wds_len] at hi
      unfold wds
      simp [hi])
    have e64 : (wds wt).toArray.size = 64 := by rw [List.size_toArray, wds_len]
    rwa [e64] at r
  · rw [← ht.2 t h64, World.cell?_alloc_lt _ _ _ (by have := hb.size; have := ht.1; show 0 < w1.heap.size; omega)]
    exact hb.cell (p := ⟨0, t, none⟩) ht.1

def Eight.arr (v : Eight) : Array Value := #[.int .u32 (v.a.toNat : Int), .int .u32 (v.b.toNat : Int), .int .u32 (v.c.toNat : Int), .int .u32 (v.d.toNat : Int), .int .u32 (v.e.toNat : Int), .int .u32 (v.f.toNat : Int), .int .u32 (v.g.toNat : Int), .int .u32 (v.h.toNat : Int)]
theorem agg_idx (v : Eight) (i : Nat) (hi : i < 8) (w : World) : (Instr.index 59 (.agg v.arr) (.int .i64 (i : Int))).run Tryd.prog w = .ok (.int .u32 ((v.at i).toNat : Int)) w := by
  rcases i with _ | _ | _ | _ | _ | _ | _ | _ | i
  all_goals first | omega | kernel_rfl
/-- What holds while the words are added. -/
def SumInv (w : World) (b : Nat) (v s : Eight) (wt : Nat → UInt8) (n : Nat) (k : Nat) (wr : World) : Prop :=
  strIs wr b (fun j => if j < k then (v.add s).at j else s.at j) wt n ∧ Only b w wr
theorem sum_start {w : World} {b q : Nat} {v s : Eight} {wt : Nat → UInt8} {n : Nat} {wr : World} (i : TbInv w b q s.at wt n wr) : SumInv w b v s wt n 0 wr :=
  ⟨World.rowIs.congr i.1 (fun j _ => by unfold strCell; simp only [Nat.not_lt_zero, if_false]), i.2.2.2⟩
theorem SumInv.drewN {w : World} {b : Nat} {v s : Eight} {wt : Nat → UInt8} {n k : Nat} {wr : World} (i : SumInv w b v s wt n k wr) (q : Nat) : SumInv w b v s wt n k (wr.drewN q) :=
  ⟨World.rowIs.of_block i.1 rfl, i.2.drewN q⟩
/-- A word of a Stream is written. -/
theorem strIs.setWord {w : World} {b : Nat} {h h' : Nat → UInt32} {wt : Nat → UInt8} {n : Nat} (s : strIs w b h wt n) (i : Nat) (hi : i < 8) (v : Int) (hv : v = ((h' i).toNat : Int)) (ho : ∀ j, j < 8 → j ≠ i → h' j = h j) :
    strIs (w.setCell ⟨b, i, none⟩ (.int .u32 v)) b h' wt n :=
  (World.rowIs.set s i _).congr (fun j hj => by
    show (if j = i then _ else strCell h wt n j) = strCell h' wt n j
    unfold strCell
    by_cases e : j = i
    · subst e; rw [if_pos rfl, if_pos hi, hv]
    · rw [if_neg e]
      by_cases h8 : j < 8
      · rw [if_pos h8, if_pos h8, ho j h8 e]
      · rw [if_neg h8, if_neg h8])
theorem SumInv.step {w : World} {b : Nat} {v s : Eight} {wt : Nat → UInt8} {n k : Nat} {wr : World} (i : SumInv w b v s wt n k wr) (hk : k < 8) (z : Int) (hz : z = ((v.at k + s.at k).toNat : Int)) :
    SumInv w b v s wt n (k + 1) (wr.setCell ⟨b, k, none⟩ (.int .u32 z)) := by
  refine ⟨strIs.setWord i.1 k hk z (by rw [if_pos (by omega), Eight.add_at _ _ _ hk]; exact hz) (fun j hj hne => ?_), i.2.setCell (Or.inl rfl) _⟩
  by_cases h : j < k
  · rw [if_pos h, if_pos (by omega)]
  · rw [if_neg h, if_neg (by omega)]

set_option maxRecDepth 100000 in
theorem tb_any (b : Nat) (s : Eight) (wt : Nat → UInt8) (n : Nat) (w : World) (hs : strIs w b s.at wt n) (ht : TabOK w) :
    Calls Tryd.prog 41 #[.pointer (some ⟨b, 0, none⟩)] w fun e w' => e = .returned (.tuple #[]) ∧ strIs w' b (comp s wt).at wt n ∧ Only b w w' := by
  have HS := Lib.hid hs
  have HT := Lib.hid ht
  have hlt := World.rowIs.lt hs
  clear hs ht
  go_enter Tryd.func41, Tryd.ntmps41
  go_wp2_with (first
    | (go_at_call 50; refine (bw_any b s.at wt n _ HS.out hlt).mono ?_; rintro e w1 ⟨rfl, hb1⟩; have HB1 := Lib.hid hb1; clear hb1)
    | (refine wpList_store_row rfl 78 _ _ rfl _ (wds wt).toArray rfl rfl 78 _ (heap_alloc_last _ _) (by rw [wds_size]; exact info43) (Eq.trans rfl (wds_size wt).symm) (wds_one wt) ?_))
  have HI := Lib.hid (tb_start b s.at wt n w w1 HS.out HB1.out HT.out)
  have HQ : w.heap.size ≤ w1.heap.size := HB1.out.size
  clear HS HB1
  generalize hW : World.setRow _ _ _ = w2
  have HI2 := Lib.hid (show TbInv w b w1.heap.size s.at wt n w2 by rw [← hW]; exact HI.out)
  clear HI hW HT
  generalize w1.heap.size = q at HI2 HQ ⊢
  clear w1
  have a0 := HI2.out.1.word 0 (by omega)
  have a1 := HI2.out.1.word 1 (by omega)
  have a2 := HI2.out.1.word 2 (by omega)
  have a3 := HI2.out.1.word 3 (by omega)
  have a4 := HI2.out.1.word 4 (by omega)
  have a5 := HI2.out.1.word 5 (by omega)
  have a6 := HI2.out.1.word 6 (by omega)
  have a7 := HI2.out.1.word 7 (by omega)
  simp only [Eight.at] at a0 a1 a2 a3 a4 a5 a6 a7
  go_quiet (fail)
  go_wp2
  go_quiet (fail)
  go_wp2
  clear a0 a1 a2 a3 a4 a5 a6 a7
  go_loopw [3, 4, 5, 6, 7, 8, 9, 10, 61] (fun va vb vc vd ve vf vg vh i wr => ∃ (k : Nat) (A B C D E F G H : UInt32), k ≤ 64 ∧ i = .int .i64 k ∧ va = .int .u32 (A.toNat : Int) ∧ vb = .int .u32 (B.toNat : Int) ∧ vc = .int .u32 (C.toNat : Int) ∧ vd = .int .u32 (D.toNat : Int) ∧ ve = .int .u32 (E.toNat : Int) ∧ vf = .int .u32 (F.toNat : Int) ∧ vg = .int .u32 (G.toNat : Int) ∧ vh = .int .u32 (H.toNat : Int) ∧ Hid (rnds wt s k = ⟨A, B, C, D, E, F, G, H⟩) ∧ Hid (TbInv w b q s.at wt n wr)) (fun _ _ _ _ _ _ _ _ i _ => 64 - (intOf i).toNat)
  case atStart => exact ⟨0, s.a, s.b, s.c, s.d, s.e, s.f, s.g, s.h, by omega, rfl, rfl, rfl, rfl, rfl, rfl, rfl, rfl, rfl, rfl, (HI2.out.drewN _).drewN _⟩
  case round =>
    obtain ⟨k, A, B, C, D, E, F, G, H, hk, rfl, rfl, rfl, rfl, rfl, rfl, rfl, rfl, rfl, HR, HI4⟩ := hrel
    by_cases h64 : k < 64
    · have t1 := HI4.out.2.2.1.2 k h64
      have t2 := HI4.out.2.1.cell h64
      unfold wdV at t2
      go_wp2_with (go_at_call 51; refine (rot_int _ _ _ (by omega) (by omega)).mono ?_; rintro e w' ⟨rfl, rfl⟩)
      go_quiet (fail)
      go_wp2_with (go_at_call 51; refine (rot_int _ _ _ (by omega) (by omega)).mono ?_; rintro e w' ⟨rfl, rfl⟩)
      go_roundw
      case rel =>
        refine ⟨k + 1, _, A, B, C, _, E, F, G, by omega, by go_num, by rw [x_val, y_val, add_w], rfl, rfl, rfl, by rw [x_val, add_w], rfl, rfl, rfl, ?_, HI4.out.drewN _⟩
        show rnd _ _ _ = _
        rw [HR.out]; rfl
      case measure => simp [intOf]; omega
    · have hd : decide ((k : Int) < 64) = false := by simp; omega
      go_wp2
      have HI5 := Lib.hid (sum_start (v := ⟨A, B, C, D, E, F, G, H⟩) HI4.out)
      have HE := Lib.hid (show rnds wt s 64 = ⟨A, B, C, D, E, F, G, H⟩ by rw [← HR.out, show k = 64 by omega])
      clear HR HI4 HI2
      go_loopw [135] (fun i wr => ∃ k : Nat, k ≤ 8 ∧ i = .int .i64 k ∧ Hid (SumInv w b ⟨A, B, C, D, E, F, G, H⟩ s wt n k wr)) (fun i _ => 8 - (intOf i).toNat)
      case atStart => exact ⟨0, by omega, rfl, HI5⟩
      case round =>
        obtain ⟨i, hi, rfl, HI6⟩ := hrel
        by_cases h8 : i < 8
        · have hix := fun w0 => agg_idx ⟨A, B, C, D, E, F, G, H⟩ i h8 w0
          simp only [Eight.arr] at hix
          have c0 := HI6.out.1.word i h8
          simp only [if_neg (Nat.lt_irrefl i)] at c0
          go_wp2
          go_still_tail 10, (by kernel_rfl)
          change wpList _ _ _ _ _ wr.drew
          have HI7 := Lib.hid (HI6.out.drewN 1)
          rw [← World.drew_is_drewN] at HI7
          clear c0 HI6 hix
          generalize wr.drew = w3 at HI7
          have d0 := HI7.out.1.word i h8
          have f0 : w3.frozen? ⟨b, i, none⟩ = false := HI7.out.1.frozen _
          go_wp2
          go_roundw
          case rel => exact ⟨i + 1, by omega, by go_num, HI7.out.step h8 _ (by rw [add_w]; rw [UInt32.add_comm])⟩
          case measure => simp [intOf]; omega
        · have hd8 : decide ((i : Int) < 8) = false := by simp; omega
          go_wp2
          go_end0
          refine ⟨rfl, HI6.out.1.congr (fun j hj => ?_), HI6.out.2⟩
          unfold strCell
          by_cases e : j < 8
          · rw [if_pos e, if_pos e]
            show Value.int .u32 ((if j < i then _ else _ : UInt32).toNat : Int) = _
            rw [if_pos (by omega)]; unfold comp; rw [HE.out]
          · rw [if_neg e, if_neg e]
end Go.Proofs.YtjmiekhjkeioaaaDoor

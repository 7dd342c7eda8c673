/- The contract of (*Stream).blockWords: the 64 words of the waiting block. -/
import Derived.Test.YtjmiekhjkeioaaaDoorShaA
import Derived.Deep.OwnRows
import Derived.Laws.Slices
import Derived.StillTailTactics
import Derived.Deep.MidRow
import Derived.Deep.WholeRow
import Derived.LoopTactic
import Derived.WalkSmall
namespace Go.Proofs.YtjmiekhjkeioaaaDoor
open Go.RowKit
set_option linter.unusedVariables false

/-- The cells of a Stream: the words, the waiting bytes, the length. -/
def strCell (h : Nat → UInt32) (wt : Nat → UInt8) (n : Nat) (j : Nat) : Value := if j < 8 then .int .u32 ((h j).toNat : Int) else if j < 72 then .int .u8 ((wt (j - 8)).toNat : Int) else .int .i64 (n : Int)
def strIs (w : World) (b : Nat) (h : Nat → UInt32) (wt : Nat → UInt8) (n : Nat) : Prop := w.rowIs b 62 73 (strCell h wt n)
theorem strIs.wt {w : World} {b : Nat} {h : Nat → UInt32} {wt : Nat → UInt8} {n : Nat} (s : strIs w b h wt n) (j : Nat) (hj : j < 64) : w.cell? ⟨b, 8 + j, none⟩ = some (.int .u8 ((wt j).toNat : Int)) := by
  rw [World.rowIs.cell s (by omega)]
  unfold strCell
  rw [if_neg (by omega), if_pos (by omega), Nat.add_sub_cancel_left]
theorem strIs.word {w : World} {b : Nat} {h : Nat → UInt32} {wt : Nat → UInt8} {n : Nat} (s : strIs w b h wt n) (j : Nat) (hj : j < 8) : w.cell? ⟨b, j, none⟩ = some (.int .u32 ((h j).toNat : Int)) := by
  rw [World.rowIs.cell s (by omega)]
  unfold strCell
  rw [if_pos (by omega)]
theorem strIs.len {w : World} {b : Nat} {h : Nat → UInt32} {wt : Nat → UInt8} {n : Nat} (s : strIs w b h wt n) : w.cell? ⟨b, 72, none⟩ = some (.int .i64 (n : Int)) := by
  rw [World.rowIs.cell s (by omega)]; rfl

theorem arrLen29 : Tryd.prog.arrayLen 60 = 64 := by kernel_rfl
theorem arr29 : Tryd.prog.underlying 60 = some (.array (Tryd.prog.arrayLen 60) (Tryd.prog.elem 60)) := by kernel_rfl
theorem size29 (w : World) : (sizeOf (Tryd.prog.elem 60)).run Tryd.prog w = .ok 1 w := by kernel_rfl
theorem slice29 (b k : Nat) (hk : k < 16) (w : World) : (Instr.sliceAt 60 (.pointer (some ⟨b, 8, none⟩)) (some (.int .i64 (4 * (k : Int)))) (some (.int .i64 (4 * (k : Int) + 4))) none).run Tryd.prog w = .ok (.slice (some ⟨b, 8 + 4 * k, none⟩) 4 (64 - 4 * k)) w := by
  rw [run_sliceAt_array_lh w 60 ⟨b, 8, none⟩ arr29 .i64 .i64 (4 * (k : Int)) (4 * (k : Int) + 4) (by omega) (by omega) (by rw [arrLen29]; omega), size29]
  show Result.ok _ w = _
  unfold slicedAt
  rw [arrLen29, if_neg (by omega), Nat.mul_one, show (4 * (k : Int)).toNat = 4 * k by omega, show (4 * (k : Int) + 4).toNat = 4 * k + 4 by omega, show 4 * k + 4 - 4 * k = 4 by omega]
  unfold Addr.add
  split <;> simp_all

theorem add_off (b o l : Nat) : (⟨b, o, none⟩ : Addr).add l = ⟨b, o + l, none⟩ := by
  unfold Addr.add
  split
  · rename_i h; subst h; rfl
  · rfl
theorem arr43 : Tryd.prog.underlying 78 = some (.array 64 35) := by kernel_rfl
theorem size43 (w : World) : (sizeOf 35).run Tryd.prog w = .ok 1 w := by kernel_rfl
/-- The address of an element of an array of 64 words. -/
theorem idx43 (b i : Nat) (m : Int) (hm : m = (i : Int)) (hi : i < 64) (w : World) : (Instr.indexAt 78 (.pointer (some ⟨b, 0, none⟩)) (.int .i64 m)).run Tryd.prog w = .ok (.pointer (some ⟨b, i, none⟩)) w := by
  subst hm
  have h1 : (0 : Int) ≤ i ∧ (i : Int) < (64 : Nat) := ⟨by omega, by omega⟩
  simp [Instr.indexAt, asIntOf, run_underlying arr43, Instr.sureAddr, add_off]
  omega

/-- One more cell of a row that is filled from the left. -/
theorem row_next {w : World} {b T N : Nat} {f : Nat → Value} {z : Value} {k : Nat} (h : w.rowIs b T N (fun j => if j < k then f j else z)) (v : Value) (hv : v = f k) :
    (w.setCell ⟨b, k, none⟩ v).rowIs b T N (fun j => if j < k + 1 then f j else z) :=
  (h.set k v).congr (fun j _ => by
    show (if j = k then v else if j < k then f j else z) = _
    by_cases e : j = k
    · rw [if_pos e, if_pos (by omega), hv, e]
    · rw [if_neg e]
      by_cases h1 : j < k
      · rw [if_pos h1, if_pos (by omega)]
      · rw [if_neg h1, if_neg (by omega)])
theorem row_past {w : World} {b T N : Nat} {f : Nat → Value} {z : Value} {k : Nat} (h : w.rowIs b T N (fun j => if j < k then f j else z)) (j : Nat) (hj : j < k) (hk : k ≤ N) : w.cell? ⟨b, j, none⟩ = some (f j) := by
  rw [h.cell (by omega)]; show some (if j < k then f j else z) = _; rw [if_pos hj]
theorem row_at {w : World} {b T N : Nat} {f : Nat → Value} {z : Value} {k : Nat} (h : w.rowIs b T N (fun j => if j < k then f j else z)) (hk : k < N) : w.cell? ⟨b, k, none⟩ = some z := by
  rw [h.cell (by omega)]; show some (if k < k then f k else z) = _; rw [if_neg (by omega)]

/-- The words of a block, as values. -/
def wdV (wt : Nat → UInt8) (j : Nat) : Value := .int .u32 ((Wd wt j).toNat : Int)
def wds (wt : Nat → UInt8) : List Value := (List.range 64).map (wdV wt)
theorem wds_len (wt : Nat → UInt8) : (wds wt).length = 64 := by unfold wds; simp
theorem wds_size (wt : Nat → UInt8) : (wds wt).toArray.size = 64 := by rw [List.size_toArray, wds_len]
theorem wds_one (wt : Nat → UInt8) : (wds wt).toArray.all (·.oneCell') = true := all_oneCell_toArray (fun v hv => by
  unfold wds at hv
  obtain ⟨j, _, rfl⟩ := List.mem_map.1 hv
  rfl)
theorem info43 : (Tryd.prog.info? 78).map (·.size) = some 64 := by kernel_rfl
theorem rangeAt_row {w : World} {b T N : Nat} {f : Nat → Value} (h : w.rowIs b T N f) (l : List Value) (hl : l.length = N) (hf : ∀ j, j < N → l[j]? = some (f j)) : w.rangeAt b 0 l := fun j v hv => by
  have hj : j < N := by rw [← hl]; exact (List.getElem?_eq_some_iff.1 hv).1
  rw [Nat.zero_add, h.cell hj, ← hf j hj, hv]
theorem wds_range {w : World} {b T k : Nat} {z : Value} {wt : Nat → UInt8} (hk : k = 64) (h : w.rowIs b T 64 (fun j => if j < k then wdV wt j else z)) : w.rangeAt b 0 (wds wt) :=
  rangeAt_row h _ (wds_len wt) (fun j hj => by
    rw [if_pos (by omega)]
    unfold wds
    simp [hj])
theorem below_setRow {B : Nat} {a w : World} (h : Below B a w) {g : Nat} (hg : B ≤ g) (cs : Array Value) : Below B a (w.setRow g cs) :=
  ⟨h.os, h.tape, h.output, by simpa using h.size, fun k hk => by rw [setRow_other w g k cs (by omega)]; exact h.block k hk⟩
/-- What holds in the loops of blockWords: the Stream, and the words so far. -/
def BwInv (w : World) (b : Nat) (h : Nat → UInt32) (wt : Nat → UInt8) (n : Nat) (k : Nat) (wr : World) : Prop :=
  strIs wr b h wt n ∧ wr.rowIs (w.heap.size + 1) 78 64 (fun j => if j < k then wdV wt j else .int .u32 0) ∧ wr.rowIs w.heap.size 78 64 (fun _ => .int .u32 0) ∧ Below w.heap.size w wr
theorem BwInv.drew {w : World} {b : Nat} {h : Nat → UInt32} {wt : Nat → UInt8} {n k : Nat} {wr : World} (i : BwInv w b h wt n k wr) : BwInv w b h wt n k wr.drew :=
  ⟨World.rowIs.drew i.1, i.2.1.drew, i.2.2.1.drew, i.2.2.2.drew⟩
theorem BwInv.drewN {w : World} {b : Nat} {h : Nat → UInt32} {wt : Nat → UInt8} {n k : Nat} {wr : World} (i : BwInv w b h wt n k wr) (q : Nat) : BwInv w b h wt n k (wr.drewN q) :=
  ⟨World.rowIs.of_block i.1 rfl, i.2.1.of_block rfl, i.2.2.1.of_block rfl, below_drewN i.2.2.2 q⟩
theorem BwInv.step {w : World} {b : Nat} {h : Nat → UInt32} {wt : Nat → UInt8} {n k : Nat} {wr : World} (i : BwInv w b h wt n k wr) (hlt : b < w.heap.size) (v : Int) (hv : v = ((Wd wt k).toNat : Int)) :
    BwInv w b h wt n (k + 1) (wr.setCell ⟨w.heap.size + 1, k, none⟩ (.int .u32 v)) :=
  ⟨World.rowIs.setOther i.1 (by show b ≠ w.heap.size + 1; omega) _, row_next i.2.1 _ (by unfold wdV; rw [hv]), i.2.2.1.setOther (by show w.heap.size ≠ w.heap.size + 1; omega) _, i.2.2.2.setCell (Nat.le_succ _) _⟩

theorem bw_start (b : Nat) (h : Nat → UInt32) (wt : Nat → UInt8) (n : Nat) (w : World) (hs : strIs w b h wt n) :
    BwInv w b h wt n 0 ((w.alloc (.cells (Array.replicate 64 (.int .u32 0)) 78)).alloc (.cells (Array.replicate 64 (.int .u32 0)) 78)) := by
  have r1 := World.rowIs_alloc w (Array.replicate 64 (.int .u32 0)) 78 (fun _ => .int .u32 0) (fun i hi => by
    rw [Array.getElem?_replicate, if_pos (by simpa using hi)])
  have r2 := World.rowIs_alloc (w.alloc (.cells (Array.replicate 64 (.int .u32 0)) 78)) (Array.replicate 64 (.int .u32 0)) 78 (fun _ => .int .u32 0) (fun i hi => by
    rw [Array.getElem?_replicate, if_pos (by simpa using hi)])
  rw [Array.size_replicate] at r1 r2
  have e : (w.alloc (.cells (Array.replicate 64 (.int .u32 0)) 78)).heap.size = w.heap.size + 1 := by show (w.heap.push _).size = _; simp
  rw [e] at r2
  refine ⟨World.rowIs.alloc (World.rowIs.alloc hs _) _, r2.congr (fun j _ => by rw [if_neg (by omega)]), r1.alloc _, ((Below.refl _ _).alloc (Nat.le_refl _) _).alloc (by rw [e]; omega) _⟩
set_option maxRecDepth 100000 in
theorem bw_any (b : Nat) (h : Nat → UInt32) (wt : Nat → UInt8) (n : Nat) (w : World) (hs : strIs w b h wt n) (hlt : b < w.heap.size) :
    Calls Tryd.prog 50 #[.pointer (some ⟨b, 0, none⟩)] w fun e w' => e = .returned (.agg (wds wt).toArray) ∧ Below w.heap.size w w' := by
  have HS := Lib.hid hs
  clear hs
  go_enter Tryd.func50, Tryd.ntmps50
  go_wp2
  go_loopw [9] (fun i wr => ∃ k : Nat, k ≤ 16 ∧ i = .int .i64 k ∧ Hid (BwInv w b h wt n k wr)) (fun i _ => 16 - (intOf i).toNat)
  case atStart => exact ⟨0, by omega, rfl, bw_start b h wt n w HS.out⟩
  case round =>
    obtain ⟨k, hk, rfl, HI⟩ := hrel
    by_cases hlt16 : k < 16
    · have hsl := fun w0 => slice29 b k hlt16 w0
      have c0 := HI.out.1.wt (4 * k) (by omega)
      have c1 := HI.out.1.wt (4 * k + 1) (by omega)
      have c2 := HI.out.1.wt (4 * k + 2) (by omega)
      have c3 := HI.out.1.wt (4 * k + 3) (by omega)
      simp only [← Nat.add_assoc] at c0 c1 c2 c3
      go_wp2
      go_still_tail 23, (by kernel_rfl)
      change wpList _ _ _ _ _ wr.drew
      have HI2 := Lib.hid HI.out.drew
      clear c0 c1 c2 c3 HI hsl
      generalize wr.drew = w2 at HI2
      have d0 := row_at HI2.out.2.1 (by omega : k < 64)
      have f0 : w2.frozen? ⟨w.heap.size + 1, k, none⟩ = false := HI2.out.2.1.frozen _
      go_wp2
      go_roundw
      case rel =>
        exact ⟨k + 1, by omega, by go_num, HI2.out.step hlt _ (by rw [Wd_low _ _ hlt16]; exact be4_val _ _ _ _)⟩
      case measure => simp [intOf]; omega
    · have Hk := Lib.hid (show k = 16 by omega)
      go_wp2
      go_loopw [6] (fun i wr => ∃ k : Nat, 16 ≤ k ∧ k ≤ 64 ∧ i = .int .i64 k ∧ Hid (BwInv w b h wt n k wr)) (fun i _ => 64 - (intOf i).toNat)
      case atStart => exact ⟨16, by omega, by omega, rfl, by rw [Hk.out] at HI; exact HI⟩
      case round =>
        obtain ⟨k, hk0, hk, rfl, HI2⟩ := hrel
        clear HI
        by_cases hlt64 : k < 64
        · have c2 := row_past HI2.out.2.1 (k - 2) (by omega) hk
          have c15 := row_past HI2.out.2.1 (k - 15) (by omega) hk
          unfold wdV at c2 c15
          go_wp2
          go_quiet (fail)
          have HI3 := Lib.hid (HI2.out.drewN nq)
          clear c2 c15 HI2
          generalize wr.drewN nq = w2 at HI3
          have c7 := row_past HI3.out.2.1 (k - 7) (by omega) hk
          have c16 := row_past HI3.out.2.1 (k - 16) (by omega) hk
          unfold wdV at c7 c16
          go_wp2_with (go_at_call 51; refine (rot_int _ _ _ (by omega) (by omega)).mono ?_; rintro e w' ⟨rfl, rfl⟩)
          have e7 : IntKind.i64.wrap ((k : Int) - 7) = (k : Int) - 7 := IntWalk.i64_in _ (by omega)
          have e16 : IntKind.i64.wrap ((k : Int) - 16) = (k : Int) - 16 := IntWalk.i64_in _ (by omega)
          have g7 := fun w0 => idx43 (w.heap.size + 1) (k - 7) ((k : Int) - 7) (by omega) (by omega) w0
          have g16 := fun w0 => idx43 (w.heap.size + 1) (k - 16) ((k : Int) - 16) (by omega) (by omega) w0
          go_still_tail 14, (by kernel_rfl)
          clear e7 g7 e16 g16
          change wpList _ _ _ _ _ w2.drew
          have HI4 := Lib.hid HI3.out.drew
          clear c7 c16 HI3
          generalize w2.drew = w3 at HI4
          have d0 := row_at HI4.out.2.1 hlt64
          have f0 : w3.frozen? ⟨w.heap.size + 1, k, none⟩ = false := HI4.out.2.1.frozen _
          go_wp2
          go_roundw
          case rel =>
            refine ⟨k + 1, by omega, by omega, by go_num, HI4.out.step hlt _ ?_⟩
            rw [Wd_high _ _ hk0]
            exact wd_val _ _ _ _
          case measure => simp [intOf]; omega
        · have HR := Lib.hid (wds_range (by omega) HI2.out.2.1)
          obtain ⟨old, hg0, hsz, -⟩ := HI2.out.2.2.1
          have HG := Lib.hid hg0
          have HZ := Lib.hid hsz
          have HB := Lib.hid HI2.out.2.2.2
          clear hg0 hsz HI2 HS
          go_wp2_with (first
            | (refine wpList_load_mid rfl 78 _ rfl (w.heap.size + 1) 0 rfl (wds wt) _ HR.out arr43 rfl (by rw [wds_len]; exact info43) ?_)
            | (refine wpList_store_row rfl 78 _ _ rfl w.heap.size (wds wt).toArray rfl rfl 78 old HG.out (by rw [List.size_toArray, wds_len]; exact info43) (by rw [HZ.out, List.size_toArray, wds_len]) (wds_one wt) ?_))
          exact bodyPost_ret (results_cell_row rfl _ _ _ 78 _ _ _ rfl (setRow_heap _ _ _ _ _ _ HG.out) arr43 rfl (by rw [List.size_toArray, wds_len]; exact info43)) rfl ⟨rfl, below_setRow HB.out (Nat.le_refl _) _⟩
end Go.Proofs.YtjmiekhjkeioaaaDoor

/- Contracts of the reference: consts, begin, block. -/
import Derived.Test.YtjmiekhjkeioaaaDoorShaH
import Derived.Test.YtjmiekhjkeioaaaDoorQTail
namespace Go.Proofs.YtjmiekhjkeioaaaDoor
open Go.RowKit
set_option linter.unusedVariables false

def kV (t : Nat) : Value := .int .u32 ((Kc t).toNat : Int)
def kVs : List Value := (List.range 64).map kV
theorem kVs_len : kVs.length = 64 := by unfold kVs; simp
theorem kVs_size : kVs.toArray.size = 64 := by rw [List.size_toArray, kVs_len]
theorem kVs_at (j : Nat) (hj : j < 64) : kVs[j]? = some (kV j) := by unfold kVs; simp [hj]
theorem kVs_one : kVs.toArray.all (·.oneCell') = true := all_oneCell_toArray (fun v hv => by
  unfold kVs at hv
  obtain ⟨j, _, rfl⟩ := List.mem_map.1 hv
  rfl)
set_option maxRecDepth 100000 in
theorem consts_any (w : World) : Calls Tryd.prog 44 #[] w fun e w' => e = .returned (.agg kVs.toArray) ∧ Below w.heap.size w w' := by
  go_enter Tryd.func44, Tryd.ntmps44
  go_wp2_with (first
    | (refine wpList_build rfl 78 _ rfl (by kernel_rfl) ?_; generalize hk : Option.getD _ #[] = ks; obtain rfl : ks = kVs.toArray := (by rw [← hk]; kernel_rfl); clear hk)
    | (refine wpList_store_row rfl 78 _ _ rfl _ kVs.toArray rfl rfl 78 _ (heap_alloc_last _ _) (by rw [kVs_size]; exact info43) (Eq.trans rfl kVs_size.symm) kVs_one ?_))
  exact bodyPost_ret (results_cell_row rfl _ _ _ 78 _ _ _ rfl (setRow_heap _ _ _ _ _ _ (heap_alloc_last _ _)) arr43 rfl (by rw [kVs_size]; exact info43)) rfl ⟨rfl, below_setRow ((Below.refl _ _).alloc (Nat.le_refl _) _) (Nat.le_refl _) _⟩
theorem begin_any (w : World) : Calls Tryd.prog 29 #[] w fun e w' => e = .returned (.agg init8.arr) ∧ Below w.heap.size w w' := by
  go_enter Tryd.func29, Tryd.ntmps29
  go_wp2
  exact bodyPost_ret (results_cell_row rfl _ _ _ 59 _ _ _ rfl (heap_alloc_last _ _) arr28 rfl info28) rfl ⟨by kernel_rfl, (Below.refl _ _).alloc (Nat.le_refl _) _⟩

/-- What holds in the first two loops of block. -/
def BlInv (w : World) (v : Eight) (B : Nat → UInt8) (k : Nat) (wr : World) : Prop :=
  wr.rowIs (w.heap.size + 1 + 1) 78 64 (fun j => if j < k then wdV B j else .int .u32 0) ∧ wr.rowIs w.heap.size 59 8 (fun j => .int .u32 ((v.at j).toNat : Int)) ∧ wr.rowIs (w.heap.size + 1) 59 8 (fun _ => .int .u32 0) ∧ Below w.heap.size w wr
theorem BlInv.drewN {w : World} {v : Eight} {B : Nat → UInt8} {k : Nat} {wr : World} (i : BlInv w v B k wr) (q : Nat) : BlInv w v B k (wr.drewN q) :=
  ⟨i.1.of_block rfl, i.2.1.of_block rfl, i.2.2.1.of_block rfl, below_drewN i.2.2.2 q⟩
theorem BlInv.step {w : World} {v : Eight} {B : Nat → UInt8} {k : Nat} {wr : World} (i : BlInv w v B k wr) (z : Int) (hz : z = ((Wd B k).toNat : Int)) : BlInv w v B (k + 1) (wr.setCell ⟨w.heap.size + 1 + 1, k, none⟩ (.int .u32 z)) :=
  ⟨row_next i.1 _ (by unfold wdV; rw [hz]), i.2.1.setOther (by show w.heap.size ≠ w.heap.size + 1 + 1; omega) _, i.2.2.1.setOther (by show w.heap.size + 1 ≠ w.heap.size + 1 + 1; omega) _, i.2.2.2.setCell (by show w.heap.size ≤ w.heap.size + 1 + 1; omega) _⟩
theorem arr_row {v : Eight} {w : World} {b T : Nat} (h : w.heap[b]? = some (.cells v.arr T (0, 0))) : w.rowIs b T 8 (fun j => .int .u32 ((v.at j).toNat : Int)) :=
  ⟨v.arr, h, rfl, fun i hi => by
    rcases i with _ | _ | _ | _ | _ | _ | _ | _ | i
    all_goals first | omega | rfl⟩
theorem bl_start (w : World) (v : Eight) (B : Nat → UInt8) :
    BlInv w v B 0 (((w.alloc (.cells v.arr 59)).alloc (.cells (Array.replicate 8 (.int .u32 0)) 59)).alloc (.cells (Array.replicate 64 (.int .u32 0)) 78)) := by
  have r1 := World.rowIs_alloc (w.alloc (.cells v.arr 59)) (Array.replicate 8 (.int .u32 0)) 59 (fun _ => .int .u32 0) (fun i hi => by
    rw [Array.getElem?_replicate, if_pos (by simpa using hi)])
  have r2 := World.rowIs_alloc ((w.alloc (.cells v.arr 59)).alloc (.cells (Array.replicate 8 (.int .u32 0)) 59)) (Array.replicate 64 (.int .u32 0)) 78 (fun _ => .int .u32 0) (fun i hi => by
    rw [Array.getElem?_replicate, if_pos (by simpa using hi)])
  rw [Array.size_replicate] at r1 r2
  rw [size_alloc] at r1
  rw [size_alloc, size_alloc] at r2
  have r0 : (w.alloc (.cells v.arr 59)).rowIs w.heap.size 59 8 (fun j => .int .u32 ((v.at j).toNat : Int)) := arr_row (heap_alloc_last _ _)
  exact ⟨r2.congr (fun j _ => by rw [if_neg (by omega)]), (r0.alloc _).alloc _, r1.alloc _, (((Below.refl _ _).alloc (Nat.le_refl _) _).alloc (by rw [size_alloc]; omega) _).alloc (by rw [size_alloc, size_alloc]; omega) _⟩
/-- What holds in the rounds. -/
def RdInv (w : World) (v : Eight) (B : Nat → UInt8) (q k : Nat) (wr : World) : Prop :=
  wr.rowIs (q + 1) 59 8 (fun j => .int .u32 (((rnds B v k).at j).toNat : Int)) ∧ wr.rowIs q 78 64 kV ∧ wr.rowIs (w.heap.size + 1 + 1) 78 64 (wdV B) ∧ wr.rowIs w.heap.size 59 8 (fun j => .int .u32 ((v.at j).toNat : Int)) ∧
    wr.rowIs (w.heap.size + 1) 59 8 (fun _ => .int .u32 0) ∧ Below w.heap.size w wr ∧ w.heap.size + 1 + 1 < q
theorem RdInv.drewN {w : World} {v : Eight} {B : Nat → UInt8} {q k : Nat} {wr : World} (i : RdInv w v B q k wr) (n : Nat) : RdInv w v B q k (wr.drewN n) :=
  ⟨i.1.of_block rfl, i.2.1.of_block rfl, i.2.2.1.of_block rfl, i.2.2.2.1.of_block rfl, i.2.2.2.2.1.of_block rfl, below_drewN i.2.2.2.2.2.1 n, i.2.2.2.2.2.2⟩
theorem RdInv.cells {w : World} {v : Eight} {B : Nat → UInt8} {q t : Nat} {wr : World} (i : RdInv w v B q t wr) (e8 : Eight) (he : e8 = rnds B v t) (ht : t < 64) :
    wr.cell? ⟨q + 1, 0, none⟩ = some (.int .u32 (e8.a.toNat : Int)) ∧ wr.cell? ⟨q + 1, 1, none⟩ = some (.int .u32 (e8.b.toNat : Int)) ∧ wr.cell? ⟨q + 1, 2, none⟩ = some (.int .u32 (e8.c.toNat : Int)) ∧ wr.cell? ⟨q + 1, 3, none⟩ = some (.int .u32 (e8.d.toNat : Int)) ∧
    wr.cell? ⟨q + 1, 4, none⟩ = some (.int .u32 (e8.e.toNat : Int)) ∧ wr.cell? ⟨q + 1, 5, none⟩ = some (.int .u32 (e8.f.toNat : Int)) ∧ wr.cell? ⟨q + 1, 6, none⟩ = some (.int .u32 (e8.g.toNat : Int)) ∧ wr.cell? ⟨q + 1, 7, none⟩ = some (.int .u32 (e8.h.toNat : Int)) ∧
    wr.cell? ⟨q, t, none⟩ = some (.int .u32 ((Kc t).toNat : Int)) ∧ wr.cell? ⟨w.heap.size + 1 + 1, t, none⟩ = some (.int .u32 ((Wd B t).toNat : Int)) := by
  subst he
  exact ⟨i.1.cell (i := 0) (by omega), i.1.cell (i := 1) (by omega), i.1.cell (i := 2) (by omega), i.1.cell (i := 3) (by omega), i.1.cell (i := 4) (by omega), i.1.cell (i := 5) (by omega), i.1.cell (i := 6) (by omega), i.1.cell (i := 7) (by omega), i.2.1.cell ht, i.2.2.1.cell ht⟩
theorem RdInv.row {w : World} {v : Eight} {B : Nat → UInt8} {q t : Nat} {wr : World} (i : RdInv w v B q t wr) : ∃ old : Array Value, wr.heap[q + 1]? = some (.cells old 59 (0, 0)) ∧ old.size = 8 := by
  obtain ⟨old, h1, h2, -⟩ := i.1
  exact ⟨old, h1, h2⟩
theorem RdInv.step {w : World} {v : Eight} {B : Nat → UInt8} {q k : Nat} {wr : World} (i : RdInv w v B q k wr) (c : Array Value) (hc : c = (rnds B v (k + 1)).arr) : RdInv w v B q (k + 1) (wr.setRow (q + 1) c) := by
  obtain ⟨h1, h2, h3, h4, h5, h6, h7⟩ := i
  obtain ⟨old, hg, -, -⟩ := h1
  subst hc
  exact ⟨arr_row (setRow_heap _ _ _ _ _ _ hg), h2.of_block (setRow_other _ _ _ _ (by omega)), h3.of_block (setRow_other _ _ _ _ (by omega)), h4.of_block (setRow_other _ _ _ _ (by omega)), h5.of_block (setRow_other _ _ _ _ (by omega)), below_setRow h6 (by omega) _, h7⟩
theorem rd_start {w w0 w1 : World} {v : Eight} {B : Nat → UInt8} {k : Nat} (i : BlInv w v B k w0) (hk : k = 64) (hb : Below w0.heap.size w0 w1) :
    RdInv w v B w1.heap.size 0 ((w1.alloc (.cells kVs.toArray 78)).alloc (.cells v.arr 59)) := by
  obtain ⟨h1, h2, h3, h4⟩ := i
  have hq : w.heap.size + 1 + 1 < w1.heap.size := Nat.lt_of_lt_of_le h1.lt hb.size
  have r1 := World.rowIs_alloc w1 kVs.toArray 78 kV (fun i hi => by
    rw [kVs_size] at hi; simpa using kVs_at i hi)
  rw [kVs_size] at r1
  have r2 : ((w1.alloc (.cells kVs.toArray 78)).alloc (.cells v.arr 59)).rowIs (w1.heap.size + 1) 59 8 (fun j => .int .u32 ((v.at j).toNat : Int)) := arr_row (heap_alloc2_new _ _ _)
  exact ⟨r2, r1.alloc _, (((h1.congr (fun j hj => by rw [if_pos (by omega)])).of_block (hb.block _ h1.lt)).alloc _).alloc _, ((h2.of_block (hb.block _ h2.lt)).alloc _).alloc _, ((h3.of_block (hb.block _ h3.lt)).alloc _).alloc _,
    ((h4.trans (hb.mono h4.size)).alloc (by omega) _).alloc (by rw [size_alloc]; omega) _, hq⟩
/-- What holds while the words are added. -/
def FinInv (w : World) (v : Eight) (B : Nat → UInt8) (q k : Nat) (wr : World) : Prop :=
  wr.rowIs (q + 1) 59 8 (fun j => .int .u32 ((if j < k then (comp v B).at j else (rnds B v 64).at j).toNat : Int)) ∧ wr.rowIs w.heap.size 59 8 (fun j => .int .u32 ((v.at j).toNat : Int)) ∧
    wr.rowIs (w.heap.size + 1) 59 8 (fun _ => .int .u32 0) ∧ Below w.heap.size w wr ∧ w.heap.size + 1 + 1 < q
theorem FinInv.drewN {w : World} {v : Eight} {B : Nat → UInt8} {q k : Nat} {wr : World} (i : FinInv w v B q k wr) (n : Nat) : FinInv w v B q k (wr.drewN n) :=
  ⟨i.1.of_block rfl, i.2.1.of_block rfl, i.2.2.1.of_block rfl, below_drewN i.2.2.2.1 n, i.2.2.2.2⟩
theorem fin_start {w : World} {v : Eight} {B : Nat → UInt8} {q k : Nat} {wr : World} (i : RdInv w v B q k wr) (hk : k = 64) : FinInv w v B q 0 wr := by
  subst hk
  exact ⟨i.1.congr (fun j _ => by rw [if_neg (by omega)]), i.2.2.2.1, i.2.2.2.2.1, i.2.2.2.2.2.1, i.2.2.2.2.2.2⟩
theorem FinInv.step {w : World} {v : Eight} {B : Nat → UInt8} {q k : Nat} {wr : World} (i : FinInv w v B q k wr) (hk : k < 8) (z : Int) (hz : z = (((rnds B v 64).at k + v.at k).toNat : Int)) : FinInv w v B q (k + 1) (wr.setCell ⟨q + 1, k, none⟩ (.int .u32 z)) := by
  refine ⟨(i.1.set k _).congr (fun j hj => ?_), i.2.1.setOther (by show w.heap.size ≠ q + 1; have := i.2.2.2.2; omega) _, i.2.2.1.setOther (by show w.heap.size + 1 ≠ q + 1; have := i.2.2.2.2; omega) _, i.2.2.2.1.setCell (by show w.heap.size ≤ q + 1; have := i.2.2.2.2; omega) _, i.2.2.2.2⟩
  by_cases e : j = k
  · subst e
    rw [if_pos rfl, if_pos (by omega), hz]; unfold comp; rw [Eight.add_at _ _ _ hk]
  · rw [if_neg e]
    by_cases h : j < k
    · rw [if_pos h, if_pos (by omega)]
    · rw [if_neg h, if_neg (by omega)]
theorem chx_val (e f g : UInt32) : bits BinOp.xor IntKind.u32 (bits BinOp.and IntKind.u32 (e.toNat : Int) (f.toNat : Int)) (bits BinOp.and IntKind.u32 (bits BinOp.xor IntKind.u32 IntKind.u32.max (e.toNat : Int)) (g.toNat : Int)) = ((chW e f g).toNat : Int) := by
  rw [not_w, bits_and_w, bits_and_w, bits_xor_w, chW_xor]
theorem majx_val (a b c : UInt32) : bits BinOp.xor IntKind.u32 (bits BinOp.xor IntKind.u32 (bits BinOp.and IntKind.u32 (a.toNat : Int) (b.toNat : Int)) (bits BinOp.and IntKind.u32 (a.toNat : Int) (c.toNat : Int))) (bits BinOp.and IntKind.u32 (b.toNat : Int) (c.toNat : Int)) = ((majW a b c).toNat : Int) := by
  rw [bits_and_w, bits_and_w, bits_and_w, bits_xor_w, bits_xor_w, majW_xor]
theorem add7_w (a b c d e f g : UInt32) : ((a.toNat : Int) + (b.toNat : Int) + (c.toNat : Int) + (d.toNat : Int) + (e.toNat : Int) + ((f.toNat : Int) + (g.toNat : Int))) % 4294967296 = ((a + b + c + d + e + (f + g)).toNat : Int) := by
  simp only [UInt32.toNat_add]; omega
theorem add6_w (a b c d e f : UInt32) : ((a.toNat : Int) + ((b.toNat : Int) + (c.toNat : Int) + (d.toNat : Int) + (e.toNat : Int) + (f.toNat : Int))) % 4294967296 = ((a + (b + c + d + e + f)).toNat : Int) := by
  simp only [UInt32.toNat_add]; omega
theorem eight_range {w : World} {b T : Nat} {v : Eight} (h : w.rowIs b T 8 (fun j => .int .u32 ((v.at j).toNat : Int))) : w.rangeAt b 0 v.arr.toList :=
  rangeAt_row h _ rfl (fun j hj => by
    rcases j with _ | _ | _ | _ | _ | _ | _ | _ | j
    all_goals first | omega | rfl)
theorem fin_range {w : World} {v : Eight} {B : Nat → UInt8} {q k : Nat} {wr : World} (i : FinInv w v B q k wr) (hk : 8 ≤ k) : wr.rangeAt (q + 1) 0 (comp v B).arr.toList :=
  eight_range (i.1.congr (fun j hj => by rw [if_pos (by omega)]))
theorem arr_one (v : Eight) : v.arr.all (·.oneCell') = true := by
  unfold Eight.arr; simp [Value.oneCell']

theorem idxStr (s : ByteArray) (i : Nat) (c : UInt8) (m : Int) (hm : m = (i : Int)) (h : s.data.toList[i]? = some c) (w : World) : (Instr.index 9 (.string s) (.int .i64 m)).run Tryd.prog w = .ok (.int .u8 (c.toNat : Int)) w := by
  subst hm
  have hl : i < s.size := by rw [size_toList]; exact (List.getElem?_eq_some_iff.1 h).1
  have hc : s[i]'hl = c := by
    obtain ⟨h1, h2⟩ := List.getElem?_eq_some_iff.1 h
    rw [← h2]; rfl
  rw [run_index_string _ 9 s .i64 _ Tryd.underlying9]
  simp [hl, hc]

set_option maxHeartbeats 4000000 in
set_option maxRecDepth 100000 in
theorem block_any (v : Eight) (s : ByteArray) (B : Nat → UInt8) (hB : ∀ j, j < 64 → s.data.toList[j]? = some (B j)) (w : World) :
    Calls Tryd.prog 31 #[.agg v.arr, .string s] w fun e w' => e = .returned (.agg (comp v B).arr) ∧ Below w.heap.size w w' := by
  have HB := Lib.hid hB
  clear hB
  have HI := Lib.hid (bl_start w v B)
  unfold Eight.arr
  go_enter Tryd.func31, Tryd.ntmps31
  go_wp2_with fail
  go_loopw [6] (fun i wr => ∃ k : Nat, k ≤ 16 ∧ i = .int .i64 k ∧ Hid (BlInv w v B k wr)) (fun i _ => 16 - (intOf i).toNat)
  case atStart => exact ⟨0, by omega, rfl, HI⟩
  case round =>
    obtain ⟨k, hk, rfl, HI2⟩ := hrel
    clear HI
    by_cases hlt16 : k < 16
    · have x0 := fun w0 => idxStr s (4 * k) _ (4 * (k : Int)) (by omega) (HB.out (4 * k) (by omega)) w0
      have x1 := fun w0 => idxStr s (4 * k + 1) _ (4 * (k : Int) + 1) (by omega) (HB.out (4 * k + 1) (by omega)) w0
      have x2 := fun w0 => idxStr s (4 * k + 2) _ (4 * (k : Int) + 2) (by omega) (HB.out (4 * k + 2) (by omega)) w0
      have x3 := fun w0 => idxStr s (4 * k + 3) _ (4 * (k : Int) + 3) (by omega) (HB.out (4 * k + 3) (by omega)) w0
      have e0 : IntKind.i64.wrap (4 * (k : Int)) = 4 * (k : Int) := IntWalk.i64_in _ (by omega)
      have e1 : IntKind.i64.wrap (4 * (k : Int) + 1) = 4 * (k : Int) + 1 := IntWalk.i64_in _ (by omega)
      have e2 : IntKind.i64.wrap (4 * (k : Int) + 2) = 4 * (k : Int) + 2 := IntWalk.i64_in _ (by omega)
      have e3 : IntKind.i64.wrap (4 * (k : Int) + 3) = 4 * (k : Int) + 3 := IntWalk.i64_in _ (by omega)
      go_wp2_with fail
      go_still_tail 30, (by kernel_rfl)
      change wpList _ _ _ _ _ wr.drew
      have HI3 := Lib.hid (HI2.out.drewN 1)
      rw [← World.drew_is_drewN] at HI3
      clear x0 x1 x2 x3 e0 e1 e2 e3 HI2
      generalize wr.drew = w2 at HI3
      have d0 := row_at HI3.out.1 (by omega : k < 64)
      have f0 : w2.frozen? ⟨w.heap.size + 1 + 1, k, none⟩ = false := HI3.out.1.frozen _
      go_wp2
      go_roundw
      case rel =>
        exact ⟨k + 1, by omega, by go_num, HI3.out.step _ (by rw [Wd_low _ _ hlt16]; exact be4_val _ _ _ _)⟩
      case measure => simp [intOf]; omega
    · have Hk := Lib.hid (show k = 16 by omega)
      have hd : decide ((k : Int) < 16) = false := by simp; omega
      go_wp2_with fail
      clear hd
      go_loopw [7] (fun i wr => ∃ k : Nat, 16 ≤ k ∧ k ≤ 64 ∧ i = .int .i64 k ∧ Hid (BlInv w v B k wr)) (fun i _ => 64 - (intOf i).toNat)
      case atStart => exact ⟨16, by omega, by omega, rfl, by rw [Hk.out] at HI2; exact HI2⟩
      case round =>
        clear HI2
        obtain ⟨k, hk0, hk, rfl, HI2⟩ := hrel
        by_cases hlt64 : k < 64
        · have c2 := row_past HI2.out.1 (k - 2) (by omega) hk
          have c15 := row_past HI2.out.1 (k - 15) (by omega) hk
          unfold wdV at c2 c15
          go_wp2_with fail
          go_quiet (fail)
          have HI3 := Lib.hid (HI2.out.drewN nq)
          clear c2 c15 HI2
          generalize wr.drewN nq = w2 at HI3
          have c7 := row_past HI3.out.1 (k - 7) (by omega) hk
          have c16 := row_past HI3.out.1 (k - 16) (by omega) hk
          unfold wdV at c7 c16
          have e7 : IntKind.i64.wrap ((k : Int) - 7) = (k : Int) - 7 := IntWalk.i64_in _ (by omega)
          have e16 : IntKind.i64.wrap ((k : Int) - 16) = (k : Int) - 16 := IntWalk.i64_in _ (by omega)
          have g7 := fun w0 => idx43 (w.heap.size + 1 + 1) (k - 7) ((k : Int) - 7) (by omega) (by omega) w0
          have g16 := fun w0 => idx43 (w.heap.size + 1 + 1) (k - 16) ((k : Int) - 16) (by omega) (by omega) w0
          go_wp2_with fail
          refine wp_region_quiet_tail_lit 28 (by kernel_rfl) (by kernel_rfl) ?_
          simp only [List.take_succ_cons, List.take_zero, List.drop_succ_cons, List.drop_zero]
          repeat (go_big_quiet_step ((go_at_call 43; exact Calls.quiet_of (turn_int _ _ _ (by omega) (by omega)))))
          refine wpQuiet_nil ?_
          intro _ hw'
          obtain ⟨nq2, hw''⟩ := hw'
          subst hw''
          clear e7 g7 e16 g16 c7 c16
          have HI4 := Lib.hid (HI3.out.drewN nq2)
          clear HI3
          generalize w2.drewN nq2 = w3 at HI4
          have d0 := row_at HI4.out.1 hlt64
          have f0 : w3.frozen? ⟨w.heap.size + 1 + 1, k, none⟩ = false := HI4.out.1.frozen _
          go_wp2_with fail
          go_roundw
          case rel =>
            refine ⟨k + 1, by omega, by omega, by go_num, HI4.out.step _ ?_⟩
            rw [Wd_high _ _ hk0]
            exact wd_val _ _ _ _
          case measure => simp [intOf]; omega
        · have Hk2 := Lib.hid (show k = 64 by omega)
          have hd : decide ((k : Int) < 64) = false := by simp; omega
          go_wp2_with fail
          have HB1 := Lib.hid (eight_range HI2.out.2.1)
          clear hd
          refine (consts_any _).mono ?_
          rintro e w1 ⟨rfl, hb1⟩
          have HR := Lib.hid (show w1.rangeAt w.heap.size 0 v.arr.toList from eight_range (HI2.out.2.1.of_block (hb1.block _ HI2.out.2.1.lt)))
          have HI3 := Lib.hid (rd_start HI2.out Hk2.out hb1)
          clear hb1 HB1 HI2
          obtain ⟨va, hva⟩ : ∃ va, va = v.arr := ⟨_, rfl⟩
          have HVA := Lib.hid hva
          rw [← hva] at HR HI3
          clear hva
          have es : ∀ (A : Obj) (c c' : Array Value), ((w1.alloc A).alloc (.cells c 59)).setRow (w1.heap.size + 1) c' = (w1.alloc A).alloc (.cells c' 59) := fun A c c' => by
            rw [← size_alloc w1 A]; exact World.setRow_alloc_new _ _ _ _
          have ES := Lib.hid es
          clear es
          go_wp2_with (first
            | (refine wpList_store_row rfl 78 _ _ rfl _ kVs.toArray rfl rfl 78 _ (heap_alloc_last _ _) (by rw [kVs_size]; exact info43) (Eq.trans rfl kVs_size.symm) kVs_one ?_; rw [World.setRow_alloc_new])
            | (refine wpList_load_mid rfl 59 _ rfl w.heap.size 0 rfl va.toList _ (World.rangeAt_alloc HR.out _) arr28 rfl (by rw [HVA.out]; exact info28) ?_)
            | (refine wpList_store_row rfl 59 _ _ rfl (w1.heap.size + 1) va rfl rfl 59 _ (heap_alloc2_new _ _ _) (by rw [HVA.out]; exact info28) (by rw [HVA.out]; rfl) (by rw [HVA.out]; exact arr_one _) ?_; rw [ES.out]))
          rw [HVA.out] at HI3
          have hw4 := HVA.out
          generalize hW : World.alloc _ _ = w4
          have HI4 := Lib.hid (show RdInv w v B w1.heap.size 0 w4 by rw [← hW, hw4]; exact HI3.out)
          clear HI3 hW hw4 HR ES
          generalize w1.heap.size = q at HI4 ⊢
          go_loopw [12] (fun i wr => ∃ k : Nat, k ≤ 64 ∧ i = .int .i64 (k : Int) ∧ Hid (RdInv w v B q k wr)) (fun i _ => 64 - (intOf i).toNat)
          case atStart => exact ⟨0, by omega, rfl, HI4⟩
          case round =>
            clear HI4
            obtain ⟨t, ht, rfl, HI5⟩ := hrel
            by_cases ht64 : t < 64
            · obtain ⟨e8, he8⟩ : ∃ e8, e8 = rnds B v t := ⟨_, rfl⟩
              have H8 := Lib.hid he8
              clear he8
              obtain ⟨a0, a1, a2, a3, a4, a5, a6, a7, b1, b2⟩ := HI5.out.cells e8 H8.out ht64
              go_wp2_with fail
              go_quiet (fail)
              have HI6 := Lib.hid (HI5.out.drewN nq)
              clear a0 a1 a2 a3 a4 a5 a6 a7 b1 b2 HI5
              generalize World.drewN _ nq = w5 at HI6 ⊢
              obtain ⟨a0, a1, a2, a3, a4, a5, a6, a7, b1, b2⟩ := HI6.out.cells e8 H8.out ht64
              go_wp2_with fail
              go_quiet ((go_at_call 43; exact Calls.quiet_of (turn_int _ _ _ (by omega) (by omega))))
              have HI7 := Lib.hid (HI6.out.drewN nq)
              clear a0 a1 a2 a3 a4 a5 a6 a7 b1 b2 HI6
              generalize World.drewN _ nq = w6 at HI7 ⊢
              obtain ⟨a0, a1, a2, a3, a4, a5, a6, a7, b1, b2⟩ := HI7.out.cells e8 H8.out ht64
              go_wp2_with fail
              go_quiet ((go_at_call 43; exact Calls.quiet_of (turn_int _ _ _ (by omega) (by omega))))
              have HI8 := Lib.hid (HI7.out.drewN nq)
              clear a0 a1 a2 a3 a4 a5 a6 a7 b1 b2 HI7
              generalize World.drewN _ nq = w7 at HI8 ⊢
              obtain ⟨a0, a1, a2, a3, a4, a5, a6, a7, b1, b2⟩ := HI8.out.cells e8 H8.out ht64
              obtain ⟨old, hg0, hsz⟩ := HI8.out.row
              have HG := Lib.hid hg0
              have HZ := Lib.hid hsz
              clear hg0 hsz
              go_wp2_with (refine wpList_store_row rfl 59 _ _ rfl (q + 1) _ rfl rfl 59 old HG.out info28 (by rw [HZ.out]; rfl) (by simp [Value.oneCell']) ?_)
              go_roundw
              case rel =>
                refine ⟨t + 1, by omega, by go_num, HI8.out.step _ ?_⟩
                show _ = (rnd _ _ _).arr
                rw [← H8.out, su1_val, su0_val, chx_val, majx_val, add7_w, add6_w]
                rfl
              case measure => simp [intOf]; omega
            · have HT := Lib.hid (show t = 64 by omega)
              have hd2 : decide ((t : Int) < 64) = false := by simp; omega
              have HS := Lib.hid (fin_start HI5.out HT.out)
              clear HI5
              go_wp2_with fail
              clear hd2
              go_loopw [17] (fun i wr => ∃ k : Nat, k ≤ 8 ∧ i = .int .i64 (k : Int) ∧ Hid (FinInv w v B q k wr)) (fun i _ => 8 - (intOf i).toNat)
              case atStart => exact ⟨0, by omega, rfl, HS⟩
              case round =>
                clear HS
                obtain ⟨i, hi, rfl, HF⟩ := hrel
                by_cases h8 : i < 8
                · have c0 := HF.out.1.cell (i := i) (by omega)
                  have c1 := HF.out.2.1.cell (i := i) (by omega)
                  simp only [if_neg (Nat.lt_irrefl i)] at c0
                  have g1 := fun w0 => idxArr arr28 sizeU32 (q + 1) i (i : Int) rfl (by omega) w0
                  have g2 := fun w0 => idxArr arr28 sizeU32 w.heap.size i (i : Int) rfl (by omega) w0
                  go_wp2_with fail
                  go_still_tail 8, (by kernel_rfl)
                  change wpList _ _ _ _ _ wr.drew
                  have HF2 := Lib.hid (HF.out.drewN 1)
                  rw [← World.drew_is_drewN] at HF2
                  clear c0 c1 HF
                  generalize wr.drew = w9 at HF2
                  have d0 := HF2.out.1.cell (i := i) (by omega)
                  have f0 : w9.frozen? ⟨q + 1, i, none⟩ = false := HF2.out.1.frozen _
                  go_wp2_with fail
                  go_roundw
                  case rel => exact ⟨i + 1, by omega, by go_num, HF2.out.step h8 _ (by rw [add_w])⟩
                  case measure => simp [intOf]; omega
                · have hd8 : decide ((i : Int) < 8) = false := by simp; omega
                  have HR := Lib.hid (fin_range HF.out (by omega))
                  obtain ⟨old, hg0, hsz, -⟩ := HF.out.2.2.1
                  have HG := Lib.hid hg0
                  have HZ := Lib.hid hsz
                  have HB9 := Lib.hid HF.out.2.2.2.1
                  clear hg0 hsz HF
                  obtain ⟨vo, hvo⟩ : ∃ vo, vo = (comp v B).arr := ⟨_, rfl⟩
                  rw [← hvo] at HR
                  have HVO := Lib.hid hvo
                  clear hvo
                  go_wp2_with (first
                    | (refine wpList_load_mid rfl 59 _ rfl (q + 1) 0 rfl vo.toList _ HR.out arr28 rfl (by rw [HVO.out]; exact info28) ?_)
                    | (refine wpList_store_row rfl 59 _ _ rfl (w.heap.size + 1) vo rfl rfl 59 old HG.out (by rw [HVO.out]; exact info28) (by rw [HZ.out, HVO.out]; rfl) (by rw [HVO.out]; exact arr_one _) ?_))
                  exact bodyPost_ret (results_cell_row rfl _ _ _ 59 _ _ _ rfl (setRow_heap _ _ _ _ _ _ HG.out) arr28 rfl (by rw [HVO.out]; exact info28)) rfl ⟨by rw [HVO.out]; rfl, below_setRow HB9.out (by omega) _⟩
end Go.Proofs.YtjmiekhjkeioaaaDoor

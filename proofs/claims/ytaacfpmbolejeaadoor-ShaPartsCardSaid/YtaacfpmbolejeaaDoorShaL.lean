/- The contract of awake: it answers true. And what the laws need of '==' between two sums. -/
import Derived.Test.YtaacfpmbolejeaaDoorShaK
import Derived.Test.YtaacfpmbolejeaaDoorShaV
namespace Go.Proofs.YtaacfpmbolejeaaDoor
open Go.RowKit
set_option linter.unusedVariables false

theorem sum_row {w : World} {l : List UInt8} {b T : Nat} (h : w.heap[b]? = some (.cells (sumVs l).toArray T (0, 0))) : w.rowIs b T 32 (sumV l) :=
  ⟨_, h, sumVs_size l, fun i hi => by simpa using sumVs_at l i hi⟩
theorem sum_cell {w : World} {l : List UInt8} {b T j : Nat} {c : UInt8} {n : Int} (h : w.rowIs b T 32 (sumV l)) (hj : j < 32) (hc : sumB l j = c) (hn : (c.toNat : Int) = n) : w.cell? ⟨b, j, none⟩ = some (.int .u8 n) := by
  rw [h.cell hj]; unfold sumV; rw [hc, hn]

theorem awake_cells {w2 w3 : World} {q : Nat} (h : w2.rowIs q 22 32 (sumV abcL)) (hb : Below w2.heap.size w2 w3) :
    (w3.alloc (.cells (sumVs []).toArray 22)).cell? ⟨q, 0, none⟩ = some (.int .u8 186) ∧ (w3.alloc (.cells (sumVs []).toArray 22)).cell? ⟨q, 1, none⟩ = some (.int .u8 120) ∧ (w3.alloc (.cells (sumVs []).toArray 22)).cell? ⟨q, 31, none⟩ = some (.int .u8 173) ∧
    (w3.alloc (.cells (sumVs []).toArray 22)).cell? ⟨w3.heap.size, 0, none⟩ = some (.int .u8 227) ∧ (w3.alloc (.cells (sumVs []).toArray 22)).cell? ⟨w3.heap.size, 31, none⟩ = some (.int .u8 85) := by
  have r1 := (h.of_block (hb.block _ h.lt)).alloc (.cells (sumVs []).toArray 22)
  have r2 : (w3.alloc (.cells (sumVs []).toArray 22)).rowIs w3.heap.size 22 32 (sumV []) := sum_row (heap_alloc_last _ _)
  exact ⟨sum_cell r1 (by omega) abc_0 rfl, sum_cell r1 (by omega) abc_1 rfl, sum_cell r1 (by omega) abc_31 rfl, sum_cell r2 (by omega) nil_0 rfl, sum_cell r2 (by omega) nil_31 rfl⟩
theorem sum_abc (w : World) (ht : TabOK w) : Calls Tryd.prog 6 #[.string ⟨#[97, 98, 99]⟩] w fun e w' => e = .returned (.agg (sumVs abcL).toArray) ∧ Below w.heap.size w w' := sumF_any ⟨#[97, 98, 99]⟩ w ht (by decide)
theorem sum_empty (w : World) (ht : TabOK w) : Calls Tryd.prog 6 #[.string ⟨#[]⟩] w fun e w' => e = .returned (.agg (sumVs []).toArray) ∧ Below w.heap.size w w' := sumF_any ⟨#[]⟩ w ht (by decide)
set_option maxRecDepth 100000 in
theorem awake_any (w : World) (ht : TabOK w) :
    Calls Tryd.prog 8 #[] w fun e w' => e = .returned (.bool true) ∧ Below w.heap.size w w' := by
  have HT := Lib.hid ht
  clear ht
  go_enter Tryd.func8, Tryd.ntmps8
  go_wp2_with (first
    | (go_at_call 6; refine (sum_abc _ HT.out).mono ?_; rintro e w1 ⟨rfl, hb1⟩; have HB0 := Lib.hid hb1; clear hb1)
    | (refine wpList_store_row rfl 22 _ _ rfl w1.heap.size (sumVs abcL).toArray rfl rfl 22 _ (heap_alloc_last _ _) (by rw [sumVs_size]; exact info22) (Eq.trans rfl (sumVs_size _).symm) (sumVs_one _) ?_; rw [World.setRow_alloc_new]))
  have hb1 := HB0.out.alloc (B := w.heap.size) HB0.out.size (.cells (sumVs abcL).toArray 22)
  have HT1 := Lib.hid (HT.out.keeps (Keeps.of_below hb1))
  have HB1 := Lib.hid hb1
  have HR1 := Lib.hid (show (w1.alloc (.cells (sumVs abcL).toArray 22)).rowIs w1.heap.size 22 32 (sumV abcL) from sum_row (heap_alloc_last _ _))
  have hq : w.heap.size ≤ w1.heap.size := HB0.out.size
  clear hb1 HB0
  generalize World.alloc _ _ = w2 at HT1 HB1 HR1 ⊢
  generalize w1.heap.size = q at HR1 hq ⊢
  go_wp2_with (first
    | (go_at_call 6; refine (sum_empty _ HT1.out).mono ?_; rintro e w3 ⟨rfl, hb3⟩; have HB3 := Lib.hid hb3; clear hb3)
    | (refine wpList_store_row rfl 22 _ _ rfl w3.heap.size (sumVs []).toArray rfl rfl 22 _ (heap_alloc_last _ _) (by rw [sumVs_size]; exact info22) (Eq.trans rfl (sumVs_size _).symm) (sumVs_one _) ?_; rw [World.setRow_alloc_new]; obtain ⟨k0, k1, k2, k3, k4⟩ := awake_cells HR1.out HB3.out))
  go_ret
  exact ⟨rfl, (HB1.out.trans (HB3.out.mono HB1.out.size)).alloc (Nat.le_trans HB1.out.size HB3.out.size) _⟩
end Go.Proofs.YtaacfpmbolejeaaDoor

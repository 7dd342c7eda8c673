/- Contracts of sha.Sum and (*Stream).Reset. -/
import Derived.Test.YtjmiekhjkeioaaaDoorShaG
namespace Go.Proofs.YtjmiekhjkeioaaaDoor
open Go.RowKit
set_option linter.unusedVariables false

set_option maxRecDepth 100000 in
theorem sumF_any (s : ByteArray) (w : World) (ht : TabOK w) (hlen : s.data.toList.length ≤ 900000) :
    Calls Tryd.prog 16 #[.string s] w fun e w' => e = .returned (.agg (sumVs s.data.toList).toArray) ∧ Below w.heap.size w w' := by
  have HC := Lib.hid (copy_any (l := []) ht (fun _ => 0) (fun _ => 0) 0 (fun w2 h => StrOf.zero h))
  have hz := zero73
  have hq0 : w.heap.size + 1 ≠ 0 := by have := ht.1; omega
  have h0 : ([] : List UInt8).length ≤ 1000000 := by simp
  clear ht
  obtain ⟨l, hl⟩ : ∃ l : List UInt8, l = s.data.toList := ⟨_, rfl⟩
  have H9 : l.length ≤ 900000 := by rw [hl]; exact hlen
  have H10 : s.data.toList.length ≤ 1000000 := by omega
  rw [← hl]
  have HL := Lib.hid hl
  clear hl hlen
  go_enter Tryd.func16, Tryd.ntmps16
  go_wp2_with fail
  refine (add_any (w.heap.size + 1) [] s _ HC.out.1 HC.out.2.1 hq0 h0 H10).mono ?_
  rintro e w3 ⟨rfl, t1, t2, t3⟩
  rw [List.nil_append, ← HL.out] at t1
  have T1 := Lib.hid t1
  have T2 := Lib.hid t2
  have HB := Lib.hid (HC.out.2.2.1.trans (t3.to_below (by omega) HC.out.2.2.1.size))
  have HR := Lib.hid (HC.out.2.2.2.of_block (t3.block _ HC.out.2.2.2.lt (by omega)))
  clear t1 t2 t3 HC hz
  go_wp2_with fail
  refine (sum_any (w.heap.size + 1) l _ T1.out T2.out H9).mono ?_
  rintro e w4 ⟨rfl, t4⟩
  obtain ⟨old, hg0, hsz, -⟩ := HR.out.of_block (t4.block _ HR.out.lt)
  have HG := Lib.hid hg0
  have HZ := Lib.hid hsz
  have HB4 := Lib.hid (HB.out.trans (t4.mono HB.out.size))
  clear hg0 hsz t4 HR HB
  go_wp2_with (refine wpList_store_row rfl 50 _ _ rfl w.heap.size (sumVs l).toArray rfl rfl 50 old HG.out (by rw [sumVs_size]; exact info22) (by rw [HZ.out, sumVs_size]) (sumVs_one l) ?_)
  exact bodyPost_ret (results_cell_row rfl _ _ _ 50 _ _ _ rfl (setRow_heap _ _ _ _ _ _ HG.out) arr22 rfl (by rw [sumVs_size]; exact info22)) rfl ⟨rfl, below_setRow HB4.out (Nat.le_refl _) _⟩

end Go.Proofs.YtjmiekhjkeioaaaDoor

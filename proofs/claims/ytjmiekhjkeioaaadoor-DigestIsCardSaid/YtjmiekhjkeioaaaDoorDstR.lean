/- Contract of the reference's Of; what digests of abc and abd are; the contract of awake, which each law of digest calls. -/
import Derived.Test.YtjmiekhjkeioaaaDoorDstB
import Derived.Test.YtjmiekhjkeioaaaDoorShaK
import Derived.Test.YtjmiekhjkeioaaaDoorShaV
namespace Go.Proofs.YtjmiekhjkeioaaaDoor
open Go.RowKit
set_option linter.unusedVariables false

set_option maxRecDepth 100000 in
theorem refOf_any (s : ByteArray) (w : World) (hlen : s.data.toList.length ≤ 900000) :
    Calls Tryd.prog 8 #[.string s] w fun e w' => e = .returned (.string (digS s.data.toList)) ∧ Keeps w w' := by
  obtain ⟨l, hl⟩ : ∃ l : List UInt8, l = s.data.toList := ⟨_, rfl⟩
  have H1 := Lib.hid (fun w0 => rsum_any s w0 hlen)
  rw [← hl] at H1
  rw [← hl]
  clear hlen hl
  go_enter Tryd.func8, Tryd.ntmps8
  go_wp2_with (first
    | (go_at_call 18; refine (H1.out _).mono ?_; rintro e w1 ⟨rfl, hb1⟩; have HB0 := Lib.hid hb1; clear hb1)
    | (refine wpList_store_row rfl 50 _ _ rfl w1.heap.size (sumVs l).toArray rfl rfl 50 _ (heap_alloc_last _ _) (by rw [sumVs_size]; exact info22) (Eq.trans rfl (sumVs_size _).symm) (sumVs_one _) ?_; rw [World.setRow_alloc_new]))
  have hb1 := HB0.out.alloc (.cells (sumVs l).toArray 50)
  have HB1 := Lib.hid hb1
  have HR1 := Lib.hid (show (w1.alloc (.cells (sumVs l).toArray 50)).rowIs w1.heap.size 50 32 (sumV l) from sum_rowD (heap_alloc_last _ _))
  clear hb1 HB0 H1
  generalize World.alloc _ _ = w2 at HB1 HR1 ⊢
  generalize w1.heap.size = q at HR1 ⊢
  have hsl := fun w0 => slice32 q w0
  have hcv := conv_sum HR1.out
  have HX := Lib.hid (fun w0 : World => refHex_any ⟨(sumL l).toArray⟩ w0 (by show (sumL l).length ≤ _; rw [sumL_length]; omega))
  have hadd := fun w0 => add_pre w0 (hexL (sumL l)) (by rw [hexL_length, sumL_length]; omega)
  go_wp2_with (go_at_call 19; refine (HX.out _).mono ?_; rintro e w3 ⟨rfl, hb3⟩; have HB3 := Lib.hid hb3; clear hb3)
  go_ret
  exact ⟨rfl, HB1.out.below HB3.out⟩

theorem abc_2 : sumB abcL 2 = 0x16 := by rw [sumB_one abcL (by decide +kernel)]; decide +kernel
theorem abc_3 : sumB abcL 3 = 0xbf := by rw [sumB_one abcL (by decide +kernel)]; decide +kernel
/-- The text "abd". -/
def abdL : List UInt8 := [97, 98, 100]
theorem abd_0 : sumB abdL 0 = 0xa5 := by rw [sumB_one abdL (by decide +kernel)]; decide +kernel
theorem sumL_cons (l : List UInt8) : sumL l = sumB l 0 :: sumB l 1 :: sumB l 2 :: sumB l 3 :: ((List.range 28).map fun j => sumB l (j + 4)) := by
  unfold sumL
  apply List.ext_getElem
  · simp
  · intro i h1 h2
    rcases i with _ | _ | _ | _ | i <;> simp
theorem abc_15 : ((digS abcL).extract 0 15).toList = [115, 104, 97, 50, 53, 54, 58, 98, 97, 55, 56, 49, 54, 98, 102] := by
  rw [toList_eq, Lib.extract_data]
  show (digL abcL).take 15 = _
  unfold digL
  rw [sumL_cons, abc_0, abc_1, abc_2, abc_3]
  rfl
theorem abc_abd : (digS abcL).toList ≠ (digS abdL).toList := by
  rw [toList_eq, toList_eq]
  show digL abcL ≠ digL abdL
  intro h
  have h2 := congrArg (fun l : List UInt8 => l[7]?) h
  unfold digL at h2
  rw [sumL_cons abcL, sumL_cons abdL, abc_0, abd_0] at h2
  revert h2
  decide +kernel
theorem abc_size : (digS abcL).size = 71 := digL_length abcL
/-- Without its first letter it is no digest. -/
theorem abc_tail : dgErr ((digS abcL).extract 1 (digS abcL).size) = 2 := by
  have h : ((digS abcL).extract 1 (digS abcL).size).size = 70 := by rw [ByteArray.size_extract, abc_size]; rfl
  unfold dgErr dgOk
  rw [decide_eq_false (by omega)]
  rfl
end Go.Proofs.YtjmiekhjkeioaaaDoor

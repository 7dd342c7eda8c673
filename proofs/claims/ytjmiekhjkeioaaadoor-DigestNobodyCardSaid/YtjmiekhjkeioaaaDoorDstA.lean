/- Contracts of digest.Of and digest.Is: the digest of any bytes. -/
import Derived.Test.YtjmiekhjkeioaaaDoorHex
import Derived.Test.YtjmiekhjkeioaaaDoorShaH
namespace Go.Proofs.YtjmiekhjkeioaaaDoor
open Go.RowKit
set_option linter.unusedVariables false

/-- The letters ahead of a digest's digits. -/
def preL : List UInt8 := [115, 104, 97, 50, 53, 54, 58]
/-- The bytes of a sum. -/
def sumL (l : List UInt8) : List UInt8 := (List.range 32).map (sumB l)
theorem sumL_at (l : List UInt8) (i : Nat) (h : i < (sumL l).length) : (sumL l)[i] = sumB l i := by simp [sumL]
theorem sumL_length (l : List UInt8) : (sumL l).length = 32 := by unfold sumL; simp
/-- The digest of bytes. -/
def digL (l : List UInt8) : List UInt8 := preL ++ hexL (sumL l)
theorem digL_length (l : List UInt8) : (digL l).length = 71 := by
  unfold digL
  rw [List.length_append, hexL_length, sumL_length]
  rfl
def digS (l : List UInt8) : ByteArray := ⟨(digL l).toArray⟩

theorem sum_rowD {w : World} {l : List UInt8} {b T : Nat} (h : w.heap[b]? = some (.cells (sumVs l).toArray T (0, 0))) : w.rowIs b T 32 (sumV l) :=
  ⟨_, h, sumVs_size l, fun i hi => by simpa using sumVs_at l i hi⟩
theorem conv_sum {w : World} {l : List UInt8} {b T : Nat} (h : w.rowIs b T 32 (sumV l)) :
    (convert 52 9 (.slice (some ⟨b, 0, none⟩) 32 32)).run Tryd.prog w = .ok (.string ⟨(sumL l).toArray⟩) w :=
  conv_row h (sumL l) 32 32 (sumL_length l).symm (Nat.le_refl _) (fun i hi => by rw [sumL_at]; rfl)

theorem arrLen32 : Tryd.prog.arrayLen 50 = 32 := by kernel_rfl
theorem arr32' : Tryd.prog.underlying 50 = some (.array (Tryd.prog.arrayLen 50) (Tryd.prog.elem 50)) := by kernel_rfl
theorem size32 (w : World) : (sizeOf (Tryd.prog.elem 50)).run Tryd.prog w = .ok 1 w := by kernel_rfl
theorem slice32 (b : Nat) (w : World) : (Instr.sliceAt 50 (.pointer (some ⟨b, 0, none⟩)) none none none).run Tryd.prog w = .ok (.slice (some ⟨b, 0, none⟩) 32 32) w := by
  rw [run_sliceAt_array_all w 50 ⟨b, 0, none⟩ arr32', size32]
  show Result.ok _ w = _
  unfold slicedAt
  rw [arrLen32, if_neg (by omega)]
  rfl

theorem add_pre (w : World) (y : List UInt8) (h : y.length ≤ 1000) : (Op.stringOp .add ⟨#[115, 104, 97, 50, 53, 54, 58]⟩ ⟨y.toArray⟩).run Tryd.prog w = .ok (.string ⟨(preL ++ y).toArray⟩) w := by
  rw [run_string_add_sum w _ _ (by simp [ByteArray.size]; omega)]
  have := ByteArray.mk_append_mk preL y
  rw [← this]
  rfl

set_option maxRecDepth 100000 in
theorem of_any (s : ByteArray) (w : World) (ht : TabOK w) (hlen : s.data.toList.length ≤ 900000) :
    Calls Tryd.prog 7 #[.string s] w fun e w' => e = .returned (.string (digS s.data.toList)) ∧ Below w.heap.size w w' := by
  have HT := Lib.hid ht
  have HN := Lib.hid hlen
  obtain ⟨l, hl⟩ : ∃ l : List UInt8, l = s.data.toList := ⟨_, rfl⟩
  have H1 := Lib.hid (fun w0 (h : TabOK w0) => sumF_any s w0 h hlen)
  rw [← hl] at H1
  rw [← hl]
  clear ht hlen hl HN
  go_enter Tryd.func7, Tryd.ntmps7
  go_wp2_with (first
    | (go_at_call 16; refine (H1.out _ HT.out).mono ?_; rintro e w1 ⟨rfl, hb1⟩; have HB0 := Lib.hid hb1; clear hb1)
    | (refine wpList_store_row rfl 50 _ _ rfl w1.heap.size (sumVs l).toArray rfl rfl 50 _ (heap_alloc_last _ _) (by rw [sumVs_size]; exact info22) (Eq.trans rfl (sumVs_size _).symm) (sumVs_one _) ?_; rw [World.setRow_alloc_new]))
  have hb1 := HB0.out.alloc (B := w.heap.size) HB0.out.size (.cells (sumVs l).toArray 50)
  have HB1 := Lib.hid hb1
  have HR1 := Lib.hid (show (w1.alloc (.cells (sumVs l).toArray 50)).rowIs w1.heap.size 50 32 (sumV l) from sum_rowD (heap_alloc_last _ _))
  clear hb1 HB0 H1
  generalize World.alloc _ _ = w2 at HB1 HR1 ⊢
  generalize w1.heap.size = q at HR1 ⊢
  have hsl := fun w0 => slice32 q w0
  have hcv := conv_sum HR1.out
  have HX := Lib.hid (fun w0 : World => hex_any ⟨(sumL l).toArray⟩ w0 (by show (sumL l).length ≤ _; rw [sumL_length]; omega))
  have hadd := fun w0 => add_pre w0 (hexL (sumL l)) (by rw [hexL_length, sumL_length]; omega)
  go_wp2_with (go_at_call 17; refine (HX.out _).mono ?_; rintro e w3 ⟨rfl, hb3⟩; have HB3 := Lib.hid hb3; clear hb3)
  go_ret
  exact ⟨rfl, HB1.out.trans (HB3.out.mono HB1.out.size)⟩

theorem is_dig (t s : ByteArray) (w : World) (ht : TabOK w) (hlen : s.data.toList.length ≤ 900000) :
    Calls Tryd.prog 11 #[.string t, .string s] w fun e w' => e = .returned (.bool (t.toList == (digS s.data.toList).toList)) ∧ Below w.heap.size w w' := by
  have HT := Lib.hid ht
  have H1 := Lib.hid (fun w0 (h : TabOK w0) => of_any s w0 h hlen)
  generalize digS s.data.toList = d at H1 ⊢
  clear ht hlen
  go_enter Tryd.func11, Tryd.ntmps11
  go_wp2_with (go_at_call 7; refine (H1.out _ HT.out).mono ?_; rintro e w1 ⟨rfl, hb1⟩)
  go_ret
  exact ⟨rfl, hb1⟩
end Go.Proofs.YtjmiekhjkeioaaaDoor

/- The contract of (*Stream).pad: the bytes that stand behind a text are taken. -/
import Derived.Test.YtjmiekhjkeioaaaDoorShaE
import Derived.Test.YtjmiekhjkeioaaaDoorShaP
import Derived.Laws.BytesArg
import Derived.Lib.LazyBuf
namespace Go.Proofs.YtjmiekhjkeioaaaDoor
open Go.RowKit
set_option linter.unusedVariables false

def zer72 : Array Value := Array.replicate 72 (.int .u8 0)
theorem zero72 (w : World) : (zeroValue 86).run Tryd.prog w = .ok (.agg zer72) w := (zero_of_info (n := 72) (by kernel_rfl)).1 w
theorem idxArr {T n E : Nat} (ha : Tryd.prog.underlying T = some (.array n E)) (hE : ∀ w, (sizeOf E).run Tryd.prog w = .ok 1 w) (b i : Nat) (m : Int) (hm : m = (i : Int)) (hi : i < n) (w : World) :
    (Instr.indexAt T (.pointer (some ⟨b, 0, none⟩)) (.int .i64 m)).run Tryd.prog w = .ok (.pointer (some ⟨b, i, none⟩)) w := by
  subst hm
  have h1 : (0 : Int) ≤ i ∧ (i : Int) < (n : Int) := ⟨by omega, by omega⟩
  simp [Instr.indexAt, asIntOf, run_underlying ha, Instr.sureAddr, add_off, hE]
  intro hn; omega
theorem arr72 : Tryd.prog.underlying 86 = some (.array 72 5) := by kernel_rfl
theorem sizeU8 (w : World) : (sizeOf 5).run Tryd.prog w = .ok 1 w := by kernel_rfl
theorem sizeU32 (w : World) : (sizeOf 35).run Tryd.prog w = .ok 1 w := by kernel_rfl

/-- The cells of the array 'end' behind so many rounds. -/
def endV (n z i j : Nat) : Value := .int .u8 (if j < z ∧ (j = 0 ∨ z - i ≤ j) then ((padB n z j).toNat : Int) else 0)

def PadInv (w : World) (b q : Nat) (l : List UInt8) (z k : Nat) (wr : World) : Prop :=
  StrOf wr b l ∧ TabOK wr ∧ Only b w wr ∧ wr.rowIs q 86 72 (endV l.length z k)
theorem StrOf.block {w w' : World} {b : Nat} {l : List UInt8} (h : StrOf w b l) (e : w'.heap[b]? = w.heap[b]?) : StrOf w' b l := by
  obtain ⟨x, wt, h1, h2, h3⟩ := h
  exact ⟨x, wt, World.rowIs.of_block h1 e, h2, h3⟩
theorem StrOf.lt {w : World} {b : Nat} {l : List UInt8} (h : StrOf w b l) : b < w.heap.size := by
  obtain ⟨x, wt, h1, h2, h3⟩ := h
  exact h1.lt
theorem pad_start {w : World} {b : Nat} {l : List UInt8} (hs : StrOf w b l) (ht : TabOK w) (hb0 : b ≠ 0) (z : Nat) (hz : 9 ≤ z ∧ z ≤ 72) :
    PadInv w b w.heap.size l z 0 (w.alloc (.cells (zer72.setIfInBounds 0 (.int .u8 128)) 86)) := by
  have o : Only b w (w.alloc (.cells (zer72.setIfInBounds 0 (.int .u8 128)) 86)) := (Only.refl b w).alloc _
  refine ⟨hs.block (Go.Deep.blk_alloc_lt _ _ _ hs.lt), ht.only hb0 o, o, ?_⟩
  have e : (zer72.setIfInBounds 0 (Value.int .u8 128)).size = 72 := by unfold zer72; simp
  have r := World.rowIs_alloc w (zer72.setIfInBounds 0 (.int .u8 128)) 86 (endV l.length z 0) (fun i hi => by
    rw [e] at hi
    unfold endV zer72
    by_cases h0 : i = 0
    · subst h0; rw [if_pos (by omega)]; rfl
    · rw [if_neg (by omega), Array.getElem?_setIfInBounds, if_neg (fun x => h0 x.symm), Array.getElem?_replicate, if_pos hi])
  rwa [e] at r
theorem PadInv.step {w : World} {b q : Nat} {l : List UInt8} {z k : Nat} {wr : World} (i : PadInv w b q l z k wr) (hq : w.heap.size ≤ q) (hb : b < w.heap.size) (hb0 : b ≠ 0) (hz : 9 ≤ z ∧ z ≤ 72) (hk : k < 8) (v : Int) (hv : v = ((8 * l.length / 256 ^ k : Nat) : Int) % 256) :
    PadInv w b q l z (k + 1) (wr.setCell ⟨q, z - 1 - k, none⟩ (.int .u8 v)) := by
  obtain ⟨h1, h2, h3, h4⟩ := i
  have o : Only b w (wr.setCell ⟨q, z - 1 - k, none⟩ (.int .u8 v)) := h3.setCell (Or.inr hq) _
  refine ⟨h1.block (Go.Deep.blk_setCell_other _ _ _ _ (by show b ≠ q; omega)), ⟨by rw [World.size_setCell]; exact h2.1, fun t ht => ?_⟩, o, (h4.set _ _).congr (fun j hj => ?_)⟩
  · rw [← h2.2 t ht]
    by_cases hg : 0 = q
    · exact absurd hb (by omega)
    · exact World.cell?_of_block (w := wr) (Go.Deep.blk_setCell_other _ _ _ _ hg)
  · unfold endV
    by_cases e : j = z - 1 - k
    · rw [if_pos e, if_pos (by omega), e, padB_step _ _ _ hz.1 hk, hv]
    · rw [if_neg e]
      by_cases h : j < z ∧ (j = 0 ∨ z - k ≤ j)
      · rw [if_pos h, if_pos (by omega)]
      · rw [if_neg h, if_neg (by omega)]
theorem arrLen72 : Tryd.prog.arrayLen 86 = 72 := by kernel_rfl
theorem arr72' : Tryd.prog.underlying 86 = some (.array (Tryd.prog.arrayLen 86) (Tryd.prog.elem 86)) := by kernel_rfl
theorem size72 (w : World) : (sizeOf (Tryd.prog.elem 86)).run Tryd.prog w = .ok 1 w := by kernel_rfl
theorem slice72 (q z : Nat) (hz : z ≤ 72) (w : World) : (Instr.sliceAt 86 (.pointer (some ⟨q, 0, none⟩)) none (some (.int .i64 (z : Int))) none).run Tryd.prog w = .ok (.slice (some ⟨q, 0, none⟩) z 72) w := by
  rw [run_sliceAt_array_h w 86 ⟨q, 0, none⟩ arr72' .i64 (z : Int) (by omega) (by rw [arrLen72]; omega), size72]
  show Result.ok _ w = _
  unfold slicedAt
  rw [arrLen72, if_neg (by omega), Int.toNat_natCast]
  rfl
/-- The first cells of a row of bytes are turned into a string. -/
theorem conv_row {w : World} {b T N : Nat} {f : Nat → Value} (hrow : w.rowIs b T N f) (l : List UInt8) (n cap : Nat) (hn : n = l.length) (hN : n ≤ N) (hf : ∀ i (h : i < l.length), f i = byteV l[i]) :
    (convert 52 9 (.slice (some ⟨b, 0, none⟩) n cap)).run Tryd.prog w = .ok (.string ⟨l.toArray⟩) w := by
  subst hn
  have := run_convert_bytes_arg (P := Tryd.prog) w 52 5 Tryd.underlying52 Tryd.underlying5 b 0 l.length cap (l.map fun b => (b.toNat : Int)) (by simp)
    (fun i hi => by
      rw [Nat.zero_add, hrow.cell (by omega), hf i hi]
      simp [byteV, List.getElem?_eq_getElem hi]) 9 Tryd.underlying9
  rw [Lib.Lz.strOfNums_map] at this
  exact this
theorem pad_conv {w wr : World} {b q : Nat} {l : List UInt8} {z k : Nat} (i : PadInv w b q l z k wr) (hz : z = padSize l.length) (hk : 8 ≤ k) :
    (convert 52 9 (.slice (some ⟨q, 0, none⟩) z 72)).run Tryd.prog wr = .ok (.string ⟨(padL l.length).toArray⟩) wr := by
  have hb := padSize_bounds l.length
  refine conv_row i.2.2.2 (padL l.length) z 72 (by rw [padL_length]; exact hz) (by omega) (fun j hj => ?_)
  rw [padL_length] at hj
  have e : ∀ h, (padL l.length)[j]'h = padB l.length (padSize l.length) j := fun h => by simp [padL]
  rw [e]
  unfold endV byteV
  by_cases h : j = 0 ∨ z - k ≤ j
  · rw [if_pos ⟨by omega, h⟩, hz]
  · rw [if_neg (by omega)]
    unfold padB
    rw [if_neg (by omega), if_pos (by omega)]; rfl

set_option maxRecDepth 100000 in
theorem pad_any (b : Nat) (l : List UInt8) (w : World) (hs : StrOf w b l) (ht : TabOK w) (hb0 : b ≠ 0) (hlen : l.length ≤ 900000) :
    Calls Tryd.prog 42 #[.pointer (some ⟨b, 0, none⟩)] w fun e w' => e = .returned (.tuple #[]) ∧ StrOf w' b (padded l) ∧ TabOK w' ∧ Only b w w' := by
  have HS := Lib.hid hs
  have HT := Lib.hid ht
  obtain ⟨h, wt, hst, -, -⟩ := hs
  have hlt := World.rowIs.lt hst
  have c72 := hst.len
  have hz72 := zero72
  clear hst ht
  obtain ⟨z, hz⟩ : ∃ z, z = padSize l.length := ⟨_, rfl⟩
  have hzb := padSize_bounds l.length
  rw [← hz] at hzb
  obtain ⟨hz9, hz72', hzm⟩ := hzb
  have HZ := Lib.hid hz
  have HM := Lib.hid hzm
  clear hz hzm
  have HI := Lib.hid (pad_start HS.out HT.out hb0 z ⟨hz9, hz72'⟩)
  by_cases hu : (l.length + 9) % 64 = 0
  · have hz1 : z = 9 := by rw [HZ.out]; unfold padSize; rw [if_pos hu]
    have HZ1 := Lib.hid hz1
    clear hz1
    go_enter Tryd.func42, Tryd.ntmps42
    go_wp2_with fail
    clear c72 hz72
    have hzi : (9 : Int) = (z : Int) := by have := HZ1.out; omega
    go_loopw [2, 27] (fun u i wr => ∃ k B : Nat, k ≤ 8 ∧ i = .int .i64 (k : Int) ∧ u = .int .u64 (B : Int) ∧ B ≤ 10000000 ∧ Hid (B = 8 * l.length / 256 ^ k) ∧ Hid (PadInv w b w.heap.size l z k wr)) (fun _ i _ => 8 - (intOf i).toNat)
    case atStart =>
      exact ⟨0, 8 * l.length, by omega, rfl, by go_num, by omega, by show _ = _; simp, HI⟩
    case round =>
      obtain ⟨k, B, hk, rfl, rfl, hB, HB, HP⟩ := hrel
      by_cases h8 : k < 8
      · have hix := fun w0 => idxArr arr72 sizeU8 w.heap.size (z - 1 - k) ((9 : Int) - 1 - (k : Int)) (by omega) (by omega) w0
        have d0 := HP.out.2.2.2.cell (i := z - 1 - k) (by omega)
        have f0 : wr.frozen? ⟨w.heap.size, z - 1 - k, none⟩ = false := HP.out.2.2.2.frozen _
        unfold endV at d0
        go_wp2_with fail
        go_roundw
        case rel =>
          exact ⟨k + 1, B / 256, by omega, by go_num, by go_num, by omega, by show _ = _; rw [HB.out]; exact div_step _ _, HP.out.step (Nat.le_refl _) hlt hb0 ⟨hz9, hz72'⟩ h8 _ (by rw [HB.out])⟩
        case measure => simp [intOf]; omega
      · have hcv := pad_conv HP.out HZ.out (by omega)
        have hsl := fun w0 => slice72 w.heap.size z (by omega) w0
        rw [← hzi] at hsl
        clear hzi
        have hpl : (padL l.length).length ≤ 1000000 := by rw [padL_length, ← HZ.out]; omega
        go_wp2_with (go_at_call 27; refine (add_any b l ⟨(padL l.length).toArray⟩ _ HP.out.1 HP.out.2.1 hb0 (by omega) hpl).mono ?_; rintro e w5 ⟨rfl, t1, t2, t3⟩; have T1 := Lib.hid t1; have T2 := Lib.hid t2; have T3 := Lib.hid t3; clear t1 t2 t3)
        go_end0
        exact ⟨rfl, T1.out, T2.out, HP.out.2.2.1.trans T3.out⟩
  · have hz1 : 9 + (64 - ((l.length : Int) + 1 + 8) % 64) = (z : Int) := by rw [HZ.out]; unfold padSize; rw [if_neg hu]; omega
    have HZ1 := Lib.hid hz1
    clear hz1
    go_enter Tryd.func42, Tryd.ntmps42
    go_wp2_with fail
    clear c72 hz72
    rw [HZ1.out]
    go_loopw [2, 27] (fun u i wr => ∃ k B : Nat, k ≤ 8 ∧ i = .int .i64 (k : Int) ∧ u = .int .u64 (B : Int) ∧ B ≤ 10000000 ∧ Hid (B = 8 * l.length / 256 ^ k) ∧ Hid (PadInv w b w.heap.size l z k wr)) (fun _ i _ => 8 - (intOf i).toNat)
    case atStart =>
      exact ⟨0, 8 * l.length, by omega, rfl, by go_num, by omega, by show _ = _; simp, HI⟩
    case round =>
      obtain ⟨k, B, hk, rfl, rfl, hB, HB, HP⟩ := hrel
      by_cases h8 : k < 8
      · have hix := fun w0 => idxArr arr72 sizeU8 w.heap.size (z - 1 - k) ((z : Int) - 1 - (k : Int)) (by omega) (by omega) w0
        have d0 := HP.out.2.2.2.cell (i := z - 1 - k) (by omega)
        have f0 : wr.frozen? ⟨w.heap.size, z - 1 - k, none⟩ = false := HP.out.2.2.2.frozen _
        unfold endV at d0
        go_wp2_with fail
        go_roundw
        case rel =>
          exact ⟨k + 1, B / 256, by omega, by go_num, by go_num, by omega, by show _ = _; rw [HB.out]; exact div_step _ _, HP.out.step (Nat.le_refl _) hlt hb0 ⟨hz9, hz72'⟩ h8 _ (by rw [HB.out])⟩
        case measure => simp [intOf]; omega
      · have hcv := pad_conv HP.out HZ.out (by omega)
        have hsl := fun w0 => slice72 w.heap.size z (by omega) w0
        have hpl : (padL l.length).length ≤ 1000000 := by rw [padL_length, ← HZ.out]; omega
        go_wp2_with (go_at_call 27; refine (add_any b l ⟨(padL l.length).toArray⟩ _ HP.out.1 HP.out.2.1 hb0 (by omega) hpl).mono ?_; rintro e w5 ⟨rfl, t1, t2, t3⟩; have T1 := Lib.hid t1; have T2 := Lib.hid t2; have T3 := Lib.hid t3; clear t1 t2 t3)
        go_end0
        exact ⟨rfl, T1.out, T2.out, HP.out.2.2.1.trans T3.out⟩
end Go.Proofs.YtjmiekhjkeioaaaDoor

/- Contracts of (*Stream).Sum, whatever was taken, and where there is no Stream. -/
import Derived.Test.YtjmiekhjkeioaaaDoorShaF
namespace Go.Proofs.YtjmiekhjkeioaaaDoor
open Go.RowKit
set_option linter.unusedVariables false

def strCells (h : Nat → UInt32) (wt : Nat → UInt8) (n : Nat) : List Value := (List.range 73).map (strCell h wt n)
theorem strCells_len (h : Nat → UInt32) (wt : Nat → UInt8) (n : Nat) : (strCells h wt n).length = 73 := by unfold strCells; simp
theorem strCells_size (h : Nat → UInt32) (wt : Nat → UInt8) (n : Nat) : (strCells h wt n).toArray.size = 73 := by rw [List.size_toArray, strCells_len]
theorem strCells_at (h : Nat → UInt32) (wt : Nat → UInt8) (n j : Nat) (hj : j < 73) : (strCells h wt n)[j]? = some (strCell h wt n j) := by unfold strCells; simp [hj]
theorem strCells_one (h : Nat → UInt32) (wt : Nat → UInt8) (n : Nat) : (strCells h wt n).toArray.all (·.oneCell') = true := all_oneCell_toArray (fun v hv => by
  unfold strCells at hv
  obtain ⟨j, _, rfl⟩ := List.mem_map.1 hv
  unfold strCell
  split
  · rfl
  · split <;> rfl)
def zer73 : Array Value := (strCells (fun _ => 0) (fun _ => 0) 0).toArray
theorem zero73 (w : World) : (zeroValue 62).run Tryd.prog w = .ok (.agg zer73) w := (zero_of_info (n := 73) (by kernel_rfl)).1 w
theorem info31 : (Tryd.prog.info? 62).map (·.size) = some 73 := by kernel_rfl
theorem info22 : (Tryd.prog.info? 50).map (·.size) = some 32 := by kernel_rfl
theorem arr22 : Tryd.prog.underlying 50 = some (.array 32 5) := by kernel_rfl
theorem under31 : Tryd.prog.underlying 62 = some (.struct (Tryd.prog.fieldsOf 62)) := by kernel_rfl
theorem zer73_size : zer73.size = 73 := strCells_size _ _ _

theorem StrOf.zero {w : World} {b : Nat} (h : w.rowIs b 62 73 (strCell (fun _ => 0) (fun _ => 0) 0)) : StrOf w b [] :=
  ⟨_, _, h, fun e => absurd rfl e, fun j hj => by simp at hj⟩
/-- What holds when the copy is laid. -/
def CopyInv (w : World) (l : List UInt8) (w2 : World) : Prop :=
  StrOf w2 (w.heap.size + 1) l ∧ TabOK w2 ∧ Below w.heap.size w w2 ∧ w2.rowIs w.heap.size 50 32 (fun _ => .int .u8 0)
theorem size_alloc (w : World) (o : Obj) : (w.alloc o).heap.size = w.heap.size + 1 := by show (w.heap.push o).size = _; simp
theorem copy_any {w : World} {l : List UInt8} (ht : TabOK w) (h : Nat → UInt32) (wt : Nat → UInt8) (n : Nat)
    (hs : ∀ w2, w2.rowIs (w.heap.size + 1) 62 73 (strCell h wt n) → StrOf w2 (w.heap.size + 1) l) :
    CopyInv w l ((w.alloc (.cells (Array.replicate 32 (.int .u8 0)) 50)).alloc (.cells (strCells h wt n).toArray 62)) := by
  have r1 := World.rowIs_alloc w (Array.replicate 32 (.int .u8 0)) 50 (fun _ => .int .u8 0) (fun i hi => by
    rw [Array.getElem?_replicate, if_pos (by simpa using hi)])
  rw [Array.size_replicate] at r1
  have r2 := World.rowIs_alloc (w.alloc (.cells (Array.replicate 32 (.int .u8 0)) 50)) (strCells h wt n).toArray 62 (strCell h wt n) (fun i hi => by
    rw [strCells_size] at hi; simpa using strCells_at h wt n i hi)
  rw [size_alloc, strCells_size] at r2
  have bl : Below w.heap.size w ((w.alloc (.cells (Array.replicate 32 (.int .u8 0)) 50)).alloc (.cells (strCells h wt n).toArray 62)) :=
    ((Below.refl _ _).alloc (Nat.le_refl _) _).alloc (by rw [size_alloc]; omega) _
  have o : Only (w.heap.size + 1) w ((w.alloc (.cells (Array.replicate 32 (.int .u8 0)) 50)).alloc (.cells (strCells h wt n).toArray 62)) := Only.of_below bl
  exact ⟨hs _ r2, ht.only (by have := ht.1; omega) o, bl, r1.alloc _⟩

/-- What holds when the padding is taken. -/
def PadDone (w : World) (l : List UInt8) (w3 : World) : Prop :=
  w3.rangeAt (w.heap.size + 1) 0 (digest8 l).arr.toList ∧ Below w.heap.size w w3 ∧ w3.rowIs w.heap.size 50 32 (fun _ => .int .u8 0)
theorem pad_done {w w2 w3 : World} {l : List UInt8} (c : CopyInv w l w2) (hs : StrOf w3 (w.heap.size + 1) (padded l)) (o : Only (w.heap.size + 1) w2 w3) : PadDone w l w3 := by
  obtain ⟨h, wt, h1, h2, -⟩ := hs
  have e := h2 (padded_length l).2.2
  refine ⟨fun j v hv => ?_, c.2.2.1.trans (o.to_below (by omega) c.2.2.1.size), c.2.2.2.of_block (o.block _ c.2.2.2.lt (by omega))⟩
  have hj : j < 8 := by have := (List.getElem?_eq_some_iff.1 hv).1; simpa [Eight.arr] using this
  rw [Nat.zero_add, h1.word j hj, ← hv, e]
  show some (Value.int .u32 (((digest8 l).at j).toNat : Int)) = _
  generalize digest8 l = v8
  rcases j with _ | _ | _ | _ | _ | _ | _ | _ | j
  all_goals first | omega | rfl
/-- What holds while the bytes are told. -/
def TellInv (w : World) (l : List UInt8) (q k : Nat) (wr : World) : Prop :=
  wr.rowIs q 50 32 (fun j => if j < k then sumV l j else .int .u8 0) ∧ wr.rowIs w.heap.size 50 32 (fun _ => .int .u8 0) ∧ Below w.heap.size w wr ∧ w.heap.size < q
theorem tell_start {w w3 : World} {l : List UInt8} (c : PadDone w l w3) : TellInv w l w3.heap.size 0 (w3.alloc (.cells (Array.replicate 32 (.int .u8 0)) 50)) := by
  have r1 := World.rowIs_alloc w3 (Array.replicate 32 (.int .u8 0)) 50 (fun _ => .int .u8 0) (fun i hi => by
    rw [Array.getElem?_replicate, if_pos (by simpa using hi)])
  rw [Array.size_replicate] at r1
  exact ⟨r1.congr (fun j _ => by rw [if_neg (by omega)]), c.2.2.alloc _, c.2.1.alloc c.2.1.size _, c.2.2.lt⟩
theorem TellInv.step {w : World} {l : List UInt8} {q k : Nat} {wr : World} (i : TellInv w l q k wr) (v : Int) (hv : v = ((sumB l k).toNat : Int)) : TellInv w l q (k + 1) (wr.setCell ⟨q, k, none⟩ (.int .u8 v)) :=
  ⟨row_next i.1 _ (by unfold sumV; rw [hv]), i.2.1.setOther (by show w.heap.size ≠ q; have := i.2.2.2; omega) _, i.2.2.1.setCell (by show w.heap.size ≤ q; have := i.2.2.2; omega) _, i.2.2.2⟩
theorem sumB_val (l : List UInt8) (i r : Nat) (hi : i < 8) (hr : r < 4) (sh : Int) (hs : sh = 2 ^ (24 - 8 * r)) : (((digest8 l).at i).toNat : Int) / sh % 256 = ((sumB l (4 * i + r)).toNat : Int) := by
  subst hs
  unfold sumB
  rw [shr_w _ _ (by omega), show (4 * i + r) / 4 = i by omega, show (4 * i + r) % 4 = r by omega, UInt32.toNat_toUInt8]
  omega
theorem sumB_val3 (l : List UInt8) (i : Nat) (hi : i < 8) : (((digest8 l).at i).toNat : Int) % 256 = ((sumB l (4 * i + 3)).toNat : Int) := by
  have := sumB_val l i 3 hi (by omega) 1 rfl
  rwa [Int.ediv_one] at this
theorem sumVs_one (l : List UInt8) : (sumVs l).toArray.all (·.oneCell') = true := all_oneCell_toArray (fun v hv => by
  unfold sumVs at hv
  obtain ⟨j, _, rfl⟩ := List.mem_map.1 hv
  rfl)

set_option maxRecDepth 100000 in
theorem sum_nil (w : World) (ht : TabOK w) :
    Calls Tryd.prog 28 #[.pointer none] w fun e w' => e = .returned (.agg (sumVs []).toArray) ∧ Below w.heap.size w w' := by
  have hlen : ([] : List UInt8).length ≤ 900000 := by simp
  have HC := Lib.hid (copy_any (l := []) ht (fun _ => 0) (fun _ => 0) 0 (fun w2 h => StrOf.zero h))
  have hz := zero73
  have hq0 : w.heap.size + 1 ≠ 0 := by have := ht.1; omega
  clear ht
  obtain ⟨l, hl⟩ : ∃ l : List UInt8, l = [] := ⟨_, rfl⟩
  rw [← hl] at HC hlen ⊢
  clear hl
  go_enter Tryd.func28, Tryd.ntmps28
  go_wp2_with fail
  refine (pad_any (w.heap.size + 1) l _ HC.out.1 HC.out.2.1 hq0 hlen).mono ?_
  rintro e w3 ⟨rfl, t1, -, t3⟩
  have HD := Lib.hid (pad_done HC.out t1 t3)
  clear t1 t3 HC hz
  obtain ⟨E8, hE8⟩ : ∃ E8, E8 = (digest8 l).arr.toList := ⟨_, rfl⟩
  have HR := Lib.hid HD.out.1
  rw [← hE8] at HR
  have HE := Lib.hid hE8
  clear hE8
  go_wp2_with (refine wpList_load_mid rfl 59 _ rfl (w.heap.size + 1) 0 rfl E8 _ (World.rangeAt_alloc HR.out _) arr28 rfl (by rw [HE.out]; exact info28) ?_)
  have HI := Lib.hid (tell_start HD.out)
  clear HR
  generalize hW : World.alloc _ _ = w4
  have HI2 := Lib.hid (show TellInv w l w3.heap.size 0 w4 by rw [← hW]; exact HI.out)
  clear HI hW HD
  generalize w3.heap.size = q at HI2 ⊢
  go_loopw [15] (fun i wr => ∃ k : Nat, k ≤ 8 ∧ i = .int .i64 (k : Int) ∧ Hid (TellInv w l q (4 * k) wr)) (fun i _ => 8 - (intOf i).toNat)
  case atStart => exact ⟨0, by omega, rfl, HI2⟩
  case round =>
    obtain ⟨k, hk, rfl, HI⟩ := hrel
    clear HI2
    by_cases h8 : k < 8
    · have hix : ∀ w0, (Instr.index 59 (.agg E8.toArray) (.int .i64 (k : Int))).run Tryd.prog w0 = .ok (.int .u32 (((digest8 l).at k).toNat : Int)) w0 := fun w0 => by rw [HE.out]; exact agg_idx _ k h8 w0
      have i0 := fun w0 => idxArr arr22 sizeU8 q (4 * k) (4 * (k : Int)) (by omega) (by omega) w0
      have i1 := fun w0 => idxArr arr22 sizeU8 q (4 * k + 1) (4 * (k : Int) + 1) (by omega) (by omega) w0
      have i2 := fun w0 => idxArr arr22 sizeU8 q (4 * k + 2) (4 * (k : Int) + 2) (by omega) (by omega) w0
      have i3 := fun w0 => idxArr arr22 sizeU8 q (4 * k + 3) (4 * (k : Int) + 3) (by omega) (by omega) w0
      have d0 := row_at HI.out.1 (by omega : 4 * k < 32)
      have f0 : wr.frozen? ⟨q, 4 * k, none⟩ = false := HI.out.1.frozen _
      have HJ1 := Lib.hid (HI.out.step _ (sumB_val l k 0 h8 (by omega) 16777216 rfl))
      have d1 := row_at HJ1.out.1 (by omega : 4 * k + 1 < 32)
      have f1 := HJ1.out.1.frozen (4 * k + 1)
      have HJ2 := Lib.hid (HJ1.out.step _ (sumB_val l k 1 h8 (by omega) 65536 rfl))
      have d2 := row_at HJ2.out.1 (by omega : 4 * k + 2 < 32)
      have f2 := HJ2.out.1.frozen (4 * k + 2)
      have HJ3 := Lib.hid (HJ2.out.step _ (sumB_val l k 2 h8 (by omega) 256 rfl))
      have d3 := row_at HJ3.out.1 (by omega : 4 * k + 3 < 32)
      have f3 := HJ3.out.1.frozen (4 * k + 3)
      have HJ4 := Lib.hid (HJ3.out.step _ (sumB_val3 l k h8))
      go_wp2_with fail
      go_roundw
      case rel => exact ⟨k + 1, by omega, by go_num, HJ4⟩
      case measure => simp [intOf]; omega
    · have HR := Lib.hid (show wr.rangeAt q 0 (sumVs l) from rangeAt_row HI.out.1 _ (sumVs_len l) (fun j hj => by rw [if_pos (by omega), sumVs_at l j hj]))
      obtain ⟨old, hg0, hsz, -⟩ := HI.out.2.1
      have HG := Lib.hid hg0
      have HZ := Lib.hid hsz
      have HB := Lib.hid HI.out.2.2.1
      clear hg0 hsz HI
      go_wp2_with (first
        | (refine wpList_load_mid rfl 50 _ rfl q 0 rfl (sumVs l) _ HR.out arr22 rfl (by rw [sumVs_len]; exact info22) ?_)
        | (refine wpList_store_row rfl 50 _ _ rfl w.heap.size (sumVs l).toArray rfl rfl 50 old HG.out (by rw [sumVs_size]; exact info22) (by rw [HZ.out, sumVs_size]) (sumVs_one l) ?_))
      exact bodyPost_ret (results_cell_row rfl _ _ _ 50 _ _ _ rfl (setRow_heap _ _ _ _ _ _ HG.out) arr22 rfl (by rw [sumVs_size]; exact info22)) rfl ⟨rfl, below_setRow HB.out (Nat.le_refl _) _⟩

set_option maxHeartbeats 1600000 in
set_option maxRecDepth 100000 in
theorem sum_any (b : Nat) (l : List UInt8) (w : World) (hs : StrOf w b l) (ht : TabOK w) (hlen : l.length ≤ 900000) :
    Calls Tryd.prog 28 #[.pointer (some ⟨b, 0, none⟩)] w fun e w' => e = .returned (.agg (sumVs l).toArray) ∧ Below w.heap.size w w' := by
  obtain ⟨h, wt, h1, h2, h3⟩ := hs
  have HC0 := Lib.hid (copy_any (l := l) ht h wt l.length (fun w2 r => ⟨h, wt, r, h2, h3⟩))
  have HL := Lib.hid (rangeAt_row h1 (strCells h wt l.length) (strCells_len _ _ _) (fun j hj => strCells_at _ _ _ j hj))
  have hlt := World.rowIs.lt h1
  have hz := zero73
  have hq0 : w.heap.size + 1 ≠ 0 := by have := ht.1; omega
  clear ht h1 h2 h3
  obtain ⟨cs, hcs⟩ : ∃ cs, cs = strCells h wt l.length := ⟨_, rfl⟩
  rw [← hcs] at HL HC0
  have HCS := Lib.hid hcs
  clear hcs
  go_enter Tryd.func28, Tryd.ntmps28
  go_wp2_with (first
    | (refine wpList_load_mid rfl 62 _ rfl b 0 rfl cs _ (World.rangeAt_alloc (World.rangeAt_alloc HL.out _) _) under31 rfl (by rw [HCS.out, strCells_len]; exact info31) ?_)
    | (refine wpList_store_row rfl 62 _ _ rfl (w.heap.size + 1) cs.toArray rfl rfl 62 zer73 (Go.heap_alloc2_new _ _ _) (by rw [HCS.out, strCells_size]; exact info31) (by rw [HCS.out, strCells_size, zer73_size]) (by rw [HCS.out]; exact strCells_one _ _ _) ?_))
  have e : ∀ A : Obj, ((w.alloc A).alloc (.cells zer73 62)).setRow (w.heap.size + 1) cs.toArray = (w.alloc A).alloc (.cells cs.toArray 62) := fun A => by
    rw [← size_alloc w A]; exact World.setRow_alloc_new _ _ _ _
  rw [e]
  have HC := HC0
  clear HC0 e HL HCS
  refine (pad_any (w.heap.size + 1) l _ HC.out.1 HC.out.2.1 hq0 hlen).mono ?_
  rintro e w3 ⟨rfl, t1, -, t3⟩
  have HD := Lib.hid (pad_done HC.out t1 t3)
  clear t1 t3 HC hz
  obtain ⟨E8, hE8⟩ : ∃ E8, E8 = (digest8 l).arr.toList := ⟨_, rfl⟩
  have HR := Lib.hid HD.out.1
  rw [← hE8] at HR
  have HE := Lib.hid hE8
  clear hE8
  go_wp2_with (refine wpList_load_mid rfl 59 _ rfl (w.heap.size + 1) 0 rfl E8 _ (World.rangeAt_alloc HR.out _) arr28 rfl (by rw [HE.out]; exact info28) ?_)
  have HI := Lib.hid (tell_start HD.out)
  clear HR
  generalize hW : World.alloc _ _ = w4
  have HI2 := Lib.hid (show TellInv w l w3.heap.size 0 w4 by rw [← hW]; exact HI.out)
  clear HI hW HD
  generalize w3.heap.size = q at HI2 ⊢
  go_loopw [15] (fun i wr => ∃ k : Nat, k ≤ 8 ∧ i = .int .i64 (k : Int) ∧ Hid (TellInv w l q (4 * k) wr)) (fun i _ => 8 - (intOf i).toNat)
  case atStart => exact ⟨0, by omega, rfl, HI2⟩
  case round =>
    obtain ⟨k, hk, rfl, HI⟩ := hrel
    clear HI2
    by_cases h8 : k < 8
    · have hix : ∀ w0, (Instr.index 59 (.agg E8.toArray) (.int .i64 (k : Int))).run Tryd.prog w0 = .ok (.int .u32 (((digest8 l).at k).toNat : Int)) w0 := fun w0 => by rw [HE.out]; exact agg_idx _ k h8 w0
      have i0 := fun w0 => idxArr arr22 sizeU8 q (4 * k) (4 * (k : Int)) (by omega) (by omega) w0
      have i1 := fun w0 => idxArr arr22 sizeU8 q (4 * k + 1) (4 * (k : Int) + 1) (by omega) (by omega) w0
      have i2 := fun w0 => idxArr arr22 sizeU8 q (4 * k + 2) (4 * (k : Int) + 2) (by omega) (by omega) w0
      have i3 := fun w0 => idxArr arr22 sizeU8 q (4 * k + 3) (4 * (k : Int) + 3) (by omega) (by omega) w0
      have d0 := row_at HI.out.1 (by omega : 4 * k < 32)
      have f0 : wr.frozen? ⟨q, 4 * k, none⟩ = false := HI.out.1.frozen _
      have HJ1 := Lib.hid (HI.out.step _ (sumB_val l k 0 h8 (by omega) 16777216 rfl))
      have d1 := row_at HJ1.out.1 (by omega : 4 * k + 1 < 32)
      have f1 := HJ1.out.1.frozen (4 * k + 1)
      have HJ2 := Lib.hid (HJ1.out.step _ (sumB_val l k 1 h8 (by omega) 65536 rfl))
      have d2 := row_at HJ2.out.1 (by omega : 4 * k + 2 < 32)
      have f2 := HJ2.out.1.frozen (4 * k + 2)
      have HJ3 := Lib.hid (HJ2.out.step _ (sumB_val l k 2 h8 (by omega) 256 rfl))
      have d3 := row_at HJ3.out.1 (by omega : 4 * k + 3 < 32)
      have f3 := HJ3.out.1.frozen (4 * k + 3)
      have HJ4 := Lib.hid (HJ3.out.step _ (sumB_val3 l k h8))
      go_wp2_with fail
      go_roundw
      case rel => exact ⟨k + 1, by omega, by go_num, HJ4⟩
      case measure => simp [intOf]; omega
    · have HR := Lib.hid (show wr.rangeAt q 0 (sumVs l) from rangeAt_row HI.out.1 _ (sumVs_len l) (fun j hj => by rw [if_pos (by omega), sumVs_at l j hj]))
      obtain ⟨old, hg0, hsz, -⟩ := HI.out.2.1
      have HG := Lib.hid hg0
      have HZ := Lib.hid hsz
      have HB := Lib.hid HI.out.2.2.1
      clear hg0 hsz HI
      go_wp2_with (first
        | (refine wpList_load_mid rfl 50 _ rfl q 0 rfl (sumVs l) _ HR.out arr22 rfl (by rw [sumVs_len]; exact info22) ?_)
        | (refine wpList_store_row rfl 50 _ _ rfl w.heap.size (sumVs l).toArray rfl rfl 50 old HG.out (by rw [sumVs_size]; exact info22) (by rw [HZ.out, sumVs_size]) (sumVs_one l) ?_))
      exact bodyPost_ret (results_cell_row rfl _ _ _ 50 _ _ _ rfl (setRow_heap _ _ _ _ _ _ HG.out) arr22 rfl (by rw [sumVs_size]; exact info22)) rfl ⟨rfl, below_setRow HB.out (Nat.le_refl _) _⟩
end Go.Proofs.YtjmiekhjkeioaaaDoor

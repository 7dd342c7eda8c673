/- The contract of the reference's Sum. -/
import Derived.Test.YtjmiekhjkeioaaaDoorShaJ
import Derived.Laws.DeepStrings4
namespace Go.Proofs.YtjmiekhjkeioaaaDoor
open Go.RowKit
set_option linter.unusedVariables false

/-- What holds while the blocks are taken: the words so far, and the result's cells. -/
def RsInv (w : World) (l : List UInt8) (q k : Nat) (wr : World) : Prop :=
  wr.rowIs q 59 8 (fun j => .int .u32 (((hashN (padded l) k).at j).toNat : Int)) ∧ wr.rowIs w.heap.size 50 32 (fun _ => .int .u8 0) ∧ Keeps w wr ∧ w.heap.size < q
theorem RsInv.keeps {w : World} {l : List UInt8} {q k : Nat} {wr w' : World} (i : RsInv w l q k wr) (h : Keeps wr w') : RsInv w l q k w' :=
  ⟨i.1.of_block (h.block _ i.1.lt), i.2.1.of_block (h.block _ i.2.1.lt), i.2.2.1.trans h, i.2.2.2⟩
theorem RsInv.drewN {w : World} {l : List UInt8} {q k : Nat} {wr : World} (i : RsInv w l q k wr) (n : Nat) : RsInv w l q k (wr.drewN n) := i.keeps ((Keeps.refl _).drewN n)
theorem RsInv.step {w : World} {l : List UInt8} {q k : Nat} {wr : World} (i : RsInv w l q k wr) (c : Array Value) (hc : c = (hashN (padded l) (k + 1)).arr) : RsInv w l q (k + 1) (wr.setRow q c) := by
  obtain ⟨h1, h2, h3, h4⟩ := i
  obtain ⟨old, hg, -, -⟩ := h1
  subst hc
  exact ⟨arr_row (setRow_heap _ _ _ _ _ _ hg), h2.of_block (setRow_other _ _ _ _ (by omega)), h3.low (below_setRow (Below.refl _ _) (by omega) _), h4⟩
theorem RsInv.cells {w : World} {l : List UInt8} {q k : Nat} {wr : World} (i : RsInv w l q k wr) (e8 : Eight) (he : e8 = hashN (padded l) k) :
    wr.cell? ⟨q, 0, none⟩ = some (.int .u32 (e8.a.toNat : Int)) ∧ wr.cell? ⟨q, 1, none⟩ = some (.int .u32 (e8.b.toNat : Int)) ∧ wr.cell? ⟨q, 2, none⟩ = some (.int .u32 (e8.c.toNat : Int)) ∧ wr.cell? ⟨q, 3, none⟩ = some (.int .u32 (e8.d.toNat : Int)) ∧
    wr.cell? ⟨q, 4, none⟩ = some (.int .u32 (e8.e.toNat : Int)) ∧ wr.cell? ⟨q, 5, none⟩ = some (.int .u32 (e8.f.toNat : Int)) ∧ wr.cell? ⟨q, 6, none⟩ = some (.int .u32 (e8.g.toNat : Int)) ∧ wr.cell? ⟨q, 7, none⟩ = some (.int .u32 (e8.h.toNat : Int)) := by
  subst he
  exact ⟨i.1.cell (i := 0) (by omega), i.1.cell (i := 1) (by omega), i.1.cell (i := 2) (by omega), i.1.cell (i := 3) (by omega), i.1.cell (i := 4) (by omega), i.1.cell (i := 5) (by omega), i.1.cell (i := 6) (by omega), i.1.cell (i := 7) (by omega)⟩
theorem rs_start {w w1 : World} {l : List UInt8} (hb : Below (w.heap.size + 1) (w.alloc (.cells (Array.replicate 32 (.int .u8 0)) 50)) w1) :
    RsInv w l w1.heap.size 0 (w1.alloc (.cells init8.arr 59)) := by
  have r1 := World.rowIs_alloc w (Array.replicate 32 (.int .u8 0)) 50 (fun _ => .int .u8 0) (fun i hi => by
    rw [Array.getElem?_replicate, if_pos (by simpa using hi)])
  rw [Array.size_replicate] at r1
  have hs := hb.size
  rw [size_alloc] at hs
  have k1 : Keeps w w1 := (Keeps.refl w).alloc (.cells (Array.replicate 32 (.int .u8 0)) 50) |>.trans (Keeps.of_below (by rw [size_alloc]; exact hb))
  exact ⟨arr_row (v := init8) (heap_alloc_last _ _), (r1.of_block (hb.block _ (by omega))).alloc _, k1.alloc _, by omega⟩

/-- What holds while the bytes are told. -/
def OutInv (w : World) (l : List UInt8) (q r k : Nat) (wr : World) : Prop :=
  wr.rowIs q 59 8 (fun j => .int .u32 (((digest8 l).at j).toNat : Int)) ∧ wr.rowIs r 50 32 (fun j => if j < k then sumV l j else .int .u8 0) ∧ wr.rowIs w.heap.size 50 32 (fun _ => .int .u8 0) ∧ Keeps w wr ∧ w.heap.size < r ∧ q ≠ r
theorem out_start {w : World} {l : List UInt8} {q k r : Nat} {wr : World} (i : RsInv w l q k wr) (hk : k = (padded l).length / 64) (hr : r = wr.heap.size) :
    OutInv w l q r 0 (wr.alloc (.cells (Array.replicate 32 (.int .u8 0)) 50)) := by
  subst hr hk
  have r1 := World.rowIs_alloc wr (Array.replicate 32 (.int .u8 0)) 50 (fun _ => .int .u8 0) (fun i hi => by
    rw [Array.getElem?_replicate, if_pos (by simpa using hi)])
  rw [Array.size_replicate] at r1
  exact ⟨i.1.alloc _, r1.congr (fun j _ => by rw [if_neg (by omega)]), i.2.1.alloc _, i.2.2.1.alloc _, i.2.1.lt, Nat.ne_of_lt i.1.lt⟩
theorem OutInv.step {w : World} {l : List UInt8} {q r k : Nat} {wr : World} (i : OutInv w l q r k wr) (z : Int) (hz : z = ((sumB l k).toNat : Int)) : OutInv w l q r (k + 1) (wr.setCell ⟨r, k, none⟩ (.int .u8 z)) :=
  ⟨i.1.setOther (by show q ≠ r; exact i.2.2.2.2.2) _, row_next i.2.1 _ (by unfold sumV; rw [hz]), i.2.2.1.setOther (by show w.heap.size ≠ r; have := i.2.2.2.2.1; omega) _,
    i.2.2.2.1.low ((Below.refl _ _).setCell (by show w.heap.size ≤ r; have := i.2.2.2.2.1; omega) _), i.2.2.2.2⟩

set_option maxRecDepth 100000 in
theorem rsum_any (s : ByteArray) (w : World) (hlen : s.data.toList.length ≤ 900000) :
    Calls Tryd.prog 18 #[.string s] w fun e w' => e = .returned (.agg (sumVs s.data.toList).toArray) ∧ Keeps w w' := by
  go_enter Tryd.func18, Tryd.ntmps18
  go_wp2_with (first
    | (go_at_call 29; refine (begin_any _).mono ?_; rintro e w1 ⟨rfl, hb1⟩; have HB1 := Lib.hid hb1; clear hb1)
    | (refine wpList_store_row rfl 59 _ _ rfl _ init8.arr rfl rfl 59 _ (heap_alloc_last _ _) info28 rfl init8_one ?_; rw [World.setRow_alloc_new])
    | (go_at_call 30; refine (whole_any s _ hlen).mono ?_; rintro e w2 ⟨rfl, hk2⟩; have HK2 := Lib.hid hk2; clear hk2))
  have HI := Lib.hid ((rs_start (l := s.data.toList) (by have := HB1.out; rw [size_alloc] at this; exact this)).keeps HK2.out)
  clear HB1 HK2
  generalize w1.heap.size = q at HI ⊢
  obtain ⟨l, hl⟩ : ∃ l, l = s.data.toList := ⟨_, rfl⟩
  rw [← hl] at HI hlen
  obtain ⟨T, hT⟩ : ∃ T : ByteArray, T = ⟨(padded s.data.toList).toArray⟩ := ⟨_, rfl⟩
  rw [← hT]
  rw [← hl] at hT
  have HT := Lib.hid (show T.data.toList = padded l by rw [hT])
  have HL := Lib.hid hl
  clear hl hT
  obtain ⟨hp1, hp2, -⟩ := padded_length l
  have hTs : T.size = (padded l).length := by rw [size_toList, HT.out]
  obtain ⟨N, hN⟩ : ∃ N, N = (padded l).length / 64 := ⟨_, rfl⟩
  have hTN : T.size = 64 * N := by omega
  have hTN1 : (T.size : Int) ≤ 64 * (N : Int) := by omega
  have hTN2 : 64 * (N : Int) ≤ (T.size : Int) := by omega
  have hNb : N ≤ 100000 := by omega
  have HTN := Lib.hid hTN
  have HN := Lib.hid hN
  clear hp1 hp2 hTs hTN hN
  go_loopw [5] (fun i wr => ∃ k : Nat, k ≤ N ∧ i = .int .i64 (64 * (k : Int)) ∧ Hid (RsInv w l q k wr)) (fun i _ => (64 * N + 64) - (intOf i).toNat)
  case atStart => exact ⟨0, by omega, rfl, HI⟩
  case round =>
    clear HI
    obtain ⟨k, hk, rfl, HI⟩ := hrel
    by_cases hkN : k < N
    · have hx : (T.extract (64 * k) (64 * k + 64)).data.toList = ((padded l).drop (64 * k)).take 64 := by
        rw [Lib.extract_data, HT.out, show 64 * k + 64 - 64 * k = 64 by omega]
      have hB : ∀ j, j < 64 → (T.extract (64 * k) (64 * k + 64)).data.toList[j]? = some ((padded l).getD (64 * k + j) 0) := fun j hj => by
        have hlt : 64 * k + j < (padded l).length := by have h1 := HTN.out; rw [size_toList, HT.out] at h1; omega
        rw [hx, List.getElem?_take, if_pos hj, List.getElem?_drop, List.getElem?_eq_getElem hlt]
        simp [List.getD, List.getElem?_eq_getElem hlt]
      obtain ⟨e8, he8⟩ : ∃ e8, e8 = hashN (padded l) k := ⟨_, rfl⟩
      have H8 := Lib.hid he8
      have HBL := Lib.hid (fun w0 => block_any e8 _ _ hB w0)
      obtain ⟨a0, a1, a2, a3, a4, a5, a6, a7⟩ := HI.out.cells e8 he8
      have hsl : ∀ w0, (Instr.slice 9 (.string T) (some (.int .i64 (64 * (k : Int)))) (some (.int .i64 (64 * (k : Int) + 64))) none).run Tryd.prog w0 = .ok (.string (T.extract (64 * k) (64 * k + 64))) w0 := fun w0 => by
        rw [run_slice_string_if w0 9 T .i64 .i64 _ _ Tryd.underlying9, if_pos ⟨by omega, by omega⟩, if_pos ⟨by omega, by omega⟩]
        rw [show (64 * (k : Int)).toNat = 64 * k by omega, show (64 * (k : Int) + 64).toNat = 64 * k + 64 by omega]
      have e1 : IntKind.i64.wrap (64 * (k : Int) + 64) = 64 * (k : Int) + 64 := IntWalk.i64_in _ (by omega)
      clear hx hB he8
      go_wp2_with fail
      go_still_tail 6, (by kernel_rfl)
      change wpList _ _ _ _ _ wr.drew
      have HI2 := Lib.hid (HI.out.drewN 1)
      rw [← World.drew_is_drewN] at HI2
      clear a0 a1 a2 a3 a4 a5 a6 a7 hsl e1 HI
      generalize wr.drew = w3 at HI2
      obtain ⟨c8, hc8⟩ : ∃ c8, c8 = (comp e8 fun j => (padded l).getD (64 * k + j) 0).arr := ⟨_, rfl⟩
      rw [← hc8] at HBL
      have HC8 := Lib.hid hc8
      clear hc8
      go_wp2_with (first
        | (go_at_call 31; refine (HBL.out _).mono ?_; rintro e w4 ⟨rfl, hb4⟩; have HI3 := Lib.hid (HI2.out.keeps (Keeps.of_below hb4)); clear hb4; obtain ⟨old, hg0, hsz, -⟩ := id HI3.out.1; have HG := Lib.hid hg0; have HZ := Lib.hid hsz; clear hg0 hsz)
        | (refine wpList_store_row rfl 59 _ _ rfl q c8 rfl rfl 59 old HG.out (by rw [HC8.out]; exact info28) (by rw [HZ.out, HC8.out]; rfl) (by rw [HC8.out]; exact arr_one _) ?_))
      go_roundw
      case rel => exact ⟨k + 1, by omega, by go_num, HI3.out.step _ (by rw [HC8.out, H8.out]; rfl)⟩
      case measure => simp [intOf]; omega
    · have HK := Lib.hid (show k = (padded l).length / 64 by rw [← HN.out]; omega)
      have hd : decide (64 * (k : Int) + 64 ≤ (T.size : Int)) = false := by simp; omega
      have HO := Lib.hid (out_start (r := wr.heap.size) HI.out HK.out rfl)
      clear HI
      go_wp2_with fail
      clear hd
      generalize hW : World.alloc _ _ = w4
      have HO2 := Lib.hid (show OutInv w l q wr.heap.size 0 w4 by rw [← hW]; exact HO.out)
      clear HO hW
      generalize wr.heap.size = r at HO2 ⊢
      go_loopw [7] (fun i wr => ∃ t : Nat, t ≤ 32 ∧ i = .int .i64 (t : Int) ∧ Hid (OutInv w l q r t wr)) (fun i _ => 32 - (intOf i).toNat)
      case atStart => exact ⟨0, by omega, rfl, HO2⟩
      case round =>
        clear HO2
        obtain ⟨t, ht, rfl, HO⟩ := hrel
        by_cases h32 : t < 32
        · have g1 := fun w0 => idxArr arr28 sizeU32 q (t / 4) ((t : Int) / 4) (by omega) (by omega) w0
          have g2 := fun w0 => idxArr arr22 sizeU8 r t (t : Int) rfl (by omega) w0
          have c1 := HO.out.1.cell (i := t / 4) (by omega)
          have d0 := row_at HO.out.2.1 h32
          have f0 : World.frozen? _ ⟨r, t, none⟩ = false := HO.out.2.1.frozen t
          go_wp2_with fail
          go_roundw
          case rel =>
            refine ⟨t + 1, by omega, by go_num, HO.out.step _ ?_⟩
            unfold sumB
            rw [shr_w _ _ (by omega), UInt32.toNat_toUInt8]
            omega
          case measure => simp [intOf]; omega
        · have hd : decide ((t : Int) < 32) = false := by simp; omega
          have HR := Lib.hid (show World.rangeAt _ r 0 (sumVs l) from rangeAt_row HO.out.2.1 _ (sumVs_len l) (fun j hj => by rw [if_pos (by omega), sumVs_at l j hj]))
          obtain ⟨old, hg0, hsz, -⟩ := HO.out.2.2.1
          have HG := Lib.hid hg0
          have HZ := Lib.hid hsz
          have HKP := Lib.hid HO.out.2.2.2.1
          clear hg0 hsz HO
          obtain ⟨so, hso⟩ : ∃ so, so = sumVs l := ⟨_, rfl⟩
          rw [← hso] at HR
          have HSO := Lib.hid hso
          clear hso
          go_wp2_with (first
            | (refine wpList_load_mid rfl 50 _ rfl r 0 rfl so _ HR.out arr22 rfl (by rw [HSO.out, sumVs_len]; exact info22) ?_)
            | (refine wpList_store_row rfl 50 _ _ rfl w.heap.size so.toArray rfl rfl 50 old HG.out (by rw [HSO.out, sumVs_size]; exact info22) (by rw [HZ.out, HSO.out, sumVs_size]) (by rw [HSO.out]; exact sumVs_one l) ?_))
          exact bodyPost_ret (results_cell_row rfl _ _ _ 50 _ _ _ rfl (setRow_heap _ _ _ _ _ _ HG.out) arr22 rfl (by rw [HSO.out, sumVs_size]; exact info22)) rfl ⟨by rw [HSO.out, HL.out], HKP.out.low (below_setRow (Below.refl _ _) (Nat.le_refl _) _)⟩
end Go.Proofs.YtjmiekhjkeioaaaDoor

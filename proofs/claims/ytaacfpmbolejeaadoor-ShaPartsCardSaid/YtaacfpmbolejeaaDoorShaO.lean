/- The walk of the law ShaParts. -/
import Derived.Test.YtaacfpmbolejeaaDoorShaN
import Derived.Laws.Concat
namespace Go.Proofs.YtaacfpmbolejeaaDoor
open Go.RowKit
set_option linter.unusedVariables false

/-- The bytes of the first k parts. -/
def joinP (ss : List ByteArray) (k : Nat) : List UInt8 := (ss.take k).flatMap (fun s => s.data.toList)
theorem joinP_succ (ss : List ByteArray) (k : Nat) (h : k < ss.length) : joinP ss (k + 1) = joinP ss k ++ (ss.getD k ByteArray.empty).data.toList := by
  unfold joinP
  rw [List.take_succ_eq_append_getElem h, List.flatMap_append]
  simp [List.getD, List.getElem?_eq_getElem h]
/-- What holds in the law's loop: both Streams have taken the same bytes. -/
def PInv (w : World) (l : List UInt8) (wr : World) : Prop := StrOf wr w.heap.size l ∧ StrOf wr (w.heap.size + 1) l ∧ TabOK wr ∧ Keeps w wr
theorem PInv.keeps {w wr w' : World} {l : List UInt8} (i : PInv w l wr) (k : Keeps wr w') : PInv w l w' :=
  ⟨i.1.block (k.block _ i.1.lt), i.2.1.block (k.block _ i.2.1.lt), i.2.2.1.keeps k, i.2.2.2.trans k⟩
theorem StrOf.only {w w' : World} {b c : Nat} {l : List UInt8} (h : StrOf w c l) (o : Only b w w') (hne : c ≠ b) : StrOf w' c l := h.block (o.block _ h.lt hne)
theorem Keeps.only {u w w' : World} {b : Nat} (h : Keeps u w) (o : Only b w w') (hb : u.heap.size ≤ b) : Keeps u w' := h.low (o.to_below hb h.size)
theorem p_start (w : World) (ht : TabOK w) : PInv w [] ((w.alloc (.cells zer73 31)).alloc (.cells zer73 31)) := by
  have r0 : ∀ v : World, (v.alloc (.cells zer73 31)).rowIs v.heap.size 31 73 (strCell (fun _ => 0) (fun _ => 0) 0) := fun v =>
    ⟨zer73, heap_alloc_last _ _, zer73_size, fun i hi => by unfold zer73; simpa using strCells_at (fun _ => 0) (fun _ => 0) 0 i hi⟩
  have r2 := r0 (w.alloc (.cells zer73 31))
  rw [size_alloc] at r2
  have k : Keeps w ((w.alloc (.cells zer73 31)).alloc (.cells zer73 31)) := ((Keeps.refl w).alloc _).alloc _
  exact ⟨StrOf.zero ((r0 w).alloc _), StrOf.zero r2, ht.keeps k, k⟩

theorem append_list (a b : ByteArray) : (a ++ b).data.toList = a.data.toList ++ b.data.toList := by rw [ByteArray.data_append]; simp
theorem PInv.add1 {w wr w1 : World} {l l' : List UInt8} (i : PInv w l wr) (s : StrOf w1 w.heap.size l') (t : TabOK w1) (o : Only w.heap.size wr w1) : StrOf w1 w.heap.size l' ∧ StrOf w1 (w.heap.size + 1) l ∧ TabOK w1 ∧ Keeps w w1 :=
  ⟨s, i.2.1.only o (by omega), t, i.2.2.2.only o (Nat.le_refl _)⟩
theorem add2_inv {w w1 w2 : World} {l l' : List UInt8} (i : StrOf w1 w.heap.size l' ∧ StrOf w1 (w.heap.size + 1) l ∧ TabOK w1 ∧ Keeps w w1) (s : StrOf w2 (w.heap.size + 1) l') (t : TabOK w2) (o : Only (w.heap.size + 1) w1 w2) : PInv w l' w2 :=
  ⟨i.1.only o (by omega), s, t, i.2.2.2.only o (by omega)⟩
theorem add_block (a : Addr) (k : Nat) : (a.add k).block = a.block := by unfold Addr.add; split <;> rfl

set_option maxHeartbeats 2000000 in
set_option maxRecDepth 100000 in
theorem parts_any (ao : Option Addr) (len cap : Nat) (ss : List ByteArray) (w : World) (hl : ss.length = len) (hlm : len ≤ maxLen) (hc : ∀ i, i < len → ∃ a0, ao = some a0 ∧ a0.block < w.heap.size ∧ w.cell? (a0.add i) = some (.string (ss.getD i ByteArray.empty))) (ht : TabOK w) :
    Calls Tryd.prog 4 #[.slice ao len cap] w fun e w' => e = .returned (.bool true) ∧ Keeps w w' := by
  have HT := Lib.hid ht
  have HC := Lib.hid hc
  have HLen := Lib.hid hl
  unfold maxLen at hlm
  clear ht hc hl
  have hz := zero73
  by_cases h20 : len ≤ 20
  · have HI := Lib.hid (p_start w HT.out)
    have hq0 : w.heap.size ≠ 0 := by have := HT.out.1; omega
    have hq1 : w.heap.size + 1 ≠ 0 := by omega
    go_enter Tryd.func4, Tryd.ntmps4
    go_wp2_with fail
    clear hz
    go_loopw [5, 6] (fun v i wr => ∃ (k : Nat) (A : ByteArray), k ≤ len ∧ i = .int .i64 (k : Int) ∧ v = .string A ∧ Hid (A.data.toList = joinP ss k) ∧ A.data.toList.length ≤ 300 * k ∧ Hid (PInv w A.data.toList wr)) (fun _ i _ => len - (intOf i).toNat)
    case atStart => exact ⟨0, ⟨#[]⟩, by omega, rfl, rfl, rfl, by simp, HI⟩
    case round =>
      clear HI
      obtain ⟨k, A, hk, rfl, rfl, hA, hAl, HP⟩ := hrel
      by_cases hkl : k < len
      · obtain ⟨a0, rfl, ha0, hcell⟩ := HC.out k hkl
        obtain ⟨p, hp⟩ : ∃ p, p = ss.getD k ByteArray.empty := ⟨_, rfl⟩
        rw [← hp] at hcell
        have HPP := Lib.hid hp
        have HCell := Lib.hid hcell
        clear hcell hp
        have hab : (a0.add k).block < w.heap.size := by rw [add_block]; exact ha0
        have c0 := HP.out.2.2.2.cell (p := a0.add k) hab
        rw [HCell.out] at c0
        by_cases h300 : p.data.toList.length ≤ 300
        · have h3 : (p.size : Int) ≤ 300 := by rw [size_toList]; omega
          have hpl : p.data.toList.length ≤ 1000000 := by omega
          have hal : A.data.toList.length ≤ 1000000 := by omega
          go_wp2_with fail
          refine (add_any w.heap.size A.data.toList p _ HP.out.1 HP.out.2.2.1 hq0 hal hpl).mono ?_
          rintro e w1 ⟨rfl, s1, s2, s3⟩
          have HP1 := Lib.hid (HP.out.add1 s1 s2 s3)
          clear s1 s2 s3 c0 HP
          have c1 := HP1.out.2.2.2.cell (p := a0.add k) hab
          rw [HCell.out] at c1
          go_wp2_with fail
          refine (add_any (w.heap.size + 1) A.data.toList p _ HP1.out.2.1 HP1.out.2.2.1 hq1 hal hpl).mono ?_
          rintro e w2 ⟨rfl, s1, s2, s3⟩
          have hp2 := add2_inv HP1.out s1 s2 s3
          rw [← append_list] at hp2
          have HP2 := Lib.hid hp2
          clear s1 s2 s3 c1 HP1 hp2
          have c2 := HP2.out.2.2.2.cell (p := a0.add k) hab
          rw [HCell.out] at c2
          have hsum : ¬ (A.size + p.size > 9223372036854775807) := by rw [size_toList, size_toList]; omega
          go_wp2_with fail
          have HA2 := Lib.hid (show (A ++ p).data.toList = joinP ss (k + 1) by rw [append_list, hA.out, joinP_succ ss k (by rw [HLen.out]; exact hkl), HPP.out])
          have hA2l : (A ++ p).data.toList.length ≤ 300 * (k + 1) := by rw [append_list, List.length_append]; omega
          clear c2 hsum hal HCell hA
          generalize A ++ p = A2 at HP2 HA2 hA2l ⊢
          have HL := Lib.hid (show A2.data.toList.length ≤ 900000 by omega)
          have HQ := Lib.hid (fun w0 => sum_eq A2.data.toList w0)
          obtain ⟨S, hS⟩ : ∃ S, S = (sumVs A2.data.toList).toArray := ⟨_, rfl⟩
          have H1 := Lib.hid (fun b w0 (h : StrOf w0 b A2.data.toList) (h1 : TabOK w0) => sum_any b A2.data.toList w0 h h1 HL.out)
          have H2 := Lib.hid (fun w0 => rsum_any A2 w0 HL.out)
          have HG := Lib.hid (fun op x y w0 => sum_guard op x y A2.data.toList w0)
          have H3 := Lib.hid (fun b w0 (h : StrOf w0 b A2.data.toList) => len_any b A2.data.toList w0 h)
          rw [← hS] at H1 H2 HQ HG
          rw [← size_toList] at H3
          clear hS
          refine (H1.out _ _ HP2.out.1 HP2.out.2.2.1).mono ?_
          rintro e w3 ⟨rfl, hb3⟩
          have HP3 := Lib.hid (HP2.out.keeps (Keeps.of_below hb3))
          clear hb3 HP2
          go_wp2_with fail
          refine (H2.out _).mono ?_
          rintro e w4 ⟨rfl, hk4⟩
          have HP4 := Lib.hid (HP3.out.keeps hk4)
          have hq := HQ.out
          have hg := HG.out
          clear hk4 HP3
          go_wp2_with (go_at_call 11; refine (H3.out _ _ HP4.out.1).mono ?_; rintro e w5 ⟨rfl, rfl⟩)
          go_roundw
          case rel => exact ⟨k + 1, A2, by omega, by go_num, rfl, HA2, hA2l, HP4⟩
          case measure => simp [intOf]; omega
        · have h3 : 300 < (p.size : Int) := by rw [size_toList]; omega
          go_wp2_with (go_at_call 8; refine (awake_any _ HP.out.2.2.1).mono ?_; rintro e w3 ⟨rfl, hb3⟩)
          go_ret
          exact ⟨rfl, HP.out.2.2.2.below hb3⟩
      · have hkl2 : k = len := by omega
        have hd : decide ((k : Int) < (len : Int)) = false := by simp; omega
        have HL := Lib.hid (show A.data.toList.length ≤ 900000 by omega)
        have HQ := Lib.hid (fun w0 => sum_eq A.data.toList w0)
        have HQ0 := Lib.hid (fun w0 => sum_eq [] w0)
        obtain ⟨S, hS⟩ : ∃ S, S = (sumVs A.data.toList).toArray := ⟨_, rfl⟩
        obtain ⟨S0, hS0⟩ : ∃ S0, S0 = (sumVs []).toArray := ⟨_, rfl⟩
        have H1 := Lib.hid (fun b w0 (h : StrOf w0 b A.data.toList) (h1 : TabOK w0) => sum_any b A.data.toList w0 h h1 HL.out)
        have H2 := Lib.hid (fun w0 => rsum_any A w0 HL.out)
        have HG := Lib.hid (fun op x y w0 => sum_guard op x y A.data.toList w0)
        have H10 := Lib.hid (fun b w0 (h : StrOf w0 b []) (h1 : TabOK w0) => sum_any b [] w0 h h1 (by simp))
        have H20 := Lib.hid (fun w0 => rsum_any ⟨#[]⟩ w0 (by decide))
        have HG0 := Lib.hid (fun op x y w0 => sum_guard op x y [] w0)
        rw [show sumVs (ByteArray.mk #[]).data.toList = sumVs [] from rfl] at H20
        rw [← hS] at H1 H2 HQ HG
        rw [← hS0] at H10 H20 HQ0 HG0
        clear hS hS0 HC hkl2
        go_wp2_with fail
        refine (H1.out _ _ HP.out.2.1 HP.out.2.2.1).mono ?_
        rintro e w3 ⟨rfl, hb3⟩
        have HP3 := Lib.hid (HP.out.keeps (Keeps.of_below hb3))
        clear hb3 HP
        go_wp2_with fail
        refine (H2.out _).mono ?_
        rintro e w4 ⟨rfl, hk4⟩
        have HP4 := Lib.hid (HP3.out.keeps hk4)
        have hq := HQ.out
        have hg := HG.out
        clear hk4 HP3
        go_wp2_with fail
        clear hq hg
        refine (reset_any w.heap.size _ _ HP4.out.1).mono ?_
        rintro e w5 ⟨rfl, r1, r2⟩
        have HK5 := Lib.hid (HP4.out.2.2.2.only r2 (Nat.le_refl _))
        have HS5 := Lib.hid r1
        have HT5 := Lib.hid (HT.out.keeps HK5.out)
        have H30 : Hid (Calls Tryd.prog 11 #[.pointer (some ⟨w.heap.size, 0, none⟩)] w5 fun e w' => e = .returned (.int .i64 0) ∧ w5 = w') := len_any w.heap.size [] w5 r1
        clear r1 r2 HP4 H1 H2 HQ HG
        go_wp2_with fail
        refine H30.out.mono ?_
        rintro e w6 ⟨rfl, rfl⟩
        go_wp2_with fail
        refine (H10.out _ _ HS5.out HT5.out).mono ?_
        rintro e w7 ⟨rfl, hb7⟩
        have HK7 := Lib.hid (HK5.out.below hb7)
        clear hb7
        go_wp2_with fail
        refine (H20.out _).mono ?_
        rintro e w8 ⟨rfl, hk8⟩
        have HK8 := Lib.hid (HK7.out.trans hk8)
        have hq := HQ0.out
        have hg := HG0.out
        clear hk8
        go_wp2_with (go_at_call 8; refine (awake_any _ (HT.out.keeps HK8.out)).mono ?_; rintro e w9 ⟨rfl, hb9⟩)
        go_ret
        exact ⟨rfl, HK8.out.below hb9⟩
  · have h20' : 20 < (len : Int) := by omega
    go_enter Tryd.func4, Tryd.ntmps4
    go_wp2_with (go_at_call 8; refine (awake_any _ HT.out).mono ?_; rintro e w3 ⟨rfl, hb3⟩)
    go_ret
    exact ⟨rfl, Keeps.of_below hb3⟩
end Go.Proofs.YtaacfpmbolejeaaDoor

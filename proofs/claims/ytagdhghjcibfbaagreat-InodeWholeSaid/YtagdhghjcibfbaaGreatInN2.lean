/- Layer 8: names: strings.IndexAny at the two bytes that no name has; isName. -/
import Derived.Test.YtagdhghjcibfbaaGreatInN
namespace Go.Proofs.YtagdhghjcibfbaaGreat
open Go.RowKit
set_option linter.unusedVariables false
set_option maxRecDepth 100000

def ix2 (n : Nat) : Int := if n = 0 then 0 else if n = 47 then 1 else -1
set_option maxRecDepth 1000000 in
theorem ix2_low : ∀ i : Fin 128, Lib.indexByte [0, 47] (UInt8.ofNat i.val) = ix2 i.val := by decide
def okRune (n : Nat) : Prop := n < 55296 ∨ (57344 ≤ n ∧ n ≤ 1114111)
theorem indexRune2_any (n : Nat) (h : okRune n) (w : World) :
    Calls Tryz.prog 149 #[.string ⟨#[0, 47]⟩, .int .i32 (n : Int)] w fun e w' => e = .returned (.int .i64 (ix2 n)) ∧ Below w.heap.size w w' := by
  by_cases h0 : n < 128
  · refine (Tryz.strings_IndexRune_ascii _ _ _ (by omega) (by omega)).mono ?_
    rintro e w' ⟨rfl, rfl⟩
    refine ⟨?_, Below.refl _ _⟩
    have := ix2_low ⟨n, h0⟩
    simp only at this
    rw [← this]
    congr 3
  · have hall : Hid (∀ b ∈ (⟨#[0, 47]⟩ : ByteArray).data.toList, b.toNat < 128) := by
      show ∀ b ∈ _, _
      decide
    have e : ix2 n = -1 := by unfold ix2; rw [if_neg (by omega), if_neg (by omega)]
    rw [e]
    by_cases h1 : n = 65533
    · subst h1; exact indexRune_fffd _ rfl hall w
    · exact indexRune_high _ rfl hall n (by omega) h h1 w
/-- What a range over a string finds at a place. -/
theorem dec_step (s : ByteArray) (pos : Nat) (h : pos < s.size) : ∃ n k, Utf8.decode s pos = (n, k) ∧ okRune n ∧ 1 ≤ k ∧ pos + k ≤ s.size ∧
    ((k = 1 ∧ n < 128 ∧ ∃ b : UInt8, s.data.toList[pos]? = some b ∧ b.toNat = n) ∨ (128 ≤ n ∧ ∀ j b, pos ≤ j → j < pos + k → s.data.toList[j]? = some b → 128 ≤ b.toNat)) := by
  have hl : s.data.toList.length = s.size := by simp
  have get : ∀ j, j < s.size → s.data.toList[j]? = some (s.data.toList.getD j 0) := fun j hj => by
    rw [List.getElem?_eq_getElem (by omega), List.getD_eq_getElem?_getD, List.getElem?_eq_getElem (by omega)]; rfl
  have gets : ∀ j b, s.data.toList[j]? = some b → b = s.data.toList.getD j 0 := fun j b hb => by rw [List.getD_eq_getElem?_getD, hb]; rfl
  rw [Lib.decode_N]
  by_cases hb : (s.data.toList.getD pos 0).toNat < 128
  · refine ⟨_, 1, ?_, ?_, Nat.le_refl _, by omega, .inl ⟨rfl, hb, _, get pos h, rfl⟩⟩
    · rcases Lib.decodeN_shape (s.data.toList.length - pos) (s.data.toList.getD pos 0).toNat (s.data.toList.getD (pos + 1) 0).toNat (s.data.toList.getD (pos + 2) 0).toNat (s.data.toList.getD (pos + 3) 0).toNat with ⟨c, e⟩ | ⟨c1, _⟩ | ⟨c1, _⟩ | ⟨c1, _⟩ | e
      · exact e
      · omega
      · omega
      · omega
      · unfold Lib.decodeN; rw [if_pos hb]
    · left; omega
  · rcases Lib.decodeN_shape (s.data.toList.length - pos) (s.data.toList.getD pos 0).toNat (s.data.toList.getD (pos + 1) 0).toNat (s.data.toList.getD (pos + 2) 0).toNat (s.data.toList.getD (pos + 3) 0).toNat with ⟨c, e⟩ | ⟨c1, c2, c3, cv, e⟩ | ⟨c1, c2, c3, c4, cv, cs, e⟩ | ⟨c1, c2, c3, c4, c5, cv, cw, e⟩ | e
    · omega
    · refine ⟨_, _, e, by unfold okRune; omega, by omega, by omega, .inr ⟨by omega, fun j b h1 h2 hj => ?_⟩⟩
      rw [gets j b hj]
      have : j = pos ∨ j = pos + 1 := by omega
      rcases this with rfl | rfl <;> omega
    · refine ⟨_, _, e, by unfold okRune; omega, by omega, by omega, .inr ⟨by omega, fun j b h1 h2 hj => ?_⟩⟩
      rw [gets j b hj]
      have : j = pos ∨ j = pos + 1 ∨ j = pos + 2 := by omega
      rcases this with rfl | rfl | rfl <;> omega
    · refine ⟨_, _, e, by unfold okRune; omega, by omega, by omega, .inr ⟨by omega, fun j b h1 h2 hj => ?_⟩⟩
      rw [gets j b hj]
      have : j = pos ∨ j = pos + 1 ∨ j = pos + 2 ∨ j = pos + 3 := by omega
      rcases this with rfl | rfl | rfl | rfl <;> omega
    · refine ⟨_, _, e, by unfold okRune; omega, by omega, by omega, .inr ⟨by omega, fun j b h1 h2 hj => ?_⟩⟩
      rw [gets j b hj]
      have : j = pos := by omega
      subst this; omega
theorem bad_iff (b : UInt8) : ([0, 47] : List UInt8).contains b = decide (b.toNat = 0 ∨ b.toNat = 47) := by
  rw [Bool.eq_iff_iff]
  simp only [List.contains_iff_mem, List.mem_cons, List.not_mem_nil, or_false, decide_eq_true_eq, ← UInt8.toNat_inj]
  rfl
set_option maxHeartbeats 1000000 in
theorem indexAny_short (s : ByteArray) (h8 : s.size ≤ 8) (w : World) :
    Calls Tryz.prog 133 #[.string s, .string ⟨#[0, 47]⟩] w fun e w' => e = .returned (.int .i64 (Lib.indexAny s.data.toList [0, 47])) ∧ Below w.heap.size w w' := by
  have HL := Lib.hid (show s.data.toList.length = s.size by simp)
  have h8z : decide ((8 : Int) < (s.size : Int)) = false := decide_eq_false (by omega)
  go_enter Tryz.func133, Tryz.ntmps133
  go_wp2_with (go_at_call 150; refine (Tryz.strings_shouldUseASCIISet _ _).mono ?_; rintro e w' ⟨rfl, hw⟩; rw [hw, h8z])
  go_loopw [] (fun wr => ∃ pos : Nat, pos ≤ s.size ∧ wr.heap[w.heap.size]? = some (.stringIter s pos) ∧ Hid (Below w.heap.size w wr) ∧ Hid (Lib.NoAny s.data.toList [0, 47] pos)) (fun wr => s.size - wr.iterPos w.heap.size)
  case atStart =>
    refine ⟨0, Nat.zero_le _, ?_, (Below.refl _ w).alloc (Nat.le_refl _) _, Lib.NoAny.zero _ _⟩
    have := World.iter_heap w s 0
    simpa using this
  case round =>
    obtain ⟨pos, hpos, hit, hbel, hval⟩ := hrel
    have hsz : w.heap.size < wr.heap.size := (Array.getElem?_eq_some_iff.1 hit).1
    by_cases hp : pos < s.size
    · have hnx : ∀ ty, (Instr.next (.pointer (some ⟨w.heap.size, 0, none⟩)) true ty).run Tryz.prog wr = _ := fun ty => Lib.run_next_any_at wr w.heap.size s pos ty hit hp
      obtain ⟨n, k, hd, hok, hk1, hk2, hcase⟩ := dec_step s pos hp
      have hit2 := Lib.iterAt_heap wr w.heap.size s pos (pos + (Utf8.decode s pos).2) hit
      have hbw2 := Lib.hid (Lib.below_iterAt hbel.out (k := w.heap.size) (Nat.le_refl _) s (pos + (Utf8.decode s pos).2))
      rw [hd] at hnx hit2 hbw2
      simp only at hnx hit2 hbw2
      have hc := Lib.hid (fun w0 : World => indexRune2_any n hok w0)
      by_cases hbad : n = 0 ∨ n = 47
      · have hz : 0 ≤ ix2 n := by unfold ix2; rcases hbad with rfl | rfl <;> decide
        obtain ⟨z, hz2⟩ : ∃ z, z = ix2 n := ⟨_, rfl⟩
        rw [← hz2] at hc hz
        have HV : Hid (Lib.indexAny s.data.toList [0, 47] = pos) := by
          rcases hcase with ⟨_, _, b, hb1, hb2⟩ | ⟨h1, _⟩
          · exact Lib.indexAny_hit hval.out hb1 (by rw [bad_iff]; simpa [hb2] using hbad)
          · omega
        clear hd hok hcase hbad hz2 hval hbel
        go_wp2_with (go_at_call 149; refine (hc.out _).mono ?_; rintro e w' ⟨rfl, hb⟩; have HB := Lib.hid hb; clear hb)
        go_ret
        exact ⟨by rw [HV.out]; rfl, hbw2.out.trans (HB.out.mono hbw2.out.size)⟩
      · have hz : ix2 n = -1 := by unfold ix2; rw [if_neg (fun e => hbad (.inl e)), if_neg (fun e => hbad (.inr e))]
        rw [hz] at hc
        have HV : Hid (Lib.NoAny s.data.toList [0, 47] (pos + k)) := by
          intro j b hj hb
          by_cases h1 : j < pos
          · exact hval.out j b h1 hb
          · rw [bad_iff]
            rcases hcase with ⟨rfl, _, b', hb1, hb2⟩ | ⟨_, h2⟩
            · obtain rfl : j = pos := by omega
              rw [hb1] at hb; cases hb
              simpa [hb2] using hbad
            · have := h2 j b (by omega) hj hb
              exact decide_eq_false (by omega)
        clear hd hok hcase hbad hz hval hbel
        have hs2 : w.heap.size < (wr.iterAt w.heap.size s (pos + k)).heap.size := (Array.getElem?_eq_some_iff.1 hit2).1
        go_wp2_with (go_at_call 149; refine (hc.out _).mono ?_; rintro e w9 ⟨rfl, hb⟩; have HB := Lib.hid hb; clear hb)
        go_roundw
        case rel => exact ⟨pos + k, by omega, (HB.out.block _ hs2).trans hit2, hbw2.out.trans (HB.out.mono hbw2.out.size), HV.out⟩
        case measure =>
          have e9 : w9.heap[w.heap.size]? = some (.stringIter s (pos + k)) := (HB.out.block _ hs2).trans hit2
          simp only [World.iterPos, e9, hit]
          omega
    · have hnx : ∀ ty, (Instr.next (.pointer (some ⟨w.heap.size, 0, none⟩)) true ty).run Tryz.prog wr = _ := fun ty => Lib.run_next_end_at wr w.heap.size s pos ty hit hp
      have HV : Hid (Lib.indexAny s.data.toList [0, 47] = -1) := Lib.indexAny_none (by rw [HL.out]; have e : pos = s.size := Nat.le_antisymm hpos (by omega); rw [← e]; exact hval.out)
      clear hval
      go_wp2_with fail
      go_ret
      exact ⟨by rw [HV.out]; rfl, hbel.out⟩
theorem containsAny_any (s : ByteArray) (hs : s.size < 4294967281) (w : World) :
    Calls Tryz.prog 98 #[.string s, .string ⟨#[0, 47]⟩] w fun e w' => e = .returned (.bool (decide (0 ≤ Lib.indexAny s.data.toList [0, 47]))) ∧ Below w.heap.size w w' := by
  have C : Calls Tryz.prog 133 #[.string s, .string ⟨#[0, 47]⟩] w fun e w' => e = .returned (.int .i64 (Lib.indexAny s.data.toList [0, 47])) ∧ Below w.heap.size w w' := by
    have hz116 := (zero_of_info (show (Tryz.prog.info? 178).map (fun i => (i.zero, i.size)) = some (some (.agg (Array.replicate 256 (.bool false))), 256) by kernel_rfl)).1
    by_cases h8 : s.size ≤ 8
    · exact indexAny_short s h8 w
    · refine (Tryz.strings_IndexAny_long hz116 s ⟨#[0, 47]⟩ w (by decide) (by omega) hs (by decide) (fun j b hb => ?_)).mono ?_
      · have hm : b ∈ ([0, 47] : List UInt8) := List.mem_of_getElem? hb
        clear hb
        revert b; decide
      · rintro e w' ⟨rfl, rfl⟩
        exact ⟨rfl, ((Below.refl _ _).alloc (Nat.le_refl _) _).alloc (by simp) _⟩
  generalize Lib.indexAny s.data.toList [0, 47] = z at *
  go_enter Tryz.func98, Tryz.ntmps98
  go_wp2_with (go_at_call 133; (with_reducible refine C.mono ?_); rintro e w1 ⟨rfl, hb⟩; have HB := Lib.hid hb; clear hb)
  go_ret
  exact ⟨by simp, HB.out⟩
theorem any_all : ∀ l : List UInt8, decide (0 ≤ Lib.indexAny l [0, 47]) = !(l.all fun c => c != 0 && c != 47)
  | [] => rfl
  | b :: r => by
    have ih := any_all r
    have hg := Lib.indexAny_ge [0, 47] r
    unfold Lib.indexAny
    rw [bad_iff]
    by_cases h : b.toNat = 0 ∨ b.toNat = 47
    · rw [if_pos (by simpa using h)]
      have : (b != 0 && b != 47) = false := by
        rcases h with h | h
        · have : b = 0 := UInt8.toNat_inj.1 h
          subst this; rfl
        · have : b = 47 := UInt8.toNat_inj.1 h
          subst this; rfl
      simp [List.all_cons, this]
    · rw [if_neg (by simpa using h)]
      have : (b != 0 && b != 47) = true := by
        simp only [Bool.and_eq_true, bne_iff_ne]
        exact ⟨fun e => h (.inl (by rw [e]; rfl)), fun e => h (.inr (by rw [e]; rfl))⟩
      rw [List.all_cons, this, Bool.true_and, ← ih]
      by_cases h2 : Lib.indexAny r [0, 47] = -1
      · rw [h2]; rfl
      · rw [if_neg (by simpa using h2)]
        simp; omega
set_option maxHeartbeats 1000000 in
theorem isName_any (l : List UInt8) (w : World) :
    Calls Tryz.prog 83 #[.string (bs l)] w fun e w' => e = .returned (.bool (isNm l)) ∧ Below w.heap.size w w' := by
  by_cases h0 : l = []
  · subst h0
    have e0 : (bs []).toList.isEmpty = true := by rw [bs_toList]; rfl
    go_enter Tryz.func83, Tryz.ntmps83
    go_wp2
    go_ret
    exact ⟨rfl, Below.refl _ _⟩
  have e0 : (bs l).toList.isEmpty = false := by rw [bs_toList]; cases l with
    | nil => exact absurd rfl h0
    | cons _ _ => rfl
  by_cases h1 : l = [46]
  · subst h1
    have e1 : ((bs [46]).toList == [46]) = true := by rw [bs_toList]; rfl
    go_enter Tryz.func83, Tryz.ntmps83
    go_wp2
    go_ret
    exact ⟨rfl, Below.refl _ _⟩
  have e1 : ((bs l).toList == [46]) = false := by rw [bs_toList]; simpa using h1
  by_cases h2 : l = [46, 46]
  · subst h2
    have e2 : ((bs [46, 46]).toList == [46, 46]) = true := by rw [bs_toList]; rfl
    go_enter Tryz.func83, Tryz.ntmps83
    go_wp2
    go_ret
    exact ⟨rfl, Below.refl _ _⟩
  have e2 : ((bs l).toList == [46, 46]) = false := by rw [bs_toList]; simpa using h2
  have hN : isNm l = (decide (l.length ≤ 32) && l.all fun c => c != 0 && c != 47) := by
    unfold isNm
    rw [show (l != []) = true by simpa using h0, show (l != [46]) = true by simpa using h1, show (l != [46, 46]) = true by simpa using h2]
    simp
  have hsz : (bs l).size = l.length := bs_size l
  by_cases h3 : l.length ≤ 32
  · have C := Lib.hid (containsAny_any (bs l) (by omega))
    rw [bs_list, any_all] at C
    rw [hN, decide_eq_true h3, Bool.true_and]
    generalize (l.all fun c => c != 0 && c != 47) = ok at *
    have hs3 : ((bs l).size : Int) ≤ 32 := by omega
    clear hN hsz h0 h1 h2 h3
    go_enter Tryz.func83, Tryz.ntmps83
    go_wp2_with (go_at_call 98; (with_reducible refine (C.out _).mono ?_); rintro e w1 ⟨rfl, hb⟩; have HB := Lib.hid hb; clear hb)
    go_ret
    exact ⟨by simp, HB.out⟩
  · rw [hN, decide_eq_false h3, Bool.false_and]
    have hs3 : (32 : Int) < ((bs l).size : Int) := by omega
    clear hN hsz h0 h1 h2 h3
    go_enter Tryz.func83, Tryz.ntmps83
    go_wp2
    go_ret
    exact ⟨rfl, Below.refl _ _⟩
end Go.Proofs.YtagdhghjcibfbaaGreat

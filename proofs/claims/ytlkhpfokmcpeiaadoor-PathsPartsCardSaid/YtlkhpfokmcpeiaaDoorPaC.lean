/- Layer 7: the reference's Parts, join, isName, Is. -/
import Derived.Test.YtlkhpfokmcpeiaaDoorPaB
namespace Go.Proofs.YtlkhpfokmcpeiaaDoor
open Go.RowKit
set_option linter.unusedVariables false
set_option maxRecDepth 100000

theorem drop_at (s : ByteArray) (k : Nat) (h : k < s.size) : s.data.toList.drop k = s[k] :: s.data.toList.drop (k + 1) := by
  rw [List.drop_eq_getElem_cons (by simpa using h)]; rfl
theorem ext_one (s : ByteArray) (k : Nat) (h : k < s.size) : s.extract k (k + 1) = bs [s[k]] := by
  apply bs_eq
  rw [Lib.extract_data, drop_at s k h, show k + 1 - k = 1 by omega]; rfl

set_option maxHeartbeats 2000000 in
theorem refParts_any (s : ByteArray) (w : World) (hs : s.size ≤ 1099511627776) :
    Calls Tryd.prog 15 #[.string s] w (RetSl w (partsL s.data.toList)) := by
  obtain ⟨i0, hi, hz0, hz1, hz2⟩ := info_parts infoS
  by_cases he : s = ByteArray.empty
  · subst he
    go_enter Tryd.func15, Tryd.ntmps15
    go_wp2_with fail
    go_ret
    exact ⟨_, rfl, Sl_nil w, Below.refl _ _⟩
  · have hse : s.toList.isEmpty = false := by
      rw [Lib.toList_data]
      cases h : s.data.toList with
      | nil => exact absurd (bs_eq h) he
      | cons => rfl
    have HP : Hid (partsL s.data.toList = onto [] s.data.toList) := by
      show partsL _ = _
      rw [onto_nil]; unfold partsL; rw [if_neg (fun h => he (bs_eq h))]
    clear he
    go_enter Tryd.func15, Tryd.ntmps15
    go_wp2_with fail
    go_loopw [3, 4, 5] (fun v p i wr => ∃ (k : Nat) (acc : List (List UInt8)) (part : List UInt8), i = .int .i64 k ∧ k ≤ s.size ∧ p = .string (bs part) ∧ part.length ≤ k ∧ acc.length ≤ k ∧ Hid (acc ++ onto part (s.data.toList.drop k) = onto [] s.data.toList) ∧ wr.ownsRow w.heap.size 9 1 v acc.length (strs acc) ∧ Hid (Below w.heap.size w wr) ∧ w.heap.size ≤ wr.heap.size) (fun _ _ i _ => s.size - (intOf i).toNat)
    case atStart => exact ⟨0, [], [], rfl, Nat.zero_le _, rfl, Nat.le_refl _, Nat.le_refl _, rfl, World.ownsRow_nil _ _ _ _, Below.refl _ _, Nat.le_refl _⟩
    case round =>
      obtain ⟨k, acc, part, rfl, hk, rfl, hpl, hal, hacc, hown, hbel, hsize⟩ := hrel
      by_cases hlt : k < s.size
      · have hd := drop_at s k hlt
        by_cases hc : s[k] = 47
        · have h47 : ((s[k].toNat : Int) == 47) = true := by rw [hc]; rfl
          have HS := Lib.hid (onto_sl part (s.data.toList.drop (k + 1)))
          have HD : Hid (s.data.toList.drop k = 47 :: s.data.toList.drop (k + 1)) := by show _ = _; rw [hd, hc]
          clear hd hc
          go_wp2_with (at_builtin; refine wpList_append_own _ rfl (.tmp 18) (.tmp 20) 32 rfl w.heap.size 9 i0 (.string ByteArray.empty) 1 16 Tryd.underlying32 hi hz0 hz1 hz2 rfl (by decide) u3 acc.length (strs acc) rfl (hown.alloc _) ⟨wr.heap.size, 0, none⟩ 1 1 [.string (bs part)] rfl rfl ?c1 ?c2 ?c3 ?c4 ?c5 ?_)
          case c1 => exact one_newS _ _
          case c2 => intro u hu; simp at hu; subst hu; rfl
          case c3 => unfold maxLen; omega
          case c4 => omega
          case c5 => simp; omega
          intro v1 w1 hown1 hgrow1 _
          obtain ⟨own1, bel1, siz1⟩ := snoc_own hsize hbel.out hown hown1 hgrow1
          have B1 := Lib.hid bel1
          clear hown1 hgrow1 hown hbel bel1
          go_wp2_with fail
          go_roundw
          case rel =>
            refine ⟨k + 1, acc ++ [part], [], by go_num, by omega, rfl, by simp, by simp; omega, ?_, own1, B1.out, siz1⟩
            show _ = _
            rw [← hacc.out, HD.out, HS.out]; simp
          case measure => simp [intOf]; omega
        · have h47 : ((s[k].toNat : Int) == 47) = false := by
            rw [beq_eq_false_iff_ne]; intro e; apply hc; apply UInt8.toNat_inj.1; show _ = 47; omega
          have HA := fun w0 => bs_add w0 part [s[k]] (by simp; omega)
          rw [← ext_one s k hlt] at HA
          have HS := Lib.hid (onto_on part (s.data.toList.drop (k + 1)) s[k] hc)
          have HD := Lib.hid hd
          clear hd hc
          go_wp2_with fail
          go_roundw
          case rel =>
            refine ⟨k + 1, acc, part ++ [s[k]], by go_num, by omega, rfl, by simp; omega, by omega, ?_, hown, hbel.out, hsize⟩
            show _ = _
            rw [← hacc.out, HD.out, HS.out]
          case measure => simp [intOf]; omega
      · have hks : k = s.size := by omega
        subst hks
        have HE : Hid (partsL s.data.toList = acc ++ [part]) := by
          show _ = _
          rw [HP.out, ← hacc.out, List.drop_of_length_le (by simp), onto_end]
        go_wp2_with (at_builtin; refine wpList_append_own _ rfl (.tmp 29) (.tmp 31) 32 rfl w.heap.size 9 i0 (.string ByteArray.empty) 1 16 Tryd.underlying32 hi hz0 hz1 hz2 rfl (by decide) u3 acc.length (strs acc) rfl (hown.alloc _) ⟨wr.heap.size, 0, none⟩ 1 1 [.string (bs part)] rfl rfl ?c1 ?c2 ?c3 ?c4 ?c5 ?_)
        case c1 => exact one_newS _ _
        case c2 => intro u hu; simp at hu; subst hu; rfl
        case c3 => unfold maxLen; omega
        case c4 => omega
        case c5 => simp; omega
        intro v1 w1 hown1 hgrow1 _
        obtain ⟨own1, bel1, siz1⟩ := snoc_own hsize hbel.out hown hown1 hgrow1
        have B1 := Lib.hid bel1
        have HZ := Lib.hid (Sl_own own1)
        clear hown1 hgrow1 hown hbel bel1 own1
        go_wp2_with fail
        go_ret
        exact ⟨_, rfl, by rw [HE.out]; exact HZ.out, B1.out⟩
end Go.Proofs.YtlkhpfokmcpeiaaDoor

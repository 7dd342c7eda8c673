/- Layer 8: a file's entries (none); the inodes' numbers, sorted. -/
import Derived.Test.YtagdhghjcibfbaaGreatInEo
import Derived.Test.YtagdhghjcibfbaaGreatInT
namespace Go.Proofs.YtagdhghjcibfbaaGreat
open Go.RowKit Go.Sort Go.Shelf
set_option linter.unusedVariables false
set_option linter.unusedSectionVars false
set_option maxRecDepth 100000

theorem entries_file (nb : Nat) (w : World) (c4 : w.cell? ⟨nb, 4, none⟩ = some (.map none)) :
    Calls Tryz.prog 45 #[.pointer (some ⟨nb, 0, none⟩)] w fun e w' => ∃ v, e = .returned v ∧ EnAt w' v [] w.heap.size ∧ Below w.heap.size w w' := by
  have hmk := make_ents 0 (by omega) w
  rw [show ((0 : Nat) : Int) = 0 from rfl] at hmk
  obtain ⟨W1, hW1⟩ : ∃ W1, w.alloc (.cells (madeCells entZ (0 * 2)) 74) = W1 := ⟨_, rfl⟩
  have hb1 : Below w.heap.size w W1 := by rw [← hW1]; exact (Below.refl _ w).alloc (Nat.le_refl _) _
  have hz1 : W1.heap.size = w.heap.size + 1 := by rw [← hW1]; simp
  rw [hW1] at hmk
  have hnl : nb < w.heap.size := World.block_lt_of_cell? w _ c4
  have c4' : W1.cell? ⟨nb, 4, none⟩ = some (.map none) := (hb1.cell hnl).trans c4
  have hrg := run_range_nilMap (P := Tryz.prog) W1 65 9 3 Tryz.underlying65
  have hnx : ∀ ty, (Instr.next (.pointer (some ⟨W1.heap.size, 0, none⟩)) false ty).run Tryz.prog (W1.alloc (.mapIter none 0 #[] 0)) = _ := fun ty => run_next_nilMap _ ty 0 0 #[]
  have hb2 : Below w.heap.size w (W1.alloc (.mapIter none 0 #[] 0)) := hb1.alloc hb1.size _
  have hg : w.heap.size < (W1.alloc (.mapIter none 0 #[] 0)).heap.size := by simp; omega
  have hH : HoldsK (encE []) 2 (W1.alloc (.mapIter none 0 #[] 0)) w.heap.size 0 ([] : List (List UInt8)).toArray := fun j hj => by simp at hj
  have CS := Lib.hid (sortE_any [] w.heap.size 0 [] (W1.alloc (.mapIter none 0 #[] 0)) hH hg (by simp))
  rw [show ([] : List (List UInt8)).length = 0 from rfl] at CS
  have HB2 := Lib.hid hb2
  have HG := Lib.hid hg
  have HH := Lib.hid hH
  clear hb1 hz1 hW1 hb2 hg hH
  go_enter Tryz.func45, Tryz.ntmps45
  go_wp2
  refine wp_loop_rounds 1 ?_
  rw [rounds_succ]
  go_wp2_with (go_at_call 75; (with_reducible refine CS.out.mono ?_); rintro e w9 ⟨rfl, n9, os9, hw9⟩; have HW9 := Lib.hid hw9; clear hw9)
  go_ret
  refine ⟨_, rfl, ?_, ?_⟩
  · rw [HW9.out]; exact sortedE (ks := []) List.Pairwise.nil (List.Perm.refl _) HH.out HG.out (Nat.le_refl _)
  · rw [HW9.out]; exact HB2.out.grown (grownBy_sortE _) HB2.out.size (fun j hj => by cases hj; exact Nat.le_refl _)
theorem sorted_ids {l : List (Int × Int)} (hr : Ris ltI l) {ss : List Int} (hp : ss.Perm (l.map (·.1))) : ss.mergeSort (fun x y => decide (x ≤ y)) = l.map (·.1) := by
  have h1 : (l.map (·.1)).Pairwise (fun x y => decide (x ≤ y) = true) := by
    rw [List.pairwise_map]
    exact hr.imp (fun {a b} h => by
      have h2 : a.1 < b.1 := by unfold ltI at h; simpa using h
      simp only [decide_eq_true_eq]; omega)
  have e := mergeSort_of_perm_i hp
  unfold leI at e
  rw [e]
  exact List.mergeSort_of_pairwise h1
theorem sortedI_any (mb : Nat) (l : List (Int × Int)) (w : World) (hm : MapI w mb l) (hr : Ris ltI l) (hl : l.length ≤ 1099511627776) :
    Calls Tryz.prog 43 #[.func (.func 74) #[] #[.pointer (some ⟨w.heap.size, 0, none⟩)]] (w.alloc (.cells #[.map (some mb)] 57)) fun e w' =>
      ∃ v, e = .returned v ∧ w'.ownsRow w.heap.size 3 1 v l.length ((l.map (·.1)).map encZ) ∧ Below w.heap.size w w' := by
  have hbl := hm.lt
  have hseq : SeqGives Fence.wide 2 Tryz.prog 74 #[.pointer (some ⟨w.heap.size, 0, none⟩)] encZ (fun ss => ss.Perm (intKeys (mapD klI l))) (Maps.size (mapD klI l)) (w.alloc (.cells #[.map (some mb)] 57)) :=
    AnyZI.keys_gives (ρ := Tryz.keysI_ren) { Tryz.keysI with } Fence.wide _ trivial rfl (by omega) w.heap.size mb l.length (mapD klI l) _ (by simp) (by simp) (map_ch hm (Ch.alloc (M := fun _ => False) _ _) (fun e => e))
  have cS := AnyZI.sorted_in Tryz.sortedI Fence.wide 5 trivial trivial trivial trivial rfl (by omega) (sortsI _) (enters_of Tryz.func73 (by kernel_rfl) rfl) 74 #[.pointer (some ⟨w.heap.size, 0, none⟩)] trivial (enters_of Tryz.func74 (by kernel_rfl) rfl) _ _ (by rw [mapD_size]; unfold maxLen; omega) (by rw [mapD_size]; omega) _ hseq
  refine (callsIn_wide.1 cS).mono ?_
  rintro e w' ⟨v, ss, rfl, hS, hrow, hnil, hb⟩
  have hk : intKeys (mapD klI l) = l.map (·.1) := by
    show (l.map _).map _ = _
    rw [List.map_map]; rfl
  rw [hk] at hS
  have hlen : ss.length = l.length := by rw [hS.length_eq, List.length_map]
  rw [sorted_ids hr hS, hlen] at hrow
  have hrow2 : w'.ownsRow w.heap.size 3 1 v l.length ((l.map (·.1)).map encZ) := by
    refine ⟨hrow.1, ?_⟩
    rcases hrow.2 with h | ⟨g, cap, cur, rfl, hg, rest⟩
    · exact .inl h
    · exact .inr ⟨g, cap, cur, rfl, Nat.le_trans (by simp) hg, rest⟩
  exact ⟨v, rfl, hrow2, ((Below.refl _ w).alloc (Nat.le_refl _) _).trans (hb.mono (by simp))⟩
end Go.Proofs.YtagdhghjcibfbaaGreat

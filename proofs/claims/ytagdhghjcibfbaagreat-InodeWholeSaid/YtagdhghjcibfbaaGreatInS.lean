/- Layer 8: List: a directory's names, in their order. -/
import Derived.Test.YtagdhghjcibfbaaGreatInP
import Derived.Shelf.AbstractIn
namespace Go.Proofs.YtagdhghjcibfbaaGreat
open Go.RowKit
set_option linter.unusedVariables false
set_option linter.unusedSectionVars false
set_option maxRecDepth 100000

theorem bb_lt : ∀ a b : List UInt8, bytesBefore a b = true → a < b
  | [], [], h => by cases h
  | [], b :: s, _ => List.nil_lt_cons b s
  | _ :: _, [], h => by cases h
  | a :: r, b :: s, h => by
    unfold bytesBefore at h
    simp only [Bool.or_eq_true, decide_eq_true_eq, Bool.and_eq_true, beq_iff_eq] at h
    rw [List.cons_lt_cons_iff]
    rcases h with h | ⟨h1, h2⟩
    · exact .inl h
    · exact .inr ⟨h1, bb_lt r s h2⟩
theorem sorted_names {l : List (List UInt8 × Int)} (hr : Ris bytesBefore l) {ss : List (List UInt8)} (hp : ss.Perm (l.map (·.1))) : ss.mergeSort (fun x y => decide (x ≤ y)) = l.map (·.1) := by
  rw [mergeSort_of_perm hp]
  refine List.mergeSort_of_pairwise ?_
  rw [List.pairwise_map]
  exact hr.imp (fun {a b} h => by simp only [decide_eq_true_eq]; exact List.le_of_lt (bb_lt _ _ h))
theorem sortsS (m : Nat) : AnyZ.SortsIn Tryz.prog Tryz.sortedS_ren Fence.wide m :=
  ⟨fun blk off cap ss W hH hblk hsz => callsIn_wide.2 (Tryz.slices_Sort_string blk off cap ss W hH hblk hsz),
   fun p cap W => callsIn_wide.2 (Tryz.slices_Sort_string_none p cap W)⟩
theorem keysS_any (mb : Option Nat) (w : World) : Calls Tryz.prog 56 #[.map mb] w fun e w' => e = .returned (.func (.func 82) #[] #[.pointer (some ⟨w.heap.size, 0, none⟩)]) ∧ w' = w.alloc (.cells #[.map mb] 65) :=
  (callsIn_wide (n := 5)).1 (AnyZ.keys_in Tryz.keysS Fence.wide 5 trivial rfl mb w)
theorem sortedS_any (kb : Nat) (l : List (List UInt8 × Int)) (w : World) (hm : MapS w kb l) (hr : Ris bytesBefore l) (hl : l.length ≤ 1099511627776) :
    Calls Tryz.prog 55 #[.func (.func 82) #[] #[.pointer (some ⟨w.heap.size, 0, none⟩)]] (w.alloc (.cells #[.map (some kb)] 65)) fun e w' =>
      ∃ v, e = .returned v ∧ Sl w' v (l.map (·.1)) ∧ Below w.heap.size w w' := by
  have hbl := hm.lt
  have hseq : SeqGives Fence.wide 2 Tryz.prog 82 #[.pointer (some ⟨w.heap.size, 0, none⟩)] encStr (fun ss => ss.Perm (strKeys (mapD klS l))) (Maps.size (mapD klS l)) (w.alloc (.cells #[.map (some kb)] 65)) :=
    AnyZ.keys_gives (ρ := Tryz.keysS_ren) { Tryz.keysS with } Fence.wide _ trivial rfl (by omega) w.heap.size kb l.length (mapD klS l) _ (by simp) (by simp) (map_ch hm (Ch.alloc (M := fun _ => False) _ _) (fun e => e))
  have cS := AnyZ.sorted_in Tryz.sortedS Fence.wide 5 trivial trivial trivial trivial rfl (by omega) (sortsS _) (enters_of Tryz.func81 (by kernel_rfl) rfl) 82 #[.pointer (some ⟨w.heap.size, 0, none⟩)] trivial (enters_of Tryz.func82 (by kernel_rfl) rfl) _ _ (by rw [mapD_size]; unfold maxLen; omega) (by rw [mapD_size]; omega) _ hseq
  refine (callsIn_wide.1 cS).mono ?_
  rintro e w' ⟨v, ss, rfl, hS, hrow, hnil, hb⟩
  have hk : strKeys (mapD klS l) = l.map (·.1) := by
    show (l.map _).map _ = _
    rw [List.map_map]; rfl
  rw [hk] at hS
  have hlen : ss.length = (l.map (·.1)).length := hS.length_eq
  rw [sorted_names hr hS, hlen] at hrow
  refine ⟨v, rfl, Sl_own (B := (w.alloc (.cells #[.map (some kb)] 65)).heap.size) hrow, ((Below.refl _ w).alloc (Nat.le_refl _) _).trans (hb.mono (by simp))⟩
section
variable {w : World} {t : Nat} {T : Tb} {A : Int → Nat × Nat} {mb : Nat} (h : TbAt w t T A mb) {dir : Int} (hdir : InI dir)
include h hdir
theorem list_no (hE : T.kindE dir true ≠ 0) :
    Calls Tryz.prog 22 #[.pointer (some ⟨t, 0, none⟩), .int .i64 dir] w fun e w' => e = .returned (.tuple #[.slice none 0 0, .int .i64 (T.kindE dir true)]) ∧ w' = w := by
  have C := directory_no h hdir hE
  have hk2 : (T.kindE dir true == 0) = false := by simpa using hE
  have hk3 : (T.kindE dir true != 0) = true := by simpa using hE
  clear hE
  generalize T.kindE dir true = k at *
  go_enter Tryz.func22, Tryz.ntmps22
  go_wp2_with (go_at_call 54; (with_reducible refine C.mono ?_); rintro e w1 ⟨rfl, rfl⟩)
  go_ret2
  exact ⟨rfl, rfl⟩
theorem list_ok (hE : T.kindE dir true = 0) (hr : Ris bytesBefore (T.nd dir).names) (hl : (T.nd dir).names.length ≤ 1099511627776) :
    Calls Tryz.prog 22 #[.pointer (some ⟨t, 0, none⟩), .int .i64 dir] w fun e w' => ∃ v, e = .returned (.tuple #[v, .int .i64 0]) ∧ Sl w' v ((T.nd dir).names.map (·.1)) ∧ Below w.heap.size w w' := by
  have C := directory_ok h hdir hE
  obtain ⟨n, hn, hd⟩ := kind_some hE
  rw [nd_of hn] at hr hl ⊢
  have c4 := (h.nd dir n hn).c4
  rw [hd] at c4
  simp only [if_true] at c4
  have CK := Lib.hid (keysS_any (some (A dir).2) w)
  have CS := Lib.hid (sortedS_any (A dir).2 n.names w (h.nm dir n hn hd) hr hl)
  clear hE hr hl
  go_enter Tryz.func22, Tryz.ntmps22
  go_wp2_with (first
    | (go_at_call 54; (with_reducible refine C.mono ?_); rintro e w1 ⟨rfl, rfl⟩)
    | (go_at_call 56; (with_reducible refine CK.out.mono ?_); rintro e w2 ⟨rfl, rfl⟩)
    | (go_at_call 55; (with_reducible refine CS.out.mono ?_); rintro e w3 ⟨v, rfl, hs, hb⟩; have HS := Lib.hid hs; have HB := Lib.hid hb; clear hs hb))
  go_ret2
  exact ⟨v, rfl, HS.out, HB.out⟩
end
end Go.Proofs.YtagdhghjcibfbaaGreat

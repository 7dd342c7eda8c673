/- The contract of byName: pointers to fields, in the order of the names. -/
import Derived.Test.YtnjikipncgbjjaaGreatDoorJsQ
import Derived.OwnWalk
import Derived.RangeFuncBox
import Derived.Lib.OwnBridge
import Derived.Maps.AppendAt
namespace Go.Proofs.YtnjikipncgbjjaaGreatDoor
open Go.RowKit Go.Sort
set_option linter.unusedVariables false
set_option maxRecDepth 100000

theorem info_ptr : (Tryz.prog.info? 76).map (fun i => (i.zero, i.size, i.bytes)) = some (some (.pointer none), 1, 8) := by kernel_rfl
theorem make_ptrs (n : Nat) (hn : n ≤ 1048576) (i : Int) (hi : i = (n : Int)) (w : World) :
    (Instr.makeSlice 74 (.int .i64 0) (.int .i64 i)).run Tryz.prog w = .ok (.slice (some ⟨w.heap.size, 0, none⟩) 0 n) (w.alloc (.cells (madeCells #[.pointer none] n) 76)) := by
  subst hi
  obtain ⟨i0, h1, h2, h3, h4⟩ := info_parts info_ptr
  have := run_make (P := Tryz.prog) w 74 76 i0 (.pointer none) Tryz.underlying74 h1 h2 .i64 .i64 0 n (by omega) (by omega) (by rw [h4]; omega) (by omega)
  rw [h3, show (Value.pointer none).cells = #[.pointer none] from rfl] at this
  simpa using this
/-- Pointers to the first k fields. -/
def ptrs (fb fo k : Nat) : List Value := (List.range k).map fun i => .pointer (some ⟨fb, fo + 5 * i, none⟩)
theorem ptrs_len (fb fo k : Nat) : (ptrs fb fo k).length = k := by simp [ptrs]
theorem ptrs_succ (fb fo k : Nat) : ptrs fb fo (k + 1) = ptrs fb fo k ++ [.pointer (some ⟨fb, fo + 5 * k, none⟩)] := by simp [ptrs, List.range_succ]


theorem size_insI {α : Type} [Inhabited α] (lt : α → α → Bool) (a : Nat) : ∀ (j : Nat) (d : Array α), (insInner lt a j d).size = d.size
  | 0, _ => rfl
  | j + 1, d => by
    unfold insInner
    split
    · rw [size_insI lt a j, swp]; simp
    · rfl
theorem size_insO {α : Type} [Inhabited α] (lt : α → α → Bool) (a b : Nat) : ∀ (n i : Nat) (d : Array α), b - i = n → (insOuter lt a b i d).size = d.size := by
  intro n
  induction n with
  | zero => intro i d h; unfold insOuter; rw [if_neg (by omega)]
  | succ n ih => intro i d h; unfold insOuter; rw [if_pos (by omega), ih _ _ (by omega), size_insI]
theorem size_insS {α : Type} [Inhabited α] (lt : α → α → Bool) (d : Array α) (a b : Nat) : (insertionSort lt d a b).size = d.size := size_insO lt a b _ _ d rfl

theorem ptr_snoc {w wr w1 : World} {fb fo k : Nat} {v v' : Value} {o : Obj} (hB : w.heap.size ≤ wr.heap.size) (hbel : RowKit.Below w.heap.size w wr)
    (hown : wr.ownsRow w.heap.size 76 1 v k (ptrs fb fo k)) (hown' : w1.ownsRow w.heap.size 76 1 v' (k + 1) (ptrs fb fo k ++ [.pointer (some ⟨fb, fo + k * 5, none⟩)])) (hgrow : (wr.alloc o).grownBy w1 v.ownBlock) :
    w1.ownsRow w.heap.size 76 1 v' (k + 1) (ptrs fb fo (k + 1)) ∧ RowKit.Below w.heap.size w w1 ∧ w.heap.size ≤ w1.heap.size := by
  have hb := (hbel.alloc hB o).grown hgrow (by simp; omega) (fun k hk => (hown.lt k hk).1)
  refine ⟨by rw [ptrs_succ, Nat.mul_comm 5 k]; exact hown', hb, ?_⟩
  have := hgrow.size
  simp at this; omega
theorem ptrs_enc (fb fo m : Nat) : ptrs fb fo (m + 1) = (List.ofFn (id : Fin (m + 1) → Fin (m + 1))).map (encF fb fo m) := by
  apply List.ext_getElem
  · simp [ptrs]
  · intro i h1 h2
    rw [List.getElem_map, List.getElem_ofFn]
    simp [ptrs, encF]
theorem holds_ptrs {w : World} {fb fo m B g cap : Nat} (h : w.ownsRow B 76 1 (.slice (some ⟨g, 0, none⟩) (m + 1) cap) (m + 1) (ptrs fb fo (m + 1))) : B ≤ g ∧ g < w.heap.size ∧ Holds (encF fb fo m) w g 0 (Array.ofFn (id : Fin (m + 1) → Fin (m + 1))) := by
  rw [ptrs_enc] at h
  obtain ⟨g', cap', e, h1, h2, _, _, _, h3⟩ := Lib.holds_of_ownsRow h (by intro e; cases e)
  cases e
  refine ⟨h1, h2, ?_⟩
  have e2 : (List.ofFn (id : Fin (m + 1) → Fin (m + 1))).toArray = Array.ofFn (id : Fin (m + 1) → Fin (m + 1)) := by
    apply Array.ext'
    simp
  rwa [e2] at h3

/-- What byName answers: a new row of pointers, in order. -/
def ByNamePost (fb fo m : Nat) (names : List ByteArray) (w : World) (e : Ending) (w' : World) : Prop :=
  ∃ g cap, e = .returned (.slice (some ⟨g, 0, none⟩) ((m + 1 : Nat)) cap) ∧ w.heap.size ≤ g ∧ g < w'.heap.size ∧ Holds (encF fb fo m) w' g 0 (ordA names m) ∧ (ordA names m).size = m + 1 ∧ RowKit.Below w.heap.size w w'

theorem byName_end {fb fo m g cap : Nat} {names : List ByteArray} {w wr w1 : World} (h : wr.ownsRow w.heap.size 76 1 (.slice (some ⟨g, 0, none⟩) (m + 1) cap) (m + 1) (ptrs fb fo (m + 1))) (hbel : RowKit.Below w.heap.size w wr) (hw : ∃ k, w1 = (putRow (encF fb fo m) wr g 0 (ordA names m)).drewN k) :
    ByNamePost fb fo m names w (.returned (.slice (some ⟨g, 0, none⟩) (m + 1) cap)) w1 := by
  obtain ⟨k, rfl⟩ := hw
  obtain ⟨h1, h2, h3⟩ := holds_ptrs h
  have hs : (ordA names m).size = m + 1 := by unfold ordA; rw [size_insS]; simp
  refine ⟨g, cap, rfl, h1, ?_, ?_, hs, ?_⟩
  · show g < (putRow (encF fb fo m) wr g 0 (ordA names m)).heap.size
    rw [putRow_sz]; exact h2
  · exact holds_putRow (encF fb fo m) wr g 0 _ (ordA names m) h3 (by rw [hs]; simp)
  · exact below_drewN (Lib.below_putRow (q := 0) hbel h1) _

set_option maxHeartbeats 2000000 in
theorem byName_some (fb fo m cap0 : Nat) (h20 : m + 1 < 20) (names : List ByteArray) (w : World) (hc : ∀ i, i < m + 1 → w.cell? ⟨fb, fo + 5 * i, none⟩ = some (.string (names.getD i ⟨#[]⟩))) :
    Calls Tryz.prog 40 #[.slice (some ⟨fb, fo, none⟩) ((m + 1 : Nat)) cap0] w (ByNamePost fb fo m names w) := by
  obtain ⟨i0, hi, hz0, hz1, hz2⟩ := info_parts info_ptr
  have hmk := fun w0 : World => make_ptrs (m + 1) (by omega) ((m : Int) + 1) (by omega) w0
  have hfl : fb < w.heap.size := World.block_lt_of_cell? w _ (hc 0 (by omega))
  have HC := Lib.hid hc
  clear hc
  go_enter Tryz.func40, Tryz.ntmps40
  go_wp2_with fail
  go_outline
  go_loopw [3, 10] (fun v i wr => ∃ k : Nat, i = .int .i64 k ∧ k ≤ m + 1 ∧ wr.ownsRow w.heap.size 76 1 v k (ptrs fb fo k) ∧ Hid (RowKit.Below w.heap.size w wr) ∧ w.heap.size ≤ wr.heap.size) (fun _ i _ => m + 1 - (intOf i).toNat)
  case atStart => exact ⟨0, rfl, by omega, World.ownsRow_made w _ _ (Nat.le_refl _) (by unfold maxLen; omega) (by rw [size_madeCells]; omega), (Below.refl _ _).alloc (Nat.le_refl _) _, by simp⟩
  case round =>
    obtain ⟨k, rfl, hk, hown, hbel, hsize⟩ := hrel
    by_cases hlt : k < m + 1
    · have hki : (k : Int) < (m : Int) + 1 := by omega
      go_wp2_with (at_builtin; refine wpList_append_own _ rfl (.tmp 13) (.tmp 17) 74 rfl w.heap.size 76 i0 (.pointer none) 1 8 Tryz.underlying74 hi hz0 hz1 hz2 rfl (by decide) u3 k (ptrs fb fo k) rfl (hown.alloc _) ⟨wr.heap.size, 0, none⟩ 1 1 [.pointer (some ⟨fb, fo + k * 5, none⟩)] rfl rfl ?c1 ?c2 ?c3 ?c4 ?c5 ?_)
      case c1 => exact cell_one_new _ _ _
      case c2 => intro u hu; simp at hu; subst hu; rfl
      case c3 => unfold maxLen; omega
      case c4 => omega
      case c5 => simp; omega
      intro v1 w1 hown1 hgrow1 _
      obtain ⟨own1, bel1, siz1⟩ := ptr_snoc hsize hbel.out hown hown1 hgrow1
      have B1 := Lib.hid bel1
      clear hown1 hgrow1 hown hbel bel1
      go_wp2_with fail
      go_roundw
      case rel => exact ⟨k + 1, by go_num, by omega, own1, B1.out, siz1⟩
      case measure => simp [intOf]; omega
    · obtain rfl : k = m + 1 := by omega
      obtain ⟨g, cap, rfl⟩ := ownsRow_succ hown
      obtain ⟨hg1, hg2, hH⟩ := holds_ptrs hown
      have CS : Hid (∀ ww, ww = wr → Calls Tryz.prog 65 #[.slice (some ⟨g, 0, none⟩) (m + 1) cap, .func (.func 66) #[] #[]] ww fun e w' =>
          e = .returned (.tuple #[]) ∧ Hid (∃ k, w' = (putRow (encF fb fo m) wr g 0 (ordA names m)).drewN k)) := by
        rintro _ rfl
        exact sort_any fb fo m h20 names g cap _ (fun i hi => (World.cell?_of_block (hbel.out.block fb hfl)).trans (HC.out i hi)) (by omega) _ (by simp) hH
      have HO := Lib.hid hown
      clear hown hH HC
      go_wp2_with (go_at_call 65; (with_reducible refine (CS.out _ rfl).mono ?_); rintro e w1 ⟨rfl, hw1⟩)
      go_ret
      exact byName_end HO.out hbel.out hw1.out
end Go.Proofs.YtnjikipncgbjjaaGreatDoor

/- The contract of byName: pointers to fields, in the order of the names. The contracts of hasTwins and isSingle. What the order of the fields is: a permutation, ascending by the names; two of one name stand next to each other; hasTwins of a list of fields. The contract of innerOf's iterator: the addresses of the values that stand in a value. Maps keyed by pointers to cells: what they hold, look-up, store. innerOf; depthAround: one more than the greatest depth of what stands in a value. The walk through a value, as a machine on a stack: no world. -/
import Derived.Test.YtaniebkfgkhgoaaGreatDoorJS
import Derived.OwnWalk
import Derived.RangeFuncBox
import Derived.Lib.OwnBridge
import Derived.Maps.AppendAt
import Derived.BigQuiet
import Derived.RangeFuncNested
import Derived.RangeFuncBound
import Derived.RangeFuncCalls
import Derived.RangeFuncLeaves
import Derived.Shelf.Abstract
import Derived.Shelf.RegionOpen
import Derived.WalkKit
import Derived.OwnWalkIn
import Derived.TacticsInMore
import Derived.LoopNIn
import Derived.LoopIn
import Derived.LaidEqlPtr
import Derived.Maps.OwnIn
namespace Go.Proofs.YtaniebkfgkhgoaaGreatDoor
open Go.RowKit Go.Sort
set_option linter.unusedVariables false
set_option maxRecDepth 100000

theorem info_ptr : (Tryz.prog.info? 75).map (fun i => (i.zero, i.size, i.bytes)) = some (some (.pointer none), 1, 8) := by kernel_rfl
theorem make_ptrs (n : Nat) (hn : n ≤ 1048576) (i : Int) (hi : i = (n : Int)) (w : World) :
    (Instr.makeSlice 73 (.int .i64 0) (.int .i64 i)).run Tryz.prog w = .ok (.slice (some ⟨w.heap.size, 0, none⟩) 0 n) (w.alloc (.cells (madeCells #[.pointer none] n) 75)) := by
  subst hi
  obtain ⟨i0, h1, h2, h3, h4⟩ := info_parts info_ptr
  have := run_make (P := Tryz.prog) w 73 75 i0 (.pointer none) Tryz.underlying73 h1 h2 .i64 .i64 0 n (by omega) (by omega) (by rw [h4]; omega) (by omega)
  rw [h3, show (Value.pointer none).cells = #[.pointer none] from rfl] at this
  simpa using this
/-- Pointers to the first k fields. -/
def ptrs (fb fo k : Nat) : List Value := (List.range k).map fun i => .pointer (some ⟨fb, fo + 5 * i, none⟩)
theorem ptrs_len (fb fo k : Nat) : (ptrs fb fo k).length = k := by simp [ptrs]
theorem ptrs_succ (fb fo k : Nat) : ptrs fb fo (k + 1) = ptrs fb fo k ++ [.pointer (some ⟨fb, fo + 5 * k, none⟩)] := by simp [ptrs, List.range_succ]


theorem size_insI {α : Type} [Inhabited α] (lt : α → α → Bool) (a : Nat) : ∀ (j : Nat) (d : Array α), (insInner lt a j d).size = d.size
  | 0, _ => rfl
  | j + 1, d => by
    unfold insInner
    split
    · rw [size_insI lt a j, swp]; simp
    · rfl
theorem size_insO {α : Type} [Inhabited α] (lt : α → α → Bool) (a b : Nat) : ∀ (n i : Nat) (d : Array α), b - i = n → (insOuter lt a b i d).size = d.size := by
  intro n
  induction n with
  | zero => intro i d h; unfold insOuter; rw [if_neg (by omega)]
  | succ n ih => intro i d h; unfold insOuter; rw [if_pos (by omega), ih _ _ (by omega), size_insI]
theorem size_insS {α : Type} [Inhabited α] (lt : α → α → Bool) (d : Array α) (a b : Nat) : (insertionSort lt d a b).size = d.size := size_insO lt a b _ _ d rfl

theorem ptr_snoc {w wr w1 : World} {fb fo k : Nat} {v v' : Value} {o : Obj} (hB : w.heap.size ≤ wr.heap.size) (hbel : RowKit.Below w.heap.size w wr)
    (hown : wr.ownsRow w.heap.size 75 1 v k (ptrs fb fo k)) (hown' : w1.ownsRow w.heap.size 75 1 v' (k + 1) (ptrs fb fo k ++ [.pointer (some ⟨fb, fo + k * 5, none⟩)])) (hgrow : (wr.alloc o).grownBy w1 v.ownBlock) :
    w1.ownsRow w.heap.size 75 1 v' (k + 1) (ptrs fb fo (k + 1)) ∧ RowKit.Below w.heap.size w w1 ∧ w.heap.size ≤ w1.heap.size := by
  have hb := (hbel.alloc hB o).grown hgrow (by simp; omega) (fun k hk => (hown.lt k hk).1)
  refine ⟨by rw [ptrs_succ, Nat.mul_comm 5 k]; exact hown', hb, ?_⟩
  have := hgrow.size
  simp at this; omega
theorem ptrs_enc (fb fo m : Nat) : ptrs fb fo (m + 1) = (List.ofFn (id : Fin (m + 1) → Fin (m + 1))).map (encF fb fo m) := by
  apply List.ext_getElem
  · simp [ptrs]
  · intro i h1 h2
    rw [List.getElem_map, List.getElem_ofFn]
    simp [ptrs, encF]
theorem holds_ptrs {w : World} {fb fo m B g cap : Nat} (h : w.ownsRow B 75 1 (.slice (some ⟨g, 0, none⟩) (m + 1) cap) (m + 1) (ptrs fb fo (m + 1))) : B ≤ g ∧ g < w.heap.size ∧ Holds (encF fb fo m) w g 0 (Array.ofFn (id : Fin (m + 1) → Fin (m + 1))) := by
  rw [ptrs_enc] at h
  obtain ⟨g', cap', e, h1, h2, _, _, _, h3⟩ := Lib.holds_of_ownsRow h (by intro e; cases e)
  cases e
  refine ⟨h1, h2, ?_⟩
  have e2 : (List.ofFn (id : Fin (m + 1) → Fin (m + 1))).toArray = Array.ofFn (id : Fin (m + 1) → Fin (m + 1)) := by
    apply Array.ext'
    simp
  rwa [e2] at h3

/-- What byName answers: a new row of pointers, in order. -/
def ByNamePost (fb fo m : Nat) (names : List ByteArray) (w : World) (e : Ending) (w' : World) : Prop :=
  ∃ g cap, e = .returned (.slice (some ⟨g, 0, none⟩) ((m + 1 : Nat)) cap) ∧ w.heap.size ≤ g ∧ g < w'.heap.size ∧ Holds (encF fb fo m) w' g 0 (ordA names m) ∧ (ordA names m).size = m + 1 ∧ RowKit.Below w.heap.size w w'

theorem byName_end {fb fo m g cap : Nat} {names : List ByteArray} {w wr w1 : World} (h : wr.ownsRow w.heap.size 75 1 (.slice (some ⟨g, 0, none⟩) (m + 1) cap) (m + 1) (ptrs fb fo (m + 1))) (hbel : RowKit.Below w.heap.size w wr) (hw : ∃ k, w1 = (putRow (encF fb fo m) wr g 0 (ordA names m)).drewN k) :
    ByNamePost fb fo m names w (.returned (.slice (some ⟨g, 0, none⟩) (m + 1) cap)) w1 := by
  obtain ⟨k, rfl⟩ := hw
  obtain ⟨h1, h2, h3⟩ := holds_ptrs h
  have hs : (ordA names m).size = m + 1 := by unfold ordA; rw [size_insS]; simp
  refine ⟨g, cap, rfl, h1, ?_, ?_, hs, ?_⟩
  · show g < (putRow (encF fb fo m) wr g 0 (ordA names m)).heap.size
    rw [putRow_sz]; exact h2
  · exact holds_putRow (encF fb fo m) wr g 0 _ (ordA names m) h3 (by rw [hs]; simp)
  · exact below_drewN (Lib.below_putRow (q := 0) hbel h1) _

set_option maxHeartbeats 2000000 in
theorem byName_some (fb fo m cap0 : Nat) (h20 : m + 1 ≤ 1048576) (names : List ByteArray) (w : World) (hc : ∀ i, i < m + 1 → w.cell? ⟨fb, fo + 5 * i, none⟩ = some (.string (names.getD i ⟨#[]⟩))) :
    Calls Tryz.prog 39 #[.slice (some ⟨fb, fo, none⟩) ((m + 1 : Nat)) cap0] w (ByNamePost fb fo m names w) := by
  obtain ⟨i0, hi, hz0, hz1, hz2⟩ := info_parts info_ptr
  have hmk := fun w0 : World => make_ptrs (m + 1) (by omega) ((m : Int) + 1) (by omega) w0
  have hfl : fb < w.heap.size := World.block_lt_of_cell? w _ (hc 0 (by omega))
  have HC := Lib.hid hc
  clear hc
  go_enter Tryz.func39, Tryz.ntmps39
  go_wp2_with fail
  go_outline
  go_loopw [3, 10] (fun v i wr => ∃ k : Nat, i = .int .i64 k ∧ k ≤ m + 1 ∧ wr.ownsRow w.heap.size 75 1 v k (ptrs fb fo k) ∧ Hid (RowKit.Below w.heap.size w wr) ∧ w.heap.size ≤ wr.heap.size) (fun _ i _ => m + 1 - (intOf i).toNat)
  case atStart => exact ⟨0, rfl, by omega, World.ownsRow_made w _ _ (Nat.le_refl _) (by unfold maxLen; omega) (by rw [size_madeCells]; omega), (Below.refl _ _).alloc (Nat.le_refl _) _, by simp⟩
  case round =>
    obtain ⟨k, rfl, hk, hown, hbel, hsize⟩ := hrel
    by_cases hlt : k < m + 1
    · have hki : (k : Int) < (m : Int) + 1 := by omega
      go_wp2_with (at_builtin; refine wpList_append_own _ rfl (.tmp 13) (.tmp 17) 73 rfl w.heap.size 75 i0 (.pointer none) 1 8 Tryz.underlying73 hi hz0 hz1 hz2 rfl (by decide) u3 k (ptrs fb fo k) rfl (hown.alloc _) ⟨wr.heap.size, 0, none⟩ 1 1 [.pointer (some ⟨fb, fo + k * 5, none⟩)] rfl rfl ?c1 ?c2 ?c3 ?c4 ?c5 ?_)
      case c1 => exact cell_one_new _ _ _
      case c2 => intro u hu; simp at hu; subst hu; rfl
      case c3 => unfold maxLen; omega
      case c4 => omega
      case c5 => simp; omega
      intro v1 w1 hown1 hgrow1 _
      obtain ⟨own1, bel1, siz1⟩ := ptr_snoc hsize hbel.out hown hown1 hgrow1
      have B1 := Lib.hid bel1
      clear hown1 hgrow1 hown hbel bel1
      go_wp2_with fail
      go_roundw
      case rel => exact ⟨k + 1, by go_num, by omega, own1, B1.out, siz1⟩
      case measure => simp [intOf]; omega
    · obtain rfl : k = m + 1 := by omega
      obtain ⟨g, cap, rfl⟩ := ownsRow_succ hown
      obtain ⟨hg1, hg2, hH⟩ := holds_ptrs hown
      have CS : Hid (∀ ww, ww = wr → Calls Tryz.prog 64 #[.slice (some ⟨g, 0, none⟩) (m + 1) cap, .func (.func 65) #[] #[]] ww fun e w' =>
          e = .returned (.tuple #[]) ∧ Hid (∃ k, w' = (putRow (encF fb fo m) wr g 0 (ordA names m)).drewN k)) := by
        rintro _ rfl
        exact sort_any fb fo m h20 names g cap _ (fun i hi => (World.cell?_of_block (hbel.out.block fb hfl)).trans (HC.out i hi)) (by omega) hH
      have HO := Lib.hid hown
      clear hown hH HC
      go_wp2_with (go_at_call 64; (with_reducible refine (CS.out _ rfl).mono ?_); rintro e w1 ⟨rfl, hw1⟩)
      go_ret
      exact byName_end HO.out hbel.out hw1.out
end Go.Proofs.YtaniebkfgkhgoaaGreatDoor

namespace Go.Proofs.YtaniebkfgkhgoaaGreatDoor
open Go.RowKit Go.Sort
set_option linter.unusedVariables false
set_option maxRecDepth 100000

theorem byName_nil (p : Option Addr) (cap0 : Nat) (w : World) :
    Calls Tryz.prog 39 #[.slice p 0 cap0] w (fun e w' => e = .returned (.slice (some ⟨w.heap.size, 0, none⟩) 0 0) ∧ RowKit.Below w.heap.size w w') := by
  have hmk := fun w0 : World => make_ptrs 0 (by omega) 0 (by omega) w0
  have CI : Hid (∀ ww : World, Calls Tryz.prog 64 #[.slice (some ⟨w.heap.size, 0, none⟩) 0 0, .func (.func 65) #[] #[]] ww fun e w' => e = .returned (.tuple #[]) ∧ w' = ww) := by
    intro ww
    have CJ : Hid (∀ ww : World, Calls Tryz.prog 106 #[.slice (some ⟨w.heap.size, 0, none⟩) 0 0, .int .i64 0, .int .i64 0, .func (.func 65) #[] #[]] ww fun e w' => e = .returned (.tuple #[]) ∧ w' = ww) := by
      intro ww
      go_enter Tryz.func106, Tryz.ntmps106
      go_wp2_with fail
      go_loopg [8] 0 (fun _ s6 wr => s6 = .int .i64 1 ∧ wr = ww)
      case atStart => exact ⟨rfl, rfl⟩
      case round =>
        obtain ⟨rfl, rfl⟩ := hrel
        go_wp2_with fail
        go_end0
        exact ⟨rfl, rfl⟩
    have CK : Hid (∀ ww : World, Calls Tryz.prog 88 #[.slice (some ⟨w.heap.size, 0, none⟩) 0 0, .int .i64 0, .func (.func 65) #[] #[]] ww fun e w' => e = .returned (.tuple #[]) ∧ w' = ww) := by
      intro ww
      go_enter Tryz.func88, Tryz.ntmps88
      go_wp2_with fail
      go_outline
      go_loopg [7, 8] 0 (fun _ s7 s8 wr => s7 = .int .i64 0 ∧ s8 = .int .i64 20 ∧ wr = ww)
      case atStart => exact ⟨rfl, rfl, rfl⟩
      case round =>
        obtain ⟨rfl, rfl, rfl⟩ := hrel
        go_wp2_with (go_at_call 106; (with_reducible refine (CJ.out _).mono ?_); rintro e w1 ⟨rfl, rfl⟩)
        go_loopg [6] 0 (fun _ s6 wr => s6 = .int .i64 20 ∧ wr = w1)
        case atStart => exact ⟨rfl, rfl⟩
        case round =>
          obtain ⟨rfl, rfl⟩ := hrel
          go_wp2_with fail
          go_end0
          exact ⟨rfl, rfl⟩
    go_enter Tryz.func64, Tryz.ntmps64
    go_wp2_with (go_at_call 88; (with_reducible refine (CK.out _).mono ?_); rintro e w1 ⟨rfl, rfl⟩)
    go_end0
    exact ⟨rfl, rfl⟩
  go_enter Tryz.func39, Tryz.ntmps39
  go_wp2_with fail
  generalize hW : w.alloc (.cells (madeCells #[.pointer none] 0) 75) = W
  have HW := Lib.hid hW
  clear hW
  go_loopg [3, 10] 0 (fun _ s3 s10 wr => s3 = .slice (some ⟨w.heap.size, 0, none⟩) 0 0 ∧ s10 = .int .i64 0 ∧ wr = W)
  case atStart => exact ⟨rfl, rfl, rfl⟩
  case round =>
    obtain ⟨rfl, rfl, hrel⟩ := hrel
    go_wp2_with (go_at_call 64; (with_reducible refine (CI.out _).mono ?_); rintro e w1 ⟨rfl, rfl⟩)
    go_ret
    exact ⟨rfl, by rw [← HW.out]; exact (Below.refl _ _).alloc (Nat.le_refl _) _⟩

/-- The name at a place of the order. -/
def nmF (names : List ByteArray) (m i : Nat) : ByteArray := names.getD (ordA names m)[i]!.val ⟨#[]⟩
/-- Two fields next to each other in the order have one name. -/
def twB (names : List ByteArray) (m : Nat) : Bool := (List.range m).any fun i => decide (nmF names m (i + 1) = nmF names m i)

set_option maxHeartbeats 2000000 in
theorem twins_some (fb fo m cap0 : Nat) (h20 : m + 1 ≤ 1048576) (names : List ByteArray) (w : World) (hc : ∀ i, i < m + 1 → w.cell? ⟨fb, fo + 5 * i, none⟩ = some (.string (names.getD i ⟨#[]⟩))) :
    Calls Tryz.prog 24 #[.slice (some ⟨fb, fo, none⟩) ((m + 1 : Nat)) cap0] w (fun e w' => e = .returned (.bool (twB names m)) ∧ RowKit.Below w.heap.size w w') := by
  have CB := Lib.hid (byName_some fb fo m cap0 h20 names w hc)
  have hfl : fb < w.heap.size := World.block_lt_of_cell? w _ (hc 0 (by omega))
  have HC := Lib.hid hc
  clear hc
  go_enter Tryz.func24, Tryz.ntmps24
  go_wp2_with (go_at_call 39; (with_reducible refine CB.out.mono ?_); rintro e w1 ⟨g, cap, rfl, hg1, hg2, hH, hs, hb⟩)
  have hx : ∀ k, k < m + 1 → w1.cell? ⟨g, k, none⟩ = some (.pointer (some ⟨fb, fo + 5 * ((ordA names m)[k]!).val, none⟩)) ∧ w1.cell? ⟨fb, fo + 5 * ((ordA names m)[k]!).val, none⟩ = some (.string (nmF names m k)) := fun k hk => by
    have h := (hH k (by omega)).1
    rw [Nat.zero_add] at h
    exact ⟨h, (World.cell?_of_block (hb.block fb hfl)).trans (HC.out _ ((ordA names m)[k]!).isLt)⟩
  have HX := Lib.hid hx
  have HB := Lib.hid hb
  clear hx hH hb CB HC
  go_outline
  go_loopw [10] (fun i wr => ∃ k : Nat, i = .int .i64 k ∧ k ≤ m + 1 ∧ Hid (∀ i, i + 1 < k → nmF names m (i + 1) ≠ nmF names m i) ∧ Hid (∃ n, wr = w1.drewN n)) (fun i _ => m + 1 - (intOf i).toNat)
  case atStart => exact ⟨0, rfl, by omega, fun i h => by omega, ⟨0, rfl⟩⟩
  case round =>
    obtain ⟨k, rfl, hk, hno, hwr⟩ := hrel
    by_cases hlt : k < m + 1
    · have hki : (k : Int) < (m : Int) + 1 := by omega
      obtain ⟨p1, p2⟩ : wr.cell? ⟨g, k, none⟩ = some (.pointer (some ⟨fb, fo + 5 * ((ordA names m)[k]!).val, none⟩)) ∧ wr.cell? ⟨fb, fo + 5 * ((ordA names m)[k]!).val, none⟩ = some (.string (nmF names m k)) := by
        obtain ⟨n, rfl⟩ := hwr.out
        exact HX.out k hlt
      cases k with
      | zero =>
        generalize hX : fo + 5 * ((ordA names m)[0]!).val = X at p1 p2
        clear HX hX
        go_wp2_with fail
        go_quiet (fail)
        go_wp2_with fail
        go_roundw
        case rel => exact ⟨1, rfl, by omega, fun i h => by omega, by obtain ⟨n, rfl⟩ := hwr.out; exact ⟨_, World.drewN_drewN _ _ _⟩⟩
        case measure => simp [intOf]
      | succ j =>
        obtain ⟨p3, p4⟩ : wr.cell? ⟨g, j, none⟩ = some (.pointer (some ⟨fb, fo + 5 * ((ordA names m)[j]!).val, none⟩)) ∧ wr.cell? ⟨fb, fo + 5 * ((ordA names m)[j]!).val, none⟩ = some (.string (nmF names m j)) := by
          obtain ⟨n, rfl⟩ := hwr.out
          exact HX.out j (by omega)
        generalize hX : fo + 5 * ((ordA names m)[j + 1]!).val = X at p1 p2
        generalize hY : fo + 5 * ((ordA names m)[j]!).val = Y at p3 p4
        clear HX hX hY
        have hj1 : (j : Int) + 1 - 1 = (j : Int) := by omega
        have hj2 : (j : Int) < (m : Int) + 1 := by omega
        have hj3 : (0 : Int) < (j : Int) + 1 := by omega
        by_cases heq : nmF names m (j + 1) = nmF names m j
        · have hend : twB names m = true := by
            unfold twB
            rw [List.any_eq_true]
            exact ⟨j, List.mem_range.2 (by omega), by simpa using heq⟩
          have HE := Lib.hid hend
          have hE : decide (nmF names m (j + 1) = nmF names m j) = true := by simpa using heq
          clear hno hend
          generalize nmF names m (j + 1) = s1 at p2 heq hE
          generalize nmF names m j = s2 at p4 heq hE
          go_wp2_with fail
          go_quiet (fail)
          go_wp2_with fail
          go_ret
          exact ⟨by rw [HE.out]; rfl, by obtain ⟨n, rfl⟩ := hwr.out; exact below_drewN (below_drewN HB.out _) _⟩
        · have hE : ((nmF names m (j + 1)).toList == (nmF names m j).toList) = false := by
            rw [beq_eq_false_iff_ne]
            intro e
            rw [ByteArray.toList_eq, ByteArray.toList_eq] at e
            exact heq (by cases h1 : nmF names m (j + 1); cases h2 : nmF names m j; rw [h1, h2] at e; simpa [Array.toList_inj] using e)
          have HN : Hid (∀ i, i + 1 < j + 2 → nmF names m (i + 1) ≠ nmF names m i) := fun i h => by
            by_cases e : i = j
            · subst e; exact heq
            · exact hno.out i (by omega)
          clear hno
          generalize hs1 : nmF names m (j + 1) = s1 at p2 heq hE
          generalize hs2 : nmF names m j = s2 at p4 heq hE
          clear hs1 hs2 heq
          go_wp2_with fail
          go_quiet (fail)
          trace_state
          go_wp2_with fail
          go_roundw
          case rel => exact ⟨j + 2, by go_num, by omega, HN, by obtain ⟨n, rfl⟩ := hwr.out; exact ⟨_, World.drewN_drewN _ _ _⟩⟩
          case measure => simp [intOf]; omega
    · obtain rfl : k = m + 1 := by omega
      have hend : twB names m = false := by
        unfold twB
        rw [List.any_eq_false]
        intro i hi
        simp only [decide_eq_true_eq]
        exact hno.out i (by have := List.mem_range.1 hi; omega)
      clear hno
      go_wp2_with fail
      go_ret
      exact ⟨by rw [hend]; rfl, by obtain ⟨n, rfl⟩ := hwr.out; exact below_drewN HB.out _⟩
end Go.Proofs.YtaniebkfgkhgoaaGreatDoor

namespace Go.Proofs.YtaniebkfgkhgoaaGreatDoor
open Go.RowKit Go.Sort
set_option linter.unusedVariables false
set_option maxRecDepth 100000

theorem ord_size (names : List ByteArray) (m : Nat) : (ordA names m).size = m + 1 := by unfold ordA; rw [size_insS]; simp
theorem ord_spec (names : List ByteArray) (m : Nat) : PermIn 0 (m + 1) (Array.ofFn id) (ordA names m) ∧ SortedIn (ltOf (cfF names m)) 0 (m + 1) (ordA names m) :=
  insertionSort_holds (swo_cf names m) (Array.ofFn id) 0 (m + 1) (Nat.zero_le _) (by simp)
theorem ext_all {α : Type} (d : Array α) (n : Nat) (h : d.size = n) : d.extract 0 n = d := by subst h; exact Array.extract_size
theorem ord_perm (names : List ByteArray) (m : Nat) : (ordA names m).toList.Perm (List.ofFn (id : Fin (m + 1) → Fin (m + 1))) := by
  have h := (ord_spec names m).1.2.2
  rw [ext_all _ _ (ord_size names m), ext_all _ _ (by simp)] at h
  simpa using h
theorem ord_sorted (names : List ByteArray) (m i j : Nat) (hij : i < j) (hj : j < m + 1) : ¬ (nmF names m j).data.toList < (nmF names m i).data.toList := by
  have h := (ord_spec names m).2 i j (Nat.zero_le _) hij hj
  rw [cf_lt] at h
  simpa [ltStr, nmF] using h
/-- The names in their order. -/
theorem nm_perm (names : List ByteArray) (m : Nat) (hl : names.length = m + 1) : ((List.range (m + 1)).map (nmF names m)).Perm names := by
  have h := (ord_perm names m).map (fun i : Fin (m + 1) => names.getD i.val ⟨#[]⟩)
  have e1 : (ordA names m).toList.map (fun i : Fin (m + 1) => names.getD i.val ⟨#[]⟩) = (List.range (m + 1)).map (nmF names m) := by
    apply List.ext_getElem
    · simp [ord_size]
    · intro i h1 h2
      have hi : i < (ordA names m).size := by simpa using h1
      rw [List.getElem_map, List.getElem_map, List.getElem_range, nmF, getElem!_pos (ordA names m) i hi]
      rfl
  have e2 : (List.ofFn (id : Fin (m + 1) → Fin (m + 1))).map (fun i : Fin (m + 1) => names.getD i.val ⟨#[]⟩) = names := by
    apply List.ext_getElem
    · simp [hl]
    · intro i h1 h2
      rw [List.getElem_map, List.getElem_ofFn]
      simp [List.getD_eq_getElem?_getD, h2]
  rw [e1, e2] at h
  exact h
theorem tw_spec (names : List ByteArray) (m : Nat) (hl : names.length = m + 1) : twB names m = true ↔ ¬ names.Nodup := by
  rw [← (nm_perm names m hl).nodup_iff]
  have hp : ((List.range (m + 1)).map (nmF names m)).Nodup ↔ ∀ i j, i < j → j < m + 1 → nmF names m i ≠ nmF names m j := by
    rw [List.nodup_iff_pairwise_ne, List.pairwise_iff_getElem]
    constructor
    · intro h i j h1 h2
      have := h i j (by simp; omega) (by simpa using h2) h1
      rwa [List.getElem_map, List.getElem_map, List.getElem_range, List.getElem_range] at this
    · intro h i j h1 h2 h3
      rw [List.getElem_map, List.getElem_map, List.getElem_range, List.getElem_range]
      exact h i j h3 (by simpa using h2)
  rw [hp]
  unfold twB
  rw [List.any_eq_true]
  constructor
  · rintro ⟨i, hi, he⟩ h
    exact h i (i + 1) (by omega) (by have := List.mem_range.1 hi; omega) (by simpa using (of_decide_eq_true he).symm)
  · intro h
    refine Classical.byContradiction fun hno => h fun i j hij hj e => hno ⟨i, List.mem_range.2 (by omega), decide_eq_true ?_⟩
    by_cases h1 : j = i + 1
    · rw [e, h1]
    · have a1 := ord_sorted names m i (i + 1) (by omega) (by omega)
      have a2 := ord_sorted names m (i + 1) j (by omega) hj
      rw [← e] at a2
      have a3 := List.le_antisymm (List.not_lt.1 a1) (List.not_lt.1 a2)
      have : (nmF names m i).data = (nmF names m (i + 1)).data := Array.toList_inj.1 a3
      show (⟨(nmF names m (i + 1)).data⟩ : ByteArray) = ⟨(nmF names m i).data⟩
      rw [this]

/-- Where the names of fields lie. -/
theorem LFs.names {w : World} {S : Nat → Prop} {b : Nat} : ∀ {o : Nat} {f : List (ByteArray × JV)}, LFs w S b o f → ∀ i, i < f.length → w.cell? ⟨b, o + 5 * i, none⟩ = some (.string ((f.map (·.1)).getD i ⟨#[]⟩))
  | _, [], _, i, hi => absurd hi (Nat.not_lt_zero _)
  | o, (n, v) :: r, h, i, hi => by
    simp only [LFs] at h
    cases i with
    | zero => simpa using h.1
    | succ i =>
      have := LFs.names h.2.2 i (by simpa using hi)
      rw [show o + 5 * (i + 1) = o + 5 + 5 * i by omega, this]
      simp

theorem twins_nil (p : Option Addr) (cap0 : Nat) (w : World) :
    Calls Tryz.prog 24 #[.slice p 0 cap0] w (fun e w' => e = .returned (.bool false) ∧ RowKit.Below w.heap.size w w') := by
  have CB := Lib.hid (byName_nil p cap0 w)
  go_enter Tryz.func24, Tryz.ntmps24
  go_wp2_with (go_at_call 39; (with_reducible refine CB.out.mono ?_); rintro e w1 ⟨rfl, hb⟩)
  have HB := Lib.hid hb
  clear hb CB
  go_loopg [10] 0 (fun _ s10 wr => s10 = .int .i64 0 ∧ wr = w1)
  case atStart => exact ⟨rfl, rfl⟩
  case round =>
    obtain ⟨rfl, rfl⟩ := hrel
    go_wp2_with fail
    go_ret
    exact ⟨rfl, HB.out⟩

/-- hasTwins of fewer than twenty fields. -/
theorem twins_any {w : World} {S : Nat → Prop} {a : Option Addr} {cap : Nat} (f : List (ByteArray × JV)) (h20 : f.length ≤ 1048576) (h : f = [] ∨ ∃ b o, a = some ⟨b, o, none⟩ ∧ S b ∧ LFs w S b o f) :
    Calls Tryz.prog 24 #[.slice a f.length cap] w (fun e w' => e = .returned (.bool (decide (¬ (f.map (·.1)).Nodup))) ∧ RowKit.Below w.heap.size w w') := by
  by_cases hf : f = []
  · subst hf
    refine (twins_nil a cap w).mono fun e w' h => ?_
    simpa using h
  · rcases h with h | ⟨b, o, rfl, hs, hv⟩
    · exact absurd h hf
    · obtain ⟨m, hm⟩ : ∃ m, f.length = m + 1 := ⟨f.length - 1, by have := List.length_pos_iff.2 hf; omega⟩
      rw [hm]
      refine (twins_some b o m cap (by omega) (f.map (·.1)) w (fun i hi => hv.names i (by omega))).mono fun e w' h => ?_
      have e1 : twB (f.map (·.1)) m = decide (¬ (f.map (·.1)).Nodup) := by
        rw [Bool.eq_iff_iff, tw_spec _ _ (by simpa using hm)]; simp
      rw [← e1]
      exact h

/-- isSingle. -/
theorem isSingle_any {w : World} {S : Nat → Prop} (v : JV) {b o : Nat} (h : LAt w S v b o) :
    Calls Tryz.prog 38 #[.pointer (some ⟨b, o, none⟩)] w (fun e w' => e = .returned (.bool (decide (v.list = [] ∧ v.fields = []))) ∧ w' = w) := by
  obtain ⟨k, t, l, f⟩ := v
  obtain ⟨c0, c1, c2, c3, -, -, h2, h3, hv⟩ := h
  simp only [LV] at hv
  obtain ⟨-, -, ⟨a, cap, rfl, -⟩, ⟨a', cap', rfl, -⟩⟩ := hv
  have hlf : (l = [] ∧ f = []) ↔ ((l.length : Int) = 0 ∧ (f.length : Int) = 0) := by
    rw [← List.length_eq_zero_iff, ← List.length_eq_zero_iff]; omega
  have hd : decide (l = [] ∧ f = []) = (decide ((l.length : Int) = 0) && decide ((f.length : Int) = 0)) := by rw [decide_eq_decide.2 hlf, Bool.decide_and]
  show Calls _ _ _ _ fun e w' => e = .returned (.bool (decide (l = [] ∧ f = []))) ∧ w' = w
  rw [hd]
  clear hd hlf
  generalize l.length = nl at h2
  generalize f.length = nf at h3
  by_cases hn : (nl : Int) = 0
  · rw [decide_eq_true hn, Bool.true_and]
    go_enter Tryz.func38, Tryz.ntmps38
    go_wp2_with fail
    go_ret
    exact ⟨rfl, rfl⟩
  · rw [decide_eq_false hn, Bool.false_and]
    have hn' : decide ((nl : Int) = 0) = false := by simpa using hn
    go_enter Tryz.func38, Tryz.ntmps38
    go_wp2_with fail
    go_ret
    exact ⟨rfl, rfl⟩
end Go.Proofs.YtaniebkfgkhgoaaGreatDoor

namespace Go.Proofs.YtaniebkfgkhgoaaGreatDoor
open Go.RowKit Go.Shelf
attribute [local go_sem] Oper.semAt_some
set_option linter.unusedVariables false
set_option maxRecDepth 100000

/-- The row of a value's list or fields: the addresses of zs, in strides of s from d on. -/
def RowAt {α : Type} (ad : α → Nat × Nat) (s d : Nat) (a : Option Addr) (zs : List α) : Prop :=
  zs = [] ∨ ∃ b o, a = some ⟨b, o, none⟩ ∧ ∀ (j : Nat) (h : j < zs.length), ad zs[j] = (b, o + j * s + d)

theorem take_snoc' {α : Type} (zs : List α) (k : Nat) (h : k < zs.length) : zs.take k ++ [zs[k]] = zs.take (k + 1) := by rw [List.take_succ_eq_append_getElem h]

set_option maxHeartbeats 2000000 in
theorem inner_in {α : Type} (ad : α → Nat × Nat) (Kp : World → World → Prop) (F : Fence) (n : Nat) (h73 : F.fn 72) (hro : F.round = none) (hn : 1 ≤ n) (l B vb vo : Nat) (z1 z2 : List α) (a2 a3 : Option Addr) (cap2 cap3 : Nat)
    (hl1 : z1.length ≤ 1099511627776) (hl2 : z2.length ≤ 1099511627776) (h2 : RowAt ad 4 0 a2 z1) (h3 : RowAt ad 5 1 a3 z2)
    (hKp : ∀ {W W' : World}, Kp W W' → W'.heap[B]? = W.heap[B]? ∧ W'.heap[vb]? = W.heap[vb]?) (J Jx : List α → World → Prop)
    (hY : ∀ pre x W, J pre W → pre.length < z1.length + z2.length → YieldAt F (n - 1) Tryz.prog l #[.pointer (some ⟨(ad x).1, (ad x).2, none⟩)] W fun e W' =>
      (e = .returned (.bool true) ∧ J (pre ++ [x]) W' ∧ Kp W W') ∨ (e = .returned (.bool false) ∧ Jx (pre ++ [x]) W'))
    (W : World) (c0 : W.cell? ⟨B, 0, none⟩ = some (.pointer (some ⟨vb, vo, none⟩))) (c2 : W.cell? ⟨vb, vo + 2, none⟩ = some (.slice a2 z1.length cap2)) (c3 : W.cell? ⟨vb, vo + 3, none⟩ = some (.slice a3 z2.length cap3)) (h0 : J [] W) :
    CallsIn F n Tryz.prog 72 #[.func (.yield l) #[] #[], .pointer (some ⟨B, 0, none⟩)] W fun e W' => (∃ v, e = .returned v) ∧
      ((∃ ys, ys = z1 ++ z2 ∧ J ys W') ∨ (∃ pre, pre <+: z1 ++ z2 ∧ Jx pre W')) := by
  refine callsIn_of_wp Tryz.func72 rfl h73 ?_ hro
  simp only [Tryz.ntmps72, List.size_toArray, List.length_cons, List.length_nil, Nat.reduceAdd, Nat.reduceSub, Array.replicate_succ, Array.replicate_zero, List.push_toArray, List.append_toArray, List.nil_append, List.cons_append]
  gi_wp2
  gi_loopw [10] (fun i wr => ∃ k : Nat, k ≤ z1.length ∧ i = .int .i64 k ∧ J (z1.take k) wr ∧ wr.cell? ⟨B, 0, none⟩ = some (.pointer (some ⟨vb, vo, none⟩)) ∧ wr.cell? ⟨vb, vo + 2, none⟩ = some (.slice a2 z1.length cap2) ∧ wr.cell? ⟨vb, vo + 3, none⟩ = some (.slice a3 z2.length cap3))
    (fun i _ => z1.length - (intOf i).toNat)
  case atStart => exact ⟨0, Nat.zero_le _, rfl, h0, c0, c2, c3⟩
  case round =>
    obtain ⟨k, hk, rfl, hJ, d0, d2, d3⟩ := hrel
    by_cases hlt : k < z1.length
    · rcases h2 with h2 | ⟨b, o, rfl, hz⟩
      · exact absurd hlt (by rw [h2]; simp)
      obtain ⟨fn, tmps, assign, body, hy, hR⟩ := hY _ z1[k] wr hJ (by rw [List.length_take]; omega)
      have hzk := hz k hlt
      rw [hzk] at hy
      dsimp only [Nat.add_zero] at hy
      gi_wp2
      refine hR.mono ?_
      rintro e W3 (⟨rfl, hJ3, hk3⟩ | ⟨rfl, hJx3⟩)
      · have e0 := (World.cell?_of_block (a := ⟨B, 0, none⟩) (hKp hk3).1).trans d0
        have e2 := (World.cell?_of_block (a := ⟨vb, vo + 2, none⟩) (hKp hk3).2).trans d2
        have e3 := (World.cell?_of_block (a := ⟨vb, vo + 3, none⟩) (hKp hk3).2).trans d3
        gi_wp2
        go_roundw
        case rel => exact ⟨k + 1, by omega, by simp, by rw [← take_snoc' z1 k hlt]; exact hJ3, e0, e2, e3⟩
        case measure => simp [intOf]; omega
      · gi_wp2
        refine bodyPost_ret (results_none rfl _ _ _) rfl ?_
        refine ⟨⟨_, rfl⟩, .inr ⟨_, ?_, hJx3⟩⟩
        rw [take_snoc' z1 k hlt]
        exact (List.take_prefix _ _).trans (List.prefix_append _ _)
    · obtain rfl : k = z1.length := by omega
      rw [List.take_length] at hJ
      have hlen : z1.length ≤ 1099511627776 := hl1
      generalize hn1 : z1.length = n1 at *
      gi_wp2
      gi_loopw [28] (fun i wr => ∃ k : Nat, k ≤ z2.length ∧ i = .int .i64 k ∧ J (z1 ++ z2.take k) wr ∧ wr.cell? ⟨B, 0, none⟩ = some (.pointer (some ⟨vb, vo, none⟩)) ∧ wr.cell? ⟨vb, vo + 3, none⟩ = some (.slice a3 z2.length cap3))
        (fun i _ => z2.length - (intOf i).toNat)
      case atStart => exact ⟨0, Nat.zero_le _, rfl, by simpa using hJ, d0, d3⟩
      case round =>
        clear hJ d0 d2 d3
        obtain ⟨k, hk, rfl, hJ, d0, d3⟩ := hrel
        by_cases hlt : k < z2.length
        · rcases h3 with h3 | ⟨b, o, rfl, hz⟩
          · exact absurd hlt (by rw [h3]; simp)
          obtain ⟨fn, tmps, assign, body, hy, hR⟩ := hY _ z2[k] _ hJ (by rw [List.length_append, List.length_take]; omega)
          have hzk := hz k hlt
          rw [hzk] at hy
          dsimp only at hy
          gi_wp2
          refine hR.mono ?_
          rintro e W3 (⟨rfl, hJ3, hk3⟩ | ⟨rfl, hJx3⟩)
          · have e0 := (World.cell?_of_block (a := ⟨B, 0, none⟩) (hKp hk3).1).trans d0
            have e3 := (World.cell?_of_block (a := ⟨vb, vo + 3, none⟩) (hKp hk3).2).trans d3
            gi_wp2
            go_roundw
            case rel => exact ⟨k + 1, by omega, by simp, by rw [← take_snoc' z2 k hlt, ← List.append_assoc]; exact hJ3, e0, e3⟩
            case measure => simp [intOf]; omega
          · gi_wp2
            refine bodyPost_ret (results_none rfl _ _ _) rfl ?_
            refine ⟨⟨_, rfl⟩, .inr ⟨_, ?_, hJx3⟩⟩
            rw [List.append_assoc, take_snoc' z2 k hlt]
            exact List.prefix_append_right_inj _ |>.2 (List.take_prefix _ _)
        · obtain rfl : k = z2.length := by omega
          rw [List.take_length] at hJ
          gi_wp2
          go_end0
          exact ⟨⟨_, rfl⟩, .inl ⟨_, rfl, hJ⟩⟩
end Go.Proofs.YtaniebkfgkhgoaaGreatDoor

namespace Go.Proofs.YtaniebkfgkhgoaaGreatDoor
open Go.RowKit
set_option linter.unusedVariables false
set_option linter.unusedSectionVars false

/-- A pointer to a cell. -/
def pv (a : Nat × Nat) : Value := .pointer (some ⟨a.1, a.2, none⟩)
theorem pv_inj {a b : Nat × Nat} (h : pv a = pv b) : a = b := by
  unfold pv at h
  simp only [Value.pointer.injEq, Option.some.injEq, Addr.mk.injEq] at h
  exact Prod.ext h.1 h.2.1
/-- The map in block b holds f. -/
def PM (w : World) (b : Nat) (f : Nat × Nat → Option Value) : Prop :=
  ∃ es clock, w.heap[b]? = some (.map es clock) ∧ (∀ (i : Nat) e, es.toList[i]? = some e → ∃ a, e.key = pv a ∧ Clean w a.1 ∧ f a = some e.val) ∧
    (∀ a v, f a = some v → ∃ (i : Nat) (e : MapEntry), es.toList[i]? = some e ∧ e.key = pv a) ∧ (∀ (i j : Nat) (e e' : MapEntry), es.toList[i]? = some e → es.toList[j]? = some e' → e.key = e'.key → i = j)

section
variable {P : Program} (w : World) {tp te : TypeId} {j : TypeInfo} (hp : P.underlying tp = some (.pointer te)) (hte : P.info? te = some j) (hsz : j.size ≠ 0)
include hp hte hsz
theorem run_ptr_eq {a b : Nat × Nat} (ha : Clean w a.1) (hb : Clean w b.1) : (Op.equal tp (pv a) (pv b)).run P w = .ok (decide (a = b)) w := by
  by_cases h : a = b
  · subst h
    have h : ∀ d : Nat, (Op.equalIn (d + 1) tp (.pointer (some ⟨a.1, a.2, none⟩)) (.pointer (some ⟨a.1, a.2, none⟩))).run P w = .ok true w := fun d => by
      simp [Op.equalIn, run_underlying hp, sizeOf, typeInfo, hte, run_sameAddr_same]
    rw [decide_eq_true rfl]
    exact h 9999
  · obtain ⟨ca, ta, ha⟩ := ha
    obtain ⟨cb, tb, hb⟩ := hb
    have hne : (⟨a.1, a.2, none⟩ : Addr) ≠ ⟨b.1, b.2, none⟩ := fun e => h (by simp only [Addr.mk.injEq] at e; exact Prod.ext e.1 e.2.1)
    have h : ∀ d : Nat, (Op.equalIn (d + 1) tp (.pointer (some ⟨a.1, a.2, none⟩)) (.pointer (some ⟨b.1, b.2, none⟩))).run P w = .ok false w := fun d => by
      simp [Op.equalIn, run_underlying hp, sizeOf, typeInfo, hte, hsz, run_sameAddr_other w hne ha hb]
    rw [decide_eq_false (by assumption)]
    exact h 9999
theorem run_find {x : Nat × Nat} (hx : Clean w x.1) : ∀ (es : List MapEntry) (i : Nat), (∀ e ∈ es, ∃ a, e.key = pv a ∧ Clean w a.1) →
    ((Instr.findAsking tp (pv x) es i).run P w = .ok none w ∧ ∀ e ∈ es, e.key ≠ pv x) ∨
    ∃ (j : Nat) (e : MapEntry), (Instr.findAsking tp (pv x) es i).run P w = .ok (some (i + j, e.val)) w ∧ es[j]? = some e ∧ e.key = pv x
  | [], i, _ => Or.inl ⟨by simp [Instr.findAsking], by simp⟩
  | e :: es, i, hall => by
    obtain ⟨a, hk, hc⟩ := hall e (by simp)
    have hr := run_ptr_eq w hp hte hsz hx hc
    rw [← hk] at hr
    by_cases h : x = a
    · right
      subst h
      rw [decide_eq_true rfl] at hr
      exact ⟨0, e, by simp [Instr.findAsking, hr], rfl, hk⟩
    · rw [decide_eq_false h] at hr
      rcases run_find hx es (i + 1) (fun y hy => hall y (by simp [hy])) with ⟨h1, h2⟩ | ⟨j, e', h1, h2, h3⟩
      · left
        refine ⟨by simp [Instr.findAsking, hr, h1], fun y hy => ?_⟩
        rcases List.mem_cons.1 hy with rfl | hy
        · rw [hk]; exact fun e => h (pv_inj e).symm
        · exact h2 y hy
      · right
        exact ⟨j + 1, e', by simp [Instr.findAsking, hr, h1, Nat.add_assoc, Nat.add_comm 1 j], by simpa using h2, h3⟩
theorem run_findKey_ptr {x : Nat × Nat} (es : List MapEntry) : (Instr.findKey tp (pv x) es).run P w = (Instr.findAsking tp (pv x) es).run P w := by
  cases es with
  | nil => simp [Instr.findKey, run_underlying hp, Instr.findNow, Instr.findAsking]
  | cons e es => simp [Instr.findKey, run_underlying hp, Instr.findNow, Instr.sameNow]
theorem run_check_ptr {x : Nat × Nat} (c : Bool) : (Instr.checkKey c 10000 tp (pv x)).run P w = .ok () w := by
  have h : ∀ d : Nat, (Instr.checkKey c (d + 1) tp (.pointer (some ⟨x.1, x.2, none⟩))).run P w = .ok () w := fun d => by
    simp [Instr.checkKey, run_underlying hp]
  exact h 9999

/-- The look-up. -/
theorem PM.look {b : Nat} {f : Nat × Nat → Option Value} (h : PM w b f) {t e : TypeId} (ht : P.underlying t = some (.map tp e)) {z : Value} (hz : (zeroValue e).run P w = .ok z w) {x : Nat × Nat} (hx : Clean w x.1) (c : Bool) :
    (Instr.lookup t (.map (some b)) (pv x) c).run P w = .ok (if c then .tuple #[(f x).getD z, .bool (f x).isSome] else (f x).getD z) w := by
  obtain ⟨es, clock, hb, h1, h2, h3⟩ := h
  have hall : ∀ e ∈ es.toList, ∃ a, e.key = pv a ∧ Clean w a.1 := fun e he => by
    obtain ⟨i, hi⟩ := List.getElem?_of_mem he
    obtain ⟨a, ha, hc, _⟩ := h1 i e hi
    exact ⟨a, ha, hc⟩
  have hf := run_findKey_ptr w hp hte hsz (x := x) es.toList
  rcases run_find w hp hte hsz hx es.toList 0 hall with ⟨r, hn⟩ | ⟨jj, e0, r, hj, hk⟩
  · have hfx : f x = none := by
      cases hfx : f x with
      | none => rfl
      | some v =>
        obtain ⟨i, e, hi, hk⟩ := h2 x v hfx
        exact absurd hk (hn e (List.mem_of_getElem? hi))
    rw [r] at hf
    simp [Instr.lookup, run_underlying ht, MapKept.run_getObj_map hb, run_check_ptr w hp hte hsz, hf, hz, hfx, Result.andThen]
  · obtain ⟨a, ha, _, hfa⟩ := h1 jj e0 hj
    have hax : a = x := pv_inj (ha.symm.trans hk)
    subst hax
    rw [r] at hf
    simp [Instr.lookup, run_underlying ht, MapKept.run_getObj_map hb, run_check_ptr w hp hte hsz, hf, hfa, Result.andThen]

/-- The store. -/
theorem PM.store {b : Nat} {f : Nat × Nat → Option Value} (h : PM w b f) {t e : TypeId} (ht : P.underlying t = some (.map tp e)) {x : Nat × Nat} (hx : Clean w x.1) (v : Value) :
    ∃ w', (Instr.mapUpdate t (.map (some b)) (pv x) v).run P w = .ok () w' ∧ PM w' b (fun a => if a = x then some v else f a) ∧ w.grownBy w' (some b) ∧ w'.heap.size = w.heap.size := by
  obtain ⟨es, clock, hb, h1, h2, h3⟩ := h
  have hall : ∀ e ∈ es.toList, ∃ a, e.key = pv a ∧ Clean w a.1 := fun e he => by
    obtain ⟨i, hi⟩ := List.getElem?_of_mem he
    obtain ⟨a, ha, hc, _⟩ := h1 i e hi
    exact ⟨a, ha, hc⟩
  have hcl : ∀ (o : Obj) (k : Nat), Clean w k → Clean { w with heap := w.heap.setIfInBounds b o } k := fun o k ⟨c, t, hk⟩ => by
    have hne : b ≠ k := fun e => by subst e; rw [hb] at hk; cases hk
    exact ⟨c, t, by show (w.heap.setIfInBounds b o)[k]? = _; rw [Array.getElem?_setIfInBounds_ne hne]; exact hk⟩
  have hlt : b < w.heap.size := (Array.getElem?_eq_some_iff.1 hb).1
  have hg : ∀ o : Obj, w.grownBy { w with heap := w.heap.setIfInBounds b o } (some b) := fun o => ⟨rfl, rfl, rfl, by simp, fun k _ hk => by show (w.heap.setIfInBounds b o)[k]? = _; rw [Array.getElem?_setIfInBounds_ne (fun e => hk (by rw [e]))]⟩
  have hs : ∀ o : Obj, ({ w with heap := w.heap.setIfInBounds b o } : World).heap[b]? = some o := fun o => by show (w.heap.setIfInBounds b o)[b]? = _; simp [hlt]
  have hf := run_findKey_ptr w hp hte hsz (x := x) es.toList
  rcases run_find w hp hte hsz hx es.toList 0 hall with ⟨r, hn⟩ | ⟨jj, e0, r, hj, hk⟩
  · rw [r] at hf
    refine ⟨{ w with heap := w.heap.setIfInBounds b (.map (es.push { key := pv x, val := v, born := clock }) (clock + 1)) }, by simp [Instr.mapUpdate, run_underlying ht, MapKept.run_getObj_map hb, run_check_ptr w hp hte hsz, hf, MapKept.run_setObj_map _ hb, Result.andThen], ⟨_, _, hs _, ?_, ?_, ?_⟩, hg _, by simp⟩
    · intro i e hi
      rw [Array.toList_push, List.getElem?_append] at hi
      split at hi
      · obtain ⟨a, ha, hc, hfa⟩ := h1 i e hi
        refine ⟨a, ha, hcl _ _ hc, ?_⟩
        have hne : a ≠ x := fun e1 => hn e (List.mem_of_getElem? hi) (by rw [ha, e1])
        simpa [hne] using hfa
      · rename_i hge
        have : i - es.toList.length = 0 := by
          rcases Nat.lt_or_ge 0 (i - es.toList.length) with hq | hq
          · rw [List.getElem?_eq_none (by simp; simp at hq; omega)] at hi; cases hi
          · omega
        rw [this] at hi
        simp at hi
        subst hi
        exact ⟨x, rfl, hcl _ _ hx, by simp⟩
    · intro a v' ha
      by_cases hax : a = x
      · subst hax
        exact ⟨es.toList.length, _, by rw [Array.toList_push, List.getElem?_append_right (Nat.le_refl _)]; simp; rfl, rfl⟩
      · have ha : f a = some v' := by simpa [hax] using ha
        obtain ⟨i, e, hi, hk⟩ := h2 a v' ha
        exact ⟨i, e, by rw [Array.toList_push, List.getElem?_append_left (List.getElem?_eq_some_iff.1 hi).1]; exact hi, hk⟩
    · intro i j' e e' hi hj' hkk
      rw [Array.toList_push, List.getElem?_append] at hi hj'
      have last : ∀ (i : Nat) (e : MapEntry), ¬ i < es.toList.length → [({ key := pv x, val := v, born := clock } : MapEntry)][i - es.toList.length]? = some e → i = es.toList.length ∧ e.key = pv x := fun i e hl hi => by
        rcases Nat.lt_or_ge 0 (i - es.toList.length) with hq | hq
        · rw [List.getElem?_eq_none (by simp; simp at hq; omega)] at hi; cases hi
        · have h0 : i - es.toList.length = 0 := by omega
          rw [h0] at hi
          simp at hi
          subst hi
          exact ⟨by omega, rfl⟩
      split at hi <;> split at hj'
      · exact h3 i j' e e' hi hj' hkk
      · obtain ⟨_, hk'⟩ := last _ _ (by assumption) hj'
        exact absurd (hkk.trans hk') (hn e (List.mem_of_getElem? hi))
      · obtain ⟨_, hk'⟩ := last _ _ (by assumption) hi
        exact absurd (hkk.symm.trans hk') (hn e' (List.mem_of_getElem? hj'))
      · obtain ⟨q1, _⟩ := last _ _ (by assumption) hi
        obtain ⟨q2, _⟩ := last _ _ (by assumption) hj'
        omega
  · rw [r] at hf
    have hjA : es[jj]? = some e0 := by rw [← Array.getElem?_toList]; exact hj
    have hst : (Instr.keyThatStays (pv x) (pv x)).run P w = .ok (pv x) w := by
      have hsb : ∀ d, Instr.sameBits d (pv x) (pv x) = true := fun d => by cases d <;> simp [Instr.sameBits, pv]
      simp [Instr.keyThatStays, hsb]
    refine ⟨{ w with heap := w.heap.setIfInBounds b (.map (es.modify jj fun e => { key := pv x, val := v, born := e.born }) clock) }, by simp [Instr.mapUpdate, run_underlying ht, MapKept.run_getObj_map hb, run_check_ptr w hp hte hsz, hf, hjA, hk, hst, MapKept.run_setObj_map _ hb, Result.andThen], ⟨_, _, hs _, ?_, ?_, ?_⟩, hg _, by simp⟩
    · intro i e hi
      rw [Array.getElem?_toList, Array.getElem?_modify] at hi
      split at hi
      · rename_i hij
        subst hij
        rw [hjA] at hi
        simp at hi
        subst hi
        exact ⟨x, rfl, hcl _ _ hx, by simp⟩
      · rename_i hij
        rw [← Array.getElem?_toList] at hi
        obtain ⟨a, ha, hc, hfa⟩ := h1 i e hi
        have hne : a ≠ x := fun e1 => hij (h3 jj i e0 e hj hi (by rw [hk, ha, e1]))
        exact ⟨a, ha, hcl _ _ hc, by simpa [hne] using hfa⟩
    · intro a v' ha
      have key : ∀ (i : Nat) (e : MapEntry), es.toList[i]? = some e → ∃ e2 : MapEntry, (es.modify jj fun e => { key := pv x, val := v, born := e.born }).toList[i]? = some e2 ∧ (e.key = pv a → e2.key = pv a) := fun i e hi => by
        rw [Array.getElem?_toList, Array.getElem?_modify]
        rw [Array.getElem?_toList] at hi
        by_cases hij : jj = i
        · subst hij
          rw [if_pos rfl, hi]
          refine ⟨_, rfl, fun hh => ?_⟩
          rw [hjA] at hi
          cases hi
          exact hk.symm.trans hh
        · rw [if_neg hij, hi]
          exact ⟨_, rfl, id⟩
      by_cases hax : a = x
      · subst hax
        obtain ⟨e2, q1, q2⟩ := key jj e0 hj
        exact ⟨jj, e2, q1, q2 hk⟩
      · have ha : f a = some v' := by simpa [hax] using ha
        obtain ⟨i, e, hi, hk'⟩ := h2 a v' ha
        obtain ⟨e2, q1, q2⟩ := key i e hi
        exact ⟨i, e2, q1, q2 hk'⟩
    · intro i j' e e' hi hj' hkk
      have back : ∀ (i : Nat) (e : MapEntry), (es.modify jj fun e => { key := pv x, val := v, born := e.born }).toList[i]? = some e → ∃ e1 : MapEntry, es.toList[i]? = some e1 ∧ e1.key = e.key := fun i e hi => by
        rw [Array.getElem?_toList, Array.getElem?_modify] at hi
        rw [Array.getElem?_toList]
        by_cases hij : jj = i
        · subst hij
          rw [if_pos rfl, hjA] at hi
          simp at hi
          subst hi
          exact ⟨e0, hjA, hk⟩
        · rw [if_neg hij] at hi
          exact ⟨e, hi, rfl⟩
      obtain ⟨e1, q1, q2⟩ := back i e hi
      obtain ⟨e2, q3, q4⟩ := back j' e' hj'
      exact h3 i j' e1 e2 q1 q3 (by rw [q2, q4, hkk])
end
theorem PM.made (w : World) : PM (w.alloc (.map #[] 0)) w.heap.size (fun _ => none) :=
  ⟨#[], 0, (MapKept.heap_alloc w _).1, by simp, by simp, by simp⟩
theorem Clean.kept {w w' : World} {b : Nat} {row : Option Nat} (h : Clean w b) (hg : w.grownBy w' row) (hne : some b ≠ row) : Clean w' b := by
  obtain ⟨c, t, h⟩ := h
  exact ⟨c, t, (hg.block b (Array.getElem?_eq_some_iff.1 h).1 hne).trans h⟩
end Go.Proofs.YtaniebkfgkhgoaaGreatDoor

namespace Go.Proofs.YtaniebkfgkhgoaaGreatDoor
open Go.RowKit Go.Shelf
attribute [local go_sem] Oper.semAt_some
set_option linter.unusedVariables false
set_option maxRecDepth 100000

/-- What the iterator of innerOf wants kept: what lay below n₀, and its box. -/
def KpI (n₀ B : Nat) (W W' : World) : Prop := RowKit.Below n₀ W W' ∧ W'.heap[B]? = W.heap[B]?
theorem kpI_t {n₀ B : Nat} {X Y Z : World} (h : KpI n₀ B X Y) (k : KpI n₀ B Y Z) : KpI n₀ B X Z := ⟨h.1.trans k.1, k.2.trans h.2⟩
theorem kpI_b {n₀ B : Nat} {w : World} (hn : n₀ ≤ w.heap.size) (hB : B < w.heap.size) (W : World) (l : Nat) (o o' : Obj) (hl : w.heap.size ≤ l) (h : W.heap[l]? = some o) (h1 : o.isCells = false) (h2 : o.isWalk = false) : KpI n₀ B W (W.putObj l o') :=
  ⟨belowK_b hn W l o o' hl h h1 h2, World.putObj_heap_other (by omega)⟩

theorem inner_stops {α : Type} (ad : α → Nat × Nat) (F : Fence) (n : Nat) (h73 : F.fn 72) (hro : F.round = none) (hn : 1 ≤ n) (n₀ B vb vo : Nat) (z1 z2 : List α) (a2 a3 : Option Addr) (cap2 cap3 : Nat)
    (hl1 : z1.length ≤ 1099511627776) (hl2 : z2.length ≤ 1099511627776) (h2 : RowAt ad 4 0 a2 z1) (h3 : RowAt ad 5 1 a3 z2) (hvb : vb < n₀)
    (w : World) (hn₀ : n₀ ≤ w.heap.size) (c0 : w.cell? ⟨B, 0, none⟩ = some (.pointer (some ⟨vb, vo, none⟩))) (c2 : w.cell? ⟨vb, vo + 2, none⟩ = some (.slice a2 z1.length cap2)) (c3 : w.cell? ⟨vb, vo + 3, none⟩ = some (.slice a3 z2.length cap3)) :
    SeqStopsK F n Tryz.prog 72 #[.pointer (some ⟨B, 0, none⟩)] (fun x : α => #[pv (ad x)]) (KpI n₀ B) (fun ys => ys = z1 ++ z2) (fun pre => pre <+: z1 ++ z2) (z1.length + z2.length) w := fun l J Jx W hW _ _ hY h0 => by
  have mv : ∀ {b o : Nat} {c : Value}, w.cell? ⟨b, o, none⟩ = some c → W.cell? ⟨b, o, none⟩ = some c := fun {b o c} h => (World.cell?_of_block (hW.block b (World.block_lt_of_cell? w _ h))).trans h
  refine (inner_in ad (KpI n₀ B) F n h73 hro hn l B vb vo z1 z2 a2 a3 cap2 cap3 hl1 hl2 h2 h3 (fun h => ⟨h.2, h.1.block vb hvb⟩) J Jx hY W (mv c0) (mv c2) (mv c3) h0)

set_option maxHeartbeats 1000000 in
theorem innerOf_in (F : Fence) (n : Nat) (h47 : F.fn 46) (hro : F.round = none) (v : Option Addr) (w : World) :
    CallsIn F n Tryz.prog 46 #[.pointer v] w fun e w' => e = .returned (.func (.func 72) #[] #[.pointer (some ⟨w.heap.size, 0, none⟩)]) ∧ w' = w.alloc (.cells #[.pointer v] 45) := by
  refine callsIn_of_wp Tryz.func46 rfl h47 ?_ hro
  simp only [Tryz.ntmps46, List.size_toArray, List.length_cons, List.length_nil, Nat.reduceAdd, Nat.reduceSub, Array.replicate_succ, Array.replicate_zero, List.push_toArray, List.append_toArray, List.nil_append, List.cons_append]
  gi_wp2
  go_ret
  exact ⟨rfl, rfl⟩

theorem info_val4 : Tryz.prog.info? 26 = some ((Tryz.prog.info? 26).getD default) ∧ ((Tryz.prog.info? 26).getD default).size = 4 := ⟨by kernel_rfl, by kernel_rfl⟩
/-- The greatest depth so far. -/
def grD (G : Nat × Nat → Option Int) (g : Int) (a : Nat × Nat) : Int := max (max g ((G a).getD 0)) 1
def grL (G : Nat × Nat → Option Int) (l : List (Nat × Nat)) : Int := l.foldl (grD G) 0
theorem grL_snoc (G : Nat × Nat → Option Int) (l : List (Nat × Nat)) (a : Nat × Nat) : grL G (l ++ [a]) = grD G (grL G l) a := by simp [grL]

theorem PM.grown {w w' : World} {row : Option Nat} {b : Nat} {f : Nat × Nat → Option Value} (h : PM w b f) (hg : w.grownBy w' row) (hb : some b ≠ row) (hc : ∀ k, some k = row → ¬ Clean w k) : PM w' b f := by
  obtain ⟨es, clock, hm, h1, h2, h3⟩ := h
  refine ⟨es, clock, (hg.block b (Array.getElem?_eq_some_iff.1 hm).1 hb).trans hm, fun i e hi => ?_, h2, h3⟩
  obtain ⟨a, ha, hcl, hf⟩ := h1 i e hi
  exact ⟨a, ha, hcl.kept hg (fun e => hc _ e hcl), hf⟩

set_option maxHeartbeats 4000000 in
theorem depthAround_in {α : Type} (ad : α → Nat × Nat) (F : Fence) (n : Nat) (h46 : F.fn 45) (h47 : F.fn 46) (h73 : F.fn 72) (hro : F.round = none) (hn : 3 ≤ n) (vb vo : Nat) (z1 z2 : List α) (a2 a3 : Option Addr) (cap2 cap3 : Nat)
    (hl1 : z1.length ≤ 1099511627776) (hl2 : z2.length ≤ 1099511627776) (h2 : RowAt ad 4 0 a2 z1) (h3 : RowAt ad 5 1 a3 z2) (mb : Nat) (G : Nat × Nat → Option Int) (w : World) (hvb : vb < w.heap.size)
    (hm : PM w mb (fun a => (G a).map (.int .i64))) (hcl : ∀ x : α, Clean w (ad x).1) (hbnd : ∀ l : List (Nat × Nat), 0 ≤ grL G l ∧ grL G l < 4611686018427387904)
    (c2 : w.cell? ⟨vb, vo + 2, none⟩ = some (.slice a2 z1.length cap2)) (c3 : w.cell? ⟨vb, vo + 3, none⟩ = some (.slice a3 z2.length cap3)) :
    CallsIn F n Tryz.prog 45 #[.pointer (some ⟨vb, vo, none⟩), .map (some mb)] w fun e W' => e = .returned (.int .i64 (grL G ((z1 ++ z2).map ad) + 1)) ∧ RowKit.Below w.heap.size w W' := by
  have h1 : 1 ≤ n := by omega
  have hmb : mb < w.heap.size := by obtain ⟨es, clock, hh, _⟩ := hm; exact (Array.getElem?_eq_some_iff.1 hh).1
  refine callsIn_of_wp_marks Tryz.func45 rfl h46 ?_ hro
  simp only [Tryz.ntmps45, List.size_toArray, List.length_cons, List.length_nil, Nat.reduceAdd, Nat.reduceSub, Array.replicate_succ, Array.replicate_zero, List.push_toArray, List.append_toArray, List.nil_append, List.cons_append]
  gi_wp2_with (gi_at_call 46; refine (innerOf_in F (n - 1) h47 hro _ _).mono ?_; rintro e w' ⟨rfl, rfl⟩)
  have bM := ((Boxed.new w 80 (.map (some mb))).alloc (.cells #[.int .i64 0] 3)).alloc (.cells #[.pointer (some ⟨vb, vo, none⟩)] 45)
  have bG := (Boxed.new (w.alloc (.cells #[.map (some mb)] 80)) 3 (.int .i64 0)).alloc (.cells #[.pointer (some ⟨vb, vo, none⟩)] 45)
  have bV := Boxed.new ((w.alloc (.cells #[.map (some mb)] 80)).alloc (.cells #[.int .i64 0] 3)) 45 (.pointer (some ⟨vb, vo, none⟩))
  simp only [World.size_alloc] at bM bG bV
  have hB0 : RowKit.Below w.heap.size w (((w.alloc (.cells #[.map (some mb)] 80)).alloc (.cells #[.int .i64 0] 3)).alloc (.cells #[.pointer (some ⟨vb, vo, none⟩)] 45)) := (((Below.refl _ w).alloc (Nat.le_refl _) _).alloc (by simp) _).alloc (by simp; omega) _
  have mv : ∀ {W : World}, RowKit.Below w.heap.size w W → ∀ {b o : Nat} {c : Value}, w.cell? ⟨b, o, none⟩ = some c → W.cell? ⟨b, o, none⟩ = some c := @fun W hW b o c h => (World.cell?_of_block (hW.block b (World.block_lt_of_cell? w _ h))).trans h
  refine wpIn_rangeFunc_ownG hro h1 (gf := 72) (lb := #[.pointer (some ⟨w.heap.size + 1 + 1, 0, none⟩)]) rfl h73 (enters_of Tryz.func72 (by kernel_rfl) rfl)
    (inner_stops ad F (n - 1) h73 hro (by omega) w.heap.size (w.heap.size + 1 + 1) vb vo z1 z2 a2 a3 cap2 cap3 hl1 hl2 h2 h3 hvb _ (by simp; omega) bV.cell (mv hB0 c2) (mv hB0 c3)) kpI_t (kpI_b (by simp; omega) (by simp)) (Below.refl _ _) (fun _ => rfl)
    (fun pre W => ((W.cell? ⟨w.heap.size + 1, 0, none⟩ = some (.int .i64 (grL G (pre.map ad))) ∧ W.frozen? ⟨w.heap.size + 1, 0, none⟩ = false) ∧ W.cell? ⟨w.heap.size, 0, none⟩ = some (.map (some mb))) ∧ RowKit.Below w.heap.size w W)
    (fun _ _ _ => False)
    (OwnFrom.and (Own.from (fun s A B row hs hg hr => ⟨⟨cell_kept hs.1.1 hg hr, (frozen_kept hs.1.1 hg hr).trans hs.1.2⟩, cell_kept hs.2 hg hr⟩) _) (ownFrom_below (Nat.le_refl _) (by simp; omega)))
    (fun _ _ _ _ _ hs _ _ => hs)
    ⟨⟨⟨bG.cell, bG.frozen⟩, bM.cell⟩, hB0⟩
    (fun x => { tmps := #[.pointer (some ⟨vb, vo, none⟩), .map (some mb), undef, .pointer (some ⟨w.heap.size, 0, none⟩), .int .i64 0, .pointer (some ⟨w.heap.size + 1, 0, none⟩), pv (ad x), .pointer (some ⟨vb, vo, none⟩), .func (.func 72) #[] #[.pointer (some ⟨w.heap.size + 1 + 1, 0, none⟩)], pv (ad x), undef, undef, undef, undef, undef, undef, undef], defers := [] }) ?assign ?body ?done ?stop
  case assign =>
    intro l x W K hK
    gi_wp2
    exact hK
  case body =>
    rintro l pre x W ⟨⟨⟨hc, hf⟩, hcm⟩, hB⟩ _
    have hmW : PM W mb (fun a => (G a).map (.int .i64)) := hm.grown (gb_below hB none) (by simp) (by simp)
    obtain ⟨j0, hj0, hjz⟩ : ∃ j : TypeInfo, Tryz.prog.info? 26 = some j ∧ j.size = 4 := ⟨_, info_val4⟩
    have hlk := hmW.look (P := Tryz.prog) W Tryz.underlying45 hj0 (by rw [hjz]; decide) Tryz.underlying80 (Tryz.zeroValue3 W) ((hcl x).kept (gb_below hB none) (by simp)) false
    have hv : ((G (ad x)).map (Value.int .i64)).getD (.int .i64 0) = .int .i64 ((G (ad x)).getD 0) := by cases G (ad x) <;> rfl
    simp only [Bool.false_eq_true, if_false, hv] at hlk
    have hb1 := hbnd (pre.map ad)
    have hb2 := hbnd ([] ++ [ad x])
    rw [grL_snoc] at hb2
    have fin : ∀ (y : Int) (act : Act), y = grD G (grL G (pre.map ad)) (ad x) → ownPostG (w.heap.size + 1 + 1 + 1) (KpI w.heap.size (w.heap.size + 1 + 1))
        (fun pre W => ((W.cell? ⟨w.heap.size + 1, 0, none⟩ = some (.int .i64 (grL G (pre.map ad))) ∧ W.frozen? ⟨w.heap.size + 1, 0, none⟩ = false) ∧ W.cell? ⟨w.heap.size, 0, none⟩ = some (.map (some mb))) ∧ RowKit.Below w.heap.size w W)
        (fun _ _ _ => False) (pre ++ [x]) W Exit.normal act (W.setCell ⟨w.heap.size + 1, 0, none⟩ (.int .i64 y)) := by
      rintro y act rfl
      refine ⟨(KeepsOthers.setCell _ _ _).from _, ⟨(Below.refl w.heap.size W).setCell (p := ⟨w.heap.size + 1, 0, none⟩) (Nat.le_succ _) _, Below.heap_setCell _ _ _ _ (by show w.heap.size + 1 + 1 ≠ w.heap.size + 1; omega)⟩, ⟨⟨?_, by rw [World.frozen?_setCell]; exact hf⟩, ?_⟩, hB.setCell (p := ⟨w.heap.size + 1, 0, none⟩) (Nat.le_succ _) _⟩
      · rw [List.map_append, List.map_cons, List.map_nil, grL_snoc]
        exact World.cell?_setCell_same' _ _ _ (by rw [hc]; rfl)
      · exact (World.cell?_of_block (Below.heap_setCell _ _ _ _ (by show w.heap.size ≠ w.heap.size + 1; omega))).trans hcm
    gi_wp2
    all_goals (refine fin _ _ ?_; unfold grD)
    all_goals (try split at *)
    all_goals omega
  case done =>
    rintro D ys W hD rfl ⟨⟨⟨hc, hf⟩, hcm⟩, hB⟩ hK
    have hb1 := hbnd ((z1 ++ z2).map ad)
    generalize hgm : grL G ((z1 ++ z2).map ad) = gm at hb1 hc
    have hw1 : wrap64 (gm + 1) = gm + 1 := by unfold wrap64; omega
    gi_wp2
    refine ⟨by simp, .inl ⟨_, _, rfl, run_takeDeferred hK, ?_⟩⟩
    exact ⟨_, results_tmp rfl _ _ _, by rw [hgm]; rfl, hB.trans (belowK_b (w := w) (Nat.le_refl _) W D _ _ (by simp at hD; omega) hK rfl rfl)⟩
  case stop =>
    rintro D c pre W _ _ h _
    exact h.elim
end Go.Proofs.YtaniebkfgkhgoaaGreatDoor

namespace Go.Proofs.YtaniebkfgkhgoaaGreatDoor
set_option linter.unusedVariables false
set_option linter.unusedSectionVars false

/-- What the walk walks through: nodes, what stands in each, a size that falls, the depth, the work. -/
structure Tr (α : Type) where
  kids : α → List α
  sz : α → Nat
  fall : ∀ a c, c ∈ kids a → sz c < sz a
  dep : α → Nat
  dep_eq : ∀ a, dep a = (kids a).foldl (fun g c => max g (dep c)) 0 + 1
  work : α → Nat
  work_eq : ∀ a, work a = ((kids a).map work).sum + 2

section
variable {α : Type} [DecidableEq α] (T : Tr α) (r : α)

/-- Below the root. -/
inductive Tr.Sub : α → Prop
  | root : Tr.Sub r
  | kid {a c : α} : Tr.Sub a → c ∈ T.kids a → Tr.Sub c

/-- What holds between two rounds: the stack (its top ahead; true: opened), the map (0: open), what was visited. -/
structure WI (st : List (α × Bool)) (f : α → Option Nat) (vs : List α) : Prop where
  opened : ∀ a, f a = some 0 ↔ (a, true) ∈ st
  falls : st.Pairwise fun x y => y.2 = true → T.sz x.1 < T.sz y.1
  above : ∀ l1 a l2, st = l1 ++ (a, true) :: l2 → ∀ c ∈ T.kids a, T.kids c ≠ [] → (∃ d, f c = some (d + 1)) ∨ c ∈ l1.map (·.1)
  done : ∀ a d, f a = some (d + 1) → d + 1 = T.dep a ∧ ∀ c ∈ T.kids a, T.kids c ≠ [] → ∃ d', f c = some (d' + 1)
  root : r ∈ st.map (·.1) ∨ ∃ d, f r = some (d + 1)
  seen : ∀ a, f a ≠ none → a ∈ vs ∧ ∀ c ∈ T.kids a, T.kids c = [] → c ∈ vs
  sub : (∀ x ∈ st, Tr.Sub T r x.1) ∧ ∀ a ∈ vs, Tr.Sub T r a

/-- The work that is left. -/
def wLeft (st : List (α × Bool)) : Nat := (st.map fun x => if x.2 then 1 else T.work x.1).sum

theorem WI.start : WI T r [(r, false)] (fun _ => none) [] where
  opened a := by simp
  falls := by simp
  above l1 a l2 h := by
    cases l1 with
    | nil => simp at h
    | cons x l1 => simp at h
  done a d h := by simp at h
  root := by simp
  seen a h := by simp at h
  sub := ⟨by simp; exact Tr.Sub.root, by simp⟩

variable {T r} {st : List (α × Bool)} {f : α → Option Nat} {vs : List α}

theorem WI.top_open {a : α} {b : Bool} (h : WI T r ((a, b) :: st) f vs) (h0 : f a = some 0) : b = true := by
  cases b with
  | true => rfl
  | false =>
    have := (h.opened a).1 h0
    rcases List.mem_cons.1 this with e | e
    · cases e
    · exact absurd ((List.pairwise_cons.1 h.falls).1 _ e rfl) (Nat.lt_irrefl _)
theorem WI.top_other {a : α} {b : Bool} (h : WI T r ((a, b) :: st) f vs) (h0 : f a ≠ some 0) : b = false := by
  cases b with
  | false => rfl
  | true => exact absurd ((h.opened a).2 (by simp)) h0

/-- The depth of the open one on the top: all that is in it is done. -/
theorem WI.kids_done {a : α} (h : WI T r ((a, true) :: st) f vs) : ∀ c ∈ T.kids a, T.kids c ≠ [] → f c = some (T.dep c) := fun c hc hk => by
  rcases h.above [] a st rfl c hc hk with ⟨d, hd⟩ | h'
  · rw [hd, (h.done c d hd).1]
  · simp at h'

theorem dep_pos (T : Tr α) (a : α) : 1 ≤ T.dep a := by rw [T.dep_eq]; omega

/-- The open one on the top is closed. -/
theorem WI.close {a : α} (h : WI T r ((a, true) :: st) f vs) : WI T r st (fun x => if x = a then some (T.dep a) else f x) vs where
  opened x := by
    by_cases hx : x = a
    · subst hx
      rw [if_pos rfl]
      constructor
      · intro e; have := dep_pos T x; simp at e; omega
      · intro e; exact absurd ((List.pairwise_cons.1 h.falls).1 _ e rfl) (Nat.lt_irrefl _)
    · rw [if_neg hx, h.opened x]
      simp [hx]
  falls := (List.pairwise_cons.1 h.falls).2
  above l1 x l2 e c hc hk := by
    by_cases hca : c = a
    · subst hca; exact .inl ⟨T.dep c - 1, by rw [if_pos rfl]; have := dep_pos T c; congr 1; omega⟩
    · rw [if_neg hca]
      rcases h.above ((a, true) :: l1) x l2 (by rw [e]; rfl) c hc hk with h' | h'
      · exact .inl h'
      · exact .inr (by simpa [hca] using h')
  done x d e := by
    have fin : ∀ c, (∃ d', f c = some (d' + 1)) → ∃ d', (if c = a then some (T.dep a) else f c) = some (d' + 1) := fun c ⟨d', hd'⟩ => by
      by_cases hca : c = a
      · rw [if_pos hca]; exact ⟨T.dep a - 1, by have := dep_pos T a; congr 1; omega⟩
      · rw [if_neg hca]; exact ⟨d', hd'⟩
    by_cases hx : x = a
    · subst hx
      rw [if_pos rfl] at e
      refine ⟨(Option.some.inj e).symm, fun c hc hk => fin c ⟨T.dep c - 1, ?_⟩⟩
      rw [h.kids_done c hc hk]
      have := dep_pos T c; congr 1; omega
    · rw [if_neg hx] at e
      exact ⟨(h.done x d e).1, fun c hc hk => fin c ((h.done x d e).2 c hc hk)⟩
  root := by
    rcases h.root with h' | ⟨d, hd⟩
    · rcases List.mem_cons.1 h' with e | e
      · exact .inr ⟨T.dep a - 1, by rw [if_pos e]; have := dep_pos T a; congr 1; omega⟩
      · exact .inl e
    · by_cases hr : r = a
      · exact .inr ⟨T.dep a - 1, by rw [if_pos hr]; have := dep_pos T a; congr 1; omega⟩
      · exact .inr ⟨d, by rw [if_neg hr]; exact hd⟩
  seen x hx := by
    by_cases hxa : x = a
    · exact h.seen x (by rw [hxa, (h.opened a).2 (by simp)]; simp)
    · rw [if_neg hxa] at hx; exact h.seen x hx
  sub := ⟨fun x hx => h.sub.1 x (List.mem_cons_of_mem _ hx), h.sub.2⟩

/-- One that was closed already is left. -/
theorem WI.pop {a : α} {d : Nat} (h : WI T r ((a, false) :: st) f vs) (hd : f a = some (d + 1)) : WI T r st f vs where
  opened x := by rw [h.opened x]; simp
  falls := (List.pairwise_cons.1 h.falls).2
  above l1 x l2 e c hc hk := by
    rcases h.above ((a, false) :: l1) x l2 (by rw [e]; rfl) c hc hk with h' | h'
    · exact .inl h'
    · rcases List.mem_cons.1 (by simpa using h' : c ∈ a :: l1.map (·.1)) with e' | e'
      · subst e'; exact .inl ⟨d, hd⟩
      · exact .inr e'
  done := h.done
  root := by
    rcases h.root with h' | h'
    · rcases List.mem_cons.1 h' with e | e
      · exact .inr ⟨d, by rw [show r = a from e]; exact hd⟩
      · exact .inl e
    · exact .inr h'
  seen := h.seen
  sub := ⟨fun x hx => h.sub.1 x (List.mem_cons_of_mem _ hx), h.sub.2⟩

/-- What of a new one is laid on the stack: what has others in it and was not met. -/
def pushed (T : Tr α) (f : α → Option Nat) (a : α) : List α := (T.kids a).filter fun c => decide (T.kids c ≠ []) && (f c).isNone
def singles (T : Tr α) (a : α) : List α := (T.kids a).filter fun c => decide (T.kids c = [])

/-- No open one stands in a new one. -/
theorem WI.no_open {a : α} {b : Bool} (h : WI T r ((a, b) :: st) f vs) (h0 : f a = none) : ∀ c ∈ T.kids a, f c ≠ some 0 := fun c hc e => by
  rcases List.mem_cons.1 ((h.opened c).1 e) with e' | e'
  · cases e'; have := T.fall _ _ hc; omega
  · have h1 := (List.pairwise_cons.1 h.falls).1 _ e' rfl
    have h2 := T.fall _ _ hc
    simp at h1; omega

/-- A new one is opened, and what is in it laid on the stack. -/
theorem WI.enter {a : α} (h : WI T r ((a, false) :: st) f vs) (h0 : f a = none) :
    WI T r (((pushed T f a).reverse.map fun c => (c, false)) ++ (a, true) :: st) (fun x => if x = a then some 0 else f x) (vs ++ [a] ++ singles T a) where
  opened x := by
    by_cases hx : x = a
    · subst hx; simp
    · rw [if_neg hx, h.opened x]; simp [hx]
  falls := by
    rw [List.pairwise_append]
    refine ⟨?_, ?_, ?_⟩
    · rw [List.pairwise_map]
      exact List.pairwise_of_forall fun x y e => by cases e
    · rw [List.pairwise_cons]
      exact ⟨fun y hy hb => (List.pairwise_cons.1 h.falls).1 y hy hb, (List.pairwise_cons.1 h.falls).2⟩
    · intro x hx y hy hb
      obtain ⟨c, hc, rfl⟩ := List.mem_map.1 hx
      have hck : c ∈ T.kids a := (List.mem_filter.1 (List.mem_reverse.1 hc)).1
      have h1 := T.fall _ _ hck
      rcases List.mem_cons.1 hy with e | e
      · subst e; exact h1
      · have h2 := (List.pairwise_cons.1 h.falls).1 y e hb
        exact Nat.lt_trans h1 h2
  above l1 x l2 e c hc hk := by
    have hold : ∀ c, (∃ d, f c = some (d + 1)) → ∃ d, (if c = a then some 0 else f c) = some (d + 1) := fun c ⟨d, hd⟩ => ⟨d, by rw [if_neg (fun e => by rw [e, h0] at hd; cases hd)]; exact hd⟩
    by_cases hxa : x = a
    · subst hxa
      by_cases hf : f c = none
      · right
        have hcp : c ∈ pushed T f x := List.mem_filter.2 ⟨hc, by simp [hk, hf]⟩
        have hnt : (x, true) ∉ st := fun e' => by have := (h.opened x).2 (List.mem_cons_of_mem _ e'); rw [h0] at this; cases this
        have key : l1 = (pushed T f x).reverse.map fun c => (c, false) := by
          rcases List.append_eq_append_iff.1 e with ⟨m, e1, e2⟩ | ⟨m, e1, e2⟩
          · cases m with
            | nil => simpa using e1
            | cons y m =>
              simp only [List.cons_append, List.cons.injEq] at e2
              exact absurd (by rw [e2.2]; simp : (x, true) ∈ st) hnt
          · cases m with
            | nil => simpa using e1.symm
            | cons y m =>
              simp only [List.cons_append, List.cons.injEq] at e2
              have hm : (x, true) ∈ ((pushed T f x).reverse.map fun c => (c, false)) := by rw [e1, ← e2.1]; simp
              obtain ⟨_, _, e3⟩ := List.mem_map.1 hm
              cases e3
        rw [key, List.map_map]
        exact List.mem_map.2 ⟨c, List.mem_reverse.2 hcp, rfl⟩
      · left
        cases hfc : f c with
        | none => exact absurd hfc hf
        | some n =>
          cases n with
          | zero => exact absurd hfc (h.no_open h0 c hc)
          | succ n => rw [← hfc]; exact hold c ⟨n, hfc⟩
    · -- an older open one
      have hmem : (x, true) ∈ st := by
        have : (x, true) ∈ ((pushed T f a).reverse.map fun c => (c, false)) ++ (a, true) :: st := by rw [e]; simp
        rcases List.mem_append.1 this with h' | h'
        · obtain ⟨_, _, e3⟩ := List.mem_map.1 h'; cases e3
        · rcases List.mem_cons.1 h' with e3 | e3
          · cases e3; exact absurd rfl hxa
          · exact e3
      obtain ⟨m1, m2, hm, hl1⟩ : ∃ m1 m2, st = m1 ++ (x, true) :: m2 ∧ l1 = ((pushed T f a).reverse.map fun c => (c, false)) ++ (a, true) :: m1 := by
        rcases List.append_eq_append_iff.1 e with ⟨m, e1, e2⟩ | ⟨m, e1, e2⟩
        · cases m with
          | nil => simp only [List.nil_append, List.cons.injEq, Prod.mk.injEq] at e2; exact absurd e2.1.1.symm hxa
          | cons y m =>
            simp only [List.cons_append, List.cons.injEq] at e2
            exact ⟨m, l2, e2.2, by rw [e1, ← e2.1]⟩
        · cases m with
          | nil => simp only [List.nil_append, List.cons.injEq, Prod.mk.injEq] at e2; exact absurd e2.1.1 hxa
          | cons y m =>
            simp only [List.cons_append, List.cons.injEq] at e2
            have hm : (x, true) ∈ ((pushed T f a).reverse.map fun c => (c, false)) := by rw [e1, ← e2.1]; simp
            obtain ⟨_, _, e3⟩ := List.mem_map.1 hm
            cases e3
      rcases h.above ((a, false) :: m1) x m2 (by rw [hm]; rfl) c hc hk with h' | h'
      · exact .inl (hold c h')
      · right
        rw [hl1, List.map_append, List.map_cons]
        exact List.mem_append.2 (.inr (by simpa using h'))
  done x d e := by
    have hxa : x ≠ a := fun e' => by rw [if_pos e'] at e; cases e
    rw [if_neg hxa] at e
    refine ⟨(h.done x d e).1, fun c hc hk => ?_⟩
    obtain ⟨d', hd'⟩ := (h.done x d e).2 c hc hk
    exact ⟨d', by rw [if_neg (fun e' => by rw [e', h0] at hd'; cases hd')]; exact hd'⟩
  root := by
    rcases h.root with h' | ⟨d, hd⟩
    · left
      rw [List.map_append, List.map_cons]
      exact List.mem_append.2 (.inr (by simpa using h'))
    · exact .inr ⟨d, by rw [if_neg (fun e' => by rw [e', h0] at hd; cases hd)]; exact hd⟩
  seen x hx := by
    by_cases hxa : x = a
    · subst hxa
      refine ⟨by simp, fun c hc hk => ?_⟩
      have : c ∈ singles T x := List.mem_filter.2 ⟨hc, by simp [hk]⟩
      simp [this]
    · rw [if_neg hxa] at hx
      obtain ⟨h1, h2⟩ := h.seen x hx
      exact ⟨by simp [h1], fun c hc hk => by simp [h2 c hc hk]⟩
  sub := by
    have ha : Tr.Sub T r a := h.sub.1 (a, false) (by simp)
    refine ⟨fun x hx => ?_, fun x hx => ?_⟩
    · rcases List.mem_append.1 hx with h' | h'
      · obtain ⟨c, hc, rfl⟩ := List.mem_map.1 h'
        exact .kid ha (List.mem_filter.1 (List.mem_reverse.1 hc)).1
      · rcases List.mem_cons.1 h' with e | e
        · subst e; exact ha
        · exact h.sub.1 x (List.mem_cons_of_mem _ e)
    · rcases List.mem_append.1 hx with h' | h'
      · rcases List.mem_append.1 h' with h' | h'
        · exact h.sub.2 x h'
        · simp at h'; subst h'; exact ha
      · exact .kid ha (List.mem_filter.1 h').1

/-- The end: the root's depth stands in the map; all below it was visited, and no other. -/
theorem WI.finish (h : WI T r [] f vs) : f r = some (T.dep r) ∧ ∀ x, x ∈ vs ↔ Tr.Sub T r x := by
  have hr : ∃ d, f r = some (d + 1) := by
    rcases h.root with h' | h'
    · simp at h'
    · exact h'
  obtain ⟨d, hd⟩ := hr
  refine ⟨by rw [hd, (h.done r d hd).1], fun x => ⟨h.sub.2 x, fun hx => ?_⟩⟩
  have key : ∀ x, Tr.Sub T r x → (∃ d, f x = some (d + 1)) ∨ (x ∈ vs ∧ T.kids x = []) := fun x hx => by
    induction hx with
    | root => exact .inl ⟨d, hd⟩
    | @kid a c _ hc ih =>
      rcases ih with ⟨d', hd'⟩ | ⟨_, hk⟩
      · by_cases hk : T.kids c = []
        · exact .inr ⟨(h.seen a (by rw [hd']; simp)).2 c hc hk, hk⟩
        · exact .inl ((h.done a d' hd').2 c hc hk)
      · rw [hk] at hc; cases hc
  rcases key x hx with ⟨d', hd'⟩ | ⟨hv, _⟩
  · exact (h.seen x (by rw [hd']; simp)).1
  · exact hv

theorem work_pos (T : Tr α) (a : α) : 2 ≤ T.work a := by rw [T.work_eq]; omega
theorem wLeft_pop (T : Tr α) (a : α) (b : Bool) (st : List (α × Bool)) : wLeft T st < wLeft T ((a, b) :: st) := by
  have := work_pos T a
  unfold wLeft
  cases b <;> simp <;> omega
theorem sum_filter_le (g : α → Nat) (p : α → Bool) : ∀ l : List α, ((l.filter p).map g).sum ≤ (l.map g).sum
  | [] => by simp
  | x :: l => by
    have := sum_filter_le g p l
    by_cases hp : p x = true
    · simp [hp]; omega
    · simp [hp]; omega
theorem sum_rev (g : α → Nat) (l : List α) : (l.reverse.map g).sum = (l.map g).sum := by
  induction l with
  | nil => rfl
  | cons x l ih => simp; omega
theorem wLeft_enter (T : Tr α) (f : α → Option Nat) (a : α) (st : List (α × Bool)) : wLeft T (((pushed T f a).reverse.map fun c => (c, false)) ++ (a, true) :: st) < wLeft T ((a, false) :: st) := by
  have h1 : (((pushed T f a).reverse.map fun c => (c, false)).map fun x : α × Bool => if x.2 then 1 else T.work x.1).sum = ((pushed T f a).map T.work).sum := by
    rw [List.map_map]
    exact sum_rev T.work _
  have h2 : ((pushed T f a).map T.work).sum ≤ ((T.kids a).map T.work).sum := sum_filter_le T.work _ _
  have h3 := T.work_eq a
  unfold wLeft
  rw [List.map_append, List.sum_append, h1]
  simp
  omega

/-- The greatest of the kids' depths, off the map. -/
theorem grL_dep (T : Tr α) (ad : α → Nat × Nat) (G : Nat × Nat → Option Int) (a : α) (h : ∀ c ∈ T.kids a, (T.kids c ≠ [] → G (ad c) = some (T.dep c : Int)) ∧ (T.kids c = [] → (G (ad c)).getD 0 ≤ 1)) :
    grL G ((T.kids a).map ad) + 1 = (T.dep a : Int) := by
  have key : ∀ (l : List α) (g : Nat), (∀ c ∈ l, c ∈ T.kids a) → ((l.map ad).foldl (grD G) (g : Int)) = ((l.foldl (fun g c => max g (T.dep c)) g : Nat) : Int) := by
    intro l
    induction l with
    | nil => intro g _; rfl
    | cons c l ih =>
      intro g hl
      have e : grD G (g : Int) (ad c) = ((max g (T.dep c) : Nat) : Int) := by
        unfold grD
        obtain ⟨h1, h2⟩ := h c (hl c (by simp))
        have hp := dep_pos T c
        by_cases hk : T.kids c = []
        · have h3 := h2 hk
          have h4 : T.dep c = 1 := by rw [T.dep_eq, hk]; rfl
          rw [h4]; omega
        · rw [h1 hk]
          simp only [Option.getD_some]
          omega
      rw [List.map_cons, List.foldl_cons, List.foldl_cons, e]
      exact ih _ (fun c' hc' => hl c' (List.mem_cons_of_mem _ hc'))
  have := key (T.kids a) 0 (fun c hc => hc)
  unfold grL
  rw [show ((0 : Int)) = ((0 : Nat) : Int) from rfl, this, T.dep_eq a]
  omega
end
end Go.Proofs.YtaniebkfgkhgoaaGreatDoor

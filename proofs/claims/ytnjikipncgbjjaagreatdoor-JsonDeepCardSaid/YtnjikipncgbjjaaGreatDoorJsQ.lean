/- Fields in the order of their names: the comparison, the library's stable sort of pointers to fields (fewer than twenty). -/
import Derived.Test.YtnjikipncgbjjaaGreatDoorJsL
import Derived.Shelf.SlSortCmp.Insertion
import Derived.Shelf.SlGeneric
import Derived.Sort.LotA
namespace Go.Proofs
open Go.Shelf
def Tryz.laysF20_ren : Go.Shelf.Ren := ⟨fun | 20 => 107 | n => n, fun | 0 => 0 | 3 => 3 | 4 => 4 | 22 => 74 | 24 => 76 | 25 => 104 | n => n, fun | n => n⟩
theorem Tryz.laysF20 : Go.Proofs.SlLaysF.n20 Tryz.prog Tryz.laysF20_ren := {
  mixed := by kernel_rfl
  f20 := ⟨Tryz.f107.name, by kernel_rfl, Tryz.func107.trans (congrArg some (by kernel_rfl))⟩
  t0 := Tryz.underlying0
  a0 := Tryz.isAgg0
  z0 := Tryz.sizeOf0
  v0 := Tryz.zeroValue0
  t3 := Tryz.underlying3
  a3 := Tryz.isAgg3
  z3 := Tryz.sizeOf3
  v3 := Tryz.zeroValue3
  t4 := Tryz.underlying4
  a4 := Tryz.isAgg4
  z4 := Tryz.sizeOf4
  v4 := Tryz.zeroValue4
  t22 := Tryz.underlying74
  a22 := Tryz.isAgg74
  z22 := Tryz.sizeOf74
  v22 := Tryz.zeroValue74
  a24 := Tryz.isAgg76
  z24 := Tryz.sizeOf76
  t25 := Tryz.underlying104
  a25 := Tryz.isAgg104
  z25 := Tryz.sizeOf104
  v25 := Tryz.zeroValue104 }
namespace YtnjikipncgbjjaaGreatDoor
open Go.RowKit Go.Sort
set_option linter.unusedVariables false
set_option maxRecDepth 100000

/-- The comparison of two fields' names. -/
theorem cmp_any (s t : ByteArray) (p q : Addr) (w : World) (hp : w.cell? p = some (.string s)) (hq : w.cell? q = some (.string t)) :
    Calls Tryz.prog 66 #[.pointer (some p), .pointer (some q)] w fun e w' => e = .returned (.int .i64 (Lib.compareBytes s.data.toList t.data.toList)) ∧ ∃ n, w' = w.drewN n := by
  have CC := Lib.hid (fun w0 : World => Tryz.strings_Compare s t w0)
  generalize Lib.compareBytes s.data.toList t.data.toList = c at CC ⊢
  go_enter Tryz.func66, Tryz.ntmps66
  go_wp2_with fail
  go_quiet ((go_at_call 67; exact Calls.quiet_of_same (CC.out _)))
  go_wp2_with fail
  go_ret
  exact ⟨rfl, _, rfl⟩

/-- A pointer to field i. -/
def encF (fb fo m : Nat) (i : Fin (m + 1)) : Value := .pointer (some ⟨fb, fo + 5 * i.val, none⟩)
/-- How the names of two fields compare. -/
def cfF (names : List ByteArray) (m : Nat) (i j : Fin (m + 1)) : Int := Lib.compareBytes (names.getD i.val ⟨#[]⟩).data.toList (names.getD j.val ⟨#[]⟩).data.toList
theorem oneF (fb fo m : Nat) : OneCell (encF fb fo m) := fun _ => rfl

theorem putRow_sz {α : Type} [Inhabited α] (enc : α → Value) (w : World) (blk off : Nat) (d : Array α) : (putRow enc w blk off d).heap.size = w.heap.size := by
  simp [putRow, mapBlock]
theorem cmp_reads (fb fo m : Nat) (names : List ByteArray) (blk : Nat) (w : World) (hc : ∀ i, i < m + 1 → w.cell? ⟨fb, fo + 5 * i, none⟩ = some (.string (names.getD i ⟨#[]⟩))) (hfb : fb ≠ blk) (sz : Nat) :
    CmpReads Tryz.prog 66 #[] (encF fb fo m) (cfF names m) blk 0 sz w := fun k os dk hdk x y => by
  have hcell : ∀ i : Fin (m + 1), (sortWorld (encF fb fo m) w blk 0 k dk os).cell? ⟨fb, fo + 5 * i.val, none⟩ = some (.string (names.getD i.val ⟨#[]⟩)) := fun i => by
    have h := hc i.val i.isLt
    have hlt := World.block_lt_of_cell? w _ h
    have e1 : (putRow (encF fb fo m) (Go.Sort.ahead w k) blk 0 dk).cell? ⟨fb, fo + 5 * i.val, none⟩ = w.cell? ⟨fb, fo + 5 * i.val, none⟩ := cell?_putRow_other _ _ _ _ _ ⟨fb, fo + 5 * i.val, none⟩ (Or.inl hfb)
    unfold sortWorld
    rw [cell?_grow _ _ _ (by rw [putRow_sz]; exact hlt), e1]
    exact h
  exact cmp_any _ _ _ _ _ (hcell x) (hcell y)

/-- The order of fewer than twenty fields, by their names: which one stands where. -/
def ordA (names : List ByteArray) (m : Nat) : Array (Fin (m + 1)) := insertionSort (ltOf (cfF names m)) (Array.ofFn id) 0 (m + 1)

set_option maxHeartbeats 1000000 in
theorem sort_any (fb fo m : Nat) (h20 : m + 1 < 20) (names : List ByteArray) (blk cap : Nat) (w : World) (hc : ∀ i, i < m + 1 → w.cell? ⟨fb, fo + 5 * i, none⟩ = some (.string (names.getD i ⟨#[]⟩))) (hfb : fb ≠ blk) (d : Array (Fin (m + 1))) (hd : d.size = m + 1) (hH : Holds (encF fb fo m) w blk 0 d) :
    Calls Tryz.prog 65 #[.slice (some ⟨blk, 0, none⟩) ((m + 1 : Nat)) cap, .func (.func 66) #[] #[]] w fun e w' =>
      e = .returned (.tuple #[]) ∧ ∃ k, w' = (putRow (encF fb fo m) w blk 0 (insertionSort (ltOf (cfF names m)) d 0 (m + 1))).drewN k := by
  have CI : Hid (Calls Tryz.prog 107 #[.slice (some ⟨blk, 0, none⟩) (m + 1) cap, .int .i64 0, .int .i64 ((m + 1 : Nat) : Int), .func (.func 66) #[] #[]] w fun e w' => e = .returned (.tuple #[]) ∧ ∃ k, w' = (putRow (encF fb fo m) w blk 0 (insertionSort (ltOf (cfF names m)) d 0 (m + 1))).drewN k) := by
    have := Any.insertionSortCmpFunc_one (ρ := Tryz.laysF20_ren) Tryz.laysF20 (encF fb fo m) (oneF fb fo m) (cfF names m) 66 #[] blk 0 cap 0 (m + 1) d w (by intro args w; rfl) (cmp_reads fb fo m names blk w hc hfb d.size) hH (by omega) (by omega) (by omega)
    rw [hd] at this
    exact this
  have CS : Hid (Calls Tryz.prog 89 #[.slice (some ⟨blk, 0, none⟩) (m + 1) cap, .int .i64 ((m : Int) + 1), .func (.func 66) #[] #[]] w fun e w' => e = .returned (.tuple #[]) ∧ ∃ k, w' = (putRow (encF fb fo m) w blk 0 (insertionSort (ltOf (cfF names m)) d 0 (m + 1))).drewN k) := by
    generalize insertionSort (ltOf (cfF names m)) d 0 (m + 1) = D at CI ⊢
    clear hH hc
    have hm : (m : Int) + 1 < 20 := by omega
    go_enter Tryz.func89, Tryz.ntmps89
    have hm2 : ¬ (20 : Int) < (m : Int) + 1 := by omega
    have CI2 : Hid (∀ wr, wr = w → Calls Tryz.prog 107 #[.slice (some ⟨blk, 0, none⟩) (m + 1) cap, .int .i64 0, .int .i64 ((m : Int) + 1), .func (.func 66) #[] #[]] wr fun e w' => e = .returned (.tuple #[]) ∧ ∃ k, w' = (putRow (encF fb fo m) w blk 0 D).drewN k) := fun wr e => by subst e; exact CI.out
    clear CI
    go_wp2_with fail
    go_loopg [7, 8] 0 (fun _ s7 s8 wr => s7 = .int .i64 0 ∧ s8 = .int .i64 20 ∧ wr = w)
    case atStart => exact ⟨rfl, rfl, rfl⟩
    case round =>
      obtain ⟨rfl, rfl, hrel⟩ := hrel
      have HW := Lib.hid hrel
      clear hrel
      go_wp2_with (go_at_call 107; (with_reducible refine (CI2.out _ HW.out).mono ?_); rintro e w1 ⟨rfl, hw1⟩; have HW1 := Lib.hid hw1; clear hw1)
      go_loopg [6] 0 (fun _ s6 wr => s6 = .int .i64 20 ∧ wr = w1)
      case atStart => exact ⟨rfl, rfl⟩
      case round =>
        obtain ⟨rfl, hrel⟩ := hrel
        have HV := Lib.hid hrel
        clear hrel
        go_wp2_with fail
        go_end0
        exact ⟨rfl, by rw [HV.out]; exact HW1.out⟩
  generalize insertionSort (ltOf (cfF names m)) d 0 (m + 1) = D at CS ⊢
  clear hH hc CI
  go_enter Tryz.func65, Tryz.ntmps65
  go_wp2_with (go_at_call 89; (with_reducible refine CS.out.mono ?_); rintro e w1 ⟨rfl, hw1⟩)
  go_end0
  exact ⟨rfl, hw1⟩
end YtnjikipncgbjjaaGreatDoor
end Go.Proofs

/- The contracts of hasTwins and isSingle. -/
import Derived.Test.YtnjikipncgbjjaaGreatDoorJsR
import Derived.BigQuiet
namespace Go.Proofs.YtnjikipncgbjjaaGreatDoor
open Go.RowKit Go.Sort
set_option linter.unusedVariables false
set_option maxRecDepth 100000

theorem byName_nil (p : Option Addr) (cap0 : Nat) (w : World) :
    Calls Tryz.prog 40 #[.slice p 0 cap0] w (fun e w' => e = .returned (.slice (some ⟨w.heap.size, 0, none⟩) 0 0) ∧ RowKit.Below w.heap.size w w') := by
  have hmk := fun w0 : World => make_ptrs 0 (by omega) 0 (by omega) w0
  have CI : Hid (∀ ww : World, Calls Tryz.prog 65 #[.slice (some ⟨w.heap.size, 0, none⟩) 0 0, .func (.func 66) #[] #[]] ww fun e w' => e = .returned (.tuple #[]) ∧ w' = ww) := by
    intro ww
    have CJ : Hid (∀ ww : World, Calls Tryz.prog 107 #[.slice (some ⟨w.heap.size, 0, none⟩) 0 0, .int .i64 0, .int .i64 0, .func (.func 66) #[] #[]] ww fun e w' => e = .returned (.tuple #[]) ∧ w' = ww) := by
      intro ww
      go_enter Tryz.func107, Tryz.ntmps107
      go_wp2_with fail
      go_loopg [8] 0 (fun _ s6 wr => s6 = .int .i64 1 ∧ wr = ww)
      case atStart => exact ⟨rfl, rfl⟩
      case round =>
        obtain ⟨rfl, rfl⟩ := hrel
        go_wp2_with fail
        go_end0
        exact ⟨rfl, rfl⟩
    have CK : Hid (∀ ww : World, Calls Tryz.prog 89 #[.slice (some ⟨w.heap.size, 0, none⟩) 0 0, .int .i64 0, .func (.func 66) #[] #[]] ww fun e w' => e = .returned (.tuple #[]) ∧ w' = ww) := by
      intro ww
      go_enter Tryz.func89, Tryz.ntmps89
      go_wp2_with fail
      go_outline
      go_loopg [7, 8] 0 (fun _ s7 s8 wr => s7 = .int .i64 0 ∧ s8 = .int .i64 20 ∧ wr = ww)
      case atStart => exact ⟨rfl, rfl, rfl⟩
      case round =>
        obtain ⟨rfl, rfl, rfl⟩ := hrel
        go_wp2_with (go_at_call 107; (with_reducible refine (CJ.out _).mono ?_); rintro e w1 ⟨rfl, rfl⟩)
        go_loopg [6] 0 (fun _ s6 wr => s6 = .int .i64 20 ∧ wr = w1)
        case atStart => exact ⟨rfl, rfl⟩
        case round =>
          obtain ⟨rfl, rfl⟩ := hrel
          go_wp2_with fail
          go_end0
          exact ⟨rfl, rfl⟩
    go_enter Tryz.func65, Tryz.ntmps65
    go_wp2_with (go_at_call 89; (with_reducible refine (CK.out _).mono ?_); rintro e w1 ⟨rfl, rfl⟩)
    go_end0
    exact ⟨rfl, rfl⟩
  go_enter Tryz.func40, Tryz.ntmps40
  go_wp2_with fail
  generalize hW : w.alloc (.cells (madeCells #[.pointer none] 0) 76) = W
  have HW := Lib.hid hW
  clear hW
  go_loopg [3, 10] 0 (fun _ s3 s10 wr => s3 = .slice (some ⟨w.heap.size, 0, none⟩) 0 0 ∧ s10 = .int .i64 0 ∧ wr = W)
  case atStart => exact ⟨rfl, rfl, rfl⟩
  case round =>
    obtain ⟨rfl, rfl, hrel⟩ := hrel
    go_wp2_with (go_at_call 65; (with_reducible refine (CI.out _).mono ?_); rintro e w1 ⟨rfl, rfl⟩)
    go_ret
    exact ⟨rfl, by rw [← HW.out]; exact (Below.refl _ _).alloc (Nat.le_refl _) _⟩

/-- The name at a place of the order. -/
def nmF (names : List ByteArray) (m i : Nat) : ByteArray := names.getD (ordA names m)[i]!.val ⟨#[]⟩
/-- Two fields next to each other in the order have one name. -/
def twB (names : List ByteArray) (m : Nat) : Bool := (List.range m).any fun i => decide (nmF names m (i + 1) = nmF names m i)

set_option maxHeartbeats 2000000 in
theorem twins_some (fb fo m cap0 : Nat) (h20 : m + 1 < 20) (names : List ByteArray) (w : World) (hc : ∀ i, i < m + 1 → w.cell? ⟨fb, fo + 5 * i, none⟩ = some (.string (names.getD i ⟨#[]⟩))) :
    Calls Tryz.prog 25 #[.slice (some ⟨fb, fo, none⟩) ((m + 1 : Nat)) cap0] w (fun e w' => e = .returned (.bool (twB names m)) ∧ RowKit.Below w.heap.size w w') := by
  have CB := Lib.hid (byName_some fb fo m cap0 h20 names w hc)
  have hfl : fb < w.heap.size := World.block_lt_of_cell? w _ (hc 0 (by omega))
  have HC := Lib.hid hc
  clear hc
  go_enter Tryz.func25, Tryz.ntmps25
  go_wp2_with (go_at_call 40; (with_reducible refine CB.out.mono ?_); rintro e w1 ⟨g, cap, rfl, hg1, hg2, hH, hs, hb⟩)
  have hx : ∀ k, k < m + 1 → w1.cell? ⟨g, k, none⟩ = some (.pointer (some ⟨fb, fo + 5 * ((ordA names m)[k]!).val, none⟩)) ∧ w1.cell? ⟨fb, fo + 5 * ((ordA names m)[k]!).val, none⟩ = some (.string (nmF names m k)) := fun k hk => by
    have h := (hH k (by omega)).1
    rw [Nat.zero_add] at h
    exact ⟨h, (World.cell?_of_block (hb.block fb hfl)).trans (HC.out _ ((ordA names m)[k]!).isLt)⟩
  have HX := Lib.hid hx
  have HB := Lib.hid hb
  clear hx hH hb CB HC
  go_outline
  go_loopw [10] (fun i wr => ∃ k : Nat, i = .int .i64 k ∧ k ≤ m + 1 ∧ Hid (∀ i, i + 1 < k → nmF names m (i + 1) ≠ nmF names m i) ∧ Hid (∃ n, wr = w1.drewN n)) (fun i _ => m + 1 - (intOf i).toNat)
  case atStart => exact ⟨0, rfl, by omega, fun i h => by omega, ⟨0, rfl⟩⟩
  case round =>
    obtain ⟨k, rfl, hk, hno, hwr⟩ := hrel
    by_cases hlt : k < m + 1
    · have hki : (k : Int) < (m : Int) + 1 := by omega
      obtain ⟨p1, p2⟩ : wr.cell? ⟨g, k, none⟩ = some (.pointer (some ⟨fb, fo + 5 * ((ordA names m)[k]!).val, none⟩)) ∧ wr.cell? ⟨fb, fo + 5 * ((ordA names m)[k]!).val, none⟩ = some (.string (nmF names m k)) := by
        obtain ⟨n, rfl⟩ := hwr.out
        exact HX.out k hlt
      cases k with
      | zero =>
        generalize hX : fo + 5 * ((ordA names m)[0]!).val = X at p1 p2
        clear HX hX
        go_wp2_with fail
        go_quiet (fail)
        go_wp2_with fail
        go_roundw
        case rel => exact ⟨1, rfl, by omega, fun i h => by omega, by obtain ⟨n, rfl⟩ := hwr.out; exact ⟨_, World.drewN_drewN _ _ _⟩⟩
        case measure => simp [intOf]
      | succ j =>
        obtain ⟨p3, p4⟩ : wr.cell? ⟨g, j, none⟩ = some (.pointer (some ⟨fb, fo + 5 * ((ordA names m)[j]!).val, none⟩)) ∧ wr.cell? ⟨fb, fo + 5 * ((ordA names m)[j]!).val, none⟩ = some (.string (nmF names m j)) := by
          obtain ⟨n, rfl⟩ := hwr.out
          exact HX.out j (by omega)
        generalize hX : fo + 5 * ((ordA names m)[j + 1]!).val = X at p1 p2
        generalize hY : fo + 5 * ((ordA names m)[j]!).val = Y at p3 p4
        clear HX hX hY
        have hj1 : (j : Int) + 1 - 1 = (j : Int) := by omega
        have hj2 : (j : Int) < (m : Int) + 1 := by omega
        have hj3 : (0 : Int) < (j : Int) + 1 := by omega
        by_cases heq : nmF names m (j + 1) = nmF names m j
        · have hend : twB names m = true := by
            unfold twB
            rw [List.any_eq_true]
            exact ⟨j, List.mem_range.2 (by omega), by simpa using heq⟩
          have HE := Lib.hid hend
          have hE : decide (nmF names m (j + 1) = nmF names m j) = true := by simpa using heq
          clear hno hend
          generalize nmF names m (j + 1) = s1 at p2 heq hE
          generalize nmF names m j = s2 at p4 heq hE
          go_wp2_with fail
          go_quiet (fail)
          go_wp2_with fail
          go_ret
          exact ⟨by rw [HE.out]; rfl, by obtain ⟨n, rfl⟩ := hwr.out; exact below_drewN (below_drewN HB.out _) _⟩
        · have hE : ((nmF names m (j + 1)).toList == (nmF names m j).toList) = false := by
            rw [beq_eq_false_iff_ne]
            intro e
            rw [ByteArray.toList_eq, ByteArray.toList_eq] at e
            exact heq (by cases h1 : nmF names m (j + 1); cases h2 : nmF names m j; rw [h1, h2] at e; simpa [Array.toList_inj] using e)
          have HN : Hid (∀ i, i + 1 < j + 2 → nmF names m (i + 1) ≠ nmF names m i) := fun i h => by
            by_cases e : i = j
            · subst e; exact heq
            · exact hno.out i (by omega)
          clear hno
          generalize hs1 : nmF names m (j + 1) = s1 at p2 heq hE
          generalize hs2 : nmF names m j = s2 at p4 heq hE
          clear hs1 hs2 heq
          go_wp2_with fail
          go_quiet (fail)
          trace_state
          go_wp2_with fail
          go_roundw
          case rel => exact ⟨j + 2, by go_num, by omega, HN, by obtain ⟨n, rfl⟩ := hwr.out; exact ⟨_, World.drewN_drewN _ _ _⟩⟩
          case measure => simp [intOf]; omega
    · obtain rfl : k = m + 1 := by omega
      have hend : twB names m = false := by
        unfold twB
        rw [List.any_eq_false]
        intro i hi
        simp only [decide_eq_true_eq]
        exact hno.out i (by have := List.mem_range.1 hi; omega)
      clear hno
      go_wp2_with fail
      go_ret
      exact ⟨by rw [hend]; rfl, by obtain ⟨n, rfl⟩ := hwr.out; exact below_drewN HB.out _⟩
end Go.Proofs.YtnjikipncgbjjaaGreatDoor

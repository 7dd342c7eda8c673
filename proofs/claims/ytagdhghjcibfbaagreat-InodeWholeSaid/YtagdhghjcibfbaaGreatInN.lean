/- Layer 8: names: strings.ContainsAny at the two bytes that no name has; isName. -/
import Derived.Test.YtagdhghjcibfbaaGreatInD
import Derived.Test.YtagdhghjcibfbaaGreatInShelf
import Derived.Lib.MapLaws
import Derived.BigCall
import Derived.Laws.Runes
import Derived.LoopTactic
import Derived.RegionTactic
import Derived.Deep.RegionWith
import Derived.BigQuiet
import Derived.Deep.QuietTactic
import Derived.Deep.RegionHeld3
namespace Go.Proofs.YtagdhghjcibfbaaGreat
open Go.RowKit
set_option linter.unusedVariables false

theorem below_drewN8 {B : Nat} {a w : World} (h : Below B a w) : ∀ n, Below B a (w.drewN n) := fun n => h.trans ⟨rfl, rfl, rfl, Nat.le_refl _, fun _ _ => rfl⟩
theorem mem_extract8 {s : ByteArray} {i j : Nat} {b : UInt8} (h : b ∈ (s.extract i j).data.toList) : b ∈ s.data.toList := by
  rw [Lib.extract_data] at h
  exact List.mem_of_mem_drop (List.mem_of_mem_take h)
theorem ix_none (l : List UInt8) (c : UInt8) (hl : ∀ b ∈ l, b.toNat < 128) (hc : 128 ≤ c.toNat) : Lib.indexByte l c = -1 := by
  induction l with
  | nil => rfl
  | cons b t ih =>
    have h1 := hl b (by simp)
    have ih := ih (fun x hx => hl x (by simp [hx]))
    unfold Lib.indexByte
    rw [if_neg (by intro h; have : b = c := by simpa using h
                   rw [this] at h1; omega), ih]
    rfl
theorem indexByte_none (C : ByteArray) (hall : ∀ b ∈ C.data.toList, b.toNat < 128) (i j : Nat) (x : UInt8) (hx : 128 ≤ x.toNat) (w : World) :
    Calls Tryz.prog 156 #[.string (C.extract i j), .int .u8 (x.toNat : Int)] w fun e w' => e = .returned (.int .i64 (-1)) ∧ w' = w := by
  refine (Tryz.strings_IndexByte _ _ _).mono ?_
  rintro e w' ⟨rfl, rfl⟩
  refine ⟨?_, rfl⟩
  have e : ((x.toNat : Int)).toNat.toUInt8 = x := Lib.toByte _ x rfl
  rw [e, ix_none _ _ (fun b hb => hall b (mem_extract8 hb)) hx]
theorem validRune_yes (n : Nat) (hv : Utf8.valid (n : Int) = true) (w : World) :
    Calls Tryz.prog 157 #[.int .i32 (n : Int)] w fun e w' => e = .returned (.bool true) ∧ w' = w := by
  rw [validRune_eq] at hv
  unfold validRune at hv
  have hv := of_decide_eq_true hv
  have h0 : (0 : Int) ≤ n := by omega
  rcases hv with h | h
  · have h1 := h.2
    clear h
    go_enter Tryz.func157, Tryz.ntmps157
    go_wp2
    go_ret
    exact ⟨rfl, rfl⟩
  · have h1 := h.1
    have h2 := h.2
    have h3 : ¬ (n : Int) < 55296 := by omega
    clear h
    go_enter Tryz.func157, Tryz.ntmps157
    go_wp2
    go_ret
    exact ⟨rfl, rfl⟩

set_option maxRecDepth 1000000 in
set_option maxHeartbeats 1000000 in
theorem indexRune_high (C : ByteArray) (hCs : C.size = 2) (hall : Hid (∀ b ∈ C.data.toList, b.toNat < 128)) (n : Nat) (h0 : 128 ≤ n) (h : (n < 55296 ∨ (57344 ≤ n ∧ n ≤ 1114111))) (h1 : n ≠ 65533) (w : World) :
    Calls Tryz.prog 149 #[.string C, .int .i32 (n : Int)] w fun e w' => e = .returned (.int .i64 (-1)) ∧ Below w.heap.size w w' := by
  have hv : Utf8.valid (n : Int) = true := by
    rw [validRune_eq]; unfold validRune; simp; omega
  obtain ⟨e2, e4, el⟩ := encode_facts (n : Int) hv (by omega)
  have hn2 : (n : Int) ≤ 1114111 := by omega
  have hn4 : ((n : Int) == 65533) = false := by simp; omega
  have hn5 : ¬ (n : Int) < 128 := by omega
  have hn6 : (0 : Int) ≤ n := by omega
  have HE : ∀ w0 : World, (convert 21 9 (.int .i32 (n : Int))).run Tryz.prog w0 = .ok (.string (Utf8.encode (n : Int))) w0 := fun w0 => run_convert_int_string w0 _ _ .i32 _ (by kernel_rfl) Tryz.underlying9
  generalize Utf8.encode (n : Int) = E at *
  have hC := Lib.hid hv
  have HX := Lib.hid el
  clear hv h h0 h1 el
  obtain ⟨m, hsz⟩ : ∃ m, E.size = m + 1 := ⟨E.size - 1, by omega⟩
  have hm1 : 1 ≤ m := by omega
  have hm3 : m ≤ 3 := by omega
  have HX2 := Lib.hid hsz
  have hi1 : ((E.size : Nat) : Int) - 1 = (m : Int) := by omega
  have hw1 : IntKind.i64.wrap (((E.size : Nat) : Int) - 1) = (m : Int) := by rw [hi1]; exact IntWalk.i64_in _ (by omega)
  have hw2 : IntKind.i64.wrap ((m : Int) + 1) = (m : Int) + 1 := IntWalk.i64_in _ (by omega)
  clear e2 e4 hsz
  go_enter Tryz.func149, Tryz.ntmps149
  go_wp2_with (go_at_call 157; refine (validRune_yes n hC.out _).mono ?_; rintro e w' ⟨rfl, rfl⟩)
  go_step3
  go_wp2_with fail
  go_loopw [9] (fun i wr => wr = w' ∧ i = .int .i64 m) (fun _ _ => 0)
  case atStart => exact ⟨rfl, rfl⟩
  case round =>
    obtain ⟨rfl, rfl⟩ := hrel
    by_cases hm2 : 2 ≤ m
    · have hm7 : ¬ (m : Int) < 2 := by omega
      have hm7' : (2 : Int) ≤ (m : Int) := by omega
      go_wp2_with fail
      go_ret
      exact ⟨rfl, Below.refl _ _⟩
    have hm7 : (m : Int) < 2 := by omega
    clear hm2
    go_wp2_with fail
    go_step3
    go_wp2_with fail
    have hsz := HX2.out
    obtain ⟨x, hx⟩ : ∃ x, E[m]'(by omega) = x := ⟨_, rfl⟩
    obtain ⟨y, hy⟩ : ∃ y, C[m]'(by omega) = y := ⟨_, rfl⟩
    have hx0 : 128 ≤ x.toNat := by
      have el := HX.out (by omega)
      have : E[E.size - 1] = x := by rw [← hx]; congr 1; omega
      rw [this] at el; exact el
    have hy0 : y.toNat < 128 := hall.out y (by rw [← hy]; exact Array.getElem_mem_toList (xs := C.data) (by show m < C.size; omega))
    have hne : ((y.toNat : Int) == (x.toNat : Int)) = false := by simp; omega
    have hne2 : ((y.toNat : Int) != (x.toNat : Int)) = true := by simp; omega
    have hib := fun w0 : World => indexByte_none C hall.out (m + 1) 2 x hx0 w0
    have hms : (m : Int) < (E.size : Int) := by omega
    have hm0 : (0 : Int) ≤ m := by omega
    clear hx0 hy0 hsz
    have e7 : ((m : Int) + 1).toNat = m + 1 := by omega
    have e8 : (m : Int) + 1 ≤ 2 := by omega
    have e9 : (0 : Int) ≤ (m : Int) + 1 := by omega
    go_region
    go_wp2_with fail
    have hB := Lib.hid ((Below.refl wr.heap.size wr).drew)
    generalize wr.drew = wq at hB ⊢
    go_quiet ((go_at_call 156; exact Calls.quiet_of_same (hib _)))
    go_wp2_with fail
    simp (config := { zetaDelta := true }) only [Exit.noGoto, Exit.inBlock, Exit.then]
    go_ret
    exact ⟨rfl, below_drewN8 hB.out _⟩

set_option maxRecDepth 1000000 in
set_option maxHeartbeats 1000000 in
theorem indexRune_fffd (C : ByteArray) (hCs : C.size = 2) (hall : Hid (∀ b ∈ C.data.toList, b.toNat < 128)) (w : World) :
    Calls Tryz.prog 149 #[.string C, .int .i32 65533] w fun e w' => e = .returned (.int .i64 (-1)) ∧ Below w.heap.size w w' := by
  have HS := Lib.hid hCs
  clear hCs
  go_enter Tryz.func149, Tryz.ntmps149
  go_wp2_with fail
  go_loopw [] (fun wr => ∃ pos : Nat, pos ≤ C.size ∧ wr.heap[w.heap.size]? = some (.stringIter C pos) ∧ Hid (Below w.heap.size w wr)) (fun wr => C.size - wr.iterPos w.heap.size)
  case atStart =>
    refine ⟨0, Nat.zero_le _, ?_, (Below.refl _ w).alloc (Nat.le_refl _) _⟩
    have := World.iter_heap w C 0
    simpa using this
  case round =>
    obtain ⟨pos, hpos, hit, hbel⟩ := hrel
    have hsz : w.heap.size < wr.heap.size := (Array.getElem?_eq_some_iff.1 hit).1
    by_cases hp : pos < C.size
    · obtain ⟨y, hy⟩ : ∃ y, C[pos]'hp = y := ⟨_, rfl⟩
      have hy0 : y.toNat < 128 := hall.out y (by rw [← hy]; exact Array.getElem_mem_toList (xs := C.data) (by show pos < C.size; omega))
      have hnx : ∀ ty, (Instr.next (.pointer (some ⟨w.heap.size, 0, none⟩)) true ty).run Tryz.prog wr = .ok (.tuple #[.bool true, .int .i64 pos, .int .i32 (y.toNat : Int)]) (wr.iterAt w.heap.size C (pos + 1)) := fun ty => by
        rw [Lib.run_next_ascii_at wr w.heap.size C pos ty hit hp (by rw [hy]; exact hy0), hy]
      have hne : ((y.toNat : Int) == 65533) = false := by simp; omega
      have hit2 := Lib.iterAt_heap wr w.heap.size C pos (pos + 1) hit
      have hbw2 := Lib.hid (Lib.below_iterAt hbel.out (k := w.heap.size) (Nat.le_refl _) C (pos + 1))
      clear hy0 hy hbel
      go_wp2_with fail
      go_roundw
      case rel => exact ⟨pos + 1, by omega, hit2, hbw2.out⟩
      case measure =>
        simp only [World.iterPos, hit2, hit]
        omega
    · have hnx : ∀ ty, (Instr.next (.pointer (some ⟨w.heap.size, 0, none⟩)) true ty).run Tryz.prog wr = _ := fun ty => Lib.run_next_end_at wr w.heap.size C pos ty hit hp
      go_wp2_with fail
      go_ret
      exact ⟨rfl, hbel.out⟩

end Go.Proofs.YtagdhghjcibfbaaGreat

/- Contracts of Dec: the program's and the reference's, and of the reference's below: the decimal digits of any int. -/
import Derived.Test.YtgfpmjdkjflibaaDigB
import Derived.Deep.OwnRows
import Derived.Laws.BytesArg
import Derived.Laws.Strings3
import Derived.Lib.LazyBuf
namespace Go.Proofs.Ytgfpmjdkjflibaa
open Go.RowKit
set_option linter.unusedVariables false

/-- The cells of an array of N bytes, the last of which hold these. -/
def rowF (N : Nat) (acc : List UInt8) (j : Nat) : Value := .int .u8 (if j < N - acc.length then 0 else ((acc[j - (N - acc.length)]?.getD 0).toNat : Int))

theorem rowF_step (N : Nat) (acc : List UInt8) (d : UInt8) (j : Nat) (h : acc.length < N) : (if j = N - 1 - acc.length then Value.int .u8 (d.toNat : Int) else rowF N acc j) = rowF N (d :: acc) j := by
  unfold rowF
  by_cases h1 : j = N - 1 - acc.length
  · rw [if_pos h1, if_neg (by simp; omega)]
    have : j - (N - (d :: acc).length) = 0 := by simp; omega
    rw [this]; simp
  · rw [if_neg h1]
    by_cases h2 : j < N - acc.length
    · rw [if_pos h2, if_pos (by simp; omega)]
    · rw [if_neg h2, if_neg (by simp; omega)]
      have : j - (N - (d :: acc).length) = (j - (N - acc.length)) + 1 := by simp; omega
      rw [this]; simp

theorem arrLen20 : Try.prog.arrayLen 38 = 20 := by kernel_rfl
theorem arrLen21 : Try.prog.arrayLen 40 = 21 := by kernel_rfl
theorem arr20 : Try.prog.underlying 38 = some (.array (Try.prog.arrayLen 38) (Try.prog.elem 38)) := by kernel_rfl
theorem arr21 : Try.prog.underlying 40 = some (.array (Try.prog.arrayLen 40) (Try.prog.elem 40)) := by kernel_rfl
theorem size20 (w : World) : (sizeOf (Try.prog.elem 38)).run Try.prog w = .ok 1 w := by kernel_rfl
theorem size21 (w : World) : (sizeOf (Try.prog.elem 40)).run Try.prog w = .ok 1 w := by kernel_rfl

/-- A number's digits, all but those that are still to come. -/
theorem dec_len (m r k : Nat) (acc : List UInt8) (hm : m < 10 ^ 20) (hacc : acc.length = k) (hdec : decN r ++ acc = decN m) : r < 10 ∨ k + 1 ≤ 19 := by
  by_cases h10 : r < 10
  · exact Or.inl h10
  · right
    have e := congrArg List.length hdec
    rw [decN_big r h10, List.length_append, List.length_append, hacc] at e
    have h2 := decN_length 19 m (by omega)
    have h3 : 1 ≤ (decN (r / 10)).length := List.length_pos_iff.2 (decN_ne _)
    simp at e; omega
theorem dec_len19 (m r k : Nat) (acc : List UInt8) (hm : m < 10 ^ 19) (hacc : acc.length = k) (hdec : decN r ++ acc = decN m) : r < 10 ∨ k + 1 ≤ 18 := by
  by_cases h10 : r < 10
  · exact Or.inl h10
  · right
    have e := congrArg List.length hdec
    rw [decN_big r h10, List.length_append, List.length_append, hacc] at e
    have h2 := decN_length 18 m (by omega)
    have h3 : 1 ≤ (decN (r / 10)).length := List.length_pos_iff.2 (decN_ne _)
    simp at e; omega
theorem neg_neg_u64 (m : Nat) (h1 : 1 ≤ m) (h2 : m ≤ 9223372036854775808) : Value.int .u64 (IntKind.u64.wrap (-(IntKind.u64.wrap (-(m : Int))))) = .int .u64 m := by
  congr 1; rw [IntKind.wrap_u64, IntKind.wrap_u64]; omega
theorem row_put2 (N : Nat) (acc : List UInt8) (d : UInt8) (k b T : Nat) (w : World) (hrow : w.rowIs b T N (rowF N acc)) (hacc : acc.length = k) (hk : k < N) :
    (w.setCell ⟨b, N - 1 - k, none⟩ (.int .u8 (d.toNat : Int))).rowIs b T N (rowF N (d :: acc)) :=
  (hrow.set (N - 1 - k) _).congr (fun j _ => by rw [← rowF_step N acc d j (by omega), hacc])
theorem zero20 (w : World) : (w.alloc (.cells #[.int .u8 0, .int .u8 0, .int .u8 0, .int .u8 0, .int .u8 0, .int .u8 0, .int .u8 0, .int .u8 0, .int .u8 0, .int .u8 0, .int .u8 0, .int .u8 0, .int .u8 0, .int .u8 0, .int .u8 0, .int .u8 0, .int .u8 0, .int .u8 0, .int .u8 0, .int .u8 0] 38)).rowIs w.heap.size 38 20 (rowF 20 []) := by
  refine (World.rowIs_alloc w _ 38 (rowF 20 []) ?_)
  intro i hi
  have : i < 20 := by simpa using hi
  unfold rowF
  rw [if_pos (by simpa using this)]
  rcases i with _ | _ | _ | _ | _ | _ | _ | _ | _ | _ | _ | _ | _ | _ | _ | _ | _ | _ | _ | _ | i
  all_goals first | rfl | omega
theorem row_put (N : Nat) (acc : List UInt8) (r k b T : Nat) (w : World) (hrow : w.rowIs b T N (rowF N acc)) (hacc : acc.length = k) (hk : k < N) :
    (w.setCell ⟨b, N - 1 - k, none⟩ (.int .u8 (48 + (r : Int) % 10))).rowIs b T N (rowF N (dByte (r % 10) :: acc)) := by
  have hv : Value.int .u8 (48 + (r : Int) % 10) = .int .u8 ((dByte (r % 10)).toNat : Int) := by rw [dByte_toNat _ (by omega)]; congr 1
  rw [hv]
  exact (hrow.set (N - 1 - k) _).congr (fun j _ => by rw [← rowF_step N acc (dByte (r % 10)) j (by omega), hacc])

theorem add_zero_off (b l : Nat) : (⟨b, 0, none⟩ : Addr).add l = ⟨b, l, none⟩ := by
  unfold Addr.add
  split
  · rename_i h; subst h; rfl
  · simp

theorem slice20 (b l : Nat) (i : Int) (hi : i = (l : Int)) (hl : l < 20) (w : World) : (Instr.sliceAt 38 (.pointer (some ⟨b, 0, none⟩)) (some (.int .i64 i)) none none).run Try.prog w = .ok (.slice (some ⟨b, l, none⟩) (20 - l) (20 - l)) w := by
  subst hi
  rw [run_sliceAt_array_l w 38 ⟨b, 0, none⟩ arr20 .i64 l (by omega) (by rw [arrLen20]; omega), size20]
  show Result.ok _ w = _
  unfold slicedAt
  rw [arrLen20, if_neg (by omega), Nat.mul_one, add_zero_off]
  rfl

/-- A slice over the last cells of such an array is turned into the string of those bytes. -/
theorem conv_rowF {w : World} {b T N M : Nat} {l : List UInt8} (hrow : w.rowIs b T M (rowF N l)) (hM : N ≤ M) (hl : l.length ≤ N) (o n cap : Nat) (ho : o = N - l.length) (hn : n = l.length) :
    (convert 39 9 (.slice (some ⟨b, o, none⟩) n cap)).run Try.prog w = .ok (.string ⟨l.toArray⟩) w := by
  subst ho hn
  have := run_convert_bytes_arg (P := Try.prog) w 39 5 Try.underlying39 Try.underlying5 b (N - l.length) l.length cap (l.map fun b => (b.toNat : Int)) (by simp)
    (fun i hi => by
      rw [hrow.cell (by omega)]
      unfold rowF
      rw [if_neg (by omega)]
      have : N - l.length + i - (N - l.length) = i := by omega
      rw [this]
      simp [List.getElem?_eq_getElem hi]) 9 Try.underlying9
  rw [Lib.Lz.strOfNums_map] at this
  exact this

theorem dec_any (n : Int) (w : World) (h0 : -9223372036854775808 ≤ n) (h1 : n ≤ 9223372036854775807) :
    Calls Try.prog 10 #[.int .i64 n] w fun e w' => e = .returned (.string ⟨(decZ n).toArray⟩) ∧ Below w.heap.size w w' := by
  by_cases hn : n < 0
  · have hz : decZ n = 45 :: decN n.natAbs := by unfold decZ; rw [if_pos hn]
    rw [hz]
    clear hz
    obtain ⟨m, hm⟩ : ∃ m : Nat, n = -(m : Int) := ⟨(-n).toNat, by omega⟩
    subst hm
    have hx : (-(m : Int)).natAbs = m := by omega
    rw [hx]
    clear hx
    go_enter Try.func10, Try.ntmps10
    go_wp2
    go_loopw [3, 5, 13] (fun rest first cnt wr => ∃ (r k : Nat) (acc : List UInt8), rest = .int .u64 r ∧ cnt = .int .i64 k ∧ k ≤ 18 ∧ r ≤ m ∧ Hid (acc.length = k) ∧ Hid (decN r ++ acc = decN m) ∧ Hid (wr.rowIs w.heap.size 38 20 (rowF 20 acc)) ∧ Hid (Below w.heap.size w wr)) (fun _ _ cnt _ => 20 - (intOf cnt).toNat)
    case atStart => exact ⟨m, 0, [], neg_neg_u64 m (by omega) (by omega), rfl, by omega, by omega, rfl, List.append_nil _, zero20 w, (Below.refl _ _).alloc (Nat.le_refl _) _⟩
    case round =>
      obtain ⟨r, k, acc, rfl, rfl, hk, hr, hacc, hdec, hrow, hbel⟩ := hrel
      have hlen := dec_len19 m r k acc (by omega) hacc.out hdec.out
      have hc : wr.cell? ⟨w.heap.size, 19 - k, none⟩ = some (.int .u8 0) := by
        rw [hrow.out.cell (by omega)]; unfold rowF; rw [if_pos (by have := hacc.out; omega)]
      have hf : wr.frozen? ⟨w.heap.size, 19 - k, none⟩ = false := hrow.out.frozen _
      have hrow2 := Lib.hid (row_put 20 acc r k _ _ _ hrow.out hacc.out (by omega))
      by_cases h10 : r < 10
      · have hsl := fun w0 => slice20 w.heap.size (19 - k - 1) (19 - (k : Int) - 1) (by omega) (by omega) w0
        have hend : dByte (r % 10) :: acc = decN m := by
          rw [← hdec.out, decN_small r h10, Nat.mod_eq_of_lt h10]; rfl
        have hc2 : wr.cell? ⟨w.heap.size, 19 - k - 1, none⟩ = some (.int .u8 0) := by
          rw [hrow.out.cell (by omega)]; unfold rowF; rw [if_pos (by have := hacc.out; omega)]
        have hf2 : wr.frozen? ⟨w.heap.size, 19 - k - 1, none⟩ = false := hrow.out.frozen _
        have hrow3 := row_put2 20 (dByte (r % 10) :: acc) 45 (k + 1) _ _ _ hrow2.out (by have := hacc.out; simpa using this) (by omega)
        have hcv := conv_rowF hrow3 (Nat.le_refl _) (by have := hacc.out; simp; omega) (19 - k - 1) (20 - (19 - k - 1)) (20 - (19 - k - 1)) (by have := hacc.out; simp; omega) (by have := hacc.out; simp; omega)
        rw [hend] at hcv
        rw [show 20 - 1 - (k + 1) = 19 - k - 1 by omega, show 20 - 1 - k = 19 - k by omega, show (((45 : UInt8).toNat : Nat) : Int) = 45 by rfl] at hcv
        clear hend hrow3
        go_wp2
        go_ret
        exact ⟨rfl, (hbel.out.setCell (Nat.le_refl _) _).setCell (Nat.le_refl _) _⟩
      · go_wp2
        go_roundw
        case rel =>
          refine ⟨r / 10, k + 1, dByte (r % 10) :: acc, by go_num, by go_num, by omega, by omega, by have := hacc.out; show List.length _ = _; simpa using this, ?_, hrow2.out, hbel.out.setCell (Nat.le_refl _) _⟩
          show decN (r / 10) ++ (dByte (r % 10) :: acc) = decN m
          rw [← hdec.out, decN_big r h10]; simp
        case measure => simp [intOf]; omega
  · have hz : decZ n = decN n.natAbs := by unfold decZ; rw [if_neg hn]
    rw [hz]
    clear hz
    obtain ⟨m, hm⟩ : ∃ m : Nat, n = (m : Int) := ⟨n.toNat, by omega⟩
    subst hm
    have hx : (m : Int).natAbs = m := by omega
    rw [hx]
    clear hx
    go_enter Try.func10, Try.ntmps10
    go_wp2
    go_loopw [3, 5, 13] (fun rest first cnt wr => ∃ (r k : Nat) (acc : List UInt8), rest = .int .u64 r ∧ cnt = .int .i64 k ∧ k ≤ 19 ∧ r ≤ m ∧ Hid (acc.length = k) ∧ Hid (decN r ++ acc = decN m) ∧ Hid (wr.rowIs w.heap.size 38 20 (rowF 20 acc)) ∧ Hid (Below w.heap.size w wr)) (fun _ _ cnt _ => 20 - (intOf cnt).toNat)
    case atStart => exact ⟨m, 0, [], rfl, rfl, by omega, by omega, rfl, List.append_nil _, zero20 w, (Below.refl _ _).alloc (Nat.le_refl _) _⟩
    case round =>
      obtain ⟨r, k, acc, rfl, rfl, hk, hr, hacc, hdec, hrow, hbel⟩ := hrel
      have hlen := dec_len m r k acc (by omega) hacc.out hdec.out
      have hc : wr.cell? ⟨w.heap.size, 19 - k, none⟩ = some (.int .u8 0) := by
        rw [hrow.out.cell (by omega)]; unfold rowF; rw [if_pos (by have := hacc.out; omega)]
      have hf : wr.frozen? ⟨w.heap.size, 19 - k, none⟩ = false := hrow.out.frozen _
      have hrow2 := Lib.hid (row_put 20 acc r k _ _ _ hrow.out hacc.out (by omega))
      by_cases h10 : r < 10
      · have hsl := fun w0 => slice20 w.heap.size (19 - k) (19 - (k : Int)) (by omega) (by omega) w0
        have hend : dByte (r % 10) :: acc = decN m := by
          rw [← hdec.out, decN_small r h10, Nat.mod_eq_of_lt h10]; rfl
        have hcv := conv_rowF hrow2.out (Nat.le_refl _) (by have := hacc.out; simp; omega) (19 - k) (20 - (19 - k)) (20 - (19 - k)) (by have := hacc.out; simp; omega) (by have := hacc.out; simp; omega)
        rw [hend] at hcv
        clear hend
        go_wp2
        go_ret
        exact ⟨rfl, hbel.out.setCell (Nat.le_refl _) _⟩
      · go_wp2
        go_roundw
        case rel =>
          refine ⟨r / 10, k + 1, dByte (r % 10) :: acc, by go_num, by go_num, by omega, by omega, by have := hacc.out; show List.length _ = _; simpa using this, ?_, hrow2.out, hbel.out.setCell (Nat.le_refl _) _⟩
          show decN (r / 10) ++ (dByte (r % 10) :: acc) = decN m
          rw [← hdec.out, decN_big r h10]; simp
        case measure => simp [intOf]; omega
end Go.Proofs.Ytgfpmjdkjflibaa

/- Layer 8: Read. -/
import Derived.Test.YtagdhghjcibfbaaGreatInG
namespace Go.Proofs.YtagdhghjcibfbaaGreat
open Go.RowKit
set_option linter.unusedVariables false
set_option linter.unusedSectionVars false
set_option maxRecDepth 100000

theorem file_parts {T : Tb} {id a : Int} (h : T.fileE id a = 0) : ∃ n, aget id T.nodes = some n ∧ n.dir = false ∧ 0 ≤ a ∧ T.kindE id false = 0 := by
  unfold Tb.fileE at h
  split at h
  · next hk =>
    cases hn : aget id T.nodes with
    | none => rw [kindE_none hn] at hk; cases hk
    | some n =>
      have hk2 := hk
      rw [kindE_some hn] at hk
      refine ⟨n, rfl, ?_, ?_, hk2⟩
      · by_cases e : n.dir = false; exact e; rw [if_neg e] at hk; cases hk
      · by_cases e : a < 0; rw [if_pos e] at h; cases h; omega
  · next hk => exact absurd h hk
section
variable {w : World} {t : Nat} {T : Tb} {A : Int → Nat × Nat} {mb : Nat} (h : TbAt w t T A mb) (ok : Ok T) {id : Int} (hid : InI id) (a n : Int) (ha : InI a) (hn : InI n)
include h ok hid ha hn
theorem read_no (hE : T.fileE id (min a n) ≠ 0) :
    Calls Tryz.prog 21 #[.pointer (some ⟨t, 0, none⟩), .int .i64 id, .int .i64 a, .int .i64 n] w fun e w' => e = .returned (.tuple #[.string ⟨#[]⟩, .int .i64 (T.fileE id (min a n))]) ∧ w' = w := by
  have hm : InI (min a n) := by unfold InI at *; omega
  have C := fileAt_no h hid (min a n) hm hE
  have hk2 : (T.fileE id (min a n) == 0) = false := by simpa using hE
  have hk3 : (T.fileE id (min a n) != 0) = true := by simpa using hE
  clear hE hm
  generalize T.fileE id (min a n) = k at *
  go_enter Tryz.func21, Tryz.ntmps21
  go_wp2_with (go_at_call 47; (with_reducible refine C.mono ?_); rintro e w1 ⟨rfl, rfl⟩)
  go_ret2
  exact ⟨rfl, rfl⟩
theorem read_ok (hE : T.fileE id (min a n) = 0) :
    Calls Tryz.prog 21 #[.pointer (some ⟨t, 0, none⟩), .int .i64 id, .int .i64 a, .int .i64 n] w fun e w' => e = .returned (.tuple #[.string (bs (readL (T.nd id).data a n)), .int .i64 0]) ∧ Below w.heap.size w w' := by
  have hm : InI (min a n) := by unfold InI at *; omega
  have C := fileAt_ok h hid (min a n) hm hE
  obtain ⟨nd, hnd, _, h0, _⟩ := file_parts hE
  rw [nd_of hnd]
  have hd := ok.dat _ _ hnd
  have c3 := (h.nd id nd hnd).c3
  generalize nd.data = d at *
  have hz := bs_size d
  obtain ⟨m, hm1⟩ : ∃ m : Nat, (m : Int) = min a (d.length : Int) := ⟨(min a (d.length : Int)).toNat, by omega⟩
  have e1 : min a ((bs d).size : Int) = (m : Int) := by rw [hz]; exact hm1.symm
  have e2 : (bs d).extract m (bs d).size = bs (d.drop m) := by rw [bs_ext, List.take_of_length_le (by rw [List.length_drop]; omega)]
  have hz2 := bs_size (d.drop m)
  rw [List.length_drop] at hz2
  obtain ⟨k, hk1⟩ : ∃ k : Nat, (k : Int) = min n ((d.length - m : Nat) : Int) := ⟨(min n ((d.length - m : Nat) : Int)).toNat, by omega⟩
  have e3 : min n ((bs (d.drop m)).size : Int) = (k : Int) := by rw [hz2]; exact hk1.symm
  have e4 : (bs (d.drop m)).extract 0 k = bs (readL d a n) := by
    rw [bs_ext, List.drop_zero]
    unfold readL
    rw [show (min a (d.length : Int)).toNat = m by omega]
    congr 1
    by_cases hc : n.toNat ≤ d.length - m
    · rw [show k - 0 = n.toNat by omega]
    · rw [List.take_of_length_le (by rw [List.length_drop]; omega), List.take_of_length_le (by rw [List.length_drop]; omega)]
  have b1 : (m : Int) ≤ ((bs d).size : Int) := by omega
  have b2 : (k : Int) ≤ ((bs (d.drop m)).size : Int) := by omega
  have b3 : (0 : Int) ≤ (m : Int) := by omega
  have b4 : (0 : Int) ≤ (k : Int) := by omega
  generalize bs (readL d a n) = out at *
  generalize hr : bs (d.drop m) = rest at *
  clear hE hm h0 hd hz hz2 hm1 hk1 hr
  go_enter Tryz.func21, Tryz.ntmps21
  go_wp2_with (go_at_call 47; (with_reducible refine C.mono ?_); rintro e w1 ⟨rfl, rfl⟩)
  go_quiet (fail)
  go_wp2_with fail
  go_ret2
  exact ⟨rfl, below_drewN8 (Below.refl _ _) _⟩
end
end Go.Proofs.YtagdhghjcibfbaaGreat

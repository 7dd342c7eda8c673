/- Contracts of the reference's below and Dec: the decimal digits of any int. -/
import Derived.Test.YtgfpmjdkjflibaaDigC
import Derived.RegionTactic
import Derived.Deep.RegionWith
namespace Go.Proofs.Ytgfpmjdkjflibaa
open Go.RowKit
set_option linter.unusedVariables false

/-- A new block of one byte is turned into the string of that byte. -/
theorem conv_one {w : World} {b : Nat} {v : Int} {d : UInt8} (hv : v = (d.toNat : Int)) (hc : w.cell? ⟨b, 0, none⟩ = some (.int .u8 v)) :
    (convert 39 9 (.slice (some ⟨b, 0, none⟩) 1 1)).run Try.prog w = .ok (.string ⟨#[d]⟩) w := by
  subst hv
  have := run_convert_bytes_arg (P := Try.prog) w 39 5 Try.underlying39 Try.underlying5 b 0 1 1 [(d.toNat : Int)] rfl
    (fun i hi => by
      have : i = 0 := by omega
      subst this
      simpa using hc) 9 Try.underlying9
  rw [this]
  have := Lib.Lz.strOfNums_map [d]
  simp only [List.map] at this
  rw [this]

theorem add_one (w : World) (x y : List UInt8) (d : UInt8) (h : x.length + 1 ≤ 9223372036854775807) (hy : y = x ++ [d]) : (Op.stringOp .add ⟨x.toArray⟩ ⟨#[d]⟩).run Try.prog w = .ok (.string ⟨y.toArray⟩) w := by
  rw [run_string_add_sum w _ _ (by simp [ByteArray.size]; omega)]
  subst hy
  have := ByteArray.mk_append_mk x [d]
  rw [← this]

theorem add_minus (w : World) (y : List UInt8) (h : y.length + 1 ≤ 9223372036854775807) : (Op.stringOp .add ⟨#[45]⟩ ⟨y.toArray⟩).run Try.prog w = .ok (.string ⟨(45 :: y).toArray⟩) w := by
  rw [run_string_add_sum w _ _ (by simp [ByteArray.size]; omega)]
  have := ByteArray.mk_append_mk [45] y
  rw [List.singleton_append] at this
  rw [← this]

theorem below_any (m : Nat) (h1 : m ≤ 9223372036854775808) : ∀ w : World,
    Calls Try.prog 21 #[.int .i64 (-(m : Int))] w fun e w' => e = .returned (.string ⟨(decN m).toArray⟩) ∧ Below w.heap.size w w' := by
  induction m using Nat.strongRecOn with
  | ind m ih =>
    intro w
    by_cases h10 : m < 10
    · have hcv := conv_one (w := w.alloc (.cells #[.int .u8 (48 + (m : Int))] 5)) (b := w.heap.size) (v := 48 + (m : Int)) (d := dByte m) (by rw [dByte_toNat m h10]; omega) (by rw [World.cell?_alloc_new]; rfl)
      rw [decN_small m h10]
      go_enter Try.func21, Try.ntmps21
      go_wp2_with fail
      go_ret
      exact ⟨rfl, (Below.refl _ _).alloc (Nat.le_refl _) _⟩
    · have ihq : ∀ w : World, Calls Try.prog 21 #[.int .i64 (-((m : Int) / 10))] w fun e w' => e = .returned (.string ⟨(decN (m / 10)).toArray⟩) ∧ Below w.heap.size w w' := fun w => by
        have := ih (m / 10) (by omega) (by omega) w
        rwa [show (-((m / 10 : Nat) : Int)) = -((m : Int) / 10) by omega] at this
      have q1 : IntKind.i64.wrap (-((m : Int) / 10)) = -((m : Int) / 10) := IntWalk.i64_in _ (by omega)
      have q2 : (m : Int).tmod 10 = (m : Int) % 10 := Int.tmod_eq_emod_of_nonneg (by omega)
      have q3 : IntKind.i64.wrap (48 + (m : Int) % 10) = 48 + (m : Int) % 10 := IntWalk.i64_in _ (by omega)
      have q4 : IntKind.u8.wrap (48 + (m : Int) % 10) = 48 + (m : Int) % 10 := IntWalk.u8_in _ (by omega)
      have hd : 48 + (m : Int) % 10 = ((dByte (m % 10)).toNat : Int) := by rw [dByte_toNat _ (by omega)]; omega
      have hcv1 := fun w0 : World => conv_one (w := w0.alloc (.cells #[.int .u8 (48 + (m : Int) % 10)] 5)) (b := w0.heap.size) hd (by rw [World.cell?_alloc_new]; rfl)
      have hcv2 : ∀ w1 : World, Below (w.alloc (.cells #[.int .u8 (48 + (m : Int) % 10)] 5)).heap.size (w.alloc (.cells #[.int .u8 (48 + (m : Int) % 10)] 5)) w1 → _ := fun w1 hb => conv_one (w := w1) (b := w.heap.size) hd ((hb.cell (p := ⟨w.heap.size, 0, none⟩) (by simp)).trans (by rw [World.cell?_alloc_new]; rfl))
      have hcv4 := conv_one (w := (w.alloc (.cells #[.int .u8 (48 + (m : Int) % 10)] 5)).drew) (b := w.heap.size) hd (by show (w.alloc _).cell? _ = _; rw [World.cell?_alloc_new]; rfl)
      have hadd := fun w0 : World => add_one w0 (decN (m / 10)) (decN m) (dByte (m % 10)) (by have := decN_length 18 (m / 10) (by omega); omega) (decN_big m h10)
      have HD := Lib.hid hd
      have HC2 := Lib.hid hcv2
      clear hd hcv2
      go_enter Try.func21, Try.ntmps21
      go_wp2_with fail
      go_region_with (first | (go_at_call 21; (with_reducible refine (ihq _).mono ?_); rintro e w' ⟨rfl, hb⟩; (try have hcv3 := HC2.out _ ⟨hb.os, hb.tape, hb.output, hb.size, hb.block⟩)))
      all_goals go_wp2_with fail
      all_goals go_ret
      all_goals refine ⟨rfl, ?_⟩
      · exact Below.alloc (B := w.heap.size) (a := w) (w := w') ⟨hb.os, hb.tape, hb.output, hb.size, hb.block⟩ hb.size _
      · exact ((Below.refl _ w).alloc (Nat.le_refl _) _).trans (Below.mono (B := (w.alloc (.cells #[.int .u8 (48 + (m : Int) % 10)] 5)).heap.size) ⟨hb.os, hb.tape, hb.output, hb.size, hb.block⟩ (by simp))
      · exact ((Below.refl _ w).alloc (Nat.le_refl _) _).trans (Below.mono (B := (w.alloc (.cells #[.int .u8 (48 + (m : Int) % 10)] 5)).heap.size) ⟨hb.os, hb.tape, hb.output, hb.size, hb.block⟩ (by simp))

theorem refDec_any (n : Int) (w : World) (h0 : -9223372036854775808 ≤ n) (h1 : n ≤ 9223372036854775807) :
    Calls Try.prog 11 #[.int .i64 n] w fun e w' => e = .returned (.string ⟨(decZ n).toArray⟩) ∧ Below w.heap.size w w' := by
  by_cases hn : n < 0
  · have hz : decZ n = 45 :: decN n.natAbs := by unfold decZ; rw [if_pos hn]
    rw [hz]
    clear hz
    obtain ⟨m, hm⟩ : ∃ m : Nat, n = -(m : Int) := ⟨(-n).toNat, by omega⟩
    subst hm
    have hx : (-(m : Int)).natAbs = m := by omega
    rw [hx]
    clear hx
    have hadd := fun w0 : World => add_minus w0 (decN m) (by have := decN_length 19 m (by omega); omega)
    go_enter Try.func11, Try.ntmps11
    go_wp2_with (go_at_call 21; (with_reducible refine (below_any m (by omega) _).mono ?_); rintro e w' ⟨rfl, hb⟩)
    go_ret
    exact ⟨rfl, hb⟩
  · have hz : decZ n = decN n.natAbs := by unfold decZ; rw [if_neg hn]
    rw [hz]
    clear hz
    obtain ⟨m, hm⟩ : ∃ m : Nat, n = (m : Int) := ⟨n.toNat, by omega⟩
    subst hm
    have hx : (m : Int).natAbs = m := by omega
    rw [hx]
    clear hx
    go_enter Try.func11, Try.ntmps11
    go_wp2_with (go_at_call 21; (with_reducible refine (below_any m (by omega) _).mono ?_); rintro e w' ⟨rfl, hb⟩)
    go_ret
    exact ⟨rfl, hb⟩
end Go.Proofs.Ytgfpmjdkjflibaa

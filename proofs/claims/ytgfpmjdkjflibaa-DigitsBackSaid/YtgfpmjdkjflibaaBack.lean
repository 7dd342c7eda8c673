/- The walk of the law DigitsBack. -/
import Derived.Test.YtgfpmjdkjflibaaBackM
import Derived.Deep.RegionHeld3
namespace Go.Proofs.Ytgfpmjdkjflibaa
open Go.RowKit
set_option linter.unusedVariables false

/-- What holds of the world while the law runs: its own copy of the two numbers stands, and nothing that was there has turned. -/
def Kept (w : World) (n0 n1 : Int) (w' : World) : Prop :=
  w'.cell? ⟨w.heap.size, 0, none⟩ = some (.int .i64 n0) ∧ w'.cell? ⟨w.heap.size, 1, none⟩ = some (.int .i64 n1) ∧ Below w.heap.size w w' ∧ w.heap.size < w'.heap.size
theorem Kept.on {w w1 w2 : World} {n0 n1 : Int} (h : Kept w n0 n1 w1) (hb : Below w1.heap.size w1 w2) : Kept w n0 n1 w2 :=
  ⟨(hb.cell (p := ⟨w.heap.size, 0, none⟩) h.2.2.2).trans h.1, (hb.cell (p := ⟨w.heap.size, 1, none⟩) h.2.2.2).trans h.2.1, bt h.2.2.1 hb, Nat.lt_of_lt_of_le h.2.2.2 hb.size⟩
theorem Kept.drew {w w1 : World} {n0 n1 : Int} (h : Kept w n0 n1 w1) : Kept w n0 n1 w1.drew := ⟨h.1, h.2.1, h.2.2.1.drew, h.2.2.2⟩
theorem Kept.start (w : World) (n0 n1 : Int) : Kept w n0 n1 (w.alloc (.cells #[.int .i64 n0, .int .i64 n1] 33)) :=
  ⟨by rw [World.cell?_alloc_new]; rfl, by rw [World.cell?_alloc_new]; rfl, (Below.refl _ _).alloc (Nat.le_refl _) _, by simp⟩

set_option maxHeartbeats 1000000 in
set_option maxRecDepth 100000 in
theorem back_walk (n0 n1 : Int) (a b : ByteArray) (h00 : -9223372036854775808 ≤ n0) (h01 : n0 ≤ 9223372036854775807) (h10 : -9223372036854775808 ≤ n1) (h11 : n1 ≤ 9223372036854775807)
    (ha : (a.size : Int) ≤ 512) (hb : (b.size : Int) ≤ 512) (w : World)
    (p q : Bool) (hn : (n0 == n1) = p) (hd : (decZ n0 == decZ n1) = p) (hab : (a.toList == b.toList) = q) (hx : (hexL a.data.toList == hexL b.data.toList) = q) :
    Calls Try.prog 6 #[.agg #[.int .i64 n0, .int .i64 n1], .string a, .string b] w fun e w' => e = .returned (.bool true) ∧ Below w.heap.size w w' := by
  have K0 := Lib.hid (Kept.start w n0 n1)
  have hc0 := K0.out.1
  have hc1 := K0.out.2.1
  have HA := Lib.hid (fun w0 : World => unhex_hex a w0 (by omega))
  have HXA := Lib.hid (fun w0 : World => hex_any a w0 (by omega))
  have HXB := Lib.hid (fun w0 : World => hex_any b w0 (by omega))
  go_enter Try.func6, Try.ntmps6
  go_wp2_with (first
    | (go_at_call 10; refine (dec_any n0 _ h00 h01).mono ?_; rintro e w1 ⟨rfl, hb1⟩; have K1 := Lib.hid (K0.out.on hb1); clear hb1)
    | (go_at_call 8; refine (num_dec n0 _ h00 h01).mono ?_; rintro e w2 ⟨rfl, rfl⟩)
    | (go_at_call 18; refine (HXA.out _).mono ?_; rintro e w3 ⟨rfl, hb3⟩; have K3 := Lib.hid (K1.out.on hb3); clear hb3)
    | (go_at_call 16; refine (HA.out _).mono ?_; rintro e w4 ⟨rfl, hb4⟩; have K4 := Lib.hid (K3.out.on hb4); clear hb4))
  obtain ⟨k1, k2, k3, k4⟩ := K4.out
  have KB := Lib.hid (Kept.drew K4.out)
  have DN0 := Lib.hid (fun w0 : World => dec_any n0 w0 h00 h01)
  have DN1 := Lib.hid (fun w0 : World => dec_any n1 w0 h10 h11)
  clear k3 k4 hc0 hc1 K0 K1 K3
  go_region_held3 (fun w' => w'.cell? ⟨w.heap.size, 0, none⟩ = some (.int .i64 n0) ∧ w'.cell? ⟨w.heap.size, 1, none⟩ = some (.int .i64 n1) ∧ Kept w n0 n1 w')
    (first | exact ⟨k1, k2, KB.out⟩ | (have hk := Kept.on (by assumption) hbc; exact ⟨hk.1, hk.2.1, hk⟩) | (go_split_ands; have hk := Kept.on (by assumption) hbc; exact ⟨hk.1, hk.2.1, hk⟩) | go_keep)
    (first
      | (go_at_call 10; (with_reducible refine (DN0.out _).mono ?_); rintro e wc ⟨rfl, hbc⟩)
      | (go_at_call 10; (with_reducible refine (DN1.out _).mono ?_); rintro e wc ⟨rfl, hbc⟩)
      | (go_at_call 18; (with_reducible refine (HXA.out _).mono ?_); rintro e wc ⟨rfl, hbc⟩)
      | (go_at_call 18; (with_reducible refine (HXB.out _).mono ?_); rintro e wc ⟨rfl, hbc⟩))
  obtain ⟨r1, r2, KR⟩ : wc.cell? ⟨w.heap.size, 0, none⟩ = some (.int .i64 n0) ∧ wc.cell? ⟨w.heap.size, 1, none⟩ = some (.int .i64 n1) ∧ Kept w n0 n1 wc := by assumption
  have HR := Lib.hid KR
  clear KR K4 KB k1 k2 hbc
  rcases Int.lt_or_le n0 0 with s0 | s0
  · rcases Int.lt_or_le n1 0 with s1 | s1
    · have H1 := Lib.hid (fun w0 : World => octal_less0 n0 w0 s0)
      have H2 := Lib.hid (fun w0 : World => octal_less0 n1 w0 s1)
      go_wp2_with (first
        | (go_at_call 12; (with_reducible refine (H1.out _).mono ?_); rintro e wa ⟨rfl, hb_wa⟩; have KA := Lib.hid (HR.out.on hb_wa); clear hb_wa; have l0 := KA.out.1; have l1 := KA.out.2.1)
        | (go_at_call 12; (with_reducible refine (H2.out _).mono ?_); rintro e wb ⟨rfl, hb_wb⟩; have KC := Lib.hid (KA.out.on hb_wb); clear hb_wb; have m0 := KC.out.1; have m1 := KC.out.2.1)
        | (go_at_call 7; refine (awake_any _).mono ?_; rintro e wz ⟨rfl, hbz⟩))
      go_ret
      exact ⟨rfl, bt KC.out.2.2.1 hbz⟩
    · have H1 := Lib.hid (fun w0 : World => octal_less0 n0 w0 s0)
      have H2 := Lib.hid (fun w0 : World => octal_21i n1 w0 s1 h11)
      go_wp2_with (first
        | (go_at_call 12; (with_reducible refine (H1.out _).mono ?_); rintro e wa ⟨rfl, hb_wa⟩; have KA := Lib.hid (HR.out.on hb_wa); clear hb_wa; have l0 := KA.out.1; have l1 := KA.out.2.1)
        | (go_at_call 12; (with_reducible refine (H2.out _).mono ?_); rintro e wb ⟨rfl, hb_wb⟩; have KC := Lib.hid (KA.out.on hb_wb); clear hb_wb; have m0 := KC.out.1; have m1 := KC.out.2.1)
        | (go_at_call 7; refine (awake_any _).mono ?_; rintro e wz ⟨rfl, hbz⟩))
      go_ret
      exact ⟨rfl, bt KC.out.2.2.1 hbz⟩
  · rcases Int.lt_or_le n1 0 with s1 | s1
    · have H1 := Lib.hid (fun w0 : World => octal_21i n0 w0 s0 h01)
      have H2 := Lib.hid (fun w0 : World => octal_less0 n1 w0 s1)
      go_wp2_with (first
        | (go_at_call 12; (with_reducible refine (H1.out _).mono ?_); rintro e wa ⟨rfl, hb_wa⟩; have KA := Lib.hid (HR.out.on hb_wa); clear hb_wa; have l0 := KA.out.1; have l1 := KA.out.2.1)
        | (go_at_call 12; (with_reducible refine (H2.out _).mono ?_); rintro e wb ⟨rfl, hb_wb⟩; have KC := Lib.hid (KA.out.on hb_wb); clear hb_wb; have m0 := KC.out.1; have m1 := KC.out.2.1)
        | (go_at_call 7; refine (awake_any _).mono ?_; rintro e wz ⟨rfl, hbz⟩))
      go_ret
      exact ⟨rfl, bt KC.out.2.2.1 hbz⟩
    · have hless := octL_lessi n0 n1 s0 h01 s1 h11
      have hlen : (((octL 21 n0.toNat).length : Nat) : Int) = 21 := by rw [octL_length]; rfl
      have H1 := Lib.hid (fun w0 : World => octal_21i n0 w0 s0 h01)
      have H2 := Lib.hid (fun w0 : World => octal_21i n1 w0 s1 h11)
      have H3 := Lib.hid (fun w0 : World => fromOctal_21i n0 w0 s0 h01)
      go_wp2_with (first
        | (go_at_call 12; (with_reducible refine (H1.out _).mono ?_); rintro e wa ⟨rfl, hb_wa⟩; have KA := Lib.hid (HR.out.on hb_wa); clear hb_wa; have l0 := KA.out.1; have l1 := KA.out.2.1)
        | (go_at_call 12; (with_reducible refine (H2.out _).mono ?_); rintro e wb ⟨rfl, hb_wb⟩; have KC := Lib.hid (KA.out.on hb_wb); clear hb_wb; have m0 := KC.out.1; have m1 := KC.out.2.1)
        | (go_at_call 14; (with_reducible refine (H3.out _).mono ?_); rintro e wf ⟨rfl, rfl⟩)
        | (go_at_call 7; refine (awake_any _).mono ?_; rintro e wz ⟨rfl, hbz⟩))
      go_ret
      exact ⟨rfl, bt KC.out.2.2.1 hbz⟩

theorem digitsBack_walk (n0 n1 : Int) (a b : ByteArray) (h00 : -9223372036854775808 ≤ n0) (h01 : n0 ≤ 9223372036854775807) (h10 : -9223372036854775808 ≤ n1) (h11 : n1 ≤ 9223372036854775807) (wa : a.size ≤ maxLen) (wb : b.size ≤ maxLen) (w : World) :
    Calls Try.prog 6 #[.agg #[.int .i64 n0, .int .i64 n1], .string a, .string b] w fun e w' => e = .returned (.bool true) ∧ Below w.heap.size w w' := by
  by_cases hla : 512 < a.size
  · have hl : (512 : Int) < (a.size : Int) := by omega
    have hb0 : Below w.heap.size w (w.alloc (.cells #[.int .i64 n0, .int .i64 n1] 33)) := (Below.refl _ _).alloc (Nat.le_refl _) _
    have HB := Lib.hid hb0
    clear hb0
    go_enter Try.func6, Try.ntmps6
    go_wp2_with (go_at_call 7; refine (awake_any _).mono ?_; rintro e w6 ⟨rfl, hb6⟩)
    go_ret
    exact ⟨rfl, bt HB.out hb6⟩
  · have hl : (a.size : Int) ≤ 512 := by omega
    by_cases hlb : 512 < b.size
    · have hl2 : (512 : Int) < (b.size : Int) := by omega
      have hb0 : Below w.heap.size w (w.alloc (.cells #[.int .i64 n0, .int .i64 n1] 33)) := (Below.refl _ _).alloc (Nat.le_refl _) _
      have HB := Lib.hid hb0
      clear hb0
      go_enter Try.func6, Try.ntmps6
      go_wp2_with (go_at_call 7; refine (awake_any _).mono ?_; rintro e w6 ⟨rfl, hb6⟩)
      go_ret
      exact ⟨rfl, bt HB.out hb6⟩
    · have hl2 : (b.size : Int) ≤ 512 := by omega
      refine back_walk n0 n1 a b h00 h01 h10 h11 hl hl2 w (n0 == n1) (a.toList == b.toList) rfl ?_ rfl ?_
      · rw [Bool.eq_iff_iff]
        simp only [beq_iff_eq]
        exact ⟨fun h => decZ_inj n0 n1 h ⟨h00, h01⟩ ⟨h10, h11⟩, fun h => by rw [h]⟩
      · rw [toList_eq, toList_eq, Bool.eq_iff_iff]
        simp only [beq_iff_eq]
        exact ⟨fun h => hexL_inj _ _ h, fun h => by rw [h]⟩
end Go.Proofs.Ytgfpmjdkjflibaa

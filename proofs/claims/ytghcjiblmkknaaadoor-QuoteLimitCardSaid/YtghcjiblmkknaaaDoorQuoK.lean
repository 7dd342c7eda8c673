/- The walks of the laws QuoteLimit and QuoteBack. -/
import Derived.Test.YtghcjiblmkknaaaDoorQuoZ
namespace Go.Proofs.YtghcjiblmkknaaaDoor
open Go.RowKit
set_option linter.unusedVariables false

theorem add_lists (w0 : World) (x y : List UInt8) (h : x.length + y.length ≤ 9223372036854775807) : (Op.stringOp .add ⟨x.toArray⟩ ⟨y.toArray⟩).run Tryd.prog w0 = .ok (.string ⟨(x ++ y).toArray⟩) w0 := by
  rw [run_string_add_sum w0 _ _ (by simp [ByteArray.size]; omega)]
  exact congrArg (fun z => Result.ok (Value.string z) w0) (ByteArray.mk_append_mk x y)
theorem add_x (w0 : World) (x : List UInt8) (h : x.length + 1 ≤ 9223372036854775807) : (Op.stringOp .add ⟨x.toArray⟩ ⟨#[120]⟩).run Tryd.prog w0 = .ok (.string ⟨(x ++ [120]).toArray⟩) w0 := add_lists w0 x [120] h
theorem mk_list (s : ByteArray) : (⟨s.data.toList.toArray⟩ : ByteArray) = s := by cases s; simp
theorem quoteG_len (l : List UInt8) : (quoteG l).length = (bodyG l).length + 2 := by simp [quoteG]
theorem quoteS_ok (l : List UInt8) (hv : Lib.validD l = true) (hl : l.length ≤ 65536) : quoteS l = .tuple #[.string ⟨(quoteG l).toArray⟩, .int .i64 0] := by
  unfold quoteS; rw [hv, if_pos rfl, if_neg (by omega)]
theorem quoteS_bad (l : List UInt8) (hv : Lib.validD l = false) : quoteS l = .tuple #[.string ⟨#[]⟩, .int .i64 2] := by
  unfold quoteS; rw [hv]; rfl
theorem quoteS_full (l : List UInt8) (hv : Lib.validD l = true) (hl : 65536 < l.length) : quoteS l = .tuple #[.string ⟨#[]⟩, .int .i64 5] := by
  unfold quoteS; rw [hv, if_pos rfl, if_pos hl]

set_option maxRecDepth 100000 in
set_option maxHeartbeats 2000000 in
theorem quoteLimit_any (more : Bool) (w : World) (ht : TabsW w) :
    Calls Tryd.prog 6 #[.bool more] w fun e w' => e = .returned (.bool true) ∧ Below w.heap.size w w' := by
  have HT := Lib.hid ht
  clear ht
  cases more
  · go_enter Tryd.func6, Tryd.ntmps6
    go_wp2
    go_loop [3, 4] (fun tt ii => ∃ (k : Nat) (l : List UInt8), k ≤ 13 ∧ ii = .int .i64 (k : Int) ∧ tt = .string ⟨l.toArray⟩ ∧ Hid (l.length = 8 * 2 ^ k) ∧ Hid (∀ b ∈ l, 97 ≤ b.toNat ∧ b.toNat ≤ 122)) (fun _ ii => 13 - (intOf ii).toNat)
    case atStart => exact ⟨0, [97, 98, 99, 100, 101, 102, 103, 104], by omega, rfl, rfl, rfl, by show ∀ b ∈ _, _; decide⟩
    case round =>
      obtain ⟨k, l, hk, rfl, rfl, hlen, hall⟩ := hrel
      have h13 : 2 ^ k ≤ 2 ^ 13 := Nat.pow_le_pow_right (by omega) hk
      have hll : l.length ≤ 65536 := by have := hlen.out; have e : (2 : Nat) ^ 13 = 8192 := rfl; omega
      by_cases hlt : k < 13
      · have hadd := fun w0 => add_lists w0 l l (by omega)
        have HN := Lib.hid (show (l ++ l).length = 8 * 2 ^ (k + 1) by rw [List.length_append, hlen.out, Nat.pow_succ]; omega)
        have HA := Lib.hid (show ∀ b ∈ l ++ l, 97 ≤ b.toNat ∧ b.toNat ≤ 122 by
          intro b hb
          rcases List.mem_append.1 hb with hb | hb
          · exact hall.out b hb
          · exact hall.out b hb)
        clear h13 hll
        go_wp2
        go_round
        case rel => exact ⟨k + 1, l ++ l, by omega, by go_num, rfl, HN.out, HA.out⟩
        case measure => simp [intOf]; omega
      · have hk13 : k = 13 := by omega
        have hl2 : l.length = 65536 := by rw [hlen.out, hk13]
        have hp := body_plain l hall.out
        obtain ⟨Q, hQ⟩ : ∃ Q : ByteArray, (⟨(quoteG l).toArray⟩ : ByteArray) = Q := ⟨_, rfl⟩
        have hq := fun w0 => quote_any ⟨l.toArray⟩ w0 (by show l.length ≤ _; omega)
        change ∀ w0, Calls Tryd.prog 8 #[.string ⟨l.toArray⟩] w0 fun e w' => e = .returned (quoteS l) ∧ Below w0.heap.size w0 w' at hq
        rw [quoteS_ok l hp.2 (by omega), hQ] at hq
        have hQs : ((Q.size : Int) == 65538) = true := by
          have : Q.size = l.length + 2 := by rw [← hQ]; show (quoteG l).length = _; rw [quoteG_len, hp.1]
          rw [this, hl2]; rfl
        have HQ := Lib.hid hq
        clear hq hQ hp hl2 h13 hll hlen hall
        go_wp2_with (first
          | (go_at_call 8; (with_reducible refine (HQ.out _).mono ?_); rintro e w1 ⟨rfl, hb1⟩; have HB1 := Lib.hid hb1; have HT1 := Lib.hid (HT.out.below hb1); clear hb1)
          | (go_at_call 7; (with_reducible refine (awake4_any _ HT1.out).mono ?_); rintro e w2 ⟨rfl, hb2⟩; have HB2 := Lib.hid hb2; clear hb2))
        go_ret
        exact ⟨rfl, btz HB1.out HB2.out⟩
  · go_enter Tryd.func6, Tryd.ntmps6
    go_wp2
    go_loop [3, 4] (fun tt ii => ∃ (k : Nat) (l : List UInt8), k ≤ 13 ∧ ii = .int .i64 (k : Int) ∧ tt = .string ⟨l.toArray⟩ ∧ Hid (l.length = 8 * 2 ^ k) ∧ Hid (∀ b ∈ l, 97 ≤ b.toNat ∧ b.toNat ≤ 122)) (fun _ ii => 13 - (intOf ii).toNat)
    case atStart => exact ⟨0, [97, 98, 99, 100, 101, 102, 103, 104], by omega, rfl, rfl, rfl, by show ∀ b ∈ _, _; decide⟩
    case round =>
      obtain ⟨k, l, hk, rfl, rfl, hlen, hall⟩ := hrel
      have h13 : 2 ^ k ≤ 2 ^ 13 := Nat.pow_le_pow_right (by omega) hk
      have hll : l.length ≤ 65536 := by have := hlen.out; have e : (2 : Nat) ^ 13 = 8192 := rfl; omega
      by_cases hlt : k < 13
      · have hadd := fun w0 => add_lists w0 l l (by omega)
        have HN := Lib.hid (show (l ++ l).length = 8 * 2 ^ (k + 1) by rw [List.length_append, hlen.out, Nat.pow_succ]; omega)
        have HA := Lib.hid (show ∀ b ∈ l ++ l, 97 ≤ b.toNat ∧ b.toNat ≤ 122 by
          intro b hb
          rcases List.mem_append.1 hb with hb | hb
          · exact hall.out b hb
          · exact hall.out b hb)
        clear h13 hll
        go_wp2
        go_round
        case rel => exact ⟨k + 1, l ++ l, by omega, by go_num, rfl, HN.out, HA.out⟩
        case measure => simp [intOf]; omega
      · have hk13 : k = 13 := by omega
        have hl2 : l.length = 65536 := by rw [hlen.out, hk13]
        obtain ⟨m, hm⟩ : ∃ m, l ++ [120] = m := ⟨_, rfl⟩
        have hp := body_plain m (by
          intro b hb
          rw [← hm] at hb
          rcases List.mem_append.1 hb with hb | hb
          · exact hall.out b hb
          · simp at hb; subst hb; decide)
        have hadd : ∀ w0, (Op.stringOp .add ⟨l.toArray⟩ ⟨#[120]⟩).run Tryd.prog w0 = .ok (.string ⟨m.toArray⟩) w0 := fun w0 => hm ▸ add_x w0 l (by omega)
        have hl3 : m.length = 65537 := by rw [← hm, List.length_append, hl2]; rfl
        have hq := fun w0 => quote_any ⟨m.toArray⟩ w0 (by show m.length ≤ _; omega)
        change ∀ w0, Calls Tryd.prog 8 #[.string ⟨m.toArray⟩] w0 fun e w' => e = .returned (quoteS m) ∧ Below w0.heap.size w0 w' at hq
        rw [quoteS_full m hp.2 (by omega)] at hq
        obtain ⟨Q, hQ⟩ : ∃ Q : ByteArray, (⟨m.toArray⟩ : ByteArray) = Q := ⟨_, rfl⟩
        rw [hQ] at hq hadd
        have HQ := Lib.hid hq
        clear hm hq hQ hp hl2 hl3 h13 hll hlen hall
        go_wp2_with (first
          | (go_at_call 8; (with_reducible refine (HQ.out _).mono ?_); rintro e w1 ⟨rfl, hb1⟩; have HB1 := Lib.hid hb1; have HT1 := Lib.hid (HT.out.below hb1); clear hb1)
          | (go_at_call 7; (with_reducible refine (awake4_any _ HT1.out).mono ?_); rintro e w2 ⟨rfl, hb2⟩; have HB2 := Lib.hid hb2; clear hb2))
        go_ret
        exact ⟨rfl, btz HB1.out HB2.out⟩
end Go.Proofs.YtghcjiblmkknaaaDoor

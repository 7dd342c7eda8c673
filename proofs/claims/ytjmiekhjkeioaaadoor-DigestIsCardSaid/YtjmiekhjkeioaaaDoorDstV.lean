/- The walks of the laws DigestLazy and DigestNobody. -/
import Derived.Test.YtjmiekhjkeioaaaDoorDstW
namespace Go.Proofs.YtjmiekhjkeioaaaDoor
open Go.RowKit
set_option linter.unusedVariables false

/-- What holds in the rounds: the Lazy, the table, all that was there. -/
def LzInv (w : World) (b : Nat) (s : ByteArray) (wr : World) : Prop := (∃ k, LzOf wr b s k) ∧ TabOK wr ∧ Keeps w wr ∧ b < wr.heap.size
theorem LzOf.lt {w : World} {b : Nat} {s : ByteArray} {k : Bool} (h : LzOf w b s k) : b < w.heap.size := by
  cases k
  · exact World.rowIs.lt (show LzIs w b s 0 0 ⟨#[]⟩ 0 from h)
  · exact World.rowIs.lt (show LzIs w b s 1 0 (digS s.data.toList) 1 from h)
theorem LzOf.of_block {w w' : World} {b : Nat} {s : ByteArray} {k : Bool} (h : LzOf w b s k) (e : w'.heap[b]? = w.heap[b]?) : LzOf w' b s k := by
  cases k
  · exact LzIs.of_block (show LzIs w b s 0 0 ⟨#[]⟩ 0 from h) e
  · exact LzIs.of_block (show LzIs w b s 1 0 (digS s.data.toList) 1 from h) e
theorem Keeps.only {u w w' : World} (h : Keeps u w) {b : Nat} (o : Only b w w') (hb : u.heap.size ≤ b) : Keeps u w' := h.low (o.to_below hb h.size)
theorem lz_start (w : World) (s : ByteArray) (ht : TabOK w) : LzInv w w.heap.size s (w.alloc (.cells #[.string s, .int .u32 0, .int .i32 0, .int .u32 0, .string ⟨#[]⟩, .int .i64 0] 48)) :=
  ⟨⟨false, lz_new w s⟩, ht.keeps ((Keeps.refl w).alloc _), (Keeps.refl w).alloc _, (lz_new w s).lt⟩

set_option maxRecDepth 100000 in
set_option maxHeartbeats 1000000 in
theorem dlazy_any (s : ByteArray) (n : Int) (h0 : 0 ≤ n) (h255 : n < 256) (w : World) (ht : TabOK w) :
    Calls Tryd.prog 4 #[.string s, .int .u8 n] w fun e w' => e = .returned (.bool true) ∧ Keeps w w' := by
  have HT := Lib.hid ht
  by_cases hs : 1024 < s.size
  · have hs1 : (1024 : Int) < (s.size : Int) := by omega
    clear ht
    go_enter Tryd.func4, Tryd.ntmps4
    go_wp2_with (go_at_call 6; refine (awake3_any _ HT.out).mono ?_; rintro e w3 ⟨rfl, hb3⟩)
    go_ret
    exact ⟨rfl, Keeps.of_below hb3⟩
  · have hs1 : (s.size : Int) ≤ 1024 := by omega
    have hl : s.data.toList.length ≤ 900000 := by
      have : s.data.toList.length = s.size := by simp
      omega
    have HB0 := Lib.hid (show w.heap.size ≠ 0 by have := ht.1; omega)
    have H2 := Lib.hid (fun w0 => refOf_any s w0 hl)
    have HS := Lib.hid (lz_start w s ht)
    have HN := Lib.hid (lz_new w s)
    have H1 := Lib.hid (fun (b : Nat) (k : Bool) (w0 : World) (hr : LzOf w0 b s k) (h : TabOK w0) (hb : b ≠ 0) => text_any b s k w0 hr h hb hl)
    clear ht hs hl
    generalize digS s.data.toList = D at H1 H2
    obtain ⟨m, hm⟩ : ∃ m : Nat, (m : Int) = n % 8 := ⟨(n % 8).toNat, by omega⟩
    have hm8 : m < 8 := by omega
    have hand : bits .and .u8 n 7 = (m : Int) := by rw [u8_and7 (x := n) h0 h255, hm]
    clear hm h0 h255
    have hmm : (0 : Int) ≤ (m : Int) := by omega
    go_enter Tryd.func4, Tryd.ntmps4
    go_wp2_with (first
      | (go_at_call 12; refine (newl_any s _).mono ?_; rintro e w1 ⟨rfl, rfl⟩)
      | (go_at_call 13; refine (made_any _ HN.out).mono ?_; rintro e w1 ⟨rfl, rfl⟩)
      | (go_at_call 14; refine (bytes_any _ HN.out).mono ?_; rintro e w1 ⟨rfl, rfl⟩))
    generalize World.alloc _ _ = w1 at HS HN ⊢
    clear HN
    have hwb : w.heap.size ≤ w.heap.size := Nat.le_refl _
    generalize hb : w.heap.size = b at HS HB0 ⊢
    have HBW : Hid (w.heap.size ≤ b) := by rw [hb]; exact Nat.le_refl b
    clear hb hwb
    go_loopw [6] (fun i wr => ∃ k : Nat, k ≤ m ∧ i = .int .i64 k ∧ Hid (LzInv w b s wr)) (fun i _ => m - (intOf i).toNat)
    case atStart => exact ⟨0, Nat.zero_le _, rfl, HS⟩
    case round =>
      clear HS
      obtain ⟨k, hk, rfl, HI⟩ := hrel
      by_cases hlt : k < m
      · obtain ⟨⟨a, ha⟩, hT, hK, hbl⟩ := HI.out
        have HA := Lib.hid ha
        have HTR := Lib.hid hT
        have HKR := Lib.hid hK
        clear ha hT hK hbl HI
        go_wp2_with (first
          | (go_at_call 15; refine (H1.out b a _ HA.out HTR.out HB0.out).mono ?_; rintro e wa ⟨rfl, hra, hoa⟩; have HRA := Lib.hid hra; have HKA := Lib.hid (HKR.out.only hoa HBW.out); have HTA := Lib.hid (HTR.out.only HB0.out hoa); clear hra hoa)
          | (go_at_call 8; refine (H2.out _).mono ?_; rintro e wb ⟨rfl, hkb⟩; have HKB := Lib.hid (HKA.out.trans hkb); have HTB := Lib.hid (HTA.out.keeps hkb); have HRB := Lib.hid (HRA.out.of_block (hkb.block b HRA.out.lt)); clear hkb)
          | (go_at_call 13; refine (made_any _ HRB.out).mono ?_; rintro e w1 ⟨rfl, rfl⟩)
          | (go_at_call 14; refine (bytes_any _ HRB.out).mono ?_; rintro e w1 ⟨rfl, rfl⟩))
        go_roundw
        case rel => exact ⟨k + 1, by omega, by go_num, ⟨true, HRB.out⟩, HTB.out, HKB.out, HRB.out.lt⟩
        case measure => simp [intOf]; omega
      · have hkm : k = m := by omega
        go_wp2_with (go_at_call 6; refine (awake3_any _ HI.out.2.1).mono ?_; rintro e w3 ⟨rfl, hb3⟩)
        go_ret
        exact ⟨rfl, HI.out.2.2.1.below hb3⟩

theorem u8_and3 {x : Int} (h0 : 0 ≤ x) (h1 : x < 256) : bits .and .u8 x 3 = x % 4 := bits_mask .u8 8 (by decide) wraps_u8 2 (by decide) x h0 h1

set_option maxRecDepth 100000 in
set_option maxHeartbeats 1000000 in
theorem dnobody_any (n : Int) (h0 : 0 ≤ n) (h255 : n < 256) (w : World) (ht : TabOK w) :
    Calls Tryd.prog 5 #[.int .u8 n] w fun e w' => e = .returned (.bool true) ∧ Keeps w w' := by
  have HB0 := Lib.hid (show w.heap.size ≠ 0 by have := ht.1; omega)
  have H2 := Lib.hid (fun w0 => refOf_any ⟨#[]⟩ w0 (by decide))
  have HS := Lib.hid (lz_start w ⟨#[]⟩ ht)
  have H1 := Lib.hid (fun (b : Nat) (k : Bool) (w0 : World) (hr : LzOf w0 b ⟨#[]⟩ k) (h : TabOK w0) (hb : b ≠ 0) => text_any b ⟨#[]⟩ k w0 hr h hb (by decide))
  have H3 := Lib.hid text_nil
  clear ht
  rw [show (ByteArray.mk #[]).data.toList = [] from rfl] at H1 H2
  generalize digS [] = D at H1 H2 H3
  obtain ⟨m, hm⟩ : ∃ m : Nat, (m : Int) = n % 4 := ⟨(n % 4).toNat, by omega⟩
  have hm4 : m < 4 := by omega
  have hand : bits .and .u8 n 3 = (m : Int) := by rw [u8_and3 h0 h255, hm]
  clear hm h0 h255
  have hmm : (0 : Int) ≤ (m : Int) := by omega
  have hw : IntKind.i64.wrap (1 + (m : Int)) = 1 + (m : Int) := IntWalk.i64_in _ (by omega)
  go_enter Tryd.func5, Tryd.ntmps5
  go_wp2_with fail
  generalize World.alloc _ _ = w1 at HS ⊢
  generalize hb : w.heap.size = b at HS HB0 ⊢
  have HBW : Hid (w.heap.size ≤ b) := by rw [hb]; exact Nat.le_refl b
  clear hb
  go_loopw [5] (fun i wr => ∃ k : Nat, k ≤ 1 + m ∧ i = .int .i64 k ∧ Hid (LzInv w b ⟨#[]⟩ wr)) (fun i _ => 1 + m - (intOf i).toNat)
  case atStart => exact ⟨0, Nat.zero_le _, rfl, HS⟩
  case round =>
    clear HS
    obtain ⟨k, hk, rfl, HI⟩ := hrel
    by_cases hlt : k < 1 + m
    · obtain ⟨⟨a, ha⟩, hT, hK, hbl⟩ := HI.out
      have HA := Lib.hid ha
      have HTR := Lib.hid hT
      have HKR := Lib.hid hK
      have hlt' : (k : Int) < 1 + (m : Int) := by omega
      clear ha hT hK hbl HI
      go_wp2_with (first
        | (go_at_call 15; (with_reducible refine (H3.out wr HTR.out).mono ?_); rintro e wx ⟨rfl, hbx⟩; have HKX := Lib.hid (HKR.out.below hbx); have HTX := Lib.hid (HTR.out.below hbx); have HAX := Lib.hid (HA.out.of_block (hbx.block b HA.out.lt)); clear hbx)
        | (go_at_call 8; (with_reducible refine (H2.out wx).mono ?_); rintro e wy ⟨rfl, hky⟩; have HKY := Lib.hid (HKX.out.trans hky); have HTY := Lib.hid (HTX.out.keeps hky); have HAY := Lib.hid (HAX.out.of_block (hky.block b HAX.out.lt)); clear hky)
        | (go_at_call 14; (with_reducible refine (bytes_nil _).mono ?_); rintro e w1 ⟨rfl, rfl⟩)
        | (go_at_call 13; (with_reducible refine (made_nil _).mono ?_); rintro e w1 ⟨rfl, rfl⟩)
        | (go_at_call 15; (with_reducible refine (H1.out b a _ HAY.out HTY.out HB0.out).mono ?_); rintro e wa ⟨rfl, hra, hoa⟩; have HRA := Lib.hid hra; have HKA := Lib.hid (HKY.out.only hoa HBW.out); have HTA := Lib.hid (HTY.out.only HB0.out hoa); clear hra hoa)
        | (go_at_call 8; (with_reducible refine (H2.out wa).mono ?_); rintro e wb ⟨rfl, hkb⟩; have HKB := Lib.hid (HKA.out.trans hkb); have HTB := Lib.hid (HTA.out.keeps hkb); have HRB := Lib.hid (HRA.out.of_block (hkb.block b HRA.out.lt)); clear hkb)
        | (go_at_call 13; (with_reducible refine (made_any _ HRB.out).mono ?_); rintro e w1 ⟨rfl, rfl⟩)
        | (go_at_call 14; (with_reducible refine (bytes_any _ HRB.out).mono ?_); rintro e w1 ⟨rfl, rfl⟩))
      go_roundw
      case rel => exact ⟨k + 1, by omega, by go_num, ⟨true, HRB.out⟩, HTB.out, HKB.out, HRB.out.lt⟩
      case measure => simp [intOf]; omega
    · have hlt' : ¬ (k : Int) < 1 + (m : Int) := by omega
      go_wp2_with (go_at_call 6; refine (awake3_any _ HI.out.2.1).mono ?_; rintro e w3 ⟨rfl, hb3⟩)
      go_ret
      exact ⟨rfl, HI.out.2.2.1.below hb3⟩
end Go.Proofs.YtjmiekhjkeioaaaDoor

/- Contracts of quote.writeLetter and quote.Quote: a letter in the one form, and a text between quotes. -/
import Derived.Test.YtnjikipncgbjjaaGreatDoorQuoI
namespace Go.Proofs.YtnjikipncgbjjaaGreatDoor
open Go.RowKit
set_option linter.unusedVariables false
set_option maxRecDepth 100000

theorem short_ix (n : Nat) (h : 0 < shortG n) : ∃ i : Nat, ixG n = (i : Int) ∧ i < 7 ∧ ∀ hi : i < (⟨#[34, 92, 98, 102, 110, 114, 116]⟩ : ByteArray).size, ((⟨#[34, 92, 98, 102, 110, 114, 116]⟩ : ByteArray)[i]'hi) = UInt8.ofNat (shortG n) := by
  have hs' : n = 34 ∨ n = 92 ∨ n = 8 ∨ n = 12 ∨ n = 10 ∨ n = 13 ∨ n = 9 := by
    unfold shortG at h
    repeat' split at h
    all_goals omega
  rcases hs' with rfl | rfl | rfl | rfl | rfl | rfl | rfl
  · exact ⟨0, rfl, by omega, fun _ => rfl⟩
  · exact ⟨1, rfl, by omega, fun _ => rfl⟩
  · exact ⟨2, rfl, by omega, fun _ => rfl⟩
  · exact ⟨3, rfl, by omega, fun _ => rfl⟩
  · exact ⟨4, rfl, by omega, fun _ => rfl⟩
  · exact ⟨5, rfl, by omega, fun _ => rfl⟩
  · exact ⟨6, rfl, by omega, fun _ => rfl⟩
theorem short_not (n : Nat) (h : ¬ 0 < shortG n) : ixG n = -1 := by
  have h0 : shortG n = 0 := by omega
  unfold shortG at h0
  unfold ixG
  repeat' split at h0
  all_goals first | omega | simp_all
theorem short_lt (n : Nat) : shortG n < 128 := by
  unfold shortG
  repeat' split
  all_goals omega
theorem conv_low (n : Nat) (h : n < 128) (w0 : World) : (convert 21 9 (.int .i32 (n : Int))).run Tryz.prog w0 = .ok (.string ⟨#[UInt8.ofNat n]⟩) w0 := by
  rw [run_convert_int_string w0 _ _ .i32 _ (by kernel_rfl) Tryz.underlying9]
  have hv : Utf8.valid (n : Int) = true := by rw [validRune_eq]; unfold validRune; simp; omega
  unfold Utf8.encode
  simp only [hv, if_true]
  rw [if_pos (by omega)]
  rfl

theorem letter_any (n : Nat) (hn : isLet n) (b : Nat) (acc : List UInt8) (w : World) (h : Bd b acc w) (hlen : acc.length + 6 ≤ 140737488355328) (hB : b ≤ w.heap.size) :
    Calls Tryz.prog 100 #[.pointer (some ⟨b, 0, none⟩), .int .i32 (n : Int)] w fun e w' => e = .returned (.tuple #[]) ∧ Bd b (acc ++ canonG n) w' ∧ Aft b w w' := by
  by_cases hs : 0 < shortG n
  · obtain ⟨i, hix, hi7, hidx⟩ := short_ix n hs
    have HC := Lib.hid (show canonG n = [92] ++ [UInt8.ofNat (shortG n)] by unfold canonG; rw [if_pos hs]; rfl)
    have hsl := short_lt n
    have HD := Lib.hid hidx
    have hir := fun w0 => (indexRune_any n hn w0)
    rw [hix] at hir
    have hi0 : (0 : Int) ≤ (i : Int) := by omega
    have hi1 : (i : Int) < 7 := by omega
    clear hidx hix hs hn
    go_enter Tryz.func100, Tryz.ntmps100
    go_wp2_with (go_at_call 117; refine (hir _).mono ?_)
    first | rintro e W1 rfl b1 | rintro e W1 ⟨rfl, b1⟩
    have B1 := h.below b1
    have A1 := Lib.hid (Aft.of_below hB b1)
    have S1 := b1.size
    clear b1 h
    go_wp2_with (go_at_call 99; refine (wByte b acc 92 92 rfl _ B1 (by omega) (by omega)).mono ?_)
    first | rintro e W2 rfl B2 a2 | rintro e W2 ⟨rfl, B2, a2⟩
    have S2 := a2.size
    have A2 := Lib.hid (A1.out.trans a2)
    clear a2 B1 A1
    go_wp2_with (go_at_call 99; refine (wByte b (acc ++ [92]) (UInt8.ofNat (shortG n)) _ (by rw [HD.out]) _ B2 (by simp; omega) (by omega)).mono ?_)
    first | rintro e W3 rfl B3 a3 | rintro e W3 ⟨rfl, B3, a3⟩
    go_wp2_with fail
    refine bodyPost_ret (results_none rfl _ _ _) rfl ?_
    refine ⟨rfl, ?_, A2.out.trans a3⟩
    rw [HC.out, ← List.append_assoc]; exact B3
  · have hix := short_not n hs
    have hir := fun w0 => (indexRune_any n hn w0)
    rw [hix] at hir
    by_cases hc : n < 32 ∨ n = 127
    · have HC := Lib.hid (show canonG n = [92, 117, 48, 48] ++ hexL [UInt8.ofNat n] by
        unfold canonG; rw [if_neg hs, if_pos hc]
        have : (UInt8.ofNat n).toNat = n := by rw [UInt8.toNat_ofNat']; omega
        simp [hexL, this])
      have hcv := fun w0 : World => conv_low n (by omega) w0
      have key : ((n : Int) < 32) ∨ (¬ (n : Int) < 32 ∧ ((n : Int) == 127) = true) := by
        rcases hc with hc | hc
        · left; omega
        · right; refine ⟨by omega, by simp; omega⟩
      clear hc hs hn hix
      rcases key with k1 | ⟨k1, k2⟩
      all_goals
        go_enter Tryz.func100, Tryz.ntmps100
        go_wp2_with (go_at_call 117; refine (hir _).mono ?_)
        first | rintro e W1 rfl b1 | rintro e W1 ⟨rfl, b1⟩
        have B1 := h.below b1
        have A1 := Lib.hid (Aft.of_below hB b1)
        have S1 := b1.size
        clear b1 h
        go_wp2_with (go_at_call 78; refine (wString b acc ⟨#[92, 117, 48, 48]⟩ _ B1 (by show _ + 4 ≤ _; omega) (by omega)).mono ?_)
        first | rintro e W2 rfl B2 a2 | rintro e W2 ⟨rfl, B2, a2⟩
        have S2 := a2.size
        have A2 := Lib.hid (A1.out.trans a2)
        clear a2 B1 A1
        go_wp2_with (go_at_call 118; refine (hex_any ⟨#[UInt8.ofNat n]⟩ _ (by show 1 ≤ _; omega)).mono ?_)
        first | rintro e W3 rfl b3 | rintro e W3 ⟨rfl, b3⟩
        have B3 := B2.below b3
        have S3 := b3.size
        have A3 := Lib.hid (A2.out.trans (Aft.of_below (by omega) b3))
        clear b3 B2 A2
        go_wp2_with (go_at_call 78; refine (wString b _ _ _ B3 (by simp [ByteArray.size, hexL]; omega) (by omega)).mono ?_)
        first | rintro e W4 rfl B4 a4 | rintro e W4 ⟨rfl, B4, a4⟩
        go_wp2_with fail
        refine bodyPost_ret (results_none rfl _ _ _) rfl ?_
        refine ⟨rfl, ?_, A3.out.trans a4⟩
        rw [HC.out]; exact B4
    · have HC := Lib.hid (show canonG n = enc n by unfold canonG; rw [if_neg hs, if_neg hc])
      have k1 : ¬ (n : Int) < 32 := by omega
      have k2 : ((n : Int) == 127) = false := by simp; omega
      have hn2 : n ≤ 1114111 := by unfold isLet at hn; omega
      clear hc hs hn hix
      go_enter Tryz.func100, Tryz.ntmps100
      go_wp2_with (go_at_call 117; refine (hir _).mono ?_)
      first | rintro e W1 rfl b1 | rintro e W1 ⟨rfl, b1⟩
      have B1 := h.below b1
      have A1 := Lib.hid (Aft.of_below hB b1)
      have S1 := b1.size
      clear b1 h
      go_wp2_with (go_at_call 119; refine (wRune b acc (n : Int) (by omega) (by omega) _ B1 (by omega) (by omega)).mono ?_)
      first | rintro e W2 ⟨_, rfl⟩ B2 a2 | rintro e W2 _ rfl B2 a2 | rintro e W2 ⟨⟨_, rfl⟩, B2, a2⟩
      go_wp2_with fail
      refine bodyPost_end (results_none rfl _ _ _) rfl ?_
      refine ⟨rfl, ?_, A1.out.trans a2⟩
      rw [HC.out]; exact B2

/-- What Quote answers. -/
def quoteS (l : List UInt8) : Value := if Lib.validD l then (if 65536 < l.length then .tuple #[.string ⟨#[]⟩, .int .i64 5] else .tuple #[.string ⟨(quoteG l).toArray⟩, .int .i64 0]) else .tuple #[.string ⟨#[]⟩, .int .i64 2]

theorem quote_any (s : ByteArray) (w : World) (hs : s.size ≤ 1048576) :
    Calls Tryz.prog 79 #[.string s] w fun e w' => e = .returned (quoteS s.data.toList) ∧ Below w.heap.size w w' := by
  have hl : s.data.toList.length = s.size := by simp
  cases hv : Lib.validD s.data.toList with
  | false =>
    have HQ := Lib.hid (show quoteS s.data.toList = .tuple #[.string ⟨#[]⟩, .int .i64 2] by unfold quoteS; rw [hv]; rfl)
    have hva := fun w0 => valid_any s w0 (by omega)
    rw [hv] at hva
    clear hl hv
    go_enter Tryz.func79, Tryz.ntmps79
    go_wp2_with (go_at_call 62; refine (hva _).mono ?_)
    first | rintro e W1 rfl b1 | rintro e W1 ⟨rfl, b1⟩
    have B1 := Lib.hid b1
    clear b1
    go_wp2_with fail
    go_ret2
    exact ⟨by rw [HQ.out]; rfl, B1.out⟩
  | true =>
    have hva := fun w0 => valid_any s w0 (by omega)
    rw [hv] at hva
    by_cases hbig : 65536 < s.size
    · have HQ := Lib.hid (show quoteS s.data.toList = .tuple #[.string ⟨#[]⟩, .int .i64 5] by unfold quoteS; rw [hv, if_pos rfl, if_pos (by omega)])
      have hb : (65536 : Int) < (s.size : Int) := by omega
      clear hl hv
      go_enter Tryz.func79, Tryz.ntmps79
      go_wp2_with (go_at_call 62; refine (hva _).mono ?_)
      first | rintro e W1 rfl b1 | rintro e W1 ⟨rfl, b1⟩
      have B1 := Lib.hid b1
      clear b1
      go_wp2_with fail
      go_ret2
      exact ⟨by rw [HQ.out]; rfl, B1.out⟩
    · have HQ := Lib.hid (show quoteS s.data.toList = .tuple #[.string ⟨(quoteG s.data.toList).toArray⟩, .int .i64 0] by unfold quoteS; rw [hv, if_pos rfl, if_neg (by omega)])
      have hb : (s.size : Int) ≤ 65536 := by omega
      have HL := Lib.hid hl
      have HV := Lib.hid hv
      clear hl hv
      go_enter Tryz.func79, Tryz.ntmps79
      go_wp2_with (go_at_call 62; refine (hva _).mono ?_)
      first | rintro e W1 rfl b1 | rintro e W1 ⟨rfl, b1⟩
      have B1 := Lib.hid b1
      have S1 := b1.size
      clear b1
      go_wp2_with (go_at_call 99; refine (wByte W1.heap.size [] 34 34 rfl _ (fresh_Bd W1) (by simp) (by simp)).mono ?_)
      first | rintro e W2 rfl B2 a2 | rintro e W2 ⟨rfl, B2, a2⟩
      have S2 := a2.size
      have A2 := Lib.hid a2
      simp only [World.size_alloc] at S2
      have L2 := Lib.hid ((B1.out.alloc S1 _).trans (below_low S1 a2.1))
      have HB := Lib.hid (show W1.heap.size < W2.heap.size by omega)
      clear a2 hva B1 A2
      go_wp2_with fail
      go_loopw [] (fun wr => ∃ (pos : Nat) (acc : List UInt8), pos ≤ s.size ∧ Bd W1.heap.size acc wr ∧ wr.heap[W2.heap.size]? = some (.stringIter s pos) ∧ Hid (Below w.heap.size w wr) ∧ Hid (acc ++ bodyG (s.data.toList.drop pos) = 34 :: bodyG s.data.toList) ∧ Hid (Lib.validD (s.data.toList.drop pos) = true) ∧ Hid (acc.length ≤ 6 * pos + 1)) (fun wr => s.size - wr.iterPos W2.heap.size)
      case atStart =>
        refine ⟨0, [34], Nat.zero_le _, B2.alloc _, ?_, L2.out.alloc (by omega) _, rfl, HV.out, by show 1 ≤ _; omega⟩
        have := World.iter_heap W2 s 0
        simpa using this
      case round =>
        obtain ⟨pos, acc, hpos, hI, hit, hbel, hacc, hval, hal⟩ := hrel
        have hsz : W2.heap.size < wr.heap.size := (Array.getElem?_eq_some_iff.1 hit).1
        by_cases hp : pos < s.size
        · have hnx : ∀ ty, (Instr.next (.pointer (some ⟨W2.heap.size, 0, none⟩)) true ty).run Tryz.prog wr = _ := fun ty => Lib.run_next_any_at wr W2.heap.size s pos ty hit hp
          have hne : s.data.toList.drop pos ≠ [] := by
            intro h
            have := congrArg List.length h
            rw [List.length_drop, HL.out] at this; simp at this; omega
          have hv := valid_step _ hne
          have hst := bodyG_step _ hne
          have hdl := Lib.decodeL_drop s pos
          cases hL : letterG (s.data.toList.drop pos) with
          | none => rw [hL, hval.out] at hv; cases hv
          | some x =>
            obtain ⟨n, k⟩ := x
            obtain ⟨i1, i2, i3, i4, i5, i6, i7⟩ := letter_facts hL
            rw [List.length_drop, HL.out] at i4
            rw [hL, hval.out] at hv
            simp only [List.drop_drop] at hv
            rw [i7] at hst
            simp only [List.drop_drop] at hst
            rw [hdl] at i7
            have HV2 := Lib.hid hv.symm
            have HS := Lib.hid hst
            have hit2 := Lib.iterAt_heap wr W2.heap.size s pos (pos + k) hit
            have hI2 := hI.iterAt hit (pos + k)
            have hbw2 := Lib.hid (Lib.below_iterAt hbel.out (k := W2.heap.size) (by have := HB.out; omega) s (pos + k))
            have hsz2 : wr.heap.size ≤ (wr.iterAt W2.heap.size s (pos + k)).heap.size := by rw [Lib.iterAt_size]; omega
            rw [i7] at hnx
            simp only at hnx
            have HI1 := Lib.hid i1
            have HB2 := Lib.hid hbel
            clear hv hst hdl hL i5 i6 i7 hval i1 hI hbel
            generalize wr.iterAt W2.heap.size s (pos + k) = wq at hnx hit2 hI2 hbw2 hsz2
            go_wp2_with (go_at_call 100; refine (letter_any n HI1.out W1.heap.size acc _ hI2 (by have := hal.out; omega) (by have := HB.out; omega)).mono ?_)
            first | rintro e W3 rfl B3 a3 | rintro e W3 ⟨rfl, B3, a3⟩
            have hit3 := a3.2.iter hit2 (by have := HB.out; omega)
            have L3 := Lib.hid (hbw2.out.trans (below_low S1 a3.1))
            clear a3 hI2 hnx
            go_wp2_with fail
            go_roundw
            case rel =>
              refine ⟨pos + k, acc ++ canonG n, by omega, B3, hit3, L3.out, ?_, HV2.out, ?_⟩
              · show acc ++ canonG n ++ _ = _
                rw [← hacc.out, HS.out, List.append_assoc]
              · show (acc ++ canonG n).length ≤ _
                have := canonG_len n
                have := hal.out
                rw [List.length_append]; omega
            case measure =>
              simp only [World.iterPos, hit3, hit]
              omega
        · have hnx : ∀ ty, (Instr.next (.pointer (some ⟨W2.heap.size, 0, none⟩)) true ty).run Tryz.prog wr = _ := fun ty => Lib.run_next_end_at wr W2.heap.size s pos ty hit hp
          have HE := Lib.hid (show acc ++ [34] = quoteG s.data.toList by
            have := hacc.out
            rw [List.drop_of_length_le (by rw [HL.out]; omega), bodyG_nil, List.append_nil] at this
            rw [this]; rfl)
          clear hacc hval
          go_wp2_with (go_at_call 99; refine (wByte W1.heap.size acc 34 34 rfl _ hI (by have := hal.out; omega) (by have := HB.out; omega)).mono ?_)
          first | rintro e W3 rfl B3 a3 | rintro e W3 ⟨rfl, B3, a3⟩
          have S3 := a3.size
          have L3 := Lib.hid (hbel.out.trans (below_low S1 a3.1))
          clear a3 hI hnx hbel
          go_wp2_with (go_at_call 30; refine (bString W1.heap.size _ _ B3 (by have := HB.out; omega)).mono ?_)
          first | rintro e W4 rfl a4 | rintro e W4 ⟨rfl, a4⟩
          have L4 := Lib.hid (L3.out.trans (below_low S1 a4.1))
          clear a4
          go_wp2_with fail
          go_ret2
          refine ⟨?_, L4.out⟩
          rw [HQ.out, ← HE.out]
          first | rfl | simp
end Go.Proofs.YtnjikipncgbjjaaGreatDoor

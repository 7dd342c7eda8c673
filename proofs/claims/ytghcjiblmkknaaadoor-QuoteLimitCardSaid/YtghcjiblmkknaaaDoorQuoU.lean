/- A contract of the reference's Quote. -/
import Derived.Test.YtghcjiblmkknaaaDoorQuoS
import Derived.Test.YtghcjiblmkknaaaDoorQuoB
import Derived.Lib.AppendStr
namespace Go.Proofs.YtghcjiblmkknaaaDoor
open Go.RowKit
set_option linter.unusedVariables false

/-- What an append of a string leaves. -/
theorem own_str {w wr w1 : World} {B : Nat} {v v' : Value} {l : List UInt8} {t : ByteArray} (hB : B ≤ wr.heap.size) (hbel : Below B w wr)
    (hown : wr.ownsRow B 5 1 v l.length (cellsOf l)) (hown' : w1.ownsRow B 5 1 v' (l.length + t.size) (cellsOf l ++ Lib.strCells t)) (hgrow : wr.grownBy w1 v.ownBlock) :
    w1.ownsRow B 5 1 v' (l ++ t.data.toList).length (cellsOf (l ++ t.data.toList)) ∧ Below B w w1 ∧ B ≤ w1.heap.size := by
  have hb := hbel.grown hgrow hB (fun k hk => (hown.lt k hk).1)
  have e : cellsOf (l ++ t.data.toList) = cellsOf l ++ Lib.strCells t := by simp [cellsOf, Lib.strCells]
  refine ⟨by rw [e, List.length_append]; simpa using hown', hb, ?_⟩
  have := hgrow.size
  omega
theorem own_below {B : Nat} {v : Value} {l : List UInt8} {w w' : World} (h : w.ownsRow B 5 1 v l.length (cellsOf l)) (hb : Below w.heap.size w w') : w'.ownsRow B 5 1 v l.length (cellsOf l) := by
  have old : ∀ {k : Nat} {o : Obj}, w.heap[k]? = some o → w'.heap[k]? = some o := fun {k o} hk => by
    rw [hb.block k (Array.getElem?_eq_some_iff.1 hk).1]; exact hk
  refine ⟨h.1, ?_⟩
  rcases h.2 with hn | ⟨g, cap, cur, hv', hbg, hg, rest⟩
  · exact .inl hn
  · exact .inr ⟨g, cap, cur, hv', hbg, old hg, rest⟩

theorem add_u (w0 : World) (a b : UInt8) : (Op.stringOp .add ⟨#[92, 117]⟩ ⟨#[48, 48, a, b]⟩).run Tryd.prog w0 = .ok (.string ⟨#[92, 117, 48, 48, a, b]⟩) w0 := by
  rw [run_string_add_sum w0 _ _ (by simp [ByteArray.size])]
  exact congrArg (fun x => Result.ok (Value.string x) w0) (ByteArray.mk_append_mk [92, 117] [48, 48, a, b])

set_option maxHeartbeats 4000000 in
theorem refQuote_any (s : ByteArray) (w : World) (hs : s.size ≤ 1048576) :
    Calls Tryd.prog 9 #[.string s] w fun e w' => e = .returned (quoteS s.data.toList) ∧ Below w.heap.size w w' := by
  have hl : s.data.toList.length = s.size := by simp
  obtain ⟨O, hO⟩ : ∃ O, O = quoteS s.data.toList := ⟨_, rfl⟩
  rw [← hO]
  have HO := Lib.hid hO
  clear hO
  have hva := fun w0 => refValid_any s w0 (by omega)
  cases hv : Lib.validD s.data.toList with
  | false =>
    have HQ := Lib.hid (show O = .tuple #[.string ⟨#[]⟩, .int .i64 2] by rw [HO.out]; unfold quoteS; rw [hv]; rfl)
    rw [hv] at hva
    clear hl hv
    go_enter Tryd.func9, Tryd.ntmps9
    go_wp2_with (go_at_call 11; refine (hva _).mono ?_)
    first | rintro e W1 rfl b1 | rintro e W1 ⟨rfl, b1⟩
    have B1 := Lib.hid b1
    clear b1
    go_wp2_with fail
    go_ret2
    exact ⟨by rw [HQ.out]; rfl, B1.out⟩
  | true =>
    rw [hv] at hva
    by_cases hbig : 65536 < s.size
    · have HQ := Lib.hid (show O = .tuple #[.string ⟨#[]⟩, .int .i64 5] by rw [HO.out]; unfold quoteS; rw [hv, if_pos rfl, if_pos (by omega)])
      have hb : (65536 : Int) < (s.size : Int) := by omega
      clear hl hv
      go_enter Tryd.func9, Tryd.ntmps9
      go_wp2_with (go_at_call 11; refine (hva _).mono ?_)
      first | rintro e W1 rfl b1 | rintro e W1 ⟨rfl, b1⟩
      have B1 := Lib.hid b1
      clear b1
      go_wp2_with fail
      go_ret2
      exact ⟨by rw [HQ.out]; rfl, B1.out⟩
    · have HQ := Lib.hid (show O = .tuple #[.string ⟨(quoteG s.data.toList).toArray⟩, .int .i64 0] by rw [HO.out]; unfold quoteS; rw [hv, if_pos rfl, if_neg (by omega)])
      have hb : (s.size : Int) ≤ 65536 := by omega
      have HL := Lib.hid hl
      have HV := Lib.hid hv
      obtain ⟨i0, hi, hz0, hz1, hz2⟩ := info_parts info8
      clear hl hv hbig
      go_enter Tryd.func9, Tryd.ntmps9
      go_wp2_with (go_at_call 11; refine (hva _).mono ?_)
      first | rintro e W1 rfl b1 | rintro e W1 ⟨rfl, b1⟩
      have B1 := Lib.hid b1
      have S1 := b1.size
      clear b1 hva
      have hown0 : W1.ownsRow w.heap.size 5 1 (.slice none 0 0) ([] : List UInt8).length (cellsOf []) := World.ownsRow_nil _ _ _ _
      go_wp2_with (at_builtin; refine wpList_append_own _ rfl (.tmp 16) (.tmp 17) 32 rfl w.heap.size 5 i0 (.int .u8 0) 1 1 Tryd.underlying32 hi hz0 hz1 hz2 rfl (by decide) (.slice none 0 0) 0 (cellsOf []) rfl (hown0.alloc _) ⟨W1.heap.size, 0, none⟩ 1 1 [.int .u8 34] rfl rfl ?c1 ?c2 ?c3 ?c4 ?c5 ?_)
      case c1 => exact one_new _ _
      case c2 => first | rfl | (intro u hu; simp at hu; subst hu; rfl)
      case c3 => unfold maxLen; omega
      case c4 => omega
      case c5 => first | omega | (simp; omega)
      intro v1 w1 hown1 hgrow1 _
      obtain ⟨own1, bel1, siz1⟩ := own_snoc (d := 34) (x := 34) rfl S1 B1.out hown0 hown1 hgrow1
      have L1 := Lib.hid bel1
      clear hown1 hgrow1 hown0 bel1 B1
      go_wp2_with fail
      go_loopw [4, 5] (fun v ii wr => ∃ (pos : Nat) (acc : List UInt8), ii = .int .i64 (pos : Int) ∧ pos ≤ s.size ∧ wr.ownsRow w.heap.size 5 1 v acc.length (cellsOf acc) ∧ Hid (Below w.heap.size w wr) ∧ w.heap.size ≤ wr.heap.size ∧ Hid (acc ++ bodyG (s.data.toList.drop pos) = 34 :: bodyG s.data.toList) ∧ Hid (Lib.validD (s.data.toList.drop pos) = true) ∧ Hid (acc.length ≤ 6 * pos + 1)) (fun _ ii _ => s.size - (intOf ii).toNat)
      case atStart => exact ⟨0, [34], rfl, Nat.zero_le _, own1, L1.out, siz1, rfl, HV.out, by show 1 ≤ _; omega⟩
      case round =>
        obtain ⟨pos, acc, rfl, hpos, hown, hbel, hsz, hacc, hval, hal⟩ := hrel
        by_cases hp : pos < s.size
        · have hne : s.data.toList.drop pos ≠ [] := by
            intro h
            have := congrArg List.length h
            rw [List.length_drop, HL.out] at this; simp at this; omega
          have hv := valid_step _ hne
          have hst := bodyG_step _ hne
          have hle := fun w0 => refLetter_any (s.extract pos s.size) w0 (by rw [Lib.size_eq, extr_list, List.length_drop, HL.out]; omega)
          rw [extr_list] at hle
          have hpz : (pos : Int) < (s.size : Int) := by omega
          cases hL : letterG (s.data.toList.drop pos) with
          | none => rw [hL, hval.out] at hv; cases hv
          | some x =>
            obtain ⟨n, k⟩ := x
            obtain ⟨i1, i2, i3, i4, i5, i6, i7⟩ := letter_facts hL
            rw [List.length_drop, HL.out] at i4
            rw [hL, hval.out] at hv
            simp only [List.drop_drop] at hv
            rw [i7] at hst
            simp only [List.drop_drop] at hst
            rw [hL] at hle
            change ∀ w0, Calls Tryd.prog 17 #[.string (s.extract pos s.size)] w0 fun e w' => e = .returned (.tuple #[.int .i64 (n : Int), .int .i64 (k : Int)]) ∧ Below w0.heap.size w0 w' at hle
            have HV2 := Lib.hid hv.symm
            have HS := Lib.hid hst
            have HCL := Lib.hid (canonG_len n)
            have hk0 : ((k : Int) == 0) = false := by simp; omega
            have hpk : (pos : Int) + (k : Int) ≤ (s.size : Int) := by omega
            have hpk2 : (pos : Int) ≤ (pos : Int) + (k : Int) := by omega
            have hpk3 : ((pos : Int) + (k : Int)).toNat = pos + k := by omega
            have hpk4 : (0 : Int) ≤ (pos : Int) + (k : Int) := by omega
            have hw1 : IntKind.i64.wrap ((pos : Int) + (k : Int)) = (pos : Int) + (k : Int) := IntWalk.i64_in _ (by omega)
            have HXE := Lib.hid (show (s.extract pos (pos + k)).data.toList = enc n by rw [Lib.extract_data, i5]; simp)
            have hsh := fun w0 => refShort_any n w0
            obtain ⟨z, hz⟩ : ∃ z : Int, z = (n : Int) := ⟨_, rfl⟩
            obtain ⟨c, hc⟩ : ∃ c : Int, c = (shortG n : Int) := ⟨_, rfl⟩
            rw [← hz] at hle hsh
            rw [← hc] at hsh
            have hsl : shortG n < 128 := by
              unfold shortG
              repeat' split
              all_goals omega
            clear hL hv hst hne hval i5 i6 i7
            by_cases hs0 : 0 < shortG n
            · have hc0 : 0 < c := by omega
              have HTL := Lib.hid (show (⟨#[92, UInt8.ofNat (shortG n)]⟩ : ByteArray).data.toList = canonG n by unfold canonG; rw [if_pos hs0])
              have hcv := fun w0 => conv2 w0 92 (UInt8.ofNat (shortG n)) 92 c rfl (by rw [UInt8.toNat_ofNat', hc]; omega)
              have HTS := Lib.hid (show (⟨#[92, UInt8.ofNat (shortG n)]⟩ : ByteArray).size = 2 from rfl)
              clear hs0 hz hc i1 hsl HXE
              go_wp2_with (go_at_call 17; refine (hle _).mono ?_)
              first | rintro e W2 rfl b2 | rintro e W2 ⟨rfl, b2⟩
              have own3 := own_below hown b2
              have B3 := Lib.hid (btr hbel.out (Nat.le_refl _) b2)
              have S3 := b2.size
              have S4 : w.heap.size ≤ W2.heap.size := by omega
              clear b2 hown hbel
              go_wp2_with (first
                | (go_at_call 18; refine (hsh _).mono ?_; (first | rintro e v rfl hv | rintro e v ⟨rfl, hv⟩); rw [hv]; clear hv)
                | (at_builtin; refine Lib.wpList_append_own_string _ rfl (.tmp 54) (.tmp 55) 32 9 rfl w.heap.size 5 i0 Tryd.underlying32 Tryd.underlying9 hi hz0 hz1 hz2 _ acc.length (cellsOf acc) rfl (own3.alloc _) ⟨#[92, UInt8.ofNat (shortG n)]⟩ rfl ?c1 ?c2 ?c3 ?_))
              case c1 => unfold maxLen; rw [HTS.out]; have := hal.out; omega
              case c2 => rw [HTS.out]; have := hal.out; omega
              case c3 => simp; omega
              intro v2 w2 hown2 hgrow2 _
              obtain ⟨own2, bel2, siz2⟩ := own_str (by simp; omega) (B3.out.alloc S4 _) (own3.alloc _) hown2 hgrow2
              rw [HTL.out] at own2
              have L2 := Lib.hid bel2
              clear hown2 hgrow2 own3 bel2
              go_wp2_with fail
              go_roundw
              case rel =>
                refine ⟨pos + k, acc ++ canonG n, by go_num, by omega, own2, L2.out, siz2, ?_, HV2.out, ?_⟩
                · show acc ++ canonG n ++ _ = _
                  rw [← hacc.out, HS.out, List.append_assoc]
                · show (acc ++ canonG n).length ≤ _
                  have := HCL.out
                  have := hal.out
                  rw [List.length_append]; omega
              case measure => simp [intOf]; omega
            · by_cases hct : n < 32 ∨ n = 127
              · have hc0 : ¬ 0 < c := by omega
                have HTL := Lib.hid (show (⟨#[92, 117, 48, 48, hByte (n / 16), hByte (n % 16)]⟩ : ByteArray).data.toList = canonG n by unfold canonG; rw [if_neg hs0, if_pos hct])
                have hhx := fun w0 => refHexs_any n w0 (by omega)
                rw [hexN_four n (by omega), ← hz] at hhx
                change ∀ w0, Calls Tryd.prog 19 #[.int .i64 z] w0 fun e w' => e = .returned (.string ⟨#[48, 48, hByte (n / 16), hByte (n % 16)]⟩) ∧ Below w0.heap.size w0 w' at hhx
                have hadd := fun w0 : World => add_u w0 (hByte (n / 16)) (hByte (n % 16))
                have HTS := Lib.hid (show (⟨#[92, 117, 48, 48, hByte (n / 16), hByte (n % 16)]⟩ : ByteArray).size = 6 from rfl)
                have key : z < 32 ∨ (¬ z < 32 ∧ (z == 127) = true) := by
                  rcases hct with h | h
                  · left; omega
                  · right; refine ⟨by omega, by simp; omega⟩
                clear hs0 hz hc i1 hsl HXE hct
                rcases key with k1 | ⟨k1, k2⟩
                all_goals
                  go_wp2_with (go_at_call 17; refine (hle _).mono ?_)
                  first | rintro e W2 rfl b2 | rintro e W2 ⟨rfl, b2⟩
                  have own3 := own_below hown b2
                  have B3 := Lib.hid (btr hbel.out (Nat.le_refl _) b2)
                  have S3 := b2.size
                  have S4 : w.heap.size ≤ W2.heap.size := by omega
                  clear b2 hown hbel
                  go_wp2_with (first
                    | (go_at_call 18; refine (hsh _).mono ?_; (first | rintro e v rfl hv | rintro e v ⟨rfl, hv⟩); rw [hv]; clear hv)
                    | (go_at_call 19; refine (hhx _).mono ?_))
                  first | rintro e W3 rfl b3 | rintro e W3 ⟨rfl, b3⟩
                  have own4 := own_below own3 b3
                  have B4 := Lib.hid (btr B3.out (Nat.le_refl _) b3)
                  have S5 := b3.size
                  have S6 : w.heap.size ≤ W3.heap.size := by omega
                  clear b3 own3
                  go_wp2_with (at_builtin; refine Lib.wpList_append_own_string _ rfl (.tmp 54) (.tmp 55) 32 9 rfl w.heap.size 5 i0 Tryd.underlying32 Tryd.underlying9 hi hz0 hz1 hz2 _ acc.length (cellsOf acc) rfl own4 ⟨#[92, 117, 48, 48, hByte (n / 16), hByte (n % 16)]⟩ rfl ?c1 ?c2 ?c3 ?_)
                  case c1 => unfold maxLen; rw [HTS.out]; have := hal.out; omega
                  case c2 => rw [HTS.out]; have := hal.out; omega
                  case c3 => exact S6
                  intro v2 w2 hown2 hgrow2 _
                  obtain ⟨own2, bel2, siz2⟩ := own_str S6 B4.out own4 hown2 hgrow2
                  rw [HTL.out] at own2
                  have L2 := Lib.hid bel2
                  clear hown2 hgrow2 own4 bel2
                  go_wp2_with fail
                  go_roundw
                  case rel =>
                    refine ⟨pos + k, acc ++ canonG n, by go_num, by omega, own2, L2.out, siz2, ?_, HV2.out, ?_⟩
                    · show acc ++ canonG n ++ _ = _
                      rw [← hacc.out, HS.out, List.append_assoc]
                    · show (acc ++ canonG n).length ≤ _
                      have := HCL.out
                      have := hal.out
                      rw [List.length_append]; omega
                  case measure => simp [intOf]; omega
              · have hc0 : ¬ 0 < c := by omega
                have HTL := Lib.hid (show (s.extract pos (pos + k)).data.toList = canonG n by rw [HXE.out]; unfold canonG; rw [if_neg hs0, if_neg hct])
                have HTS := Lib.hid (show (s.extract pos (pos + k)).size ≤ 4 by rw [Lib.size_eq, HXE.out]; exact (enc_len n).2)
                have k1 : ¬ z < 32 := by omega
                have k2 : (z == 127) = false := by simp; omega
                clear hs0 hz hc i1 hsl HXE hct
                go_wp2_with (go_at_call 17; refine (hle _).mono ?_)
                first | rintro e W2 rfl b2 | rintro e W2 ⟨rfl, b2⟩
                have own3 := own_below hown b2
                have B3 := Lib.hid (btr hbel.out (Nat.le_refl _) b2)
                have S3 := b2.size
                have S4 : w.heap.size ≤ W2.heap.size := by omega
                clear b2 hown hbel
                go_wp2_with (first
                  | (go_at_call 18; refine (hsh _).mono ?_; (first | rintro e v rfl hv | rintro e v ⟨rfl, hv⟩); rw [hv]; clear hv)
                  | (at_builtin; refine Lib.wpList_append_own_string _ rfl (.tmp 54) (.tmp 55) 32 9 rfl w.heap.size 5 i0 Tryd.underlying32 Tryd.underlying9 hi hz0 hz1 hz2 _ acc.length (cellsOf acc) rfl own3 (s.extract pos (pos + k)) rfl ?c1 ?c2 ?c3 ?_))
                case c1 => unfold maxLen; have := HTS.out; have := hal.out; omega
                case c2 => have := HTS.out; have := hal.out; omega
                case c3 => exact S4
                intro v2 w2 hown2 hgrow2 _
                rw [show min (pos + k) s.size - pos = (s.extract pos (pos + k)).size by simp] at hown2
                obtain ⟨own2, bel2, siz2⟩ := own_str S4 B3.out own3 hown2 hgrow2
                rw [HTL.out] at own2
                have L2 := Lib.hid bel2
                clear hown2 hgrow2 own3 bel2
                go_wp2_with fail
                go_roundw
                case rel =>
                  refine ⟨pos + k, acc ++ canonG n, by go_num, by omega, own2, L2.out, siz2, ?_, HV2.out, ?_⟩
                  · show acc ++ canonG n ++ _ = _
                    rw [← hacc.out, HS.out, List.append_assoc]
                  · show (acc ++ canonG n).length ≤ _
                    have := HCL.out
                    have := hal.out
                    rw [List.length_append]; omega
                case measure => simp [intOf]; omega
        · have HE := Lib.hid (show acc ++ [34] = quoteG s.data.toList by
            have := hacc.out
            rw [List.drop_of_length_le (by rw [HL.out]; omega), bodyG_nil, List.append_nil] at this
            rw [this]; rfl)
          have hpz : ¬ (pos : Int) < (s.size : Int) := by omega
          clear hacc hval
          go_wp2_with (at_builtin; refine wpList_append_own _ rfl (.tmp 60) (.tmp 61) 32 rfl w.heap.size 5 i0 (.int .u8 0) 1 1 Tryd.underlying32 hi hz0 hz1 hz2 rfl (by decide) _ acc.length (cellsOf acc) rfl (hown.alloc _) ⟨wr.heap.size, 0, none⟩ 1 1 [.int .u8 34] rfl rfl ?c1 ?c2 ?c3 ?c4 ?c5 ?_)
          try (case c1 => exact one_new _ _)
          case c2 => first | rfl | (intro u hu; simp at hu; subst hu; rfl)
          case c3 => unfold maxLen; have := hal.out; omega
          case c4 => have := hal.out; omega
          case c5 => first | omega | (simp; omega)
          intro v2 w2 hown2 hgrow2 _
          obtain ⟨own2, bel2, siz2⟩ := own_snoc (d := 34) (x := 34) rfl hsz hbel.out hown hown2 hgrow2
          have L2 := Lib.hid bel2
          have hcv := conv_own own2
          rw [HE.out] at hcv
          clear hown2 hgrow2 hown bel2
          go_wp2_with fail
          go_ret2
          exact ⟨by rw [HQ.out]; rfl, L2.out⟩
end Go.Proofs.YtghcjiblmkknaaaDoor

/- A contract of the reference's Unquote. -/
import Derived.Test.YtghcjiblmkknaaaDoorQuoX
namespace Go.Proofs.YtghcjiblmkknaaaDoor
open Go.RowKit
set_option linter.unusedVariables false

set_option maxHeartbeats 4000000 in
theorem refUnquote_any (s : ByteArray) (w : World) (hs : s.size ≤ 500000) :
    Calls Tryd.prog 13 #[.string s] w fun e w' => e = .returned (unqS (unqG s.data.toList)) ∧ Below w.heap.size w w' := by
  have hl : s.data.toList.length = s.size := by simp
  obtain ⟨O, hO⟩ : ∃ O, O = unqS (unqG s.data.toList) := ⟨_, rfl⟩
  rw [← hO]
  have HO := Lib.hid hO
  clear hO
  cases hd : s.data.toList with
  | nil =>
    have HE := Lib.hid (show O = .tuple #[.string ⟨#[]⟩, .int .i64 0, .int .i64 2] by rw [HO.out, hd]; rfl)
    have hb : (s.toList == []) = true := by rw [toList_eq, hd]; rfl
    clear hl hd
    go_enter Tryd.func13, Tryd.ntmps13
    go_wp2_with fail
    go_ret3
    exact ⟨by rw [HE.out]; rfl, Below.refl _ _⟩
  | cons a0 t0 =>
    have hb : (s.toList == []) = false := by rw [toList_eq, hd]; rfl
    have hp0 : 0 < s.size := by rw [hd] at hl; simp at hl; omega
    have h0 : s[0]'hp0 = a0 := at_list s 0 hp0 a0 (by rw [hd]; rfl)
    have hz0 : (0 : Int) < (s.size : Int) := by omega
    by_cases ha0 : a0 = 34
    · subst ha0
      have HQ0 := Lib.hid (show unqGo (t0.length + 1) (s.data.toList.drop 1) [] 1 = unqG s.data.toList by rw [hd]; simp only [unqG, List.drop_succ_cons, List.drop_zero]; rw [if_pos trivial])
      have HL0 := Lib.hid (show (s.data.toList.drop 1).length < t0.length + 1 by rw [hd]; simp)
      have HL := Lib.hid hl
      obtain ⟨i0, hi, hz0', hz1, hz2⟩ := info_parts info8
      clear hl hd
      go_enter Tryd.func13, Tryd.ntmps13
      go_wp2_with fail
      go_loopw [5, 6] (fun v ii wr => ∃ (pos f : Nat) (acc : List UInt8), ii = .int .i64 (pos : Int) ∧ 1 ≤ pos ∧ pos ≤ s.size ∧ wr.ownsRow w.heap.size 5 1 v acc.length (cellsOf acc) ∧ Hid (Below w.heap.size w wr) ∧ w.heap.size ≤ wr.heap.size ∧ Hid (unqGo f (s.data.toList.drop pos) acc pos = unqG s.data.toList) ∧ Hid ((s.data.toList.drop pos).length < f) ∧ Hid (acc.length ≤ 4 * pos)) (fun _ ii _ => s.size - (intOf ii).toNat)
      case atStart => exact ⟨1, t0.length + 1, [], rfl, Nat.le_refl _, hp0, World.ownsRow_nil _ _ _ _, Below.refl _ _, Nat.le_refl _, HQ0.out, HL0.out, by show 0 ≤ _; omega⟩
      case round =>
        obtain ⟨pos, f, acc, rfl, hp1, hpos, hown, hbel, hsz, hun, hfu, hal⟩ := hrel
        by_cases hp : pos < s.size
        · cases hd : s.data.toList.drop pos with
          | nil =>
            exfalso
            have := congrArg List.length hd
            rw [List.length_drop, HL.out] at this; simp at this; omega
          | cons a t =>
            have hsp : s[pos]'hp = a := by
              apply at_list s pos hp a
              have h2 : (s.data.toList.drop pos)[0]? = some a := by rw [hd]; rfl
              rw [List.getElem?_drop, Nat.add_zero] at h2; exact h2
            have hpz : (pos : Int) < (s.size : Int) := by omega
            by_cases ha : a = 34
            · subst ha
              have HE := Lib.hid (show O = .tuple #[.string ⟨acc.toArray⟩, .int .i64 ((pos : Int) + 1), .int .i64 0] by
                rw [HO.out, ← hun.out, unq_stop hd hfu.out]
                show Value.tuple #[_, .int .i64 (((pos + 1 : Nat) : Int)), _] = _
                rw [show ((pos + 1 : Nat) : Int) = (pos : Int) + 1 by omega])
              have hcv := conv_own hown
              have hw1 : IntKind.i64.wrap ((pos : Int) + 1) = (pos : Int) + 1 := IntWalk.i64_in _ (by omega)
              have hw2 : IntKind.i64.wrap ((pos : Int) - 1) = (pos : Int) - 1 := IntWalk.i64_in _ (by omega)
              have hw3 : ¬ 524288 < (pos : Int) - 1 := by omega
              clear hd hun hfu
              go_wp2_with fail
              go_ret3
              exact ⟨by rw [HE.out]; rfl, hbel.out⟩
            · have g1 : ((a.toNat : Int) == 34) = false := by
                have : a.toNat ≠ 34 := fun h => ha (UInt8.toNat_inj.1 h)
                simp; omega
              have HX : (s.extract pos s.size).data.toList = a :: t := (extr_list s pos).trans hd
              have hon := fun w0 => refOne_any (s.extract pos s.size) a t HX ha w0 (by rw [Lib.size_eq, HX, ← hd, List.length_drop, HL.out]; omega)
              cases ho : oneG (a :: t) with
              | none =>
                have HE := Lib.hid (show O = .tuple #[.string ⟨#[]⟩, .int .i64 0, .int .i64 2] by rw [HO.out, ← hun.out, unq_bad hd hfu.out ha ho]; rfl)
                rw [ho] at hon
                change ∀ w0, Calls Tryd.prog 25 #[.string (s.extract pos s.size)] w0 fun e w' => e = .returned (.tuple #[.int .i64 0, .int .i64 0]) ∧ Below w0.heap.size w0 w' at hon
                clear hd hun hfu HX ho ha
                go_wp2_with (go_at_call 25; refine (hon _).mono ?_)
                first | rintro e W1 rfl b1 | rintro e W1 ⟨rfl, b1⟩
                have B1 := Lib.hid (btr hbel.out (Nat.le_refl _) b1)
                clear b1
                go_wp2_with fail
                go_ret3
                exact ⟨by rw [HE.out]; rfl, B1.out⟩
              | some x =>
                obtain ⟨n, k⟩ := x
                obtain ⟨il, ik1, ik2⟩ := oneG_facts ho
                obtain ⟨f', hu1, hu2⟩ := unq_on hd hfu.out ha ho (acc := acc)
                have HU1 := Lib.hid (hu1.symm.trans hun.out)
                have HU2 := Lib.hid hu2
                have hk3 : pos + k ≤ s.size := by rw [← hd, List.length_drop, HL.out] at ik2; omega
                rw [ho] at hon
                change ∀ w0, Calls Tryd.prog 25 #[.string (s.extract pos s.size)] w0 fun e w' => e = .returned (.tuple #[.int .i64 (n : Int), .int .i64 (k : Int)]) ∧ Below w0.heap.size w0 w' at hon
                have hby := fun w0 => refBytes_any n il w0
                have hk0 : ((k : Int) == 0) = false := by simp; omega
                have hkw : IntKind.i64.wrap ((pos : Int) + (k : Int)) = (pos : Int) + (k : Int) := IntWalk.i64_in _ (by omega)
                obtain ⟨z, hz⟩ : ∃ z : Int, z = (n : Int) := ⟨_, rfl⟩
                rw [← hz] at hon hby
                obtain ⟨T, hT⟩ : ∃ T : ByteArray, (⟨(enc n).toArray⟩ : ByteArray) = T := ⟨_, rfl⟩
                rw [hT] at hby
                have HTL := Lib.hid (show T.data.toList = enc n by rw [← hT])
                have HTS := Lib.hid (show T.size ≤ 4 by rw [Lib.size_eq, HTL.out]; exact (enc_len n).2)
                clear hd hun hfu HX ho ha hu1 hu2 il ik2 hz hT
                go_wp2_with (go_at_call 25; refine (hon _).mono ?_)
                first | rintro e W1 rfl b1 | rintro e W1 ⟨rfl, b1⟩
                have own1 := own_below hown b1
                have B1 := Lib.hid (btr hbel.out (Nat.le_refl _) b1)
                have S1 : w.heap.size ≤ W1.heap.size := by have := b1.size; omega
                clear b1 hown hbel
                go_wp2_with (go_at_call 26; refine (hby _).mono ?_)
                first | rintro e W2 rfl b2 | rintro e W2 ⟨rfl, b2⟩
                have own2 := own_below own1 b2
                have B2 := Lib.hid (btr B1.out (Nat.le_refl _) b2)
                have S2 : w.heap.size ≤ W2.heap.size := by have := b2.size; omega
                clear b2 own1 B1
                go_wp2_with (at_builtin; refine Lib.wpList_append_own_string _ rfl (.tmp 40) (.tmp 42) 32 9 rfl w.heap.size 5 i0 Tryd.underlying32 Tryd.underlying9 hi hz0' hz1 hz2 _ acc.length (cellsOf acc) rfl own2 T rfl ?c1 ?c2 ?c3 ?_)
                case c1 => unfold maxLen; have := HTS.out; have := hal.out; omega
                case c2 => have := HTS.out; have := hal.out; omega
                case c3 => exact S2
                intro v3 w3 hown3 hgrow3 _
                obtain ⟨own3, bel3, siz3⟩ := own_str S2 B2.out own2 hown3 hgrow3
                rw [HTL.out] at own3
                have L3 := Lib.hid bel3
                clear hown3 hgrow3 own2 bel3
                go_wp2_with fail
                go_roundw
                case rel =>
                  refine ⟨pos + k, f', acc ++ enc n, by go_num, by omega, hk3, own3, L3.out, siz3, HU1.out, HU2.out, ?_⟩
                  show (acc ++ enc n).length ≤ _
                  have := (enc_len n).2
                  have := hal.out
                  rw [List.length_append]; omega
                case measure => simp [intOf]; omega
        · have HE := Lib.hid (show O = .tuple #[.string ⟨#[]⟩, .int .i64 0, .int .i64 2] by
            rw [HO.out, ← hun.out, unq_end (List.drop_of_length_le (by rw [HL.out]; omega))]; rfl)
          have hpz : ¬ (pos : Int) < (s.size : Int) := by omega
          clear hun hfu
          go_wp2_with fail
          go_ret3
          exact ⟨by rw [HE.out]; rfl, hbel.out⟩
    · have HE := Lib.hid (show O = .tuple #[.string ⟨#[]⟩, .int .i64 0, .int .i64 2] by rw [HO.out, hd]; simp only [unqG]; rw [if_neg ha0]; rfl)
      have g1 : ((a0.toNat : Int) == 34) = false := by
        have : a0.toNat ≠ 34 := fun h => ha0 (UInt8.toNat_inj.1 h)
        simp; omega
      have g2 : ((a0.toNat : Int) != 34) = true := by rw [bne, g1]; rfl
      clear hl hd ha0
      go_enter Tryd.func13, Tryd.ntmps13
      go_wp2_with fail
      go_ret3
      exact ⟨by rw [HE.out]; rfl, Below.refl _ _⟩
end Go.Proofs.YtghcjiblmkknaaaDoor

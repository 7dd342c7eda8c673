/- Contracts of the reference's Letter and Valid. -/
import Derived.Test.YtghcjiblmkknaaaDoorQuoR
import Derived.Lib.IndexBytes
import Derived.Lib.Walk
namespace Go.Proofs.YtghcjiblmkknaaaDoor
open Go.RowKit
set_option linter.unusedVariables false

theorem btr {B : Nat} {a b c : World} (h : Below B a b) (hB : B ≤ a.heap.size) (k : Below b.heap.size b c) : Below B a c :=
  have hs : B ≤ b.heap.size := Nat.le_trans hB h.size
  h.trans { os := k.os, output := k.output, tape := k.tape, size := k.size, block := fun j hj => k.block j (Nat.lt_of_lt_of_le hj hs) }
/-- The number that so many bytes tell as a letter's. -/
def numR (l : List UInt8) (b : Int) : Nat → Int
  | 0 => 0
  | 1 => ((l.getD 0 0).toNat : Int) - b
  | k + 2 => 64 * numR l b (k + 1) + ((l.getD (k + 1) 0).toNat : Int) - 128
def baseR (k : Nat) : Int := if k = 1 then 0 else if k = 2 then 192 else if k = 3 then 224 else 240
theorem numR_lt (l : List UInt8) (b : Int) (h0 : 0 ≤ b) (h1 : b ≤ 240) : ∀ i, i ≤ 4 → -70000000 ≤ numR l b i ∧ numR l b i ≤ 70000000 := by
  intro i hi
  have k0 := (l.getD 0 0).toNat_lt
  have k1 := (l.getD 1 0).toNat_lt
  have k2 := (l.getD 2 0).toNat_lt
  have k3 := (l.getD 3 0).toNat_lt
  match i, hi with
  | 0, _ => simp [numR]
  | 1, _ => simp only [numR]; omega
  | 2, _ => simp only [numR, Nat.zero_add]; omega
  | 3, _ => simp only [numR, Nat.zero_add, Nat.reduceAdd]; omega
  | 4, _ => simp only [numR, Nat.zero_add, Nat.reduceAdd]; omega
theorem numR_step (l : List UInt8) (b : Int) (i : Nat) (h : 1 ≤ i) : numR l b (i + 1) = 64 * numR l b i + ((l.getD i 0).toNat : Int) - 128 := by
  obtain ⟨j, rfl⟩ : ∃ j, i = j + 1 := ⟨i - 1, by omega⟩
  rfl
def letZ (z : Int) : Prop := 0 ≤ z ∧ z ≤ 1114111 ∧ (z < 55296 ∨ 57343 < z)
instance (z : Int) : Decidable (letZ z) := by unfold letZ; infer_instance
/-- The letter that begins a list, as the reference has it. -/
def refLetG (l : List UInt8) : Option (Nat × Nat) :=
  if refLen (l.getD 0 0).toNat = 0 ∨ l.length < refLen (l.getD 0 0).toNat then none
  else if letZ (numR l (baseR (refLen (l.getD 0 0).toNat)) (refLen (l.getD 0 0).toNat)) ∧ enc (numR l (baseR (refLen (l.getD 0 0).toNat)) (refLen (l.getD 0 0).toNat)).toNat = l.take (refLen (l.getD 0 0).toNat)
    then some ((numR l (baseR (refLen (l.getD 0 0).toNat)) (refLen (l.getD 0 0).toNat)).toNat, refLen (l.getD 0 0).toNat) else none
theorem letZ_isLet {z : Int} (h : letZ z) : isLet z.toNat := by unfold letZ at h; unfold isLet; omega

theorem refLet_eq (l : List UInt8) (hne : l ≠ []) : refLetG l = letterG l := by
  have k0 := (l.getD 0 0).toNat_lt
  have k1 := (l.getD 1 0).toNat_lt
  have k2 := (l.getD 2 0).toNat_lt
  have k3 := (l.getD 3 0).toNat_lt
  have hl : 0 < l.length := List.length_pos_iff.2 hne
  cases hL : letterG l with
  | none =>
    unfold refLetG
    split
    · rfl
    rename_i hc
    rw [if_neg]
    rintro ⟨h1, h2⟩
    have hs : l = enc (numR l (baseR (refLen (l.getD 0 0).toNat)) (refLen (l.getD 0 0).toNat)).toNat ++ l.drop (refLen (l.getD 0 0).toNat) := by rw [h2, List.take_append_drop]
    have := letter_enc _ (letZ_isLet h1) (l.drop (refLen (l.getD 0 0).toNat))
    rw [← hs, hL] at this
    cases this
  | some x =>
    obtain ⟨n, k⟩ := x
    obtain ⟨i1, i2, i3, i4, i5, i6, i7⟩ := letter_facts hL
    have key : refLen (l.getD 0 0).toNat = k ∧ numR l (baseR k) k = (n : Int) := by
      rw [Lib.decodeL_N] at i7
      have hv : ¬ (n = 65533 ∧ k = 1) := by
        rintro ⟨rfl, rfl⟩
        have := (letter_split hL).2
        revert this; decide
      rcases Lib.decodeN_shape l.length (l.getD 0 0).toNat (l.getD 1 0).toNat (l.getD 2 0).toNat (l.getD 3 0).toNat with ⟨c, e⟩ | ⟨c1, c2, c3, cv, e⟩ | ⟨c1, c2, c3, c4, cv, cs, e⟩ | ⟨c1, c2, c3, c4, c5, cv, cw, e⟩ | e
      all_goals (rw [e] at i7; simp only [Prod.mk.injEq] at i7; obtain ⟨e1, e2⟩ := i7)
      · subst e2
        exact ⟨by unfold refLen; rw [if_pos (by omega)], by rw [show baseR 1 = 0 from rfl]; simp only [numR]; omega⟩
      · subst e2
        exact ⟨by unfold refLen; rw [if_neg (by omega), if_pos (by omega)], by rw [show baseR 2 = 192 from rfl]; simp only [numR, Nat.zero_add]; omega⟩
      · subst e2
        exact ⟨by unfold refLen; rw [if_neg (by omega), if_neg (by omega), if_pos (by omega)], by rw [show baseR 3 = 224 from rfl]; simp only [numR, Nat.zero_add, Nat.reduceAdd]; omega⟩
      · subst e2
        exact ⟨by unfold refLen; rw [if_neg (by omega), if_neg (by omega), if_neg (by omega), if_pos (by omega)], by rw [show baseR 4 = 240 from rfl]; simp only [numR, Nat.zero_add, Nat.reduceAdd]; omega⟩
      · exact absurd ⟨e1.symm, e2.symm⟩ hv
    obtain ⟨r1, r2⟩ := key
    unfold refLetG
    rw [r1, r2, if_neg (by omega), Int.toNat_natCast, if_pos]
    exact ⟨by unfold letZ; unfold isLet at i1; omega, i5⟩

def letS : Option (Nat × Nat) → Value
  | some (n, k) => .tuple #[.int .i64 (n : Int), .int .i64 (k : Int)]
  | none => .tuple #[.int .i64 0, .int .i64 0]

set_option maxHeartbeats 4000000 in
theorem refLetter_any (s : ByteArray) (w : World) (hs : s.size ≤ 1099511627776) :
    Calls Tryd.prog 17 #[.string s] w fun e w' => e = .returned (letS (letterG s.data.toList)) ∧ Below w.heap.size w w' := by
  have hl : s.data.toList.length = s.size := by simp
  obtain ⟨O, hO⟩ : ∃ O, O = letS (letterG s.data.toList) := ⟨_, rfl⟩
  rw [← hO]
  have HO := Lib.hid hO
  clear hO
  by_cases hz : s.size = 0
  · have hnil : s.data.toList = [] := List.eq_nil_of_length_eq_zero (by omega)
    have HE := Lib.hid (show letterG s.data.toList = none by rw [hnil]; rfl)
    have hb : (s.toList == []) = true := by rw [toList_eq, hnil]; rfl
    clear hl hz hnil
    go_enter Tryd.func17, Tryd.ntmps17
    go_wp2_with fail
    go_ret2
    exact ⟨by rw [HO.out, HE.out]; rfl, Below.refl _ _⟩
  · have hne : s.data.toList ≠ [] := by intro h; rw [h] at hl; simp at hl; omega
    have hb : (s.toList == []) = false := by rw [toList_eq]; cases h : s.data.toList with | nil => exact absurd h hne | cons _ _ => rfl
    have HR := Lib.hid (refLet_eq _ hne)
    have hp0 : 0 < s.size := by omega
    obtain ⟨a, ha⟩ : ∃ a, s[0]'hp0 = a := ⟨_, rfl⟩
    have hgd : s.data.toList.getD 0 0 = a := by
      have := Lib.data_getElem? s 0 hp0
      rw [ha] at this
      simp only [List.getD, this, Option.getD_some]
    have hlen := fun w0 => refLen_any a.toNat (UInt8.toNat_lt a) w0
    obtain ⟨k, hk⟩ : ∃ k, refLen a.toNat = k := ⟨_, rfl⟩
    rw [hk] at hlen
    have hk4 : k = 0 ∨ k = 1 ∨ k = 2 ∨ k = 3 ∨ k = 4 := by
      rw [← hk]; unfold refLen
      repeat' split
      all_goals omega
    have hz0 : (0 : Int) < s.size := by omega
    have HG := Lib.hid hgd
    have HK := Lib.hid hk
    have HL := Lib.hid hl
    by_cases hk0 : k = 0
    · subst hk0
      have HE := Lib.hid (show letterG s.data.toList = none by rw [← HR.out]; unfold refLetG; rw [hgd, hk, if_pos (Or.inl rfl)])
      clear hl hne hgd hk hk4
      go_enter Tryd.func17, Tryd.ntmps17
      go_wp2_with (go_at_call 31; refine (hlen _).mono ?_; (first | rintro e v rfl hv | rintro e v ⟨rfl, hv⟩); rw [hv]; clear hv)
      go_ret2
      exact ⟨by rw [HO.out, HE.out]; rfl, Below.refl _ _⟩
    · by_cases hks : s.size < k
      · have HE := Lib.hid (show letterG s.data.toList = none by rw [← HR.out]; unfold refLetG; rw [hgd, hk, if_pos (Or.inr (by omega))])
        have hks2 : (s.size : Int) < (k : Int) := by omega
        have hk0' : ((k : Int) == 0) = false := by simp; omega
        clear hl hne hgd hk hk4 hk0
        go_enter Tryd.func17, Tryd.ntmps17
        go_wp2_with (go_at_call 31; refine (hlen _).mono ?_; (first | rintro e v rfl hv | rintro e v ⟨rfl, hv⟩); rw [hv]; clear hv)
        go_ret2
        exact ⟨by rw [HO.out, HE.out]; rfl, Below.refl _ _⟩
      · have hks2 : (k : Int) ≤ (s.size : Int) := by omega
        have hb4 : ∀ i, i ≤ 4 → -70000000 ≤ numR s.data.toList (baseR k) i ∧ numR s.data.toList (baseR k) i ≤ 70000000 := numR_lt _ _ (by unfold baseR; repeat' split <;> omega) (by unfold baseR; repeat' split <;> omega)
        have HB4 := Lib.hid hb4
        have HST := Lib.hid (numR_step s.data.toList (baseR k))
        have HN1 : Hid (numR s.data.toList (baseR k) 1 = (a.toNat : Int) - baseR k) := by show _ = _; simp only [numR]; rw [hgd]
        have hkb : (k = 1 ∧ baseR k = 0) ∨ (k = 2 ∧ baseR k = 192) ∨ (k = 3 ∧ baseR k = 224) ∨ (k = 4 ∧ baseR k = 240) := by
          rcases hk4 with h | h | h | h | h
          · exact absurd h hk0
          all_goals (subst h; simp [baseR])
        obtain ⟨f, hf⟩ : ∃ f : Nat → Int, f = numR s.data.toList (baseR k) := ⟨_, rfl⟩
        rw [← hf] at HB4 HST HN1
        have HF := Lib.hid hf
        clear hl hne hgd hk hk4 hk0 hb4 hf hks
        have ha1 := UInt8.toNat_lt a
        rcases hkb with ⟨rfl, hbase⟩ | ⟨rfl, hbase⟩ | ⟨rfl, hbase⟩ | ⟨rfl, hbase⟩
        · rw [hbase] at HN1
          have hn1 : f 1 = (a.toNat : Int) - 0 := by have := HN1.out; omega
          have HN2 := Lib.hid hn1
          clear hn1
          go_enter Tryd.func17, Tryd.ntmps17
          go_wp2_with (go_at_call 31; refine (hlen _).mono ?_; (first | rintro e v rfl hv | rintro e v ⟨rfl, hv⟩); rw [hv]; clear hv)
          go_loopw [5, 6] (fun nn ii wr => ∃ i : Nat, 1 ≤ i ∧ i ≤ 1 ∧ ii = .int .i64 (i : Int) ∧ nn = .int .i64 (f i) ∧ wr = w) (fun _ ii _ => 1 - (intOf ii).toNat)
          case atStart => exact ⟨1, by omega, by omega, rfl, by first | (rw [HN2.out]; done) | (rw [HN2.out]; simp), rfl⟩
          case round =>
            obtain ⟨i, hi1, hi2, rfl, rfl, rfl⟩ := hrel
            by_cases hlt : i < 1
            · exfalso; omega
            · have hik : i = 1 := by omega
              subst hik
              obtain ⟨z, hz⟩ : ∃ z, f 1 = z := ⟨_, rfl⟩
              rw [hz]
              have HZ := Lib.hid (show numR s.data.toList (baseR 1) 1 = z by rw [← HF.out]; exact hz)
              have hR := HR.out
              unfold refLetG at hR
              rw [HG.out, HK.out, if_neg (by rw [HL.out]; omega), HZ.out] at hR
              have HR2 := Lib.hid hR
              have hlz := fun w0 => isLetter_any z w0
              clear hz hR
              by_cases hlet : letZ z
              · obtain ⟨n, hn⟩ : ∃ n : Nat, z = (n : Int) := ⟨z.toNat, by unfold letZ at hlet; omega⟩
                have hil := letZ_isLet hlet
                rw [hn, Int.toNat_natCast] at hil
                have hlz : ∀ w0, Calls Tryd.prog 32 #[.int .i64 z] w0 fun e w' => e = .returned (.bool true) ∧ w' = w0 := fun w0 => by
                  have := isLetter_any z w0
                  rw [show decide (0 ≤ z ∧ z ≤ 1114111 ∧ (z < 55296 ∨ 57343 < z)) = true from decide_eq_true hlet] at this
                  exact this
                have hby := fun w0 => refBytes_any n hil w0
                rw [← hn] at hby
                obtain ⟨E, hE⟩ : ∃ E : ByteArray, (⟨(enc n).toArray⟩ : ByteArray) = E := ⟨_, rfl⟩
                rw [hE] at hby
                have hxs : (s.extract 0 1).data.toList = s.data.toList.take 1 := by rw [Lib.extract_data]; simp
                by_cases heq : enc n = s.data.toList.take 1
                · have h1 : (E.toList == (s.extract 0 1).toList) = true := by rw [toList_eq, toList_eq, hxs, ← heq, ← hE]; simp
                  have h2 : (E.toList != (s.extract 0 1).toList) = false := by rw [bne, h1]; rfl
                  have HE := Lib.hid (show letterG s.data.toList = some (n, 1) by rw [← HR2.out, hn, Int.toNat_natCast, if_pos ⟨by rw [← hn]; exact hlet, heq⟩])
                  have HN := Lib.hid hn
                  clear hlet hxs heq hE hil hn
                  go_wp2_with fail
                  go_region_held3 (fun w' => Below wr.heap.size wr w')
                    (first | exact Below.refl _ _ | exact (Below.refl _ _).drew | assumption | exact btr (Below.refl _ _) (Nat.le_refl _) hbd | exact btr (Below.refl _ _).drew (Nat.le_refl _) hbd | exact btr (by assumption) (Nat.le_refl _) hbd | go_keep)
                    (first
                      | (go_at_call 32; (with_reducible refine (hlz _).mono ?_); rintro e wc ⟨rfl, rfl⟩)
                      | (go_at_call 26; (with_reducible refine (hby _).mono ?_); rintro e wd ⟨rfl, hbd⟩))
                  have HBW : Hid (Below wr.heap.size wr wd) := by assumption
                  clear hbd
                  go_wp2_with fail
                  go_ret2
                  refine ⟨?_, HBW.out⟩
                  rw [HO.out, HE.out]
                  show _ = Ending.returned (.tuple #[.int .i64 (n : Int), .int .i64 1])
                  rw [← HN.out]
                  rfl
                · have h1 : (E.toList == (s.extract 0 1).toList) = false := by
                    rw [toList_eq, toList_eq, hxs, ← hE]
                    simpa using heq
                  have h2 : (E.toList != (s.extract 0 1).toList) = true := by rw [bne, h1]; rfl
                  have HE := Lib.hid (show letterG s.data.toList = none by rw [← HR2.out, hn, Int.toNat_natCast, if_neg (fun h => heq h.2)])
                  clear hlet hxs heq hE hil hn
                  go_wp2_with fail
                  go_region_held3 (fun w' => Below wr.heap.size wr w')
                    (first | exact Below.refl _ _ | exact (Below.refl _ _).drew | assumption | exact btr (Below.refl _ _) (Nat.le_refl _) hbd | exact btr (Below.refl _ _).drew (Nat.le_refl _) hbd | exact btr (by assumption) (Nat.le_refl _) hbd | go_keep)
                    (first
                      | (go_at_call 32; (with_reducible refine (hlz _).mono ?_); rintro e wc ⟨rfl, rfl⟩)
                      | (go_at_call 26; (with_reducible refine (hby _).mono ?_); rintro e wd ⟨rfl, hbd⟩))
                  have HBW : Hid (Below wr.heap.size wr wd) := by assumption
                  clear hbd
                  go_wp2_with fail
                  go_ret2
                  exact ⟨by rw [HO.out, HE.out]; rfl, HBW.out⟩
              · have hlz : ∀ w0, Calls Tryd.prog 32 #[.int .i64 z] w0 fun e w' => e = .returned (.bool false) ∧ w' = w0 := fun w0 => by
                  have := isLetter_any z w0
                  rw [show decide (0 ≤ z ∧ z ≤ 1114111 ∧ (z < 55296 ∨ 57343 < z)) = false from decide_eq_false hlet] at this
                  exact this
                have HE := Lib.hid (show letterG s.data.toList = none by rw [← HR2.out, if_neg (fun h => hlet h.1)])
                clear hlet
                go_wp2_with fail
                go_quiet ((go_at_call 32; exact Calls.quiet_of_same (hlz _)))
                go_wp2_with fail
                go_ret2
                exact ⟨by rw [HO.out, HE.out]; rfl, below_drewN (Below.refl _ _) _⟩
        · rw [hbase] at HN1
          have hn1 : f 1 = (a.toNat : Int) - 192 := by have := HN1.out; omega
          have HN2 := Lib.hid hn1
          clear hn1
          go_enter Tryd.func17, Tryd.ntmps17
          go_wp2_with (go_at_call 31; refine (hlen _).mono ?_; (first | rintro e v rfl hv | rintro e v ⟨rfl, hv⟩); rw [hv]; clear hv)
          go_loopw [5, 6] (fun nn ii wr => ∃ i : Nat, 1 ≤ i ∧ i ≤ 2 ∧ ii = .int .i64 (i : Int) ∧ nn = .int .i64 (f i) ∧ wr = w) (fun _ ii _ => 2 - (intOf ii).toNat)
          case atStart => exact ⟨1, by omega, by omega, rfl, by first | (rw [HN2.out]; done) | (rw [HN2.out]; simp), rfl⟩
          case round =>
            obtain ⟨i, hi1, hi2, rfl, rfl, rfl⟩ := hrel
            by_cases hlt : i < 2
            · have hip : i < s.size := by omega
              obtain ⟨y, hy⟩ : ∃ y, s[i]'hip = y := ⟨_, rfl⟩
              have hyg : s.data.toList.getD i 0 = y := by
                have := Lib.data_getElem? s i hip
                rw [hy] at this
                simp only [List.getD, this, Option.getD_some]
              have hstep := HST.out i hi1
              rw [hyg] at hstep
              have hb1 := HB4.out i (by omega)
              have hb2 := HB4.out (i + 1) (by omega)
              have hy1 := UInt8.toNat_lt y
              have HSTEP := Lib.hid hstep
              obtain ⟨z, hz⟩ : ∃ z, f i = z := ⟨_, rfl⟩
              rw [hz] at hb1 ⊢
              have hw1 : IntKind.i64.wrap (64 * z) = 64 * z := IntWalk.i64_in _ (by omega)
              have hw2 : IntKind.i64.wrap (64 * z + (y.toNat : Int)) = 64 * z + (y.toNat : Int) := IntWalk.i64_in _ (by omega)
              have hw3 : IntKind.i64.wrap (64 * z + (y.toNat : Int) - 128) = 64 * z + (y.toNat : Int) - 128 := IntWalk.i64_in _ (by omega)
              have hii : (i : Int) < (s.size : Int) := by omega
              have HZ := Lib.hid hz
              clear hstep hb2 hyg hz
              go_wp2_with fail
              go_roundw
              case rel => exact ⟨i + 1, by omega, by omega, by go_num, by rw [HSTEP.out, HZ.out], by first | rfl | trivial⟩
              case measure => simp [intOf]; omega
            · have hik : i = 2 := by omega
              subst hik
              obtain ⟨z, hz⟩ : ∃ z, f 2 = z := ⟨_, rfl⟩
              rw [hz]
              have HZ := Lib.hid (show numR s.data.toList (baseR 2) 2 = z by rw [← HF.out]; exact hz)
              have hR := HR.out
              unfold refLetG at hR
              rw [HG.out, HK.out, if_neg (by rw [HL.out]; omega), HZ.out] at hR
              have HR2 := Lib.hid hR
              have hlz := fun w0 => isLetter_any z w0
              clear hz hR
              by_cases hlet : letZ z
              · obtain ⟨n, hn⟩ : ∃ n : Nat, z = (n : Int) := ⟨z.toNat, by unfold letZ at hlet; omega⟩
                have hil := letZ_isLet hlet
                rw [hn, Int.toNat_natCast] at hil
                have hlz : ∀ w0, Calls Tryd.prog 32 #[.int .i64 z] w0 fun e w' => e = .returned (.bool true) ∧ w' = w0 := fun w0 => by
                  have := isLetter_any z w0
                  rw [show decide (0 ≤ z ∧ z ≤ 1114111 ∧ (z < 55296 ∨ 57343 < z)) = true from decide_eq_true hlet] at this
                  exact this
                have hby := fun w0 => refBytes_any n hil w0
                rw [← hn] at hby
                obtain ⟨E, hE⟩ : ∃ E : ByteArray, (⟨(enc n).toArray⟩ : ByteArray) = E := ⟨_, rfl⟩
                rw [hE] at hby
                have hxs : (s.extract 0 2).data.toList = s.data.toList.take 2 := by rw [Lib.extract_data]; simp
                by_cases heq : enc n = s.data.toList.take 2
                · have h1 : (E.toList == (s.extract 0 2).toList) = true := by rw [toList_eq, toList_eq, hxs, ← heq, ← hE]; simp
                  have h2 : (E.toList != (s.extract 0 2).toList) = false := by rw [bne, h1]; rfl
                  have HE := Lib.hid (show letterG s.data.toList = some (n, 2) by rw [← HR2.out, hn, Int.toNat_natCast, if_pos ⟨by rw [← hn]; exact hlet, heq⟩])
                  have HN := Lib.hid hn
                  clear hlet hxs heq hE hil hn
                  go_wp2_with fail
                  go_region_held3 (fun w' => Below wr.heap.size wr w')
                    (first | exact Below.refl _ _ | exact (Below.refl _ _).drew | assumption | exact btr (Below.refl _ _) (Nat.le_refl _) hbd | exact btr (Below.refl _ _).drew (Nat.le_refl _) hbd | exact btr (by assumption) (Nat.le_refl _) hbd | go_keep)
                    (first
                      | (go_at_call 32; (with_reducible refine (hlz _).mono ?_); rintro e wc ⟨rfl, rfl⟩)
                      | (go_at_call 26; (with_reducible refine (hby _).mono ?_); rintro e wd ⟨rfl, hbd⟩))
                  have HBW : Hid (Below wr.heap.size wr wd) := by assumption
                  clear hbd
                  go_wp2_with fail
                  go_ret2
                  refine ⟨?_, HBW.out⟩
                  rw [HO.out, HE.out]
                  show _ = Ending.returned (.tuple #[.int .i64 (n : Int), .int .i64 2])
                  rw [← HN.out]
                  rfl
                · have h1 : (E.toList == (s.extract 0 2).toList) = false := by
                    rw [toList_eq, toList_eq, hxs, ← hE]
                    simpa using heq
                  have h2 : (E.toList != (s.extract 0 2).toList) = true := by rw [bne, h1]; rfl
                  have HE := Lib.hid (show letterG s.data.toList = none by rw [← HR2.out, hn, Int.toNat_natCast, if_neg (fun h => heq h.2)])
                  clear hlet hxs heq hE hil hn
                  go_wp2_with fail
                  go_region_held3 (fun w' => Below wr.heap.size wr w')
                    (first | exact Below.refl _ _ | exact (Below.refl _ _).drew | assumption | exact btr (Below.refl _ _) (Nat.le_refl _) hbd | exact btr (Below.refl _ _).drew (Nat.le_refl _) hbd | exact btr (by assumption) (Nat.le_refl _) hbd | go_keep)
                    (first
                      | (go_at_call 32; (with_reducible refine (hlz _).mono ?_); rintro e wc ⟨rfl, rfl⟩)
                      | (go_at_call 26; (with_reducible refine (hby _).mono ?_); rintro e wd ⟨rfl, hbd⟩))
                  have HBW : Hid (Below wr.heap.size wr wd) := by assumption
                  clear hbd
                  go_wp2_with fail
                  go_ret2
                  exact ⟨by rw [HO.out, HE.out]; rfl, HBW.out⟩
              · have hlz : ∀ w0, Calls Tryd.prog 32 #[.int .i64 z] w0 fun e w' => e = .returned (.bool false) ∧ w' = w0 := fun w0 => by
                  have := isLetter_any z w0
                  rw [show decide (0 ≤ z ∧ z ≤ 1114111 ∧ (z < 55296 ∨ 57343 < z)) = false from decide_eq_false hlet] at this
                  exact this
                have HE := Lib.hid (show letterG s.data.toList = none by rw [← HR2.out, if_neg (fun h => hlet h.1)])
                clear hlet
                go_wp2_with fail
                go_quiet ((go_at_call 32; exact Calls.quiet_of_same (hlz _)))
                go_wp2_with fail
                go_ret2
                exact ⟨by rw [HO.out, HE.out]; rfl, below_drewN (Below.refl _ _) _⟩
        · rw [hbase] at HN1
          have hn1 : f 1 = (a.toNat : Int) - 224 := by have := HN1.out; omega
          have HN2 := Lib.hid hn1
          clear hn1
          go_enter Tryd.func17, Tryd.ntmps17
          go_wp2_with (go_at_call 31; refine (hlen _).mono ?_; (first | rintro e v rfl hv | rintro e v ⟨rfl, hv⟩); rw [hv]; clear hv)
          go_loopw [5, 6] (fun nn ii wr => ∃ i : Nat, 1 ≤ i ∧ i ≤ 3 ∧ ii = .int .i64 (i : Int) ∧ nn = .int .i64 (f i) ∧ wr = w) (fun _ ii _ => 3 - (intOf ii).toNat)
          case atStart => exact ⟨1, by omega, by omega, rfl, by first | (rw [HN2.out]; done) | (rw [HN2.out]; simp), rfl⟩
          case round =>
            obtain ⟨i, hi1, hi2, rfl, rfl, rfl⟩ := hrel
            by_cases hlt : i < 3
            · have hip : i < s.size := by omega
              obtain ⟨y, hy⟩ : ∃ y, s[i]'hip = y := ⟨_, rfl⟩
              have hyg : s.data.toList.getD i 0 = y := by
                have := Lib.data_getElem? s i hip
                rw [hy] at this
                simp only [List.getD, this, Option.getD_some]
              have hstep := HST.out i hi1
              rw [hyg] at hstep
              have hb1 := HB4.out i (by omega)
              have hb2 := HB4.out (i + 1) (by omega)
              have hy1 := UInt8.toNat_lt y
              have HSTEP := Lib.hid hstep
              obtain ⟨z, hz⟩ : ∃ z, f i = z := ⟨_, rfl⟩
              rw [hz] at hb1 ⊢
              have hw1 : IntKind.i64.wrap (64 * z) = 64 * z := IntWalk.i64_in _ (by omega)
              have hw2 : IntKind.i64.wrap (64 * z + (y.toNat : Int)) = 64 * z + (y.toNat : Int) := IntWalk.i64_in _ (by omega)
              have hw3 : IntKind.i64.wrap (64 * z + (y.toNat : Int) - 128) = 64 * z + (y.toNat : Int) - 128 := IntWalk.i64_in _ (by omega)
              have hii : (i : Int) < (s.size : Int) := by omega
              have HZ := Lib.hid hz
              clear hstep hb2 hyg hz
              go_wp2_with fail
              go_roundw
              case rel => exact ⟨i + 1, by omega, by omega, by go_num, by rw [HSTEP.out, HZ.out], by first | rfl | trivial⟩
              case measure => simp [intOf]; omega
            · have hik : i = 3 := by omega
              subst hik
              obtain ⟨z, hz⟩ : ∃ z, f 3 = z := ⟨_, rfl⟩
              rw [hz]
              have HZ := Lib.hid (show numR s.data.toList (baseR 3) 3 = z by rw [← HF.out]; exact hz)
              have hR := HR.out
              unfold refLetG at hR
              rw [HG.out, HK.out, if_neg (by rw [HL.out]; omega), HZ.out] at hR
              have HR2 := Lib.hid hR
              have hlz := fun w0 => isLetter_any z w0
              clear hz hR
              by_cases hlet : letZ z
              · obtain ⟨n, hn⟩ : ∃ n : Nat, z = (n : Int) := ⟨z.toNat, by unfold letZ at hlet; omega⟩
                have hil := letZ_isLet hlet
                rw [hn, Int.toNat_natCast] at hil
                have hlz : ∀ w0, Calls Tryd.prog 32 #[.int .i64 z] w0 fun e w' => e = .returned (.bool true) ∧ w' = w0 := fun w0 => by
                  have := isLetter_any z w0
                  rw [show decide (0 ≤ z ∧ z ≤ 1114111 ∧ (z < 55296 ∨ 57343 < z)) = true from decide_eq_true hlet] at this
                  exact this
                have hby := fun w0 => refBytes_any n hil w0
                rw [← hn] at hby
                obtain ⟨E, hE⟩ : ∃ E : ByteArray, (⟨(enc n).toArray⟩ : ByteArray) = E := ⟨_, rfl⟩
                rw [hE] at hby
                have hxs : (s.extract 0 3).data.toList = s.data.toList.take 3 := by rw [Lib.extract_data]; simp
                by_cases heq : enc n = s.data.toList.take 3
                · have h1 : (E.toList == (s.extract 0 3).toList) = true := by rw [toList_eq, toList_eq, hxs, ← heq, ← hE]; simp
                  have h2 : (E.toList != (s.extract 0 3).toList) = false := by rw [bne, h1]; rfl
                  have HE := Lib.hid (show letterG s.data.toList = some (n, 3) by rw [← HR2.out, hn, Int.toNat_natCast, if_pos ⟨by rw [← hn]; exact hlet, heq⟩])
                  have HN := Lib.hid hn
                  clear hlet hxs heq hE hil hn
                  go_wp2_with fail
                  go_region_held3 (fun w' => Below wr.heap.size wr w')
                    (first | exact Below.refl _ _ | exact (Below.refl _ _).drew | assumption | exact btr (Below.refl _ _) (Nat.le_refl _) hbd | exact btr (Below.refl _ _).drew (Nat.le_refl _) hbd | exact btr (by assumption) (Nat.le_refl _) hbd | go_keep)
                    (first
                      | (go_at_call 32; (with_reducible refine (hlz _).mono ?_); rintro e wc ⟨rfl, rfl⟩)
                      | (go_at_call 26; (with_reducible refine (hby _).mono ?_); rintro e wd ⟨rfl, hbd⟩))
                  have HBW : Hid (Below wr.heap.size wr wd) := by assumption
                  clear hbd
                  go_wp2_with fail
                  go_ret2
                  refine ⟨?_, HBW.out⟩
                  rw [HO.out, HE.out]
                  show _ = Ending.returned (.tuple #[.int .i64 (n : Int), .int .i64 3])
                  rw [← HN.out]
                  rfl
                · have h1 : (E.toList == (s.extract 0 3).toList) = false := by
                    rw [toList_eq, toList_eq, hxs, ← hE]
                    simpa using heq
                  have h2 : (E.toList != (s.extract 0 3).toList) = true := by rw [bne, h1]; rfl
                  have HE := Lib.hid (show letterG s.data.toList = none by rw [← HR2.out, hn, Int.toNat_natCast, if_neg (fun h => heq h.2)])
                  clear hlet hxs heq hE hil hn
                  go_wp2_with fail
                  go_region_held3 (fun w' => Below wr.heap.size wr w')
                    (first | exact Below.refl _ _ | exact (Below.refl _ _).drew | assumption | exact btr (Below.refl _ _) (Nat.le_refl _) hbd | exact btr (Below.refl _ _).drew (Nat.le_refl _) hbd | exact btr (by assumption) (Nat.le_refl _) hbd | go_keep)
                    (first
                      | (go_at_call 32; (with_reducible refine (hlz _).mono ?_); rintro e wc ⟨rfl, rfl⟩)
                      | (go_at_call 26; (with_reducible refine (hby _).mono ?_); rintro e wd ⟨rfl, hbd⟩))
                  have HBW : Hid (Below wr.heap.size wr wd) := by assumption
                  clear hbd
                  go_wp2_with fail
                  go_ret2
                  exact ⟨by rw [HO.out, HE.out]; rfl, HBW.out⟩
              · have hlz : ∀ w0, Calls Tryd.prog 32 #[.int .i64 z] w0 fun e w' => e = .returned (.bool false) ∧ w' = w0 := fun w0 => by
                  have := isLetter_any z w0
                  rw [show decide (0 ≤ z ∧ z ≤ 1114111 ∧ (z < 55296 ∨ 57343 < z)) = false from decide_eq_false hlet] at this
                  exact this
                have HE := Lib.hid (show letterG s.data.toList = none by rw [← HR2.out, if_neg (fun h => hlet h.1)])
                clear hlet
                go_wp2_with fail
                go_quiet ((go_at_call 32; exact Calls.quiet_of_same (hlz _)))
                go_wp2_with fail
                go_ret2
                exact ⟨by rw [HO.out, HE.out]; rfl, below_drewN (Below.refl _ _) _⟩
        · rw [hbase] at HN1
          have hn1 : f 1 = (a.toNat : Int) - 240 := by have := HN1.out; omega
          have HN2 := Lib.hid hn1
          clear hn1
          go_enter Tryd.func17, Tryd.ntmps17
          go_wp2_with (go_at_call 31; refine (hlen _).mono ?_; (first | rintro e v rfl hv | rintro e v ⟨rfl, hv⟩); rw [hv]; clear hv)
          go_loopw [5, 6] (fun nn ii wr => ∃ i : Nat, 1 ≤ i ∧ i ≤ 4 ∧ ii = .int .i64 (i : Int) ∧ nn = .int .i64 (f i) ∧ wr = w) (fun _ ii _ => 4 - (intOf ii).toNat)
          case atStart => exact ⟨1, by omega, by omega, rfl, by first | (rw [HN2.out]; done) | (rw [HN2.out]; simp), rfl⟩
          case round =>
            obtain ⟨i, hi1, hi2, rfl, rfl, rfl⟩ := hrel
            by_cases hlt : i < 4
            · have hip : i < s.size := by omega
              obtain ⟨y, hy⟩ : ∃ y, s[i]'hip = y := ⟨_, rfl⟩
              have hyg : s.data.toList.getD i 0 = y := by
                have := Lib.data_getElem? s i hip
                rw [hy] at this
                simp only [List.getD, this, Option.getD_some]
              have hstep := HST.out i hi1
              rw [hyg] at hstep
              have hb1 := HB4.out i (by omega)
              have hb2 := HB4.out (i + 1) (by omega)
              have hy1 := UInt8.toNat_lt y
              have HSTEP := Lib.hid hstep
              obtain ⟨z, hz⟩ : ∃ z, f i = z := ⟨_, rfl⟩
              rw [hz] at hb1 ⊢
              have hw1 : IntKind.i64.wrap (64 * z) = 64 * z := IntWalk.i64_in _ (by omega)
              have hw2 : IntKind.i64.wrap (64 * z + (y.toNat : Int)) = 64 * z + (y.toNat : Int) := IntWalk.i64_in _ (by omega)
              have hw3 : IntKind.i64.wrap (64 * z + (y.toNat : Int) - 128) = 64 * z + (y.toNat : Int) - 128 := IntWalk.i64_in _ (by omega)
              have hii : (i : Int) < (s.size : Int) := by omega
              have HZ := Lib.hid hz
              clear hstep hb2 hyg hz
              go_wp2_with fail
              go_roundw
              case rel => exact ⟨i + 1, by omega, by omega, by go_num, by rw [HSTEP.out, HZ.out], by first | rfl | trivial⟩
              case measure => simp [intOf]; omega
            · have hik : i = 4 := by omega
              subst hik
              obtain ⟨z, hz⟩ : ∃ z, f 4 = z := ⟨_, rfl⟩
              rw [hz]
              have HZ := Lib.hid (show numR s.data.toList (baseR 4) 4 = z by rw [← HF.out]; exact hz)
              have hR := HR.out
              unfold refLetG at hR
              rw [HG.out, HK.out, if_neg (by rw [HL.out]; omega), HZ.out] at hR
              have HR2 := Lib.hid hR
              have hlz := fun w0 => isLetter_any z w0
              clear hz hR
              by_cases hlet : letZ z
              · obtain ⟨n, hn⟩ : ∃ n : Nat, z = (n : Int) := ⟨z.toNat, by unfold letZ at hlet; omega⟩
                have hil := letZ_isLet hlet
                rw [hn, Int.toNat_natCast] at hil
                have hlz : ∀ w0, Calls Tryd.prog 32 #[.int .i64 z] w0 fun e w' => e = .returned (.bool true) ∧ w' = w0 := fun w0 => by
                  have := isLetter_any z w0
                  rw [show decide (0 ≤ z ∧ z ≤ 1114111 ∧ (z < 55296 ∨ 57343 < z)) = true from decide_eq_true hlet] at this
                  exact this
                have hby := fun w0 => refBytes_any n hil w0
                rw [← hn] at hby
                obtain ⟨E, hE⟩ : ∃ E : ByteArray, (⟨(enc n).toArray⟩ : ByteArray) = E := ⟨_, rfl⟩
                rw [hE] at hby
                have hxs : (s.extract 0 4).data.toList = s.data.toList.take 4 := by rw [Lib.extract_data]; simp
                by_cases heq : enc n = s.data.toList.take 4
                · have h1 : (E.toList == (s.extract 0 4).toList) = true := by rw [toList_eq, toList_eq, hxs, ← heq, ← hE]; simp
                  have h2 : (E.toList != (s.extract 0 4).toList) = false := by rw [bne, h1]; rfl
                  have HE := Lib.hid (show letterG s.data.toList = some (n, 4) by rw [← HR2.out, hn, Int.toNat_natCast, if_pos ⟨by rw [← hn]; exact hlet, heq⟩])
                  have HN := Lib.hid hn
                  clear hlet hxs heq hE hil hn
                  go_wp2_with fail
                  go_region_held3 (fun w' => Below wr.heap.size wr w')
                    (first | exact Below.refl _ _ | exact (Below.refl _ _).drew | assumption | exact btr (Below.refl _ _) (Nat.le_refl _) hbd | exact btr (Below.refl _ _).drew (Nat.le_refl _) hbd | exact btr (by assumption) (Nat.le_refl _) hbd | go_keep)
                    (first
                      | (go_at_call 32; (with_reducible refine (hlz _).mono ?_); rintro e wc ⟨rfl, rfl⟩)
                      | (go_at_call 26; (with_reducible refine (hby _).mono ?_); rintro e wd ⟨rfl, hbd⟩))
                  have HBW : Hid (Below wr.heap.size wr wd) := by assumption
                  clear hbd
                  go_wp2_with fail
                  go_ret2
                  refine ⟨?_, HBW.out⟩
                  rw [HO.out, HE.out]
                  show _ = Ending.returned (.tuple #[.int .i64 (n : Int), .int .i64 4])
                  rw [← HN.out]
                  rfl
                · have h1 : (E.toList == (s.extract 0 4).toList) = false := by
                    rw [toList_eq, toList_eq, hxs, ← hE]
                    simpa using heq
                  have h2 : (E.toList != (s.extract 0 4).toList) = true := by rw [bne, h1]; rfl
                  have HE := Lib.hid (show letterG s.data.toList = none by rw [← HR2.out, hn, Int.toNat_natCast, if_neg (fun h => heq h.2)])
                  clear hlet hxs heq hE hil hn
                  go_wp2_with fail
                  go_region_held3 (fun w' => Below wr.heap.size wr w')
                    (first | exact Below.refl _ _ | exact (Below.refl _ _).drew | assumption | exact btr (Below.refl _ _) (Nat.le_refl _) hbd | exact btr (Below.refl _ _).drew (Nat.le_refl _) hbd | exact btr (by assumption) (Nat.le_refl _) hbd | go_keep)
                    (first
                      | (go_at_call 32; (with_reducible refine (hlz _).mono ?_); rintro e wc ⟨rfl, rfl⟩)
                      | (go_at_call 26; (with_reducible refine (hby _).mono ?_); rintro e wd ⟨rfl, hbd⟩))
                  have HBW : Hid (Below wr.heap.size wr wd) := by assumption
                  clear hbd
                  go_wp2_with fail
                  go_ret2
                  exact ⟨by rw [HO.out, HE.out]; rfl, HBW.out⟩
              · have hlz : ∀ w0, Calls Tryd.prog 32 #[.int .i64 z] w0 fun e w' => e = .returned (.bool false) ∧ w' = w0 := fun w0 => by
                  have := isLetter_any z w0
                  rw [show decide (0 ≤ z ∧ z ≤ 1114111 ∧ (z < 55296 ∨ 57343 < z)) = false from decide_eq_false hlet] at this
                  exact this
                have HE := Lib.hid (show letterG s.data.toList = none by rw [← HR2.out, if_neg (fun h => hlet h.1)])
                clear hlet
                go_wp2_with fail
                go_quiet ((go_at_call 32; exact Calls.quiet_of_same (hlz _)))
                go_wp2_with fail
                go_ret2
                exact ⟨by rw [HO.out, HE.out]; rfl, below_drewN (Below.refl _ _) _⟩
end Go.Proofs.YtghcjiblmkknaaaDoor

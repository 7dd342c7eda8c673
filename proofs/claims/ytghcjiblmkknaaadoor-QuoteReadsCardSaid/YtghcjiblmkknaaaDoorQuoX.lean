/- Contracts of the reference's one and Unquote. -/
import Derived.Test.YtghcjiblmkknaaaDoorQuoW
import Derived.Test.YtghcjiblmkknaaaDoorQuoU
import Derived.Test.YtghcjiblmkknaaaDoorQuoE
namespace Go.Proofs.YtghcjiblmkknaaaDoor
open Go.RowKit
set_option linter.unusedVariables false

theorem named_none (c : UInt8) (t : List UInt8) (h1 : ¬ 0 < namedG c.toNat) (h2 : c ≠ 117) : escG (92 :: c :: t) = none := by
  simp only [escG]
  rw [if_neg h1]
  unfold longG
  simp only [unitG]
  rw [if_neg (fun h => h2 h.2)]
theorem named_cases (c : Nat) (h : 0 < namedG c) : (c = 34 ∧ namedG c = 34) ∨ (c = 92 ∧ namedG c = 92) ∨ (c = 47 ∧ namedG c = 47) ∨ (c = 98 ∧ namedG c = 8) ∨ (c = 102 ∧ namedG c = 12) ∨ (c = 110 ∧ namedG c = 10) ∨ (c = 114 ∧ namedG c = 13) ∨ (c = 116 ∧ namedG c = 9) := by
  unfold namedG at h ⊢
  repeat' split at h
  all_goals first | omega | (rename_i hh; subst hh; simp) | simp_all
theorem named_not (c : Nat) (h : ¬ 0 < namedG c) : c ≠ 34 ∧ c ≠ 92 ∧ c ≠ 47 ∧ c ≠ 98 ∧ c ≠ 102 ∧ c ≠ 110 ∧ c ≠ 114 ∧ c ≠ 116 := by
  unfold namedG at h
  repeat' split at h
  all_goals first | (exfalso; omega) | omega

theorem named_cases8 (c : UInt8) (h : 0 < namedG c.toNat) : c = 34 ∨ c = 92 ∨ c = 47 ∨ c = 98 ∨ c = 102 ∨ c = 110 ∨ c = 114 ∨ c = 116 := by
  have e : ∀ d : UInt8, c.toNat = d.toNat → c = d := fun d h => UInt8.toNat_inj.1 h
  rcases named_cases _ h with ⟨h, _⟩ | ⟨h, _⟩ | ⟨h, _⟩ | ⟨h, _⟩ | ⟨h, _⟩ | ⟨h, _⟩ | ⟨h, _⟩ | ⟨h, _⟩
  · exact .inl (e 34 h)
  · exact .inr (.inl (e 92 h))
  · exact .inr (.inr (.inl (e 47 h)))
  · exact .inr (.inr (.inr (.inl (e 98 h))))
  · exact .inr (.inr (.inr (.inr (.inl (e 102 h)))))
  · exact .inr (.inr (.inr (.inr (.inr (.inl (e 110 h))))))
  · exact .inr (.inr (.inr (.inr (.inr (.inr (.inl (e 114 h)))))))
  · exact .inr (.inr (.inr (.inr (.inr (.inr (.inr (e 116 h)))))))

set_option maxHeartbeats 4000000 in
theorem refOne_any (s : ByteArray) (a : UInt8) (t : List UInt8) (hd : s.data.toList = a :: t) (ha : a ≠ 34) (w : World) (hs : s.size ≤ 1099511627776) :
    Calls Tryd.prog 25 #[.string s] w fun e w' => e = .returned (letS (oneG (a :: t))) ∧ Below w.heap.size w w' := by
  have hl : s.data.toList.length = s.size := by simp
  have hp0 : 0 < s.size := by rw [hd] at hl; simp at hl; omega
  have h0 : s[0]'hp0 = a := at_list s 0 hp0 a (by rw [hd]; rfl)
  have hz0 : (0 : Int) < (s.size : Int) := by omega
  obtain ⟨O, hO⟩ : ∃ O, O = letS (oneG (a :: t)) := ⟨_, rfl⟩
  rw [← hO]
  have HO := Lib.hid hO
  clear hO
  by_cases hb : a = 92
  · subst hb
    have hone : oneG (92 :: t) = escG (92 :: t) := by simp only [oneG, if_true]
    cases t with
    | nil =>
      have HE := Lib.hid (show O = .tuple #[.int .i64 0, .int .i64 0] by rw [HO.out, hone]; rfl)
      have k1 : (s.size : Int) < 2 := by rw [hd] at hl; simp at hl; omega
      clear hl hd
      go_enter Tryd.func25, Tryd.ntmps25
      go_wp2_with fail
      go_ret2
      exact ⟨by rw [HE.out]; rfl, Below.refl _ _⟩
    | cons c t =>
      have h1n : 1 < s.size := by rw [hd] at hl; simp at hl; omega
      have hs1 : s[1]'h1n = c := at_list s 1 h1n c (by rw [hd]; rfl)
      have k1 : ¬ (s.size : Int) < 2 := by omega
      by_cases hn : 0 < namedG c.toNat
      · have HE0 := Lib.hid (show O = .tuple #[.int .i64 (namedG c.toNat : Int), .int .i64 2] by
          rw [HO.out, hone]; simp only [escG]; rw [if_pos hn]; rfl)
        have hcs := named_cases8 c hn
        clear hl hd hone hn
        rcases hcs with rfl | rfl | rfl | rfl | rfl | rfl | rfl | rfl
        all_goals
          go_enter Tryd.func25, Tryd.ntmps25
          go_wp2_with fail
          go_ret2
          exact ⟨by rw [HE0.out]; rfl, Below.refl _ _⟩
      · by_cases h117 : c = 117
        · subst h117
          have HE := Lib.hid (show O = letS (longG s.data.toList) by
            rw [HO.out, hone, hd]; simp only [escG]; rw [if_neg hn])
          have hlo := fun w0 => refLong_any s t hd w0 hs
          obtain ⟨z, q, hzq⟩ : ∃ z q : Int, letS (longG s.data.toList) = .tuple #[.int .i64 z, .int .i64 q] := by
            cases longG s.data.toList with
            | none => exact ⟨0, 0, rfl⟩
            | some x => exact ⟨_, _, rfl⟩
          rw [hzq] at hlo
          have HE2 := Lib.hid (HE.out.trans hzq)
          clear hl hd hone hn hzq HE
          go_enter Tryd.func25, Tryd.ntmps25
          go_wp2_with (go_at_call 37; refine (hlo _).mono ?_; (first | rintro e v rfl hv | rintro e v ⟨rfl, hv⟩); rw [hv]; clear hv)
          go_ret2
          exact ⟨by rw [HE2.out]; rfl, Below.refl _ _⟩
        · have HE := Lib.hid (show O = .tuple #[.int .i64 0, .int .i64 0] by rw [HO.out, hone, named_none c t hn h117]; rfl)
          obtain ⟨n1, n2, n3, n4, n5, n6, n7, n8⟩ := named_not _ hn
          have n9 : c.toNat ≠ 117 := fun h => h117 (UInt8.toNat_inj.1 h)
          have f1 : ((c.toNat : Int) == 34) = false := by simp; omega
          have f2 : ((c.toNat : Int) == 92) = false := by simp; omega
          have f3 : ((c.toNat : Int) == 47) = false := by simp; omega
          have f4 : ((c.toNat : Int) == 98) = false := by simp; omega
          have f5 : ((c.toNat : Int) == 102) = false := by simp; omega
          have f6 : ((c.toNat : Int) == 110) = false := by simp; omega
          have f7 : ((c.toNat : Int) == 114) = false := by simp; omega
          have f8 : ((c.toNat : Int) == 116) = false := by simp; omega
          have f9 : ((c.toNat : Int) == 117) = false := by simp; omega
          clear hl hd hone hn n1 n2 n3 n4 n5 n6 n7 n8 n9 h117
          go_enter Tryd.func25, Tryd.ntmps25
          go_wp2_with fail
          go_ret2
          exact ⟨by rw [HE.out]; rfl, Below.refl _ _⟩
  · have g1 : ((a.toNat : Int) == 92) = false := by
      have : a.toNat ≠ 92 := fun h => hb (UInt8.toNat_inj.1 h)
      simp; omega
    have g2 : ((a.toNat : Int) != 92) = true := by rw [bne, g1]; rfl
    have hone : oneG (a :: t) = (match letterG (a :: t) with | none => none | some (n, k) => if n < 32 then none else some (n, k)) := by
      simp only [oneG]; rw [if_neg hb]
      cases letterG (a :: t) <;> rfl
    have hle := fun w0 => refLetter_any s w0 hs
    rw [hd] at hle
    cases hL : letterG (a :: t) with
    | none =>
      have HE := Lib.hid (show O = .tuple #[.int .i64 0, .int .i64 0] by rw [HO.out, hone, hL]; rfl)
      rw [hL] at hle
      change ∀ w0, Calls Tryd.prog 17 #[.string s] w0 fun e w' => e = .returned (.tuple #[.int .i64 0, .int .i64 0]) ∧ Below w0.heap.size w0 w' at hle
      clear hl hd hone hL ha hb
      go_enter Tryd.func25, Tryd.ntmps25
      go_wp2_with (go_at_call 17; refine (hle _).mono ?_)
      first | rintro e W1 rfl b1 | rintro e W1 ⟨rfl, b1⟩
      have B1 := Lib.hid b1
      clear b1
      go_wp2_with fail
      go_ret2
      exact ⟨by rw [HE.out]; rfl, B1.out⟩
    | some x =>
      obtain ⟨n, k⟩ := x
      have hk := (letter_facts hL).2.1
      rw [hL] at hle
      obtain ⟨z, hz⟩ : ∃ z : Int, z = (n : Int) := ⟨_, rfl⟩
      change ∀ w0, Calls Tryd.prog 17 #[.string s] w0 fun e w' => e = .returned (.tuple #[.int .i64 (n : Int), .int .i64 (k : Int)]) ∧ Below w0.heap.size w0 w' at hle
      rw [← hz] at hle
      have hk0 : ((k : Int) == 0) = false := by simp; omega
      have hn34 : n ≠ 34 := by
        intro h
        have := (letter_low hL (by omega)).1
        exact ha (UInt8.toNat_inj.1 (by rw [this, h]; rfl))
      have hz34 : (z == 34) = false := by simp; omega
      by_cases h32 : n < 32
      · have HE := Lib.hid (show O = .tuple #[.int .i64 0, .int .i64 0] by rw [HO.out, hone, hL]; simp only; rw [if_pos h32]; rfl)
        have hz32 : z < 32 := by omega
        clear hl hd hone hL ha hb hz hn34 h32
        go_enter Tryd.func25, Tryd.ntmps25
        go_wp2_with (go_at_call 17; refine (hle _).mono ?_)
        first | rintro e W1 rfl b1 | rintro e W1 ⟨rfl, b1⟩
        have B1 := Lib.hid b1
        clear b1
        go_wp2_with fail
        go_ret2
        exact ⟨by rw [HE.out]; rfl, B1.out⟩
      · have HE := Lib.hid (show O = .tuple #[.int .i64 z, .int .i64 (k : Int)] by rw [HO.out, hone, hL]; simp only; rw [if_neg h32, hz]; rfl)
        have hz32 : ¬ z < 32 := by omega
        clear hl hd hone hL ha hb hz hn34 h32
        go_enter Tryd.func25, Tryd.ntmps25
        go_wp2_with (go_at_call 17; refine (hle _).mono ?_)
        first | rintro e W1 rfl b1 | rintro e W1 ⟨rfl, b1⟩
        have B1 := Lib.hid b1
        clear b1
        go_wp2_with fail
        go_ret2
        exact ⟨by rw [HE.out]; rfl, B1.out⟩
end Go.Proofs.YtghcjiblmkknaaaDoor

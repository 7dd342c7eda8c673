/- Layer 7: the program's Under and Compare, by the library's Equal and Compare of slices. -/
import Derived.Test.YtlkhpfokmcpeiaaDoorPaK
namespace Go.Proofs.YtlkhpfokmcpeiaaDoor
open Go.RowKit
set_option linter.unusedVariables false
set_option maxRecDepth 100000

theorem map_bs_inj {x y : List (List UInt8)} (h : x.map bs = y.map bs) : x = y := by
  induction x generalizing y with
  | nil => cases y with | nil => rfl | cons => simp at h
  | cons a x ih =>
    cases y with
    | nil => simp at h
    | cons b y => simp only [List.map_cons, List.cons.injEq] at h; rw [bs_inj h.1, ih h.2]

theorem equal_any (xs ys : List (List UInt8)) (k : Nat) (a a2 : Option Addr) (c d : Nat) (w : World) (hx : xs.length = k) (hy : ys.length = k) (h1 : SlAt w a xs) (h2 : SlAt w a2 ys) (hk : k ≤ 1099511627776) :
    Calls Tryd.prog 33 #[.slice a k c, .slice a2 k d] w fun e w' => e = .returned (.bool (decide (xs = ys))) ∧ Below w.heap.size w w' := by
  by_cases h0 : k = 0
  · subst h0
    have e1 : xs = [] := List.eq_nil_of_length_eq_zero hx
    have e2 : ys = [] := List.eq_nil_of_length_eq_zero hy
    subst e1 e2
    refine (Tryd.slices_Equal_string_empty a a2 c 0 d w (by omega)).mono ?_
    rintro e w' ⟨rfl, rfl⟩
    exact ⟨rfl, Below.refl _ _⟩
  · rcases h1 with h | ⟨b, o, rfl, hb, hc⟩
    · rw [h] at hx; exact absurd hx.symm h0
    rcases h2 with h | ⟨b2, o2, rfl, hb2, hc2⟩
    · rw [h] at hy; exact absurd hy.symm h0
    have := Tryd.slices_Equal_string b o k c b2 o2 k d (xs.map bs) (ys.map bs) w (by simp; omega) (by simp; omega) (by omega) (by omega)
      (fun j hj => by rw [hc j (by simpa using hj)]; simp at hj; simp [hj]) (fun j hj => by rw [hc2 j (by simpa using hj)]; simp at hj; simp [hj])
    refine this.mono ?_
    rintro e w' ⟨rfl, q, rfl⟩
    refine ⟨?_, belowDN (Below.refl _ _) q⟩
    rw [List.take_of_length_le (by simp; omega), List.take_of_length_le (by simp; omega)]
    refine ret_bool ?_
    rw [Bool.eq_iff_iff, decide_eq_true_eq, decide_eq_true_eq]
    exact ⟨map_bs_inj, fun e => by rw [e]⟩

theorem one_use2 {ls : List (List UInt8)} {w w1 : World} {e : Ending} (h : RetSl w ls e w1) :
    ∃ a c, e = .returned (.slice a ls.length c) ∧ SlAt w1 a ls ∧ Below w.heap.size w w1 ∧ ls.length ≤ c := by
  obtain ⟨v, rfl, ⟨a, c, rfl, h1, _, hS⟩, hb⟩ := h
  exact ⟨a, c, rfl, hS, hb, h1⟩

set_option maxHeartbeats 4000000 in
theorem under_any (l m : List UInt8) (w : World) (hl : l.length ≤ 1048576) (hm : m.length ≤ 1048576) (hM : MaxOK w) :
    Calls Tryd.prog 18 #[.string (bs l), .string (bs m)] w fun e w' => e = .returned (.bool (underL (partsL l) (partsL m))) ∧ Below w.heap.size w w' := by
  have HP : Hid (∀ w0, MaxOK w0 → Calls Tryd.prog 14 #[.string (bs l)] w0 (RetSl w0 (partsL l))) := fun w0 h => parts_any l w0 (by omega) h
  have HQ : Hid (∀ w0, MaxOK w0 → Calls Tryd.prog 14 #[.string (bs m)] w0 (RetSl w0 (partsL m))) := fun w0 h => parts_any m w0 (by omega) h
  have hpl := parts_len l
  have hpm := parts_len m
  generalize bs l = s at *
  generalize bs m = t at *
  generalize partsL l = ls at *
  generalize partsL m = ms at *
  obtain ⟨O, hO⟩ : ∃ O, O = underL ls ms := ⟨_, rfl⟩
  rw [← hO]
  have HO := Lib.hid hO
  have HM := Lib.hid hM
  clear hO hM
  obtain ⟨n, hn⟩ : ∃ n, n = ls.length := ⟨_, rfl⟩
  obtain ⟨k, hk⟩ : ∃ k, k = ms.length := ⟨_, rfl⟩
  rw [← hn] at hpl
  rw [← hk] at hpm
  have HN := Lib.hid hn
  have HK := Lib.hid hk
  clear hn hk
  by_cases hnk : n ≤ k
  · have HE : Hid (O = false) := by
      show _ = _
      rw [HO.out]; unfold underL; rw [← HN.out, ← HK.out, decide_eq_false (by omega)]; rfl
    have hd : decide (k < n) = false := decide_eq_false (by omega)
    go_enter Tryd.func18, Tryd.ntmps18
    go_wp2_with (first
      | (go_at_call 14; (with_reducible refine (HP.out _ HM.out).mono ?_); rintro e w1 hr; obtain ⟨a, c, rfl, hS, hb⟩ := one_use hr; have HS := Lib.hid hS; have HB := Lib.hid hb; have HM1 := Lib.hid (HM.out.below hb); clear hS hb hr; rw [← HN.out])
      | (go_at_call 14; (with_reducible refine (HQ.out _ HM1.out).mono ?_); rintro e w2 hr; obtain ⟨a2, c2, rfl, hS1, hS2, hb2⟩ := two_use HS.out HB.out hr; have HS1 := Lib.hid hS1; have HS2 := Lib.hid hS2; have HB2 := Lib.hid hb2; clear hS1 hS2 hb2 hr; rw [← HK.out]))
    go_ret
    exact ⟨by rw [HE.out]; rfl, HB2.out⟩
  · have HE : Hid (O = decide (ls.take k = ms)) := by
      show _ = _
      rw [HO.out]; unfold underL; rw [← HN.out, ← HK.out, decide_eq_true (by omega)]; rfl
    have hkn : k < n := by omega
    have HEq : Hid (∀ (a a2 : Option Addr) (c d : Nat) (w0 : World), SlAt w0 a ls → SlAt w0 a2 ms → Calls Tryd.prog 33 #[.slice a k c, .slice a2 k d] w0 fun e w' => e = .returned (.bool O) ∧ Below w0.heap.size w0 w') := fun a a2 c d w0 h1 h2 => by
      rw [HE.out]
      exact equal_any (ls.take k) ms k a a2 c d w0 (by rw [List.length_take, ← HN.out]; omega) HK.out.symm (h1.take k) h2 (by omega)
    clear HE HO
    go_enter Tryd.func18, Tryd.ntmps18
    go_wp2_with (first
      | (go_at_call 14; (with_reducible refine (HP.out _ HM.out).mono ?_); rintro e w1 hr; obtain ⟨a, c, rfl, hS, hb, hcn⟩ := one_use2 hr; have HS := Lib.hid hS; have HB := Lib.hid hb; have HM1 := Lib.hid (HM.out.below hb); clear hS hb hr; rw [← HN.out] at hcn ⊢; have hcz : (k : Int) ≤ (c : Int) := by omega)
      | (go_at_call 14; (with_reducible refine (HQ.out _ HM1.out).mono ?_); rintro e w2 hr; obtain ⟨a2, c2, rfl, hS1, hS2, hb2⟩ := two_use HS.out HB.out hr; have HS1 := Lib.hid hS1; have HS2 := Lib.hid hS2; have HB2 := Lib.hid hb2; clear hS1 hS2 hb2 hr; rw [← HK.out])
      | (go_at_call 33; (with_reducible refine (HEq.out _ _ _ _ _ HS1.out HS2.out).mono ?_); rintro e w3 ⟨rfl, hb3⟩; have HB3 := Lib.hid hb3; clear hb3))
    go_ret
    exact ⟨rfl, btz HB2.out HB3.out⟩

theorem nan_any (x : List UInt8) (w : World) : Calls Tryd.prog 57 #[.string (bs x)] w fun e w' => e = .returned (.bool false) ∧ w = w' := by
  have e1 : ((bs x).toList != (bs x).toList) = false := by simp
  generalize bs x = s at *
  go_enter Tryd.func57, Tryd.ntmps57
  go_wp2_with fail
  go_ret
  exact ⟨by first | rfl | exact ret_bool (by simp), rfl⟩

set_option maxHeartbeats 1000000 in
theorem cmpN_any (x y : List UInt8) (w : World) : Calls Tryd.prog 47 #[.string (bs x), .string (bs y)] w fun e w' => e = .returned (.int .i64 (cmpN x y)) ∧ w = w' := by
  have e1 : Op.bytesLess (bs x).toList (bs y).toList = Op.bytesLess x y := by rw [bs_toList, bs_toList]
  have e2 : Op.bytesLess (bs y).toList (bs x).toList = Op.bytesLess y x := by rw [bs_toList, bs_toList]
  obtain ⟨O, hO⟩ : ∃ O, O = cmpN x y := ⟨_, rfl⟩
  rw [← hO]
  unfold cmpN at hO
  cases h1 : Op.bytesLess x y with
  | true =>
    rw [h1] at e1 hO
    have HO : Hid (O = -1) := hO
    clear hO h1 e2
    go_enter Tryd.func47, Tryd.ntmps47
    go_wp2_with (go_at_call 57; (with_reducible refine (nan_any _ _).mono ?_); rintro e w1 ⟨rfl, rfl⟩)
    go_ret
    exact ⟨by rw [HO.out]; rfl, rfl⟩
  | false =>
    rw [h1] at e1 hO
    cases h2 : Op.bytesLess y x with
    | true =>
      rw [h2] at e2 hO
      have HO : Hid (O = 1) := hO
      have e3 : ((bs x).toList == (bs y).toList) = false := by
        rw [bs_toList, bs_toList, beq_eq_false_iff_ne]; intro e; rw [e, less_irr] at h2; cases h2
      clear hO h1 h2
      go_enter Tryd.func47, Tryd.ntmps47
      go_wp2_with (go_at_call 57; (with_reducible refine (nan_any _ _).mono ?_); rintro e w1 ⟨rfl, rfl⟩)
      go_ret
      exact ⟨by rw [HO.out]; rfl, rfl⟩
    | false =>
      rw [h2] at e2 hO
      have HO : Hid (O = 0) := hO
      have e3 : ((bs x).toList == (bs y).toList) = true := by
        rw [bs_toList, bs_toList, beq_iff_eq]; exact less_tri _ _ h1 h2
      clear hO h1 h2
      go_enter Tryd.func47, Tryd.ntmps47
      go_wp2_with (go_at_call 57; (with_reducible refine (nan_any _ _).mono ?_); rintro e w1 ⟨rfl, rfl⟩)
      go_ret
      exact ⟨by rw [HO.out]; rfl, rfl⟩

set_option maxHeartbeats 4000000 in
theorem slCompare_any (ls ms : List (List UInt8)) (a a2 : Option Addr) (c c2 : Nat) (w : World) (h1 : SlAt w a ls) (h2 : SlAt w a2 ms) (hl : ls.length ≤ 1099511627776) (hm : ms.length ≤ 1099511627776) :
    Calls Tryd.prog 34 #[.slice a ls.length c, .slice a2 ms.length c2] w fun e w' => e = .returned (.int .i64 (cmpL ls ms)) ∧ w = w' := by
  have HA := Lib.hid h1
  have HB := Lib.hid h2
  clear h1 h2
  obtain ⟨O, hO⟩ : ∃ O, O = cmpL ls ms := ⟨_, rfl⟩
  rw [← hO]
  have HO := Lib.hid hO
  clear hO
  obtain ⟨n, hn⟩ : ∃ n, n = ls.length := ⟨_, rfl⟩
  obtain ⟨k, hk⟩ : ∃ k, k = ms.length := ⟨_, rfl⟩
  rw [← hn] at hl ⊢
  rw [← hk] at hm ⊢
  have HN := Lib.hid hn
  have HK := Lib.hid hk
  clear hn hk
  go_enter Tryd.func34, Tryd.ntmps34
  go_wp2_with fail
  go_loop [11] (fun i => ∃ j : Nat, i = .int .i64 j ∧ j ≤ k ∧ j ≤ n ∧ Hid (cmpL ls ms = cmpL (ls.drop j) (ms.drop j))) (fun i => n - (intOf i).toNat)
  case atStart => exact ⟨0, rfl, Nat.zero_le _, Nat.zero_le _, rfl⟩
  case round =>
    obtain ⟨j, rfl, hj, hjn', hsame⟩ := hrel
    by_cases hjn : j < n
    · have hj1 : j < ls.length := by rw [← HN.out]; exact hjn
      rcases HA.out with h | ⟨b, o, rfl, hw, hc⟩
      · exact absurd hj1 (by rw [h]; simp)
      have hx := hc j hj1
      by_cases hlt : j < k
      · have hj2 : j < ms.length := by rw [← HK.out]; exact hlt
        rcases HB.out with h | ⟨b2, o2, rfl, hw2, hc2⟩
        · exact absurd hj2 (by rw [h]; simp)
        have hy := hc2 j hj2
        have HG := Lib.hid (cmp_step hj1 hj2 hsame.out)
        generalize ls[j] = x at *
        generalize ms[j] = y at *
        clear hc hc2
        have hck : ¬ k ≤ j := by omega
        have HC : Hid (∀ w0, Calls Tryd.prog 47 #[.string (bs x), .string (bs y)] w0 fun e w' => e = .returned (.int .i64 (cmpN x y)) ∧ w0 = w') := fun w0 => cmpN_any x y w0
        have HCN : Hid ((cmpN x y = -1 ∧ O = -1) ∨ (cmpN x y = 1 ∧ O = 1) ∨ (cmpN x y = 0 ∧ cmpL ls ms = cmpL (ls.drop (j + 1)) (ms.drop (j + 1)))) := by
          show _ ∨ _
          rw [HO.out, HG.out]
          unfold cmpN
          cases h1 : Op.bytesLess x y with
          | true => left; exact ⟨rfl, rfl⟩
          | false => cases h2 : Op.bytesLess y x with
            | true => right; left; exact ⟨rfl, rfl⟩
            | false => right; right; exact ⟨rfl, rfl⟩
        generalize cmpN x y = z at *
        rcases HCN.out with ⟨rfl, hz⟩ | ⟨rfl, hz⟩ | ⟨rfl, hz⟩
        · have HZ := Lib.hid hz
          clear hz HCN
          go_wp2_with (go_at_call 47; (with_reducible refine (HC.out _).mono ?_); rintro e w1 ⟨rfl, rfl⟩)
          go_ret
          exact ⟨by rw [HZ.out]; rfl, rfl⟩
        · have HZ := Lib.hid hz
          clear hz HCN
          go_wp2_with (go_at_call 47; (with_reducible refine (HC.out _).mono ?_); rintro e w1 ⟨rfl, rfl⟩)
          go_ret
          exact ⟨by rw [HZ.out]; rfl, rfl⟩
        · have HZ := Lib.hid hz
          clear hz HCN
          go_wp2_with (go_at_call 47; (with_reducible refine (HC.out _).mono ?_); rintro e w1 ⟨rfl, rfl⟩)
          go_round
          case rel => exact ⟨j + 1, by go_num, by omega, by omega, HZ.out⟩
          case measure => simp [intOf]; omega
      · have HG := Lib.hid (cmp_end (.inr (by rw [← HK.out]; omega)) hsame.out (by rw [← HN.out]; omega) (by rw [← HK.out]; omega))
        have HE : Hid (O = 1) := by show _ = _; rw [HO.out, HG.out, ← HN.out, ← HK.out, if_neg (by omega), if_pos (by omega)]
        have hck : k ≤ j := by omega
        generalize ls[j] = x at *
        clear hc
        go_wp2_with fail
        go_ret
        exact ⟨by rw [HE.out]; rfl, rfl⟩
    · have HG := Lib.hid (cmp_end (.inl (by rw [← HN.out]; omega)) hsame.out (by rw [← HN.out]; omega) (by rw [← HK.out]; omega))
      by_cases h3 : n < k
      · have HE : Hid (O = -1) := by show _ = _; rw [HO.out, HG.out, ← HN.out, ← HK.out, if_pos h3]
        go_wp2_with fail
        go_ret
        exact ⟨by rw [HE.out]; rfl, rfl⟩
      · have HE : Hid (O = 0) := by show _ = _; rw [HO.out, HG.out, ← HN.out, ← HK.out, if_neg h3, if_neg (by omega)]
        go_wp2_with fail
        go_ret
        exact ⟨by rw [HE.out]; rfl, rfl⟩

set_option maxHeartbeats 4000000 in
theorem compare_any (l m : List UInt8) (w : World) (hl : l.length ≤ 1048576) (hm : m.length ≤ 1048576) (hM : MaxOK w) :
    Calls Tryd.prog 20 #[.string (bs l), .string (bs m)] w fun e w' => e = .returned (.int .i64 (cmpL (partsL l) (partsL m))) ∧ Below w.heap.size w w' := by
  have HP : Hid (∀ w0, MaxOK w0 → Calls Tryd.prog 14 #[.string (bs l)] w0 (RetSl w0 (partsL l))) := fun w0 h => parts_any l w0 (by omega) h
  have HQ : Hid (∀ w0, MaxOK w0 → Calls Tryd.prog 14 #[.string (bs m)] w0 (RetSl w0 (partsL m))) := fun w0 h => parts_any m w0 (by omega) h
  have hpl := parts_len l
  have hpm := parts_len m
  have HC : Hid (∀ (a a2 : Option Addr) (c c2 : Nat) (w0 : World), SlAt w0 a (partsL l) → SlAt w0 a2 (partsL m) → Calls Tryd.prog 34 #[.slice a (partsL l).length c, .slice a2 (partsL m).length c2] w0 fun e w' => e = .returned (.int .i64 (cmpL (partsL l) (partsL m))) ∧ w0 = w') := fun a a2 c c2 w0 h1 h2 => slCompare_any _ _ a a2 c c2 w0 h1 h2 (by omega) (by omega)
  have HM := Lib.hid hM
  clear hpl hpm hM
  generalize bs l = s at *
  generalize bs m = t at *
  generalize cmpL (partsL l) (partsL m) = O at *
  generalize partsL l = ls at *
  generalize partsL m = ms at *
  go_enter Tryd.func20, Tryd.ntmps20
  go_wp2_with (first
    | (go_at_call 14; (with_reducible refine (HP.out _ HM.out).mono ?_); rintro e w1 hr; obtain ⟨a, c, rfl, hS, hb⟩ := one_use hr; have HS := Lib.hid hS; have HB := Lib.hid hb; have HM1 := Lib.hid (HM.out.below hb); clear hS hb hr)
    | (go_at_call 14; (with_reducible refine (HQ.out _ HM1.out).mono ?_); rintro e w2 hr; obtain ⟨a2, c2, rfl, hS1, hS2, hb2⟩ := two_use HS.out HB.out hr; have HS1 := Lib.hid hS1; have HS2 := Lib.hid hS2; have HB2 := Lib.hid hb2; clear hS1 hS2 hb2 hr)
    | (go_at_call 34; (with_reducible refine (HC.out _ _ _ _ _ HS1.out HS2.out).mono ?_); rintro e w3 ⟨rfl, rfl⟩))
  go_ret
  exact ⟨rfl, HB2.out⟩
end Go.Proofs.YtlkhpfokmcpeiaaDoor

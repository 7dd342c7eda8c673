/- Layer 7: the reference's Compare, SameTexts, begins, Mark. -/
import Derived.Test.YtlkhpfokmcpeiaaDoorPaF
namespace Go.Proofs.YtlkhpfokmcpeiaaDoor
open Go.RowKit
set_option linter.unusedVariables false
set_option maxRecDepth 100000

theorem ret_int {k : IntKind} {a b : Int} (h : a = b) : Ending.returned (.int k a) = .returned (.int k b) := by rw [h]
theorem cmp_step {ls ms : List (List UInt8)} {j : Nat} (h1 : j < ls.length) (h2 : j < ms.length) (h : cmpL ls ms = cmpL (ls.drop j) (ms.drop j)) :
    cmpL ls ms = if Op.bytesLess ls[j] ms[j] then -1 else if Op.bytesLess ms[j] ls[j] then 1 else cmpL (ls.drop (j + 1)) (ms.drop (j + 1)) := by
  rw [h, List.drop_eq_getElem_cons h1, List.drop_eq_getElem_cons h2]; rfl
theorem cmp_end {ls ms : List (List UInt8)} {j : Nat} (hj : j = ls.length ∨ j = ms.length) (h : cmpL ls ms = cmpL (ls.drop j) (ms.drop j)) (hl : j ≤ ls.length) (hm : j ≤ ms.length) :
    cmpL ls ms = if ls.length < ms.length then -1 else if ms.length < ls.length then 1 else 0 := by
  rw [h]
  cases hd : ls.drop j with
  | nil =>
    have e1 := congrArg List.length hd
    rw [List.length_drop, List.length_nil] at e1
    cases hd2 : ms.drop j with
    | nil =>
      have e2 := congrArg List.length hd2
      rw [List.length_drop, List.length_nil] at e2
      rw [if_neg (by omega), if_neg (by omega)]; rfl
    | cons b y =>
      have e2 := congrArg List.length hd2
      rw [List.length_drop, List.length_cons] at e2
      rw [if_pos (by omega)]; rfl
  | cons a x =>
    have e1 := congrArg List.length hd
    rw [List.length_drop, List.length_cons] at e1
    cases hd2 : ms.drop j with
    | nil =>
      have e2 := congrArg List.length hd2
      rw [List.length_drop, List.length_nil] at e2
      rw [if_neg (by omega), if_pos (by omega)]; rfl
    | cons b y =>
      have e2 := congrArg List.length hd2
      rw [List.length_drop, List.length_cons] at e2
      omega

set_option maxHeartbeats 4000000 in
theorem refCompare_any (l m : List UInt8) (w : World) (hl : l.length ≤ 1099511620000) (hm : m.length ≤ 1099511620000) :
    Calls Tryd.prog 21 #[.string (bs l), .string (bs m)] w fun e w' => e = .returned (.int .i64 (cmpL (partsL l) (partsL m))) ∧ Below w.heap.size w w' := by
  have HP : Hid (∀ w0, Calls Tryd.prog 15 #[.string (bs l)] w0 (RetSl w0 (partsL l))) := fun w0 => by
    have := refParts_any (bs l) w0 (by rw [bs_size]; omega)
    rwa [bs_list] at this
  have HQ : Hid (∀ w0, Calls Tryd.prog 15 #[.string (bs m)] w0 (RetSl w0 (partsL m))) := fun w0 => by
    have := refParts_any (bs m) w0 (by rw [bs_size]; omega)
    rwa [bs_list] at this
  have hpl := parts_len l
  have hpm := parts_len m
  generalize bs l = s at *
  generalize bs m = t at *
  generalize partsL l = ls at *
  generalize partsL m = ms at *
  obtain ⟨O, hO⟩ : ∃ O, O = cmpL ls ms := ⟨_, rfl⟩
  rw [← hO]
  have HO := Lib.hid hO
  clear hO
  obtain ⟨n, hn⟩ : ∃ n, n = ls.length := ⟨_, rfl⟩
  obtain ⟨k, hk⟩ : ∃ k, k = ms.length := ⟨_, rfl⟩
  rw [← hn] at hpl
  rw [← hk] at hpm
  have HN := Lib.hid hn
  have HK := Lib.hid hk
  clear hn hk
  go_enter Tryd.func21, Tryd.ntmps21
  go_wp2_with (first
    | (go_at_call 15; (with_reducible refine (HP.out _).mono ?_); rintro e w1 hr; obtain ⟨a, c, rfl, hS, hb⟩ := one_use hr; have HS := Lib.hid hS; have HB := Lib.hid hb; clear hS hb hr; rw [← HN.out])
    | (go_at_call 15; (with_reducible refine (HQ.out _).mono ?_); rintro e w2 hr; obtain ⟨a2, c2, rfl, hS1, hS2, hb2⟩ := two_use HS.out HB.out hr; have HS1 := Lib.hid hS1; have HS2 := Lib.hid hS2; have HB2 := Lib.hid hb2; clear hS1 hS2 hb2 hr; rw [← HK.out]))
  go_loopw [7] (fun i wr => ∃ j : Nat, i = .int .i64 j ∧ j ≤ k ∧ j ≤ n ∧ Hid (cmpL ls ms = cmpL (ls.drop j) (ms.drop j)) ∧ Hid (SlAt wr a ls) ∧ Hid (SlAt wr a2 ms) ∧ Hid (Below w.heap.size w wr)) (fun i _ => k - (intOf i).toNat)
  case atStart => exact ⟨0, rfl, Nat.zero_le _, Nat.zero_le _, rfl, HS1.out, HS2.out, HB2.out⟩
  case round =>
    clear HS1 HS2 HB2
    obtain ⟨j, rfl, hj, hjn', hsame, hA, hB, hbel⟩ := hrel
    by_cases hlt : j < k
    · by_cases hjn : j < n
      · have hj1 : j < ls.length := by rw [← HN.out]; exact hjn
        have hj2 : j < ms.length := by rw [← HK.out]; exact hlt
        rcases hA.out with h | ⟨b, o, rfl, hw, hc⟩
        · exact absurd hj1 (by rw [h]; simp)
        rcases hB.out with h | ⟨b2, o2, rfl, hw2, hc2⟩
        · exact absurd hj2 (by rw [h]; simp)
        have hx := hc j hj1
        have hy := hc2 j hj2
        have HG := Lib.hid (cmp_step hj1 hj2 hsame.out)
        generalize ls[j] = x at *
        generalize ms[j] = y at *
        clear hc hc2
        have e1 : Op.bytesLess (bs x).toList (bs y).toList = Op.bytesLess x y := by rw [bs_toList, bs_toList]
        have e2 : Op.bytesLess (bs y).toList (bs x).toList = Op.bytesLess y x := by rw [bs_toList, bs_toList]
        cases h1 : Op.bytesLess x y with
        | true =>
          rw [h1] at e1
          have HE : Hid (O = -1) := by show _ = _; rw [HO.out, HG.out, h1]; rfl
          clear h1 e2
          go_wp2_with fail
          go_quiet (fail)
          go_wp2_with fail
          go_ret
          exact ⟨by rw [HE.out]; rfl, belowDN hbel.out _⟩
        | false =>
          rw [h1] at e1
          cases h2 : Op.bytesLess y x with
          | true =>
            rw [h2] at e2
            have HE : Hid (O = 1) := by show _ = _; rw [HO.out, HG.out, h1, h2]; rfl
            have e3 : ((bs x).toList == (bs y).toList) = false := by
              rw [bs_toList, bs_toList, beq_eq_false_iff_ne]; intro e; rw [e, less_irr] at h2; cases h2
            clear h1 h2
            go_wp2_with fail
            go_quiet (fail)
            go_wp2_with fail
            generalize hwz : wr.drewN _ = wz
            have hyz : wz.cell? ⟨b2, o2 + j, none⟩ = some (.string (bs y)) := by rw [← hwz]; exact hy
            have hxz : wz.cell? ⟨b, o + j, none⟩ = some (.string (bs x)) := by rw [← hwz]; exact hx
            have HBz : Hid (Below w.heap.size w wz) := by rw [← hwz]; exact belowDN hbel.out _
            clear hwz
            go_quiet (fail)
            go_wp2_with fail
            go_ret
            exact ⟨by rw [HE.out]; rfl, belowDN HBz.out _⟩
          | false =>
            rw [h2] at e2
            have HE : Hid (cmpL ls ms = cmpL (ls.drop (j + 1)) (ms.drop (j + 1))) := by show _ = _; rw [HG.out, h1, h2]; rfl
            have e3 : ((bs x).toList == (bs y).toList) = true := by
              rw [bs_toList, bs_toList, beq_iff_eq]; exact less_tri _ _ h1 h2
            clear h1 h2
            go_wp2_with fail
            go_quiet (fail)
            go_wp2_with fail
            generalize hwz : wr.drewN _ = wz
            have hyz : wz.cell? ⟨b2, o2 + j, none⟩ = some (.string (bs y)) := by rw [← hwz]; exact hy
            have hxz : wz.cell? ⟨b, o + j, none⟩ = some (.string (bs x)) := by rw [← hwz]; exact hx
            have HBz : Hid (Below w.heap.size w wz) := by rw [← hwz]; exact belowDN hbel.out _
            have HAz : Hid (SlAt wz (some ⟨b, o, none⟩) ls) := by rw [← hwz]; exact slDN hA.out _
            have HCz : Hid (SlAt wz (some ⟨b2, o2, none⟩) ms) := by rw [← hwz]; exact slDN hB.out _
            clear hwz
            go_quiet (fail)
            go_wp2_with fail
            go_roundw
            case rel => exact ⟨j + 1, by go_num, by omega, by omega, HE.out, slDN HAz.out _, slDN HCz.out _, belowDN HBz.out _⟩
            case measure => simp [intOf]; omega
      · have HG := Lib.hid (cmp_end (.inl (by rw [← HN.out]; omega)) hsame.out (by rw [← HN.out]; omega) (by rw [← HK.out]; omega))
        have h1 : n < k := by omega
        have HE : Hid (O = -1) := by show _ = _; rw [HO.out, HG.out, ← HN.out, ← HK.out, if_pos h1]
        have h2 : decide (j < n) = false := decide_eq_false hjn
        go_wp2_with fail
        go_ret
        exact ⟨by rw [HE.out]; rfl, hbel.out⟩
    · have HG := Lib.hid (cmp_end (.inr (by rw [← HK.out]; omega)) hsame.out (by rw [← HN.out]; omega) (by rw [← HK.out]; omega))
      have h0 : decide (j < k) = false := decide_eq_false hlt
      have h1 : ¬ n < k := by omega
      by_cases h3 : k < n
      · have HE : Hid (O = 1) := by show _ = _; rw [HO.out, HG.out, ← HN.out, ← HK.out, if_neg h1, if_pos h3]
        go_wp2_with fail
        go_ret
        exact ⟨by rw [HE.out]; rfl, hbel.out⟩
      · have HE : Hid (O = 0) := by show _ = _; rw [HO.out, HG.out, ← HN.out, ← HK.out, if_neg h1, if_neg h3]
        go_wp2_with fail
        go_ret
        exact ⟨by rw [HE.out]; rfl, hbel.out⟩

set_option maxHeartbeats 4000000 in
theorem sameTexts_any (ls ms : List (List UInt8)) (a a2 : Option Addr) (c c2 : Nat) (w : World) (h1 : SlAt w a ls) (h2 : SlAt w a2 ms) (hl : ls.length ≤ 1099511627776) (hm : ms.length ≤ 1099511627776) :
    Calls Tryd.prog 13 #[.slice a ls.length c, .slice a2 ms.length c2] w fun e w' => e = .returned (.bool (decide (ls = ms))) ∧ Below w.heap.size w w' := by
  have HS1 := Lib.hid h1
  have HS2 := Lib.hid h2
  clear h1 h2
  obtain ⟨O, hO⟩ : ∃ O, O = decide (ls = ms) := ⟨_, rfl⟩
  rw [← hO]
  have HO := Lib.hid hO
  clear hO
  obtain ⟨n, hn⟩ : ∃ n, n = ls.length := ⟨_, rfl⟩
  obtain ⟨k, hk⟩ : ∃ k, k = ms.length := ⟨_, rfl⟩
  rw [← hn] at hl ⊢
  rw [← hk] at hm ⊢
  have HN := Lib.hid hn
  have HK := Lib.hid hk
  clear hn hk
  by_cases hnk : n = k
  · subst hnk
    go_enter Tryd.func13, Tryd.ntmps13
    go_wp2_with fail
    go_loopw [5] (fun i wr => ∃ j : Nat, i = .int .i64 j ∧ j ≤ n ∧ Hid (ls.take j = ms.take j) ∧ Hid (SlAt wr a ls) ∧ Hid (SlAt wr a2 ms) ∧ Hid (Below w.heap.size w wr)) (fun i _ => n - (intOf i).toNat)
    case atStart => exact ⟨0, rfl, Nat.zero_le _, rfl, HS1.out, HS2.out, Below.refl _ _⟩
    case round =>
      clear HS1 HS2
      obtain ⟨j, rfl, hj, hsame, hA, hB, hbel⟩ := hrel
      by_cases hlt : j < n
      · have hj1 : j < ls.length := by rw [← HN.out]; exact hlt
        have hj2 : j < ms.length := by rw [← HK.out]; exact hlt
        rcases hA.out with h | ⟨b, o, rfl, hw, hc⟩
        · exact absurd hj1 (by rw [h]; simp)
        rcases hB.out with h | ⟨b2, o2, rfl, hw2, hc2⟩
        · exact absurd hj2 (by rw [h]; simp)
        have hx := hc j hj1
        have hy := hc2 j hj2
        have HT1 : Hid (ls.take (j + 1) = ls.take j ++ [ls[j]]) := List.take_succ_eq_append_getElem hj1
        have HT2 : Hid (ms.take (j + 1) = ms.take j ++ [ms[j]]) := List.take_succ_eq_append_getElem hj2
        have HG : Hid (ls[j] ≠ ms[j] → ls ≠ ms) := fun h e => h (by subst e; rfl)
        generalize ls[j] = x at *
        generalize ms[j] = y at *
        clear hc hc2
        by_cases hxy : x = y
        · subst hxy
          have e1 : ((bs x).toList != (bs x).toList) = false := by simp
          have HK2 : Hid (ls.take (j + 1) = ms.take (j + 1)) := by show _ = _; rw [HT1.out, HT2.out, hsame.out]
          go_wp2_with fail
          go_quiet (fail)
          go_wp2_with fail
          go_roundw
          case rel => exact ⟨j + 1, by go_num, by omega, HK2.out, slDN hA.out _, slDN hB.out _, belowDN hbel.out _⟩
          case measure => simp [intOf]; omega
        · have e1 : ((bs x).toList != (bs y).toList) = true := by rw [bs_toList, bs_toList]; simpa using hxy
          have e2 : ((bs x).toList == (bs y).toList) = false := by rw [bs_toList, bs_toList]; simpa using hxy
          have HE2 : Hid (O = false) := by show _ = _; rw [HO.out, decide_eq_false (HG.out hxy)]
          clear hxy
          go_wp2_with fail
          go_quiet (fail)
          go_wp2_with fail
          go_ret
          exact ⟨by rw [HE2.out]; rfl, belowDN hbel.out _⟩
      · have hjk : j = n := by omega
        have h0 : decide (j < n) = false := decide_eq_false hlt
        have HE2 : Hid (O = true) := by
          show _ = _
          rw [HO.out, decide_eq_true]
          have := hsame.out
          rw [hjk, List.take_of_length_le (by rw [HN.out]; exact Nat.le_refl _), List.take_of_length_le (by rw [HK.out]; exact Nat.le_refl _)] at this
          exact this
        go_wp2_with fail
        go_ret
        exact ⟨by rw [HE2.out]; rfl, hbel.out⟩
  · have HE : Hid (O = false) := by
      show _ = _
      rw [HO.out, decide_eq_false]
      intro e; rw [HN.out, HK.out, e] at hnk; exact hnk rfl
    have e1 : ((n : Int) != (k : Int)) = true := by simp; omega
    have e2 : ((n : Int) == (k : Int)) = false := by simp; omega
    go_enter Tryd.func13, Tryd.ntmps13
    go_wp2_with fail
    go_ret
    exact ⟨by rw [HE.out]; rfl, Below.refl _ _⟩
end Go.Proofs.YtlkhpfokmcpeiaaDoor

/- Layer 7: the reference's Split, Join, Under, Compare; SameTexts. -/
import Derived.Test.YtlkhpfokmcpeiaaDoorPaE
namespace Go.Proofs.YtlkhpfokmcpeiaaDoor
open Go.RowKit
set_option linter.unusedVariables false
set_option maxRecDepth 100000

theorem belowDN {B : Nat} {a w : World} (h : Below B a w) (q : Nat) : Below B a (w.drewN q) := ⟨h.os, h.tape, h.output, h.size, h.block⟩
theorem slDN {w : World} {a : Option Addr} {ls : List (List UInt8)} (h : SlAt w a ls) (q : Nat) : SlAt (w.drewN q) a ls := h
/-- What is known of the parts of a path that has some. -/
theorem split_use {ls r : List (List UInt8)} {q : List UInt8} {n : Nat} {w w1 : World} {e : Ending} (hrq : ls = r ++ [q]) (hn : n = r.length) (h : RetSl w ls e w1) :
    ∃ b o c, e = .returned (.slice (some ⟨b, o, none⟩) (n + 1) c) ∧ n + 1 ≤ c ∧ c ≤ 9223372036854775807 ∧ w1.cell? ⟨b, o + n, none⟩ = some (.string (bs q)) ∧ SlAt w1 (some ⟨b, o, none⟩) r ∧ Below w.heap.size w w1 := by
  subst hrq hn
  obtain ⟨v, rfl, ⟨a, c, rfl, hc1, hc2, hSl⟩, hb⟩ := h
  have hS := hSl
  rcases hSl with h | ⟨b, o, rfl, hw, hc⟩
  · simp at h
  · refine ⟨b, o, c, by simp, by simpa using hc1, by unfold maxLen at hc2; omega, ?_, ?_, hb⟩
    · have := hc r.length (by simp)
      simpa using this
    · have := hS.take r.length
      simpa using this

set_option maxHeartbeats 2000000 in
theorem refSplit_any (l : List UInt8) (w : World) (hs : l.length ≤ 1099511620000) :
    Calls Tryd.prog 12 #[.string (bs l)] w fun e w' => e = .returned (.tuple #[.string (bs (dirL l)), .string (bs (nameL l))]) ∧ Below w.heap.size w w' := by
  have HP : Hid (∀ w0, Calls Tryd.prog 15 #[.string (bs l)] w0 (RetSl w0 (partsL l))) := fun w0 => by
    have := refParts_any (bs l) w0 (by rw [bs_size]; omega)
    rwa [bs_list] at this
  have HD : Hid (dirL l = joinP (partsL l).dropLast) := rfl
  have HNm : Hid (nameL l = (partsL l).getLastD []) := rfl
  have hpl := parts_len l
  have hjl := joinP_take_le (partsL l) ((partsL l).length - 1)
  rw [← List.dropLast_eq_take, join_parts] at hjl
  generalize dirL l = D at *
  generalize nameL l = N at *
  generalize partsL l = ls at *
  generalize bs l = s at *
  by_cases h0 : ls = []
  · subst h0
    have HD2 : Hid (D = []) := by show _ = _; rw [HD.out]; rfl
    have HN2 : Hid (N = []) := by show _ = _; rw [HNm.out]; rfl
    clear hjl
    go_enter Tryd.func12, Tryd.ntmps12
    go_wp2_with (go_at_call 15; (with_reducible refine (HP.out _).mono ?_); rintro e w1 ⟨v, rfl, ⟨a, c, rfl, hc1, hc2, hSl⟩, hb⟩; have HB := Lib.hid hb; clear hb hSl hc1 hc2; simp only [List.length_nil])
    go_ret2
    exact ⟨by rw [HD2.out, HN2.out]; rfl, HB.out⟩
  · obtain ⟨r, q, hrq⟩ : ∃ r q, ls = r ++ [q] := ⟨ls.dropLast, ls.getLast h0, (List.dropLast_concat_getLast h0).symm⟩
    have HD2 : Hid (D = joinP r) := by show _ = _; rw [HD.out, hrq, List.dropLast_concat]
    have HN2 : Hid (N = q) := by show _ = _; rw [HNm.out, hrq, List.getLastD_concat]
    have hrl : ls.length = r.length + 1 := by rw [hrq]; simp
    rw [hrq, List.dropLast_concat] at hjl
    have hrn : r.length ≤ l.length := by omega
    obtain ⟨n, hn⟩ : ∃ n, n = r.length := ⟨_, rfl⟩
    rw [← hn] at hrn hrl
    have HL := Lib.hid hrl
    have HRQ := Lib.hid hrq
    have HN := Lib.hid hn
    clear h0 hrq hrl hn hpl HNm HD
    go_enter Tryd.func12, Tryd.ntmps12
    go_wp2_with (go_at_call 15; (with_reducible refine (HP.out _).mono ?_); rintro e w1 hr; obtain ⟨b, o, c, rfl, hc1, hc2, hx, hS2, hb⟩ := split_use HRQ.out HN.out hr; have HB := Lib.hid hb; have HS2 := Lib.hid hS2; clear hb hS2)
    have HJ : Hid (∀ c q, Calls Tryd.prog 26 #[.slice (some ⟨b, o, none⟩) n c] (w1.drewN q) fun e w' => e = .returned (.string (bs (joinP r))) ∧ w' = w1.drewN q) := fun c q => by
      rw [HN.out]
      exact (refjoin_any r (some ⟨b, o, none⟩) c (w1.drewN q) HS2.out (by rw [← HN.out]; omega) (by omega)).mono fun e w' h => ⟨h.1, h.2.symm⟩
    have hw1 : IntKind.i64.wrap (n : Int) = (n : Int) := by rw [IntWalk.i64_in _ (by omega)]
    have hn0 : (0 : Int) ≤ (n : Int) := by omega
    have hcz : (n : Int) ≤ (c : Int) := by omega
    have hc3 : n ≤ c := by omega
    go_quiet ((go_at_call 26; exact Calls.quiet_of_same (HJ.out _ _)))
    go_wp2_with fail
    go_ret2
    exact ⟨by rw [HD2.out, HN2.out]; rfl, belowDN HB.out _⟩

theorem add3 (w0 : World) (d n : List UInt8) (h : d.length + n.length + 1 ≤ 9223372036854775807) :
    (Op.stringOp .add (bs d) ⟨#[47]⟩).run Tryd.prog w0 = .ok (.string (bs (d ++ [47]))) w0 ∧ (Op.stringOp .add (bs (d ++ [47])) (bs n)).run Tryd.prog w0 = .ok (.string (bs (d ++ 47 :: n))) w0 := by
  refine ⟨bs_add w0 d [47] (by simp; omega), ?_⟩
  rw [bs_add w0 (d ++ [47]) n (by simp; omega)]; simp

theorem refIn_any (d n : List UInt8) (w : World) (hd : d.length ≤ 1099511627776) (hn : n.length ≤ 1099511627776) :
    Calls Tryd.prog 17 #[.string (bs d), .string (bs n)] w fun e w' => e = .returned (.string (bs (inL d n))) ∧ w = w' := by
  by_cases h0 : d = []
  · have e0 : (bs d).toList.isEmpty = true := by rw [bs_toList, h0]; rfl
    have e1 : (bs d).toList = [] := by rw [bs_toList, h0]
    have HR : Hid (inL d n = n) := by show _ = _; unfold inL; rw [if_pos h0]
    clear h0
    go_enter Tryd.func17, Tryd.ntmps17
    go_wp2_with fail
    go_ret
    exact ⟨by rw [HR.out]; rfl, rfl⟩
  · have e0 : (bs d).toList.isEmpty = false := by rw [bs_toList]; cases d with | nil => exact absurd rfl h0 | cons => rfl
    by_cases h1 : n = []
    · have e1 : (bs n).toList.isEmpty = true := by rw [bs_toList, h1]; rfl
      have e2 : (bs n).toList = [] := by rw [bs_toList, h1]
      have HR : Hid (inL d n = d) := by show _ = _; unfold inL; rw [if_neg h0, if_pos h1]
      clear h0 h1
      go_enter Tryd.func17, Tryd.ntmps17
      go_wp2_with fail
      go_ret
      exact ⟨by rw [HR.out]; rfl, rfl⟩
    · have e1 : (bs n).toList.isEmpty = false := by rw [bs_toList]; cases n with | nil => exact absurd rfl h1 | cons => rfl
      have HR : Hid (inL d n = d ++ 47 :: n) := by show _ = _; unfold inL; rw [if_neg h0, if_neg h1]
      have HA := fun w0 => (add3 w0 d n (by omega)).1
      have HA2 := fun w0 => (add3 w0 d n (by omega)).2
      clear h0 h1
      go_enter Tryd.func17, Tryd.ntmps17
      go_wp2_with fail
      go_ret
      exact ⟨by rw [HR.out]; rfl, rfl⟩

/-- Two texts' parts, both in memory. -/
theorem two_use {ls ms : List (List UInt8)} {w w1 w2 : World} {a : Option Addr} (h1 : SlAt w1 a ls) (hb1 : Below w.heap.size w w1) {e : Ending} (h : RetSl w1 ms e w2) :
    ∃ a2 c2, e = .returned (.slice a2 ms.length c2) ∧ SlAt w2 a ls ∧ SlAt w2 a2 ms ∧ Below w.heap.size w w2 := by
  obtain ⟨v, rfl, ⟨a2, c2, rfl, _, _, hS⟩, hb⟩ := h
  exact ⟨a2, c2, rfl, h1.below hb, hS, btz hb1 hb⟩
theorem one_use {ls : List (List UInt8)} {w w1 : World} {e : Ending} (h : RetSl w ls e w1) :
    ∃ a c, e = .returned (.slice a ls.length c) ∧ SlAt w1 a ls ∧ Below w.heap.size w w1 := by
  obtain ⟨v, rfl, ⟨a, c, rfl, _, _, hS⟩, hb⟩ := h
  exact ⟨a, c, rfl, hS, hb⟩

set_option maxHeartbeats 4000000 in
theorem refUnder_any (l m : List UInt8) (w : World) (hl : l.length ≤ 1099511620000) (hm : m.length ≤ 1099511620000) :
    Calls Tryd.prog 19 #[.string (bs l), .string (bs m)] w fun e w' => e = .returned (.bool (underL (partsL l) (partsL m))) ∧ Below w.heap.size w w' := by
  have HP : Hid (∀ w0, Calls Tryd.prog 15 #[.string (bs l)] w0 (RetSl w0 (partsL l))) := fun w0 => by
    have := refParts_any (bs l) w0 (by rw [bs_size]; omega)
    rwa [bs_list] at this
  have HQ : Hid (∀ w0, Calls Tryd.prog 15 #[.string (bs m)] w0 (RetSl w0 (partsL m))) := fun w0 => by
    have := refParts_any (bs m) w0 (by rw [bs_size]; omega)
    rwa [bs_list] at this
  have hpl := parts_len l
  have hpm := parts_len m
  generalize bs l = s at *
  generalize bs m = t at *
  generalize partsL l = ls at *
  generalize partsL m = ms at *
  obtain ⟨O, hO⟩ : ∃ O, O = underL ls ms := ⟨_, rfl⟩
  rw [← hO]
  have HO := Lib.hid hO
  clear hO
  obtain ⟨n, hn⟩ : ∃ n, n = ls.length := ⟨_, rfl⟩
  obtain ⟨k, hk⟩ : ∃ k, k = ms.length := ⟨_, rfl⟩
  rw [← hn] at hpl
  rw [← hk] at hpm
  have HN := Lib.hid hn
  have HK := Lib.hid hk
  clear hn hk
  by_cases hnk : n ≤ k
  · have HE : Hid (O = false) := by
      show _ = _
      rw [HO.out]; unfold underL; rw [← HN.out, ← HK.out, decide_eq_false (by omega)]; rfl
    go_enter Tryd.func19, Tryd.ntmps19
    go_wp2_with (first
      | (go_at_call 15; (with_reducible refine (HP.out _).mono ?_); rintro e w1 hr; obtain ⟨a, c, rfl, hS, hb⟩ := one_use hr; have HS := Lib.hid hS; have HB := Lib.hid hb; clear hS hb hr; rw [← HN.out])
      | (go_at_call 15; (with_reducible refine (HQ.out _).mono ?_); rintro e w2 hr; obtain ⟨a2, c2, rfl, hS1, hS2, hb2⟩ := two_use HS.out HB.out hr; have HS1 := Lib.hid hS1; have HS2 := Lib.hid hS2; have HB2 := Lib.hid hb2; clear hS1 hS2 hb2 hr; rw [← HK.out]))
    go_ret
    exact ⟨by rw [HE.out]; rfl, HB2.out⟩
  · have HE : Hid (O = decide (ls.take k = ms)) := by
      show _ = _
      rw [HO.out]; unfold underL; rw [← HN.out, ← HK.out, decide_eq_true (by omega)]; rfl
    go_enter Tryd.func19, Tryd.ntmps19
    go_wp2_with (first
      | (go_at_call 15; (with_reducible refine (HP.out _).mono ?_); rintro e w1 hr; obtain ⟨a, c, rfl, hS, hb⟩ := one_use hr; have HS := Lib.hid hS; have HB := Lib.hid hb; clear hS hb hr; rw [← HN.out])
      | (go_at_call 15; (with_reducible refine (HQ.out _).mono ?_); rintro e w2 hr; obtain ⟨a2, c2, rfl, hS1, hS2, hb2⟩ := two_use HS.out HB.out hr; have HS1 := Lib.hid hS1; have HS2 := Lib.hid hS2; have HB2 := Lib.hid hb2; clear hS1 hS2 hb2 hr; rw [← HK.out]))
    go_loopw [7] (fun i wr => ∃ j : Nat, i = .int .i64 j ∧ j ≤ k ∧ Hid (ls.take j = ms.take j) ∧ Hid (SlAt wr a ls) ∧ Hid (SlAt wr a2 ms) ∧ Hid (Below w.heap.size w wr)) (fun i _ => k - (intOf i).toNat)
    case atStart => exact ⟨0, rfl, Nat.zero_le _, rfl, HS1.out, HS2.out, HB2.out⟩
    case round =>
      clear HS1 HS2 HB2
      obtain ⟨j, rfl, hj, hsame, hA, hB, hbel⟩ := hrel
      by_cases hlt : j < k
      · have hjn : j < n := by omega
        have hj1 : j < ls.length := by rw [← HN.out]; exact hjn
        have hj2 : j < ms.length := by rw [← HK.out]; exact hlt
        rcases hA.out with h | ⟨b, o, rfl, hw, hc⟩
        · exact absurd hj1 (by rw [h]; simp)
        rcases hB.out with h | ⟨b2, o2, rfl, hw2, hc2⟩
        · exact absurd hj2 (by rw [h]; simp)
        have hx := hc j hj1
        have hy := hc2 j hj2
        have HT1 : Hid (ls.take (j + 1) = ls.take j ++ [ls[j]]) := List.take_succ_eq_append_getElem hj1
        have HT2 : Hid (ms.take (j + 1) = ms.take j ++ [ms[j]]) := List.take_succ_eq_append_getElem hj2
        have HG : Hid (ls[j] ≠ ms[j] → ls.take k ≠ ms) := fun h e => h (by
          have h1 : (ls.take k)[j]? = ls[j]? := by rw [List.getElem?_take]; simp [hlt]
          rw [e, List.getElem?_eq_getElem hj1, List.getElem?_eq_getElem hj2] at h1
          exact (Option.some.inj h1).symm)
        generalize ls[j] = x at *
        generalize ms[j] = y at *
        clear hc hc2
        by_cases hxy : x = y
        · subst hxy
          have e1 : ((bs x).toList != (bs x).toList) = false := by simp
          have HK2 : Hid (ls.take (j + 1) = ms.take (j + 1)) := by show _ = _; rw [HT1.out, HT2.out, hsame.out]
          go_wp2_with fail
          go_quiet (fail)
          go_wp2_with fail
          go_roundw
          case rel => exact ⟨j + 1, by go_num, by omega, HK2.out, slDN hA.out _, slDN hB.out _, belowDN hbel.out _⟩
          case measure => simp [intOf]; omega
        · have e1 : ((bs x).toList != (bs y).toList) = true := by rw [bs_toList, bs_toList]; simpa using hxy
          have e2 : ((bs x).toList == (bs y).toList) = false := by rw [bs_toList, bs_toList]; simpa using hxy
          have HE2 : Hid (O = false) := by show _ = _; rw [HE.out, decide_eq_false (HG.out hxy)]
          clear hxy
          go_wp2_with fail
          go_quiet (fail)
          go_wp2_with fail
          go_ret
          exact ⟨by rw [HE2.out]; rfl, belowDN hbel.out _⟩
      · have hjk : j = k := by omega
        have HE2 : Hid (O = true) := by
          show _ = _
          rw [HE.out, decide_eq_true]
          have := hsame.out
          rw [hjk] at this
          rw [this, HK.out, List.take_length]
        go_wp2_with fail
        go_ret
        exact ⟨by rw [HE2.out]; rfl, hbel.out⟩
end Go.Proofs.YtlkhpfokmcpeiaaDoor

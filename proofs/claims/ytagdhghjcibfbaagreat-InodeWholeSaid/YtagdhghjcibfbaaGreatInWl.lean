/- Layer 8: the law InodeWhole's walk; what sound answers is a premise (InSd's sound_any, when it is proved). -/
import Derived.Test.YtagdhghjcibfbaaGreatInWk
import Derived.Test.YtagdhghjcibfbaaGreatInSm
import Derived.Test.YtagdhghjcibfbaaGreatInZ
import Derived.Lib.EndianBits
namespace Go.Proofs.YtagdhghjcibfbaaGreat
open Go.RowKit
set_option linter.unusedVariables false
set_option linter.unusedSectionVars false
set_option maxRecDepth 100000

set_option maxHeartbeats 8000000 in
theorem lawWhole_any (sound_any : ∀ (v : Value) (T : Tb) (w : World) (hv : NsC w v T.nodes) (wf : Wf T) {N : Nat} (bd : Bd T N) (hN : N < 1000000000), Calls Tryz.prog 16 #[v, .int .i64 T.used] w fun e w' => e = .returned (.bool true) ∧ Below w.heap.size w w') (q : Int) (hq0 : 0 ≤ q) (hq1 : q < 65536) (a : Option Addr) (l : List AcT) (c : Nat) (w : World) (hA : ActsAt w a l) (hl : l.length ≤ 9223372036854775807) (hai : ∀ x ∈ l, ActIn x) :
    Calls Tryz.prog 4 #[.int .u16 q, .slice a l.length c] w fun e w' => e = .returned (.bool true) ∧ Below w.heap.size w w' := by
  obtain ⟨m, hm⟩ : ∃ m : Nat, (m : Int) = q % 8192 := ⟨(q % 8192).toNat, by omega⟩
  have hm1 : m ≤ 8191 := by omega
  have hand : bits .and .u16 q 8191 = (m : Int) := (show bits .and .u16 q 8191 = q % 8192 from bits_mask .u16 16 (by decide) wraps_u16 13 (by decide) q hq0 hq1).trans hm.symm
  have CN := Lib.hid (at_new (64 + (m : Int)) (by omega) (by omega) w)
  have hmw : IntKind.i64.wrap (m : Int) = (m : Int) := IntWalk.i64_in _ (by omega)
  have hmw2 : IntKind.i64.wrap (64 + (m : Int)) = 64 + (m : Int) := IntWalk.i64_in _ (by omega)
  have hmw3 : IntKind.u16.wrap (m : Int) = (m : Int) := wraps_u16 _ (by omega) (by omega)
  obtain ⟨t, ht⟩ : ∃ t, t = w.heap.size + 1 := ⟨_, rfl⟩
  rw [← ht] at CN
  have AWK : Hid (∀ w0 : World, Calls Tryz.prog 6 #[] w0 fun e w' => e = .returned (.bool true) ∧ Below w0.heap.size w0 w') := Lib.hid awake8_any
  have CS : Hid (∀ w1 : World, Below w.heap.size w w1 → Calls Tryz.prog 5 #[.slice a l.length c, .int .i64 40] w1 fun e w' => e = .returned (.bool (smallB l 40)) ∧ w1 = w') := Lib.hid (fun (w1 : World) (hb : Below w.heap.size w w1) => small_any a l c w1 (by
    rcases hA with e | ⟨b, o, e, hw, hc⟩
    · exact .inl e
    · exact .inr ⟨b, o, e, Nat.lt_of_lt_of_le hw hb.size, fun j hj => (hc j hj).below hb hw⟩) hl 40 (by decide))
  by_cases h2 : smallB l 40 = true
  case neg =>
    clear sound_any
    rw [show smallB l 40 = false by simpa using h2] at CS
    clear h2 ht hA hai hm
    generalize l.length = n at *
    go_enter Tryz.func4, Tryz.ntmps4
    go_wp2_with (first
      | (go_at_call 7; (with_reducible refine CN.out.mono ?_); rintro e w1 ⟨rfl, h⟩; have HB := Lib.hid h.bel; clear h)
      | (go_at_call 5; (with_reducible refine (CS.out _ HB.out).mono ?_); rintro e w2 ⟨rfl, hw⟩; obtain rfl := hw)
      | (go_at_call 6; (with_reducible refine (AWK.out _).mono ?_); rintro e w3 ⟨rfl, hb⟩; have HB2 := Lib.hid hb; clear hb))
    go_ret
    exact ⟨rfl, HB.out.trans (HB2.out.mono HB.out.size)⟩
  rw [h2] at CS
  have hao : ∀ x ∈ l, ActOk x := fun x hx => (hai x hx).ok (small_fine h2 x hx).1
  have hl40 : l.length ≤ 40 := by
    unfold smallB at h2
    simp only [Bool.and_eq_true, decide_eq_true_eq] at h2
    exact h2.2
  have CD : Hid (∀ (w1 : World) (T : Tb) (N : Nat) (x : AcT) (v : Value), AtV w t T N v T.nodes w1 → N < 1000 → x ∈ l → Calls Tryz.prog 10 #[.pointer (some ⟨t, 0, none⟩), .agg #[.int .i64 x.kind, .int .i64 x.id, .int .i64 x.dir, .int .i64 x.at_, .int .i64 x.n, .string (bs x.name), .string (bs x.nm), .bool x.flag]] w1 fun e w' => e = .returned (.tuple #[.int .i64 (T.step x).2.1, .string (bs (T.step x).2.2.1), .int .i64 (T.step x).2.2.2]) ∧ At w t (T.step x).1 (N + 1) w' ∧ NsC w' v T.nodes) := Lib.hid fun w1 T N x v h hN hx =>
    atv_do (by omega) h x (hao x hx)
  have CND : Hid (∀ (w1 : World) (T : Tb) (N : Nat), At w t T N w1 → N < 1000 → Calls Tryz.prog 15 #[.pointer (some ⟨t, 0, none⟩)] w1 fun e w' => ∃ g n c, e = .returned (.slice (some ⟨g, 0, none⟩) n c) ∧ AtV w t T (N + 1) (.slice (some ⟨g, 0, none⟩) n c) T.nodes w' ∧ Below w1.heap.size w1 w') := Lib.hid fun w1 T N h hN =>
    (at_nodes (by omega) h).mono fun e w' ⟨v, he, hv, hb⟩ => by
      obtain ⟨g, c, rfl, _⟩ := hv.ns
      exact ⟨g, _, c, he, hv, hb⟩
  have CU : Hid (∀ (w1 : World) (T : Tb) (N : Nat), At w t T N w1 → Calls Tryz.prog 12 #[.pointer (some ⟨t, 0, none⟩)] w1 fun e w' => e = .returned (.int .i64 T.used) ∧ w' = w1) := Lib.hid fun w1 T N h => by
    obtain ⟨S, ⟨A, mb, h1, hS⟩, h2⟩ := h.tab
    exact used_any h1
  have CSO : Hid (∀ (w1 : World) (v : Value) (T : Tb) (N : Nat), NsC w1 v T.nodes → At w t T N w1 → N < 1000 → Calls Tryz.prog 16 #[v, .int .i64 T.used] w1 fun e w' => e = .returned (.bool true) ∧ At w t T (N + 1) w') := Lib.hid fun w1 v T N hv h hN =>
    (sound_any v T w1 hv h.wf h.bd (by omega)).mono fun e w' ⟨he, hb⟩ => ⟨he, at_same h (by omega) hb⟩
  have CSM : Hid (∀ (w1 : World) (v v2 : Value) (T : Tb) (N : Nat), NsC w1 v T.nodes → NsC w1 v2 T.nodes → At w t T N w1 → N < 1000 → Calls Tryz.prog 14 #[v, v2] w1 fun e w' => e = .returned (.bool true) ∧ At w t T (N + 1) w' ∧ NsC w' v2 T.nodes) := Lib.hid fun w1 v v2 T N hv hv2 h hN =>
    (same_any v v2 T.nodes w1 hv hv2 (by have := h.bd.len; omega) (fun j hj => by
      have := (h.bd.nod (T.nodes[j]).1 (T.nodes[j]).2 (mem_aget (ris_ne ord_I h.wf.ris) (List.getElem_mem hj))).1
      omega)).mono fun e w' ⟨he, hb⟩ => ⟨he, at_same h (by omega) hb, hv2.below hb⟩
  clear sound_any
  have HQT : Hid (∀ (T : Tb) (N : Nat) (w1 : World), At w t T N w1 → T.quota = 64 + (m : Int) → decide (64 + (m : Int) < T.used) = false) := Lib.hid fun T N w1 h hq => decide_eq_false (by have := h.bd.quo.1; omega)
  have HQ0 : Hid ((Tb.fresh (64 + (m : Int))).quota = 64 + (m : Int)) := Lib.hid rfl
  have HA := Lib.hid hA
  have HN : Hid (l.length ≤ 40) := Lib.hid hl40
  clear h2 ht hA hl hl40 hai hao hm
  obtain ⟨n, hnn⟩ : ∃ n, n = l.length := ⟨_, rfl⟩
  rw [← hnn] at CS HN ⊢
  have HNN := Lib.hid hnn
  clear hnn
  generalize Tb.fresh (64 + (m : Int)) = T0 at *
  go_enter Tryz.func4, Tryz.ntmps4
  go_wp2_with (first
    | (go_at_call 7; (with_reducible refine CN.out.mono ?_); rintro e w1 ⟨rfl, h⟩; have HB := Lib.hid h.bel; have H0 := Lib.hid h; clear h)
    | (go_at_call 5; (with_reducible refine (CS.out _ HB.out).mono ?_); rintro e w2 ⟨rfl, hw⟩; obtain rfl := hw))
  go_loopw [8] (fun i wr => ∃ (k : Nat) (T : Tb) (N : Nat), i = .int .i64 k ∧ k ≤ n ∧ Hid (At w t T N wr) ∧ N ≤ 10 + 10 * k ∧ Hid (T.quota = 64 + (m : Int))) (fun i _ => n - (intOf i).toNat)
  case atStart => exact ⟨0, T0, 0, rfl, Nat.zero_le _, H0, by omega, HQ0⟩
  case round =>
    obtain ⟨k, T, N, rfl, hk, HT, hN, HQ⟩ := hrel
    by_cases hlt : k < n
    · rcases HA.out with e0 | ⟨b, o, rfl, hw, hc⟩
      · exact absurd hlt (by rw [HNN.out, e0]; simp)
      have hk' : k < l.length := by rw [← HNN.out]; exact hlt
      have hx0 := hc k hk'
      have HMEM : Hid (l[k] ∈ l) := Lib.hid (List.getElem_mem hk')
      have HN40 := HN.out
      clear hc
      generalize l[k] = x at *
      have HX : Hid (∀ w', Below w.heap.size w w' → ActAt w' b (o + k * 8) x) := Lib.hid fun w' hb => hx0.below hb hw
      have HND1 := Lib.hid (CND.out wr T N HT.out (by omega))
      have CD1 := Lib.hid (fun (w1 : World) (v : Value) (hv : AtV w t T (N + 1) v T.nodes w1) => CD.out w1 T (N + 1) x v hv (by omega) HMEM.out)
      have HRF : Hid ((T.step x).2.2.2 ≠ 0 → (T.step x).1 = T) := Lib.hid (step_refused T x)
      have HQ1 : Hid ((T.step x).1.quota = 64 + (m : Int)) := Lib.hid ((step_quota T x).trans HQ.out)
      clear hx0 HMEM
      generalize (T.step x).1 = T1 at *
      generalize (T.step x).2.1 = r0 at *
      generalize bs (T.step x).2.2.1 = r1 at *
      generalize (T.step x).2.2.2 = E at *
      by_cases hE : E = 0
      · have hE1 : (E != 0) = false := by simp [hE]
        clear hE HRF
        go_wp2_with (first
          | (go_at_call 15; (with_reducible refine HND1.out.mono ?_); rintro e w2 ⟨g2, n2, c2, rfl, hv, hb⟩; have HV := Lib.hid hv; have hx := HX.out _ hv.bel; have f0 := hx.c0; have f1 := hx.c1; have f2 := hx.c2; have f3 := hx.c3; have f4 := hx.c4; have f5 := hx.c5; have f6 := hx.c6; have f7 := hx.c7; clear hv hb hx)
          | (go_at_call 10; (with_reducible refine (CD1.out _ _ HV.out).mono ?_); rintro e w3 ⟨rfl, h, hns⟩; have H3 := Lib.hid h; clear h hns f0 f1 f2 f3 f4 f5 f6 f7)
          | (go_at_call 15; (with_reducible refine (CND.out _ _ _ H3.out (by omega)).mono ?_); rintro e w4 ⟨g4, n4, c4, rfl, hv, hb⟩; have H4 := Lib.hid hv.at_; have HS4 := Lib.hid hv.ns; have hgt := HQT.out _ _ _ hv.at_ HQ1.out; clear hv hb)
          | (go_at_call 12; (with_reducible refine (CU.out _ _ _ H4.out).mono ?_); rintro e w5 ⟨rfl, hw5⟩; obtain rfl : w4 = w5 := hw5.symm; clear hw5)
          | (go_at_call 16; (with_reducible refine (CSO.out _ _ _ _ HS4.out H4.out (by omega)).mono ?_); rintro e w6 ⟨rfl, h⟩; have H6 := Lib.hid h; clear h))
        go_roundw
        case rel => exact ⟨k + 1, T1, N + 1 + 1 + 1 + 1, by go_num, by omega, H6, by omega, HQ1⟩
        case measure => simp [intOf]; omega
      · have hE1 : (E != 0) = true := by simpa using hE
        have HTT := HRF.out hE
        subst HTT
        clear hE HRF
        go_wp2_with (first
          | (go_at_call 15; (with_reducible refine HND1.out.mono ?_); rintro e w2 ⟨g2, n2, c2, rfl, hv, hb⟩; have HV := Lib.hid hv; have hx := HX.out _ hv.bel; have f0 := hx.c0; have f1 := hx.c1; have f2 := hx.c2; have f3 := hx.c3; have f4 := hx.c4; have f5 := hx.c5; have f6 := hx.c6; have f7 := hx.c7; clear hv hb hx)
          | (go_at_call 10; (with_reducible refine (CD1.out _ _ HV.out).mono ?_); rintro e w3 ⟨rfl, h, hns⟩; have H3 := Lib.hid h; have HS3 := Lib.hid hns; clear h hns f0 f1 f2 f3 f4 f5 f6 f7)
          | (go_at_call 15; (with_reducible refine (CND.out _ _ _ H3.out (by omega)).mono ?_); rintro e w4 ⟨g4, n4, c4, rfl, hv, hb⟩; have H4 := Lib.hid hv.at_; have HS4 := Lib.hid hv.ns; have HO4 := Lib.hid (HS3.out.below hb); have hgt := HQT.out _ _ _ hv.at_ HQ1.out; clear hv hb)
          | (go_at_call 14; (with_reducible refine (CSM.out _ _ _ _ _ HO4.out HS4.out H4.out (by omega)).mono ?_); rintro e w5 ⟨rfl, h, hns⟩; have H5 := Lib.hid h; have HS5 := Lib.hid hns; clear h hns)
          | (go_at_call 12; (with_reducible refine (CU.out _ _ _ H5.out).mono ?_); rintro e w6 ⟨rfl, hw6⟩; obtain rfl : w5 = w6 := hw6.symm; clear hw6)
          | (go_at_call 16; (with_reducible refine (CSO.out _ _ _ _ HS5.out H5.out (by omega)).mono ?_); rintro e w7 ⟨rfl, h⟩; have H7 := Lib.hid h; clear h))
        go_roundw
        case rel => exact ⟨k + 1, _, N + 1 + 1 + 1 + 1 + 1, by go_num, by omega, H7, by omega, HQ1⟩
        case measure => simp [intOf]; omega
    · obtain rfl : k = n := by omega
      clear HA
      go_wp2_with (first
        | (go_at_call 6; (with_reducible refine (AWK.out _).mono ?_); rintro e w3 ⟨rfl, hb⟩; have HB2 := Lib.hid hb; clear hb))
      go_ret
      exact ⟨rfl, HT.out.bel.trans (HB2.out.mono HT.out.bel.size)⟩
end Go.Proofs.YtagdhghjcibfbaaGreat

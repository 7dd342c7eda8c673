/- Layer 8: the law InodeStays' walk. -/
import Derived.Test.YtogdmbfinankhaaInKp
namespace Go.Proofs.Ytogdmbfinankhaa
open Go.RowKit
set_option linter.unusedVariables false
set_option linter.unusedSectionVars false
set_option maxRecDepth 100000

theorem At.top {w0 w : World} {t : Nat} {T : Tb} {N : Nat} (h : At w0 t T N w) {w' : World} (hb : Below w.heap.size w w') : At w0 t T (N + 1) w' := by
  obtain ⟨S, ⟨A, mb, h1, hS⟩, h2⟩ := h.tab
  exact ⟨⟨S, ⟨A, mb, h1.below hb, hS⟩, h2⟩, h.bel.trans (hb.mono h.bel.size), h.wf, h.bd.up⟩

set_option maxHeartbeats 8000000 in
theorem lawStays_any (s : ByteArray) (a : Option Addr) (l : List AcT) (c : Nat) (w : World) (hA : ActsAt w a l) (hl : l.length ≤ 9223372036854775807) (hai : ∀ x ∈ l, ActIn x) :
    Calls Try.prog 3 #[.string s, .slice a l.length c] w fun e w' => e = .returned (.bool true) ∧ Below w.heap.size w w' := by
  have CN := Lib.hid (at_new 1048576 (by decide) (by decide) w)
  obtain ⟨t, ht⟩ : ∃ t, t = w.heap.size + 1 := ⟨_, rfl⟩
  rw [← ht] at CN
  have AWK : Hid (∀ w0 : World, Calls Try.prog 6 #[] w0 fun e w' => e = .returned (.bool true) ∧ Below w0.heap.size w0 w') := Lib.hid awake8_any
  by_cases h1 : 256 < s.size
  · have h1' : (256 : Int) < (s.size : Int) := by omega
    clear h1 ht hA hl hai
    go_enter Try.func3, Try.ntmps3
    go_wp2_with (first
      | (go_at_call 4; (with_reducible refine CN.out.mono ?_); rintro e w1 ⟨rfl, h⟩; have HB := Lib.hid h.bel; clear h)
      | (go_at_call 6; (with_reducible refine (AWK.out _).mono ?_); rintro e w2 ⟨rfl, hb⟩; have HB2 := Lib.hid hb; clear hb))
    go_ret
    exact ⟨rfl, HB.out.trans (HB2.out.mono HB.out.size)⟩
  have h1' : (s.size : Int) ≤ 256 := by omega
  have CS : Hid (∀ w1 : World, Below w.heap.size w w1 → Calls Try.prog 5 #[.slice a l.length c, .int .i64 30] w1 fun e w' => e = .returned (.bool (smallB l 30)) ∧ w1 = w') := Lib.hid (fun (w1 : World) (hb : Below w.heap.size w w1) => small_any a l c w1 (by
    rcases hA with e | ⟨b, o, e, hw, hc⟩
    · exact .inl e
    · exact .inr ⟨b, o, e, Nat.lt_of_lt_of_le hw hb.size, fun j hj => (hc j hj).below hb hw⟩) hl 30 (by decide))
  by_cases h2 : smallB l 30 = true
  case neg =>
    rw [show smallB l 30 = false by simpa using h2] at CS
    clear h1 h2 ht hA hai
    generalize l.length = n at *
    go_enter Try.func3, Try.ntmps3
    go_wp2_with (first
      | (go_at_call 4; (with_reducible refine CN.out.mono ?_); rintro e w1 ⟨rfl, h⟩; have HB := Lib.hid h.bel; clear h)
      | (go_at_call 5; (with_reducible refine (CS.out _ HB.out).mono ?_); rintro e w2 ⟨rfl, hw⟩; obtain rfl := hw)
      | (go_at_call 6; (with_reducible refine (AWK.out _).mono ?_); rintro e w3 ⟨rfl, hb⟩; have HB2 := Lib.hid hb; clear hb))
    go_ret
    exact ⟨rfl, HB.out.trans (HB2.out.mono HB.out.size)⟩
  rw [h2] at CS
  have hao : ∀ x ∈ l, ActOk x := fun x hx => (hai x hx).ok (small_fine h2 x hx).1
  have hl30 : l.length ≤ 30 := by
    unfold smallB at h2
    simp only [Bool.and_eq_true, decide_eq_true_eq] at h2
    exact h2.2
  have hi : ∀ x : Int, 0 ≤ x → x ≤ 5000 → InI x := fun x h1 h2 => by unfold InI; omega
  obtain ⟨sl, hsl⟩ : ∃ sl, sl = s.data.toList := ⟨_, rfl⟩
  have hsb : s = bs sl := by rw [hsl, of_bs]
  have hslen : sl.length ≤ 256 := by rw [hsl]; have : s.data.toList.length = s.size := by simp
                                     omega
  have C1 : Hid (∀ w1, At w t (Tb.fresh 1048576) 0 w1 → Calls Try.prog 7 #[.pointer (some ⟨t, 0, none⟩), .int .i64 1, .string ⟨#[110]⟩, .bool false] w1 fun e w' => e = .returned (.tuple #[.int .i64 2, .int .i64 0]) ∧ At w t sT1 1 w') := Lib.hid fun w1 h => by
    have := at_make h (by decide) (hi 1 (by decide) (by decide)) [110] false
    rw [sF1] at this; exact this
  have C2 : Hid (∀ w1, At w t sT1 1 w1 → Calls Try.prog 8 #[.pointer (some ⟨t, 0, none⟩), .int .i64 2, .int .i64 0, .string s] w1 fun e w' => e = .returned (.int .i64 0) ∧ At w t (sT2 sl) 2 w') := Lib.hid fun w1 h => by
    have := at_write h (by decide) (hi 2 (by decide) (by decide)) 0 (hi 0 (by decide) (by decide)) sl (by omega)
    rw [sF2 sl hslen, ← hsb] at this; exact this
  have C3 : Hid (∀ w1, At w t (sT2 sl) 2 w1 → Calls Try.prog 9 #[.pointer (some ⟨t, 0, none⟩), .int .i64 2] w1 fun e w' => e = .returned (.int .i64 0) ∧ At w t (sT3 sl) 3 w') := Lib.hid fun w1 h => by
    have := at_hold h (by decide) (hi 2 (by decide) (by decide))
    rw [sF3] at this; exact this
  have C4 : Hid (∀ w1, At w t (sT3 sl) 3 w1 → Calls Try.prog 10 #[.pointer (some ⟨t, 0, none⟩), .int .i64 1, .string ⟨#[110]⟩] w1 fun e w' => e = .returned (.int .i64 0) ∧ At w t (sT4 sl) 4 w') := Lib.hid fun w1 h => by
    have := at_unlink h (by decide) (hi 1 (by decide) (by decide)) [110]
    rw [sF4] at this; exact this
  have CD : Hid (∀ (w1 : World) (T : Tb) (N : Nat) (x : AcT), At w t T N w1 → N < 1000 → x ∈ l → Calls Try.prog 11 #[.pointer (some ⟨t, 0, none⟩), actV x] w1 fun e w' => (∃ v0 v1 v2, e = .returned (.tuple #[v0, v1, v2])) ∧ At w t (T.step x).1 (N + 1) w') := Lib.hid fun w1 T N x h hN hx =>
    (at_do h (by omega) x (hao x hx)).mono fun e w' ⟨he, hp⟩ => ⟨⟨_, _, _, he⟩, hp⟩
  have CR : Hid (∀ (w1 : World) (T : Tb) (N : Nat), At w t T N w1 → N < 1000 → Kp T sl → Calls Try.prog 12 #[.pointer (some ⟨t, 0, none⟩), .int .i64 2, .int .i64 0, .int .i64 1024] w1 fun e w' => e = .returned (.tuple #[.string s, .int .i64 0]) ∧ At w t T (N + 1) w') := Lib.hid fun w1 T N h hN hk => by
    have := at_read h (by omega) (hi 2 (by decide) (by decide)) 0 1024 (hi 0 (by decide) (by decide)) (hi 1024 (by decide) (by decide))
    rw [kp_read hk hslen, ← hsb] at this; exact this
  have HKP : Hid (Kp (sT4 sl) sl) := Lib.hid (sKp sl)
  have HA := Lib.hid hA
  have HN : Hid (l.length ≤ 30) := Lib.hid hl30
  have hss : (s.toList != s.toList) = false := by simp
  clear h1 h2 ht hA hl hl30 hi hsb hslen hsl
  obtain ⟨n, hnn⟩ : ∃ n, n = l.length := ⟨_, rfl⟩
  rw [← hnn] at CS HN ⊢
  have HNN := Lib.hid hnn
  clear hnn
  generalize sT4 sl = T4 at *
  generalize sT3 sl = T3 at *
  generalize sT2 sl = T2 at *
  go_enter Try.func3, Try.ntmps3
  go_wp2_with (first
    | (go_at_call 4; (with_reducible refine CN.out.mono ?_); rintro e w1 ⟨rfl, h⟩; have HB := Lib.hid h.bel; have H0 := Lib.hid h; clear h)
    | (go_at_call 5; (with_reducible refine (CS.out _ HB.out).mono ?_); rintro e w2 ⟨rfl, hw⟩; obtain rfl := hw)
    | (go_at_call 7; (with_reducible refine (C1.out _ H0.out).mono ?_); rintro e w3 ⟨rfl, h⟩; have H1 := Lib.hid h; clear h)
    | (go_at_call 8; (with_reducible refine (C2.out _ H1.out).mono ?_); rintro e w4 ⟨rfl, h⟩; have H2 := Lib.hid h; clear h)
    | (go_at_call 9; (with_reducible refine (C3.out _ H2.out).mono ?_); rintro e w5 ⟨rfl, h⟩; have H3 := Lib.hid h; clear h)
    | (go_at_call 10; (with_reducible refine (C4.out _ H3.out).mono ?_); rintro e w6 ⟨rfl, h⟩; have H4 := Lib.hid h; clear h))
  go_loopw [9] (fun i wr => ∃ (k : Nat) (T : Tb) (N : Nat), i = .int .i64 k ∧ k ≤ n ∧ Hid (At w t T N wr) ∧ N ≤ 10 + 10 * k ∧ Hid (Kp T sl)) (fun i _ => n - (intOf i).toNat)
  case atStart => exact ⟨0, T4, 4, rfl, Nat.zero_le _, H4, by omega, HKP⟩
  case round =>
    obtain ⟨k, T, N, rfl, hk, HT, hN, HK⟩ := hrel
    by_cases hlt : k < n
    · rcases HA.out with e0 | ⟨b, o, rfl, hw, hc⟩
      · exact absurd hlt (by rw [HNN.out, e0]; simp)
      have hk' : k < l.length := by rw [← HNN.out]; exact hlt
      have hx := (hc k hk').below HT.out.bel hw
      have HMEM : Hid (l[k] ∈ l) := Lib.hid (List.getElem_mem hk')
      generalize l[k] = x at *
      obtain ⟨W1, hW1⟩ : ∃ W1, wr.alloc (.cells #[.int .i64 x.kind, .int .i64 x.id, .int .i64 x.dir, .int .i64 x.at_, .int .i64 x.n, .string (bs x.name), .string (bs x.nm), .bool x.flag] 35) = W1 := ⟨_, rfl⟩
      have c0 := hx.c0; have c1 := hx.c1; have c2 := hx.c2; have c3 := hx.c3; have c4 := hx.c4; have c5 := hx.c5; have c6 := hx.c6; have c7 := hx.c7
      have HN30 := HN.out
      have bx : BX W1 wr.heap.size x := by rw [← hW1]; exact (MapKept.heap_alloc wr _).1
      have hb0 : Below wr.heap.size wr W1 := by rw [← hW1]; exact (Below.refl _ wr).alloc (Nat.le_refl _) _
      have H1 := Lib.hid (HT.out.top hb0)
      have b0 := bx.c0; have b1 := bx.c1; have b2 := bx.c2; have b3 := bx.c3; have b4 := bx.c4; have b5 := bx.c5; have b6 := bx.c6; have b7 := bx.c7
      have CD1 : Hid (Calls Try.prog 11 #[.pointer (some ⟨t, 0, none⟩), .agg #[.int .i64 x.kind, .int .i64 x.id, .int .i64 x.dir, .int .i64 x.at_, .int .i64 x.n, .string (bs x.name), .string (bs x.nm), .bool x.flag]] W1 fun e w' => (∃ v0 v1 v2, e = .returned (.tuple #[v0, v1, v2])) ∧ At w t (T.step x).1 (N + 1 + 1) w') := Lib.hid (CD.out W1 T (N + 1) x H1.out (by omega) HMEM.out)
      have KP1 : Hid (¬ (x.id = 2 ∧ (x.kind = 8 ∨ x.kind = 9 ∨ x.kind = 11)) → Kp (T.step x).1 sl) := Lib.hid (fun hne => step_kp HK.out HT.out.wf (HT.out.bd.ok HT.out.wf (by omega)) x hne)
      clear hc hx bx hb0
      by_cases i1 : x.id = 2
      · have i1' : (x.id == 2) = true := by simpa using i1
        by_cases k8 : x.kind = 8
        · have k8' : (x.kind == 8) = true := by simpa using k8
          clear KP1 CD1 i1 k8
          go_wp2_with fail
          go_roundw
          case rel => exact ⟨k + 1, T, N + 1, by go_num, by omega, H1, by omega, HK⟩
          case measure => simp [intOf]; omega
        have k8' : (x.kind == 8) = false := by simpa using k8
        by_cases k9 : x.kind = 9
        · have k9' : (x.kind == 9) = true := by simpa using k9
          clear KP1 CD1 i1 k8 k9
          go_wp2_with fail
          go_roundw
          case rel => exact ⟨k + 1, T, N + 1, by go_num, by omega, H1, by omega, HK⟩
          case measure => simp [intOf]; omega
        have k9' : (x.kind == 9) = false := by simpa using k9
        by_cases k11 : x.kind = 11
        · have k11' : (x.kind == 11) = true := by simpa using k11
          clear KP1 CD1 i1 k8 k9 k11
          go_wp2_with fail
          go_roundw
          case rel => exact ⟨k + 1, T, N + 1, by go_num, by omega, H1, by omega, HK⟩
          case measure => simp [intOf]; omega
        have k11' : (x.kind == 11) = false := by simpa using k11
        have HK1 := Lib.hid (KP1.out (by simp [k8, k9, k11]))
        clear KP1 i1 k8 k9 k11
        go_wp2_with (first
          | (go_at_call 11; (with_reducible refine CD1.out.mono ?_); rintro e w3 ⟨⟨v0, v1, v2, rfl⟩, h⟩; have H2 := Lib.hid h; clear h)
          | (go_at_call 12; (with_reducible refine (CR.out _ _ _ H2.out (by omega) HK1.out).mono ?_); rintro e w4 ⟨rfl, h⟩; have H3 := Lib.hid h; clear h))
        go_roundw
        case rel => exact ⟨k + 1, (T.step x).1, N + 1 + 1 + 1, by go_num, by omega, H3, by omega, HK1⟩
        case measure => simp [intOf]; omega
      have i1' : (x.id == 2) = false := by simpa using i1
      have HK1 := Lib.hid (KP1.out (fun e => i1 e.1))
      clear KP1 i1
      go_wp2_with (first
        | (go_at_call 11; (with_reducible refine CD1.out.mono ?_); rintro e w3 ⟨⟨v0, v1, v2, rfl⟩, h⟩; have H2 := Lib.hid h; clear h)
        | (go_at_call 12; (with_reducible refine (CR.out _ _ _ H2.out (by omega) HK1.out).mono ?_); rintro e w4 ⟨rfl, h⟩; have H3 := Lib.hid h; clear h))
      go_roundw
      case rel => exact ⟨k + 1, (T.step x).1, N + 1 + 1 + 1, by go_num, by omega, H3, by omega, HK1⟩
      case measure => simp [intOf]; omega
    · obtain rfl : k = n := by omega
      clear HA
      go_wp2_with (first
        | (go_at_call 6; (with_reducible refine (AWK.out _).mono ?_); rintro e w3 ⟨rfl, hb⟩; have HB2 := Lib.hid hb; clear hb))
      go_ret
      exact ⟨rfl, HT.out.bel.trans (HB2.out.mono HT.out.bel.size)⟩
end Go.Proofs.Ytogdmbfinankhaa

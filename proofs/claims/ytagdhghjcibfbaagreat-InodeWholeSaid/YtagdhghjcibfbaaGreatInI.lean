/- Layer 8: Write, Truncate, Hold. -/
import Derived.Test.YtagdhghjcibfbaaGreatInH
namespace Go.Proofs.YtagdhghjcibfbaaGreat
open Go.RowKit
set_option linter.unusedVariables false
set_option linter.unusedSectionVars false
set_option maxRecDepth 100000

/-- What an act leaves. -/
structure Left (w : World) (t : Nat) (T T' : Tb) (A : Int → Nat × Nat) (mb : Nat) (w' : World) : Prop where
  tab : TbAt w' t T' A mb
  ch : Ch (Own t mb A T.nodes) w w'
theorem Left.same {w w' : World} {t : Nat} {T : Tb} {A : Int → Nat × Nat} {mb : Nat} (h : TbAt w t T A mb) (b : Below w.heap.size w w') : Left w t T T A mb w' := ⟨h.below b, Ch.of_below b⟩
theorem left_of {w w1 w2 : World} {t : Nat} {T T' : Tb} {A : Int → Nat × Nat} {mb : Nat} (h : Left w t T T A mb w1) (k : TbAt w2 t T' A mb ∧ Ch (Own t mb A T.nodes) w1 w2) : Left w t T T' A mb w2 := ⟨k.1, h.2.step k.2⟩
theorem left_below {w w1 w2 : World} {t : Nat} {T T' : Tb} {A : Int → Nat × Nat} {mb : Nat} (h : Hid (Left w t T T' A mb w1)) (b : Below w1.heap.size w1 w2) : Hid (Left w t T T' A mb w2) := Lib.hid ⟨h.out.1.below b, h.out.2.step (Ch.of_below b)⟩

section
variable {w : World} {t : Nat} {T : Tb} {A : Int → Nat × Nat} {mb : Nat} (h : TbAt w t T A mb) (ok : Ok T) {id : Int} (hid : InI id)
include h ok hid
theorem write_any (a : Int) (ha : InI a) (s : List UInt8) (hs : s.length ≤ 140737488355328) :
    Calls Tryz.prog 18 #[.pointer (some ⟨t, 0, none⟩), .int .i64 id, .int .i64 a, .string (bs s)] w fun e w' =>
      e = .returned (.int .i64 (T.writeE id a s)) ∧ Left w t T (if T.writeE id a s = 0 then T.write id a s else T) A mb w' := by
  have HL : Hid (Left w t T T A mb w) := Lib.hid (Left.same h (Below.refl _ _))
  have hz := bs_size s
  unfold Tb.writeE
  by_cases hf : T.fileE id a = 0
  case neg =>
    have C := fileAt_no h hid a ha hf
    rw [if_neg hf, if_neg hf]
    have hk2 : (T.fileE id a == 0) = false := by simpa using hf
    have hk3 : (T.fileE id a != 0) = true := by simpa using hf
    clear hf hz
    generalize T.fileE id a = k at *
    go_enter Tryz.func18, Tryz.ntmps18
    go_wp2_with (go_at_call 47; (with_reducible refine C.mono ?_); rintro e w1 ⟨rfl, rfl⟩)
    go_ret
    exact ⟨rfl, HL.out⟩
  have C := fileAt_ok h hid a ha hf
  obtain ⟨n, hn, _, h0, _⟩ := file_parts hf
  rw [if_pos hf]
  clear hf
  have w1 : IntKind.i64.wrap (1048576 - ((bs s).size : Int)) = 1048576 - (s.length : Int) := by rw [IntWalk.i64_in _ (by omega), hz]
  by_cases hF : a > 1048576 - (s.length : Int)
  · rw [if_pos hF, if_neg (by decide)]
    have hF2 : 1048576 - (s.length : Int) < a := hF
    clear hF hz
    go_enter Tryz.func18, Tryz.ntmps18
    go_wp2_with (go_at_call 47; (with_reducible refine C.mono ?_); rintro e w1 ⟨rfl, rfl⟩)
    go_ret
    exact ⟨rfl, HL.out⟩
  rw [if_neg hF]
  have hF2 : a ≤ 1048576 - (s.length : Int) := by omega
  by_cases hS : s = []
  · rw [if_pos hS, if_pos rfl]
    have e0 : (bs s).toList.isEmpty = true := by rw [bs_toList, hS]; rfl
    have e1 : T.write id a s = T := by unfold Tb.write; rw [if_pos hS]
    rw [e1]
    clear hF hz hS e1
    go_enter Tryz.func18, Tryz.ntmps18
    go_wp2_with (go_at_call 47; (with_reducible refine C.mono ?_); rintro e w1 ⟨rfl, rfl⟩)
    go_ret
    exact ⟨rfl, HL.out⟩
  rw [if_neg hS]
  have e0 : (bs s).toList.isEmpty = false := by rw [bs_toList]; cases s with
    | nil => exact absurd rfl hS
    | cons _ _ => rfl
  have w2 : IntKind.i64.wrap (a + ((bs s).size : Int)) = a + (s.length : Int) := by rw [IntWalk.i64_in _ (by omega), hz]
  have CF := Lib.hid (fits_any h ok hn (a + (s.length : Int)) (by omega) (by omega))
  by_cases hB : T.fitsB id (a + (s.length : Int)) = true
  case neg =>
    rw [if_neg hB, if_neg (by decide)]
    rw [show T.fitsB id (a + (s.length : Int)) = false by simpa using hB] at CF
    obtain ⟨en, hen⟩ : ∃ en, en = a + (s.length : Int) := ⟨_, rfl⟩
    rw [← hen] at w2 CF
    clear hF hz hS hB hen
    go_enter Tryz.func18, Tryz.ntmps18
    go_wp2_with (first
      | (go_at_call 47; (with_reducible refine C.mono ?_); rintro e w1 ⟨rfl, rfl⟩)
      | (go_at_call 48; (with_reducible refine CF.out.mono ?_); rintro e w2 ⟨rfl, hb⟩; replace HL := left_below HL hb; clear hb))
    go_ret
    exact ⟨rfl, HL.out⟩
  rw [if_pos hB, if_pos rfl]
  rw [hB] at CF
  have hwr : T.write id a s = T.setData id (firstL n.data a.toNat ++ s ++ n.data.drop (a.toNat + s.length)) := by unfold Tb.write; rw [if_neg hS, nd_of hn]
  rw [hwr]
  have hd := ok.dat _ _ hn
  have hzd := bs_size n.data
  obtain ⟨an, han⟩ : ∃ an : Nat, a = (an : Int) := ⟨a.toNat, by omega⟩
  subst han
  rw [Int.toNat_natCast] at *
  obtain ⟨en, hen⟩ : ∃ en : Nat, en = an + s.length := ⟨_, rfl⟩
  have hen' : (an : Int) + (s.length : Int) = (en : Int) := by omega
  rw [hen'] at w2 CF
  rw [← hen]
  obtain ⟨m, hm1⟩ : ∃ m : Nat, (m : Int) = min (en : Int) (n.data.length : Int) := ⟨(min (en : Int) (n.data.length : Int)).toNat, by omega⟩
  have e2 : min (en : Int) ((bs n.data).size : Int) = (m : Int) := by rw [hzd]; exact hm1.symm
  have e3 : (bs n.data).extract m (bs n.data).size = bs (n.data.drop en) := by
    rw [bs_ext, List.take_of_length_le (by rw [List.length_drop]; omega)]
    by_cases hc : en ≤ n.data.length
    · rw [show m = en by omega]
    · rw [List.drop_of_length_le (by omega), List.drop_of_length_le (by omega)]
  have b1 : (m : Int) ≤ ((bs n.data).size : Int) := by omega
  have b3 : (0 : Int) ≤ (m : Int) := by omega
  have hfl : (firstL n.data an).length = an := firstL_len
  have a1 : ∀ w0 : World, (Op.stringOp .add (bs (firstL n.data an)) (bs s)).run Tryz.prog w0 = .ok (.string (bs (firstL n.data an ++ s))) w0 := fun w0 => bs_add w0 _ _ (by omega)
  have hdl : (n.data.drop en).length ≤ n.data.length := by rw [List.length_drop]; omega
  have hol : (firstL n.data an ++ s ++ n.data.drop en).length ≤ 1099511627776 := by simp only [List.length_append]; rw [List.length_drop]; omega
  have a2 : ∀ w0 : World, (Op.stringOp .add (bs (firstL n.data an ++ s)) (bs (n.data.drop en))).run Tryz.prog w0 = .ok (.string (bs (firstL n.data an ++ s ++ n.data.drop en))) w0 := fun w0 => bs_add w0 _ _ (by simp only [List.length_append]; omega)
  have HO := Lib.hid hol
  have CI := Lib.hid (fun (w0 : World) (hc : w0.cell? ⟨(A id).1, 3, none⟩ = some (.string (bs n.data))) (hlt : (A id).1 < w0.heap.size) => first_any w0 (A id).1 n.data an hc hlt (by omega) (by omega))
  have HSET := Lib.hid (fun (w0 : World) (hw : TbAt w0 t T A mb) (d : List UInt8) (hd : d.length ≤ 1099511627776) => set_any hw ok hn d hd)
  have c3 := (h.nd id n hn).c3
  clear hF hz hS hB hd hzd hm1 hfl hdl hol hwr hen hen' w1
  generalize firstL n.data an ++ s ++ n.data.drop en = out at *
  generalize bs (firstL n.data an ++ s) = fs at *
  generalize bs (firstL n.data an) = fd at *
  generalize bs (n.data.drop en) = rd at *
  have w1 : IntKind.i64.wrap (1048576 - ((bs s).size : Int)) = 1048576 - (s.length : Int) := by rw [IntWalk.i64_in _ (by rw [bs_size]; omega), bs_size]
  go_enter Tryz.func18, Tryz.ntmps18
  go_wp2_with (first
    | (go_at_call 47; (with_reducible refine C.mono ?_); rintro e w1 ⟨rfl, rfl⟩)
    | (go_at_call 48; (with_reducible refine CF.out.mono ?_); rintro e w2 ⟨rfl, hb⟩; replace HL := left_below HL hb; clear hb; clear c3; have c3 := (HL.out.1.nd id n hn).c3))
  go_quiet (fail)
  replace HL := left_below HL (below_drewN8 (Below.refl _ _) nq)
  clear c3
  generalize w2.drewN nq = w3 at *
  go_wp2_with (first
    | (go_at_call 50; (with_reducible refine (CI.out _ (HL.out.1.nd id n hn).c3 (HL.out.1.nd id n hn).lt).mono ?_); rintro e w4 ⟨rfl, hb⟩; replace HL := left_below HL hb; clear hb)
    | (go_at_call 49; (with_reducible refine (HSET.out _ HL.out.1 _ HO.out).mono ?_); rintro e w5 ⟨rfl, hb⟩; replace HL := Lib.hid (left_of HL.out hb); clear hb))
  go_ret
  exact ⟨rfl, HL.out⟩
theorem trunc_any (a : Int) (ha : InI a) :
    Calls Tryz.prog 28 #[.pointer (some ⟨t, 0, none⟩), .int .i64 id, .int .i64 a] w fun e w' =>
      e = .returned (.int .i64 (T.truncE id a)) ∧ Left w t T (if T.truncE id a = 0 then T.trunc id a else T) A mb w' := by
  have HL : Hid (Left w t T T A mb w) := Lib.hid (Left.same h (Below.refl _ _))
  unfold Tb.truncE
  by_cases hf : T.fileE id a = 0
  case neg =>
    have C := fileAt_no h hid a ha hf
    rw [if_neg hf, if_neg hf]
    have hk2 : (T.fileE id a == 0) = false := by simpa using hf
    have hk3 : (T.fileE id a != 0) = true := by simpa using hf
    clear hf
    generalize T.fileE id a = k at *
    go_enter Tryz.func28, Tryz.ntmps28
    go_wp2_with (go_at_call 47; (with_reducible refine C.mono ?_); rintro e w1 ⟨rfl, rfl⟩)
    go_ret
    exact ⟨rfl, HL.out⟩
  have C := fileAt_ok h hid a ha hf
  obtain ⟨n, hn, _, h0, _⟩ := file_parts hf
  rw [if_pos hf]
  clear hf
  by_cases hF : a > 1048576
  · rw [if_pos hF, if_neg (by decide)]
    have hF2 : 1048576 < a := hF
    clear hF
    go_enter Tryz.func28, Tryz.ntmps28
    go_wp2_with (go_at_call 47; (with_reducible refine C.mono ?_); rintro e w1 ⟨rfl, rfl⟩)
    go_ret
    exact ⟨rfl, HL.out⟩
  rw [if_neg hF]
  have hF2 : a ≤ 1048576 := by omega
  have CF := Lib.hid (fits_any h ok hn a (by omega) (by omega))
  by_cases hB : T.fitsB id a = true
  case neg =>
    rw [if_neg hB, if_neg (by decide)]
    rw [show T.fitsB id a = false by simpa using hB] at CF
    clear hF hB
    go_enter Tryz.func28, Tryz.ntmps28
    go_wp2_with (first
      | (go_at_call 47; (with_reducible refine C.mono ?_); rintro e w1 ⟨rfl, rfl⟩)
      | (go_at_call 48; (with_reducible refine CF.out.mono ?_); rintro e w2 ⟨rfl, hb⟩; replace HL := left_below HL hb; clear hb))
    go_ret
    exact ⟨rfl, HL.out⟩
  rw [if_pos hB, if_pos rfl]
  rw [hB] at CF
  have hwr : T.trunc id a = T.setData id (firstL n.data a.toNat) := by unfold Tb.trunc; rw [nd_of hn]
  rw [hwr]
  obtain ⟨an, han⟩ : ∃ an : Nat, a = (an : Int) := ⟨a.toNat, by omega⟩
  subst han
  rw [Int.toNat_natCast] at *
  have hd := ok.dat _ _ hn
  have hol : (firstL n.data an).length ≤ 1099511627776 := by rw [firstL_len]; omega
  have HO := Lib.hid hol
  have CI := Lib.hid (fun (w0 : World) (hc : w0.cell? ⟨(A id).1, 3, none⟩ = some (.string (bs n.data))) (hlt : (A id).1 < w0.heap.size) => first_any w0 (A id).1 n.data an hc hlt (by omega) (by omega))
  have HSET := Lib.hid (fun (w0 : World) (hw : TbAt w0 t T A mb) (d : List UInt8) (hd : d.length ≤ 1099511627776) => set_any hw ok hn d hd)
  clear hF hB hd hol hwr
  generalize firstL n.data an = out at *
  go_enter Tryz.func28, Tryz.ntmps28
  go_wp2_with (first
    | (go_at_call 47; (with_reducible refine C.mono ?_); rintro e w1 ⟨rfl, rfl⟩)
    | (go_at_call 48; (with_reducible refine CF.out.mono ?_); rintro e w2 ⟨rfl, hb⟩; replace HL := left_below HL hb; clear hb)
    | (go_at_call 50; (with_reducible refine (CI.out _ (HL.out.1.nd id n hn).c3 (HL.out.1.nd id n hn).lt).mono ?_); rintro e w4 ⟨rfl, hb⟩; replace HL := left_below HL hb; clear hb)
    | (go_at_call 49; (with_reducible refine (HSET.out _ HL.out.1 _ HO.out).mono ?_); rintro e w5 ⟨rfl, hb⟩; replace HL := Lib.hid (left_of HL.out hb); clear hb))
  go_ret
  exact ⟨rfl, HL.out⟩
theorem hold_any :
    Calls Tryz.prog 29 #[.pointer (some ⟨t, 0, none⟩), .int .i64 id] w fun e w' =>
      e = .returned (.int .i64 (T.holdE id)) ∧ Left w t T (if T.holdE id = 0 then T.upd id (Nd.addHolds 1) else T) A mb w' := by
  have HL : Hid (Left w t T T A mb w) := Lib.hid (Left.same h (Below.refl _ _))
  unfold Tb.holdE
  by_cases hf : T.kindE id false = 0
  case neg =>
    have C := file_no h hid hf
    rw [if_neg hf, if_neg hf]
    have hk2 : (T.kindE id false == 0) = false := by simpa using hf
    have hk3 : (T.kindE id false != 0) = true := by simpa using hf
    clear hf
    generalize T.kindE id false = k at *
    go_enter Tryz.func29, Tryz.ntmps29
    go_wp2_with (go_at_call 51; (with_reducible refine C.mono ?_); rintro e w1 ⟨rfl, rfl⟩)
    go_ret
    exact ⟨rfl, HL.out⟩
  have C := file_ok h hid hf
  rw [if_pos hf]
  cases hn : aget id T.nodes with
  | none => rw [kindE_none hn] at hf; cases hf
  | some n =>
    rw [nd_of hn]
    have c2 := (h.nd id n hn).c2
    have f2 := (h.nd id n hn).fr 2
    have hh := ok.hld _ _ hn
    clear hf
    by_cases hm : n.holds = 1048576
    · rw [if_pos hm, if_neg (by decide)]
      rw [hm] at c2
      go_enter Tryz.func29, Tryz.ntmps29
      go_wp2_with (go_at_call 51; (with_reducible refine C.mono ?_); rintro e w1 ⟨rfl, rfl⟩)
      go_ret
      exact ⟨rfl, HL.out⟩
    · rw [if_neg hm, if_pos rfl]
      have hb : (n.holds == 1048576) = false := by simpa using hm
      have w1 : IntKind.i64.wrap (n.holds + 1) = n.holds + 1 := IntWalk.i64_in _ (by omega)
      have HF : Hid (Left w t T (T.upd id (Nd.addHolds 1)) A mb (w.setCell ⟨(A id).1, 2, none⟩ (.int .i64 (n.holds + 1)))) :=
        Lib.hid ⟨h.upd_nd hn (Nd.addHolds 1) rfl rfl (Ch.set _ _ _ rfl) ((h.nd id n hn).s2), Ch.set _ _ _ (.inr (.inr ⟨id, n, hn, .inl rfl⟩))⟩
      go_enter Tryz.func29, Tryz.ntmps29
      go_wp2_with (go_at_call 51; (with_reducible refine C.mono ?_); rintro e w1 ⟨rfl, rfl⟩)
      go_ret
      exact ⟨rfl, HF.out⟩
end
end Go.Proofs.YtagdhghjcibfbaaGreat

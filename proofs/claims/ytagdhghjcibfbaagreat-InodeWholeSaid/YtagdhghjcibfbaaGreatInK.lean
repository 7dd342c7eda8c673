/- Layer 8: Link, Unlink, Remove. -/
import Derived.Test.YtagdhghjcibfbaaGreatInJ
namespace Go.Proofs.YtagdhghjcibfbaaGreat
open Go.RowKit
set_option linter.unusedVariables false
set_option linter.unusedSectionVars false
set_option maxRecDepth 100000

theorem new_parts {T : Tb} {dir : Int} {name : List UInt8} (h : T.newE dir name = 0) : ∃ n, aget dir T.nodes = some n ∧ n.dir = true ∧ isNm name = true ∧ aget name n.names = none := by
  unfold Tb.newE at h
  have hk : T.placeE dir name = 0 := by by_cases e : T.placeE dir name = 0; exact e; rw [if_neg e] at h; exact h
  rw [if_pos hk] at h
  obtain ⟨n, hn, hd, hnm, _⟩ := place_parts hk
  refine ⟨n, hn, hd, hnm, ?_⟩
  unfold Tb.led at h
  rw [nd_of hn] at h
  cases hL : aget name n.names with
  | none => rfl
  | some v => rw [hL] at h; cases h
theorem of_parts {T : Tb} {dir : Int} {name : List UInt8} {b : Bool} (ok : Ok T) (h : T.ofE dir name b = 0) : ∃ n m, aget dir T.nodes = some n ∧ n.dir = true ∧ isNm name = true ∧ aget name n.names = some (T.tgt dir name) ∧ aget (T.tgt dir name) T.nodes = some m ∧ m.dir = b := by
  unfold Tb.ofE at h
  have hk : T.entE dir name = 0 := by by_cases e : T.entE dir name = 0; exact e; rw [if_neg e] at h; exact h
  rw [if_pos hk] at h
  obtain ⟨n, hn, hd, hnm, hL⟩ := ent_parts hk
  obtain ⟨m, hm⟩ := ok.lead _ _ _ _ hn hL
  refine ⟨n, m, hn, hd, hnm, hL, hm, ?_⟩
  rw [nd_of hm] at h
  by_cases e : m.dir = b; exact e; rw [if_neg e] at h; cases h
theorem kind_some {T : Tb} {id : Int} {b : Bool} (h : T.kindE id b = 0) : ∃ n, aget id T.nodes = some n ∧ n.dir = b := by
  cases hn : aget id T.nodes with
  | none => rw [kindE_none hn] at h; cases h
  | some n =>
    rw [kindE_some hn] at h
    refine ⟨n, rfl, ?_⟩
    by_cases e : n.dir = b; exact e; rw [if_neg e] at h; cases h
section
variable {w : World} {t : Nat} {T : Tb} {A : Int → Nat × Nat} {mb : Nat} (h : TbAt w t T A mb) (ok : Ok T) {id : Int} (hid : InI id) {dir : Int} (hdir : InI dir) (name : List UInt8)
include h ok hid hdir
theorem link_any :
    Calls Tryz.prog 19 #[.pointer (some ⟨t, 0, none⟩), .int .i64 id, .int .i64 dir, .string (bs name)] w fun e w' =>
      e = .returned (.int .i64 (T.linkE id dir name)) ∧ Left w t T (if T.linkE id dir name = 0 then T.link id dir name else T) A mb w' := by
  have HL : Hid (Left w t T T A mb w) := Lib.hid (Left.same h (Below.refl _ _))
  unfold Tb.linkE
  by_cases hf : T.kindE id false = 0
  case neg =>
    have C := file_no h hid hf
    rw [if_neg hf, if_neg hf]
    have hk2 : (T.kindE id false == 0) = false := by simpa using hf
    have hk3 : (T.kindE id false != 0) = true := by simpa using hf
    clear hf
    generalize T.kindE id false = k at *
    go_enter Tryz.func19, Tryz.ntmps19
    go_wp2_with (go_at_call 51; (with_reducible refine C.mono ?_); rintro e w1 ⟨rfl, rfl⟩)
    go_ret
    exact ⟨rfl, HL.out⟩
  have C := file_ok h hid hf
  rw [if_pos hf]
  obtain ⟨m, hm, hmd⟩ := kind_some hf
  clear hf
  by_cases hE : T.newE dir name = 0
  case neg =>
    have CN := newPlace_no h hdir name hE
    rw [if_neg hE]
    have hk2 : (T.newE dir name == 0) = false := by simpa using hE
    have hk3 : (T.newE dir name != 0) = true := by simpa using hE
    clear hE
    generalize T.newE dir name = k at *
    go_enter Tryz.func19, Tryz.ntmps19
    go_wp2_with (first
      | (go_at_call 51; (with_reducible refine C.mono ?_); rintro e w1 ⟨rfl, rfl⟩)
      | (go_at_call 46; (with_reducible refine CN.mono ?_); rintro e w2 ⟨rfl, hb⟩; replace HL := left_below HL hb; clear hb))
    go_ret
    exact ⟨rfl, HL.out⟩
  have CN := newPlace_ok h hdir name hE
  rw [hE, if_pos rfl]
  obtain ⟨n, hn, hd, hnm, hL⟩ := new_parts hE
  clear hE
  have hne : id ≠ dir := fun e => by rw [e, hn] at hm; cases hm; rw [hd] at hmd; cases hmd
  have hls := ok.nln _ _ hn
  have hlk := ok.lnk _ _ hm
  have w1 : IntKind.i64.wrap (m.links + 1) = m.links + 1 := IntWalk.i64_in _ (by omega)
  clear hlk
  have STEP : Hid (∀ w2, TbAt w2 t T A mb → ∃ w3, (Instr.mapUpdate 65 (.map (some (A dir).2)) (.string (bs name)) (.int .i64 id)).run Tryz.prog w2 = .ok () w3 ∧
      TbAt w3 t (T.upd dir (Nd.putName name id)) A mb ∧ Ch (Own t mb A T.nodes) w2 w3) := by
    refine Lib.hid fun w2 h2 => ?_
    obtain ⟨w3, hrun, hmp, htu⟩ := (h2.nm dir n hn hd).put (by unfold maxLen; omega) (nm_max hnm) hid
    exact ⟨w3, hrun, h2.upd_nm hn (Nd.putName name id) hd rfl rfl rfl rfl (Ch.turned (M := fun k => k = (A dir).2) htu rfl) hmp, Ch.turned htu (.inr (.inr ⟨dir, n, hn, .inr ⟨hd, rfl⟩⟩))⟩
  have hm' : aget id (T.upd dir (Nd.putName name id)).nodes = some m := by rw [upd_get, if_neg hne]; exact hm
  have HM := Lib.hid hm'
  clear hls hm' hid hdir
  go_enter Tryz.func19, Tryz.ntmps19
  go_wp2_with (first
    | (go_at_call 51; (with_reducible refine C.mono ?_); rintro e w1 ⟨rfl, rfl⟩)
    | (go_at_call 46; (with_reducible refine CN.mono ?_); rintro e w2 ⟨rfl, hb⟩; replace HL := left_below HL hb; clear hb; refine Hid.out ?_))
  refine Lib.hid ?_
  obtain ⟨w3, hrun, h3, g3⟩ := STEP.out _ HL.out.tab
  have c4 := (HL.out.tab.nd dir n hn).c4
  rw [hd] at c4
  simp only [if_true] at c4
  have d1 := (h3.nd id m HM.out).c1
  have f1 := (h3.nd id m HM.out).fr 1
  have HF : Hid (Left w1 t T (T.link id dir name) A mb (w3.setCell ⟨(A id).1, 1, none⟩ (.int .i64 (m.links + 1)))) :=
    Lib.hid ⟨h3.upd_nd HM.out (Nd.addLinks 1) rfl rfl (Ch.set _ _ _ rfl) ((h3.nd id m HM.out).s1), (HL.out.ch.step g3).step (Ch.set _ _ _ (.inr (.inr ⟨id, m, hm, .inl rfl⟩)))⟩
  clear h3 g3
  go_wp2
  go_ret
  exact ⟨rfl, HF.out⟩
omit hid
theorem unlink_any :
    Calls Tryz.prog 20 #[.pointer (some ⟨t, 0, none⟩), .int .i64 dir, .string (bs name)] w fun e w' =>
      e = .returned (.int .i64 (T.ofE dir name false)) ∧ Left w t T (if T.ofE dir name false = 0 then T.unlink dir name else T) A mb w' := by
  have HL : Hid (Left w t T T A mb w) := Lib.hid (Left.same h (Below.refl _ _))
  by_cases hE : T.ofE dir name false = 0
  case neg =>
    have C := entryOf_no h ok hdir name false hE
    rw [if_neg hE]
    have hk2 : (T.ofE dir name false == 0) = false := by simpa using hE
    have hk3 : (T.ofE dir name false != 0) = true := by simpa using hE
    clear hE
    generalize T.ofE dir name false = k at *
    go_enter Tryz.func20, Tryz.ntmps20
    go_wp2_with (go_at_call 52; (with_reducible refine C.mono ?_); rintro e w2 ⟨rfl, hb⟩; replace HL := left_below HL hb; clear hb)
    go_ret
    exact ⟨rfl, HL.out⟩
  have C := entryOf_ok h ok hdir name false hE
  obtain ⟨n, m, hn, hd, hnm, hL, hm, hmd⟩ := of_parts ok hE
  rw [hE, if_pos rfl]
  clear hE
  have hi := ok.ids _ _ hm
  have hiz : InI (T.tgt dir name) := by unfold InI; omega
  have hne : T.tgt dir name ≠ dir := fun e => by rw [e, hn] at hm; cases hm; rw [hd] at hmd; cases hmd
  have hlk := ok.lnk _ _ hm
  have hda := ok.dat _ _ hm
  have hq := ok.quo
  have STEP : Hid (∀ w2, TbAt w2 t T A mb → ∃ w3, (Builtin.delete_ #[65, 9] 0 #[.map (some (A dir).2), .string (bs name)]).run Tryz.prog w2 = .ok (.tuple #[]) w3 ∧
      TbAt w3 t (T.upd dir (Nd.delName name)) A mb ∧ Ch (Own t mb A T.nodes) w2 w3) := by
    refine Lib.hid fun w2 h2 => ?_
    obtain ⟨w3, hrun, hmp, htu⟩ := (h2.nm dir n hn hd).del (nm_max hnm) 0
    exact ⟨w3, hrun, h2.upd_nm hn (Nd.delName name) hd rfl rfl rfl rfl (Ch.turned (M := fun k => k = (A dir).2) htu rfl) hmp, Ch.turned htu (.inr (.inr ⟨dir, n, hn, .inr ⟨hd, rfl⟩⟩))⟩
  have hm' : aget (T.tgt dir name) (T.upd dir (Nd.delName name)).nodes = some m := by rw [upd_get, if_neg hne]; exact hm
  have LOSE : Hid (∀ w3, TbAt w3 t (T.upd dir (Nd.delName name)) A mb → Calls Tryz.prog 53 #[.pointer (some ⟨t, 0, none⟩), .int .i64 (T.tgt dir name)] w3 fun e w' => e = .returned (.tuple #[]) ∧ Left w3 t (T.upd dir (Nd.delName name)) (T.unlink dir name) A mb w') :=
    Lib.hid fun w3 h3 => lose_any h3 hiz hm' (by show _ ≤ T.used ∧ T.used ≤ _; omega) (by omega) (by omega)
  have e : T.unlink dir name = T.unlink dir name := rfl
  clear hi hiz hlk hda hq hm' e hdir
  generalize T.unlink dir name = T2 at *
  go_enter Tryz.func20, Tryz.ntmps20
  go_wp2_with (go_at_call 52; (with_reducible refine C.mono ?_); rintro e w2 ⟨rfl, hb⟩; replace HL := left_below HL hb; clear hb; refine Hid.out ?_)
  refine Lib.hid ?_
  obtain ⟨w3, hrun, h3, g3⟩ := STEP.out _ HL.out.tab
  have H3 := Lib.hid h3
  have HG3 := Lib.hid g3
  have c4 := (HL.out.tab.nd dir n hn).c4
  rw [hd] at c4
  simp only [if_true] at c4
  clear h3 g3
  go_wp2_with (go_at_call 53; (with_reducible refine (LOSE.out _ H3.out).mono ?_); rintro e w4 ⟨rfl, hb⟩; have HB := Lib.hid hb; clear hb)
  go_ret
  exact ⟨rfl, HB.out.tab, (HL.out.ch.step HG3.out).trans HB.out.ch (fun x _ hx => own_mod (f := Nd.delName name) (fun _ => rfl) hx)⟩
theorem removeDir_any :
    Calls Tryz.prog 26 #[.pointer (some ⟨t, 0, none⟩), .int .i64 dir, .string (bs name)] w fun e w' =>
      e = .returned (.int .i64 (T.removeE dir name)) ∧ Left w t T (if T.removeE dir name = 0 then T.remove dir name else T) A mb w' := by
  have HL : Hid (Left w t T T A mb w) := Lib.hid (Left.same h (Below.refl _ _))
  unfold Tb.removeE
  by_cases hE : T.ofE dir name true = 0
  case neg =>
    have C := entryOf_no h ok hdir name true hE
    rw [if_neg hE, if_neg hE]
    have hk2 : (T.ofE dir name true == 0) = false := by simpa using hE
    have hk3 : (T.ofE dir name true != 0) = true := by simpa using hE
    clear hE
    generalize T.ofE dir name true = k at *
    go_enter Tryz.func26, Tryz.ntmps26
    go_wp2_with (go_at_call 52; (with_reducible refine C.mono ?_); rintro e w2 ⟨rfl, hb⟩; replace HL := left_below HL hb; clear hb)
    go_ret
    exact ⟨rfl, HL.out⟩
  have C := entryOf_ok h ok hdir name true hE
  obtain ⟨n, m, hn, hd, hnm, hL, hm, hmd⟩ := of_parts ok hE
  rw [if_pos hE, nd_of hm]
  clear hE
  have hi := ok.ids _ _ hm
  have hiz : InI (T.tgt dir name) := by unfold InI; omega
  have HZ := Lib.hid hiz
  have LK : Hid (∀ w2, TbAt w2 t T A mb → (Builtin.len_ #[65] 3 #[.map (some (A (T.tgt dir name)).2)]).run Tryz.prog w2 = .ok (.int .i64 m.names.length) w2) := Lib.hid fun w2 h2 => (h2.nm _ m hm hmd).len _
  by_cases hlen : 0 < m.names.length
  · rw [if_pos hlen, if_neg (by decide)]
    have hl2 : (0 : Int) < (m.names.length : Int) := by omega
    clear hi hiz hdir hlen
    go_enter Tryz.func26, Tryz.ntmps26
    go_wp2_with (go_at_call 52; (with_reducible refine C.mono ?_); rintro e w2 ⟨rfl, hb⟩; replace HL := left_below HL hb; clear hb; refine Hid.out ?_)
    refine Lib.hid ?_
    have q3 := HL.out.tab.tb.c3
    have hlk := HL.out.tab.look HZ.out
    rw [nodeP_some hm] at hlk
    have m4 := (HL.out.tab.nd _ m hm).c4
    rw [hmd] at m4
    simp only [if_true] at m4
    have hln := LK.out _ HL.out.tab
    go_wp2
    go_ret
    exact ⟨rfl, HL.out⟩
  · rw [if_neg hlen, if_pos rfl]
    have h0 : m.names.length = 0 := by omega
    have hne : T.tgt dir name ≠ dir := fun e => by
      rw [e, hn] at hm; cases hm
      have := aget_mem hL
      rw [List.length_eq_zero_iff.1 h0] at this
      cases this
    have hda := ok.dat _ _ hm
    have hq := ok.quo
    have STEP : Hid (∀ w2, TbAt w2 t T A mb → ∃ w3, (Builtin.delete_ #[65, 9] 0 #[.map (some (A dir).2), .string (bs name)]).run Tryz.prog w2 = .ok (.tuple #[]) w3 ∧
        TbAt w3 t (T.upd dir (Nd.delName name)) A mb ∧ Ch (Own t mb A T.nodes) w2 w3) := by
      refine Lib.hid fun w2 h2 => ?_
      obtain ⟨w3, hrun, hmp, htu⟩ := (h2.nm dir n hn hd).del (nm_max hnm) 0
      exact ⟨w3, hrun, h2.upd_nm hn (Nd.delName name) hd rfl rfl rfl rfl (Ch.turned (M := fun k => k = (A dir).2) htu rfl) hmp, Ch.turned htu (.inr (.inr ⟨dir, n, hn, .inr ⟨hd, rfl⟩⟩))⟩
    have hm' : aget (T.tgt dir name) (T.upd dir (Nd.delName name)).nodes = some m := by rw [upd_get, if_neg hne]; exact hm
    have LOSE : Hid (∀ w3, TbAt w3 t (T.upd dir (Nd.delName name)) A mb → Calls Tryz.prog 59 #[.pointer (some ⟨t, 0, none⟩), .int .i64 (T.tgt dir name)] w3 fun e w' => e = .returned (.tuple #[]) ∧ Left w3 t (T.upd dir (Nd.delName name)) (T.remove dir name) A mb w') :=
      Lib.hid fun w3 h3 => remove_any h3 hiz hm' (by show _ ≤ T.used ∧ T.used ≤ _; omega) (by omega)
    generalize T.remove dir name = T2 at *
    rw [h0] at LK
    clear hi hiz hda hq hm' hdir hlen h0
    go_enter Tryz.func26, Tryz.ntmps26
    go_wp2_with (go_at_call 52; (with_reducible refine C.mono ?_); rintro e w2 ⟨rfl, hb⟩; replace HL := left_below HL hb; clear hb; refine Hid.out ?_)
    refine Lib.hid ?_
    have q3 := HL.out.tab.tb.c3
    have hlk := HL.out.tab.look HZ.out
    rw [nodeP_some hm] at hlk
    have m4 := (HL.out.tab.nd _ m hm).c4
    rw [hmd] at m4
    simp only [if_true] at m4
    have hln := LK.out _ HL.out.tab
    obtain ⟨w3, hrun, h3, g3⟩ := STEP.out _ HL.out.tab
    have H3 := Lib.hid h3
    have HG3 := Lib.hid g3
    have c4 := (HL.out.tab.nd dir n hn).c4
    rw [hd] at c4
    simp only [if_true] at c4
    clear h3 g3
    go_wp2_with (go_at_call 59; (with_reducible refine (LOSE.out _ H3.out).mono ?_); rintro e w4 ⟨rfl, hb⟩; have HB := Lib.hid hb; clear hb)
    go_ret
    exact ⟨rfl, HB.out.tab, (HL.out.ch.step HG3.out).trans HB.out.ch (fun x _ hx => own_mod (f := Nd.delName name) (fun _ => rfl) hx)⟩
end
end Go.Proofs.YtagdhghjcibfbaaGreat

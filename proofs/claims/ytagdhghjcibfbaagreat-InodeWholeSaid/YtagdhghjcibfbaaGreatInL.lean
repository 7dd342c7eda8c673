/- Layer 8: Rename. -/
import Derived.Test.YtagdhghjcibfbaaGreatInK
namespace Go.Proofs.YtagdhghjcibfbaaGreat
open Go.RowKit
set_option linter.unusedVariables false
set_option linter.unusedSectionVars false
set_option maxRecDepth 100000

section
variable {w : World} {t : Nat} {T : Tb} {A : Int → Nat × Nat} {mb : Nat} (h : TbAt w t T A mb) (ok : Ok T) {dir : Int} (hdir : InI dir) (name : List UInt8) {dst : Int} (hto : InI dst) (nm : List UInt8)
include h ok hdir hto
set_option maxHeartbeats 1000000 in
theorem rename_any :
    Calls Tryz.prog 27 #[.pointer (some ⟨t, 0, none⟩), .int .i64 dir, .string (bs name), .int .i64 dst, .string (bs nm)] w fun e w' =>
      e = .returned (.int .i64 (T.renE dir name dst nm)) ∧ Left w t T (if T.renE dir name dst nm = 0 then T.rename dir name dst nm else T) A mb w' := by
  have HL : Hid (Left w t T T A mb w) := Lib.hid (Left.same h (Below.refl _ _))
  unfold Tb.renE
  by_cases hE : T.ofE dir name false = 0
  case neg =>
    have C := entryOf_no h ok hdir name false hE
    rw [if_neg hE, if_neg hE]
    have hk2 : (T.ofE dir name false == 0) = false := by simpa using hE
    have hk3 : (T.ofE dir name false != 0) = true := by simpa using hE
    clear hE
    generalize T.ofE dir name false = k at *
    go_enter Tryz.func27, Tryz.ntmps27
    go_wp2_with (go_at_call 52; (with_reducible refine C.mono ?_); rintro e w2 ⟨rfl, hb⟩; replace HL := left_below HL hb; clear hb)
    go_ret
    exact ⟨rfl, HL.out⟩
  have C := entryOf_ok h ok hdir name false hE
  obtain ⟨n, m, hn, hd, hnm, hL, hm, hmd⟩ := of_parts ok hE
  rw [if_pos hE]
  clear hE
  have hi := ok.ids _ _ hm
  have hiz : InI (T.tgt dir name) := by unfold InI; omega
  by_cases hP : T.placeE dst nm = 0
  case neg =>
    have CP := Lib.hid (fun (w0 : World) (h0 : TbAt w0 t T A mb) => place_no h0 hto nm hP)
    rw [if_neg hP, if_neg hP]
    have hk2 : (T.placeE dst nm == 0) = false := by simpa using hP
    have hk3 : (T.placeE dst nm != 0) = true := by simpa using hP
    clear hP hi
    generalize T.placeE dst nm = k at *
    generalize T.tgt dir name = z at *
    go_enter Tryz.func27, Tryz.ntmps27
    go_wp2_with (first
      | (go_at_call 52; (with_reducible refine C.mono ?_); rintro e w2 ⟨rfl, hb⟩; replace HL := left_below HL hb; clear hb)
      | (go_at_call 60; (with_reducible refine (CP.out _ HL.out.tab).mono ?_); rintro e w3 ⟨rfl, hb⟩; replace HL := left_below HL hb; clear hb))
    go_ret
    exact ⟨rfl, HL.out⟩
  have CP := Lib.hid (fun (w0 : World) (h0 : TbAt w0 t T A mb) => place_ok h0 hto nm hP)
  obtain ⟨p, hp, hpd, hpn, _⟩ := place_parts hP
  rw [if_pos hP]
  clear hP
  have hled : T.led dst nm = aget nm p.names := by unfold Tb.led; rw [nd_of hp]
  unfold Tb.rename
  rw [hled]
  have hls := ok.nln _ _ hp
  have STEP : Hid (∀ w2, TbAt w2 t T A mb → ∃ w3, (Instr.mapUpdate 65 (.map (some (A dst).2)) (.string (bs nm)) (.int .i64 (T.tgt dir name))).run Tryz.prog w2 = .ok () w3 ∧
      TbAt w3 t (T.upd dst (Nd.putName nm (T.tgt dir name))) A mb ∧ Ch (Own t mb A T.nodes) w2 w3) := by
    refine Lib.hid fun w2 h2 => ?_
    obtain ⟨w3, hrun, hmp, htu⟩ := (h2.nm dst p hp hpd).put (by unfold maxLen; omega) (nm_max hpn) hiz
    exact ⟨w3, hrun, h2.upd_nm hp (Nd.putName nm (T.tgt dir name)) hpd rfl rfl rfl rfl (Ch.turned (M := fun k => k = (A dst).2) htu rfl) hmp, Ch.turned htu (.inr (.inr ⟨dst, p, hp, .inr ⟨hpd, rfl⟩⟩))⟩
  obtain ⟨n1, hn1, hd1⟩ : ∃ n1, aget dir (T.upd dst (Nd.putName nm (T.tgt dir name))).nodes = some n1 ∧ n1.dir = true := by
    rw [upd_get]
    split
    · exact ⟨Nd.putName nm (T.tgt dir name) p, by rw [hp]; rfl, hpd⟩
    · exact ⟨n, hn, hd⟩
  have STEP2 : Hid (∀ w2, TbAt w2 t (T.upd dst (Nd.putName nm (T.tgt dir name))) A mb → ∃ w3, (Builtin.delete_ #[65, 9] 0 #[.map (some (A dir).2), .string (bs name)]).run Tryz.prog w2 = .ok (.tuple #[]) w3 ∧
      TbAt w3 t (T.moved dir name dst nm) A mb ∧ Ch (Own t mb A T.nodes) w2 w3) := by
    refine Lib.hid fun w2 h2 => ?_
    obtain ⟨w3, hrun, hmp, htu⟩ := (h2.nm dir n1 hn1 hd1).del (nm_max hnm) 0
    exact ⟨w3, hrun, h2.upd_nm hn1 (Nd.delName name) hd1 rfl rfl rfl rfl (Ch.turned (M := fun k => k = (A dir).2) htu rfl) hmp, Ch.turned htu (.inr (.inr ⟨dir, n, hn, .inr ⟨hd, rfl⟩⟩))⟩
  cases hLo : aget nm p.names with
  | none =>
    simp only
    rw [if_pos trivial]
    clear hi hiz hled hls hdir hto
    generalize T.moved dir name dst nm = T2 at *
    generalize hT1 : T.upd dst (Nd.putName nm (T.tgt dir name)) = T1 at *
    generalize T.tgt dir name = z at *
    clear hT1
    go_enter Tryz.func27, Tryz.ntmps27
    go_wp2_with (first
      | (go_at_call 52; (with_reducible refine C.mono ?_); rintro e w2 ⟨rfl, hb⟩; replace HL := left_below HL hb; clear hb)
      | (go_at_call 60; (with_reducible refine (CP.out _ HL.out.tab).mono ?_); rintro e w3 ⟨rfl, hb⟩; replace HL := left_below HL hb; clear hb; refine Hid.out ?_))
    refine Lib.hid ?_
    have p4 := (HL.out.tab.nd dst p hp).c4
    rw [hpd] at p4
    simp only [if_true] at p4
    have hlk := (HL.out.tab.nm dst p hp hpd).look (nm_max hpn)
    rw [hLo] at hlk
    simp only [Option.getD, Option.isSome] at hlk
    obtain ⟨w4, hrun, h4, g4⟩ := STEP.out _ HL.out.tab
    have n4 := (h4.nd dir n1 hn1).c4
    rw [hd1] at n4
    simp only [if_true] at n4
    obtain ⟨w5, hrun2, h5, g5⟩ := STEP2.out _ h4
    have HF : Hid (Left w t T T2 A mb w5) := Lib.hid ⟨h5, (HL.out.ch.step g4).step g5⟩
    clear h4 h5 g4 g5
    go_wp2
    go_ret
    exact ⟨rfl, HF.out⟩
  | some old =>
    simp only
    obtain ⟨mo, hmo⟩ := ok.lead _ _ _ _ hp hLo
    rw [nd_of hmo]
    have hio := ok.ids _ _ hmo
    have hoz : InI old := by unfold InI; omega
    have HOZ := Lib.hid hoz
    by_cases hod : mo.dir = true
    · rw [if_pos hod, if_neg (by decide)]
      clear hi hiz hled hls hdir hto hio hoz STEP STEP2 hn1 hd1 n1
      generalize T.tgt dir name = z at *
      go_enter Tryz.func27, Tryz.ntmps27
      go_wp2_with (first
        | (go_at_call 52; (with_reducible refine C.mono ?_); rintro e w2 ⟨rfl, hb⟩; replace HL := left_below HL hb; clear hb)
        | (go_at_call 60; (with_reducible refine (CP.out _ HL.out.tab).mono ?_); rintro e w3 ⟨rfl, hb⟩; replace HL := left_below HL hb; clear hb; refine Hid.out ?_))
      refine Lib.hid ?_
      have p4 := (HL.out.tab.nd dst p hp).c4
      rw [hpd] at p4
      simp only [if_true] at p4
      have hlk := (HL.out.tab.nm dst p hp hpd).look (nm_max hpn)
      rw [hLo] at hlk
      simp only [Option.getD, Option.isSome] at hlk
      have q3 := HL.out.tab.tb.c3
      have hlk2 := HL.out.tab.look HOZ.out
      rw [nodeP_some hmo] at hlk2
      have o0 := (HL.out.tab.nd old mo hmo).c0
      rw [hod] at o0
      go_wp2
      go_ret
      exact ⟨rfl, HL.out⟩
    have hof : mo.dir = false := by simpa using hod
    rw [if_neg hod, if_pos rfl]
    by_cases hsame : old = T.tgt dir name
    · rw [if_pos hsame]
      rw [← hsame] at C
      have HSM := Lib.hid hsame
      clear hi hiz hled hls hdir hto hio hoz STEP STEP2 hn1 hd1 n1 hsame hL hm hod
      go_enter Tryz.func27, Tryz.ntmps27
      go_wp2_with (first
        | (go_at_call 52; (with_reducible refine C.mono ?_); rintro e w2 ⟨rfl, hb⟩; replace HL := left_below HL hb; clear hb)
        | (go_at_call 60; (with_reducible refine (CP.out _ HL.out.tab).mono ?_); rintro e w3 ⟨rfl, hb⟩; replace HL := left_below HL hb; clear hb; refine Hid.out ?_))
      refine Lib.hid ?_
      have p4 := (HL.out.tab.nd dst p hp).c4
      rw [hpd] at p4
      simp only [if_true] at p4
      have hlk := (HL.out.tab.nm dst p hp hpd).look (nm_max hpn)
      rw [hLo] at hlk
      simp only [Option.getD, Option.isSome] at hlk
      have q3 := HL.out.tab.tb.c3
      have hlk2 := HL.out.tab.look HOZ.out
      rw [nodeP_some hmo] at hlk2
      have o0 := (HL.out.tab.nd old mo hmo).c0
      rw [hof] at o0
      go_wp2
      go_ret
      exact ⟨rfl, HL.out⟩
    · rw [if_neg hsame]
      have hsb : (old == T.tgt dir name) = false := by simpa using hsame
      have hne1 : old ≠ dst := fun e => by rw [e, hp] at hmo; cases hmo; rw [hpd] at hof; cases hof
      have hne2 : old ≠ dir := fun e => by rw [e, hn] at hmo; cases hmo; rw [hd] at hof; cases hof
      have hmo2 : aget old (T.moved dir name dst nm).nodes = some mo := by unfold Tb.moved; rw [upd_get, if_neg hne2, upd_get, if_neg hne1]; exact hmo
      have hlk := ok.lnk _ _ hmo
      have hda := ok.dat _ _ hmo
      have hq := ok.quo
      have LOSE : Hid (∀ w3, TbAt w3 t (T.moved dir name dst nm) A mb → Calls Tryz.prog 53 #[.pointer (some ⟨t, 0, none⟩), .int .i64 old] w3 fun e w' => e = .returned (.tuple #[]) ∧ Left w3 t (T.moved dir name dst nm) ((T.moved dir name dst nm).lose old) A mb w') :=
        Lib.hid fun w3 h3 => lose_any h3 hoz hmo2 (by show _ ≤ T.used ∧ T.used ≤ _; omega) (by omega) (by omega)
      have OWN : Hid (∀ k, Own t mb A (T.moved dir name dst nm).nodes k → Own t mb A T.nodes k) := Lib.hid fun k hk => own_mod (f := Nd.putName nm (T.tgt dir name)) (fun _ => rfl) (own_mod (f := Nd.delName name) (fun _ => rfl) hk)
      clear hi hiz hled hls hdir hto hio hoz hsame hL hm hod hlk hda hq hmo2
      generalize (T.moved dir name dst nm).lose old = T3 at *
      generalize T.moved dir name dst nm = T2 at *
      generalize hT1 : T.upd dst (Nd.putName nm (T.tgt dir name)) = T1 at *
      clear hT1
      generalize T.tgt dir name = z at *
      go_enter Tryz.func27, Tryz.ntmps27
      go_wp2_with (first
        | (go_at_call 52; (with_reducible refine C.mono ?_); rintro e w2 ⟨rfl, hb⟩; replace HL := left_below HL hb; clear hb)
        | (go_at_call 60; (with_reducible refine (CP.out _ HL.out.tab).mono ?_); rintro e w3 ⟨rfl, hb⟩; replace HL := left_below HL hb; clear hb; refine Hid.out ?_))
      refine Lib.hid ?_
      have p4 := (HL.out.tab.nd dst p hp).c4
      rw [hpd] at p4
      simp only [if_true] at p4
      have hlk := (HL.out.tab.nm dst p hp hpd).look (nm_max hpn)
      rw [hLo] at hlk
      simp only [Option.getD, Option.isSome] at hlk
      have q3 := HL.out.tab.tb.c3
      have hlk2 := HL.out.tab.look HOZ.out
      rw [nodeP_some hmo] at hlk2
      have o0 := (HL.out.tab.nd old mo hmo).c0
      rw [hof] at o0
      obtain ⟨w4, hrun, h4, g4⟩ := STEP.out _ HL.out.tab
      have n4 := (h4.nd dir n1 hn1).c4
      rw [hd1] at n4
      simp only [if_true] at n4
      obtain ⟨w5, hrun2, h5, g5⟩ := STEP2.out _ h4
      have H5 := Lib.hid h5
      have HF : Hid (Ch (Own t mb A T.nodes) w w5) := Lib.hid ((HL.out.ch.step g4).step g5)
      clear h4 h5 g4 g5
      go_wp2_with (go_at_call 53; (with_reducible refine (LOSE.out _ H5.out).mono ?_); rintro e w6 ⟨rfl, hb⟩; have HB := Lib.hid hb; clear hb)
      go_ret
      exact ⟨rfl, HB.out.tab, HF.out.trans HB.out.ch (fun x _ hx => OWN.out x hx)⟩
end
end Go.Proofs.YtagdhghjcibfbaaGreat

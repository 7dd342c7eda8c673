/- Layer 8: remove, release, loseLink, Drop. -/
import Derived.Test.YtagdhghjcibfbaaGreatInI
namespace Go.Proofs.YtagdhghjcibfbaaGreat
open Go.RowKit
set_option linter.unusedVariables false
set_option linter.unusedSectionVars false
set_option maxRecDepth 100000

theorem left_trans {w w1 w2 : World} {t : Nat} {T T1 T2 : Tb} {A : Int → Nat × Nat} {mb : Nat} (h : Left w t T T1 A mb w1) (k : Left w1 t T1 T2 A mb w2) (hS : ∀ k, Own t mb A T1.nodes k → Own t mb A T.nodes k) : Left w t T T2 A mb w2 :=
  ⟨k.tab, h.ch.trans k.ch (fun x _ hx => hS x hx)⟩
theorem nodes_len (A : Int → Nat × Nat) (l : List (Int × Nd)) : (nodePairs A l).length = l.length := by unfold nodePairs; rw [List.length_map]

section
variable {w : World} {t : Nat} {T : Tb} {A : Int → Nat × Nat} {mb : Nat} (h : TbAt w t T A mb) {id : Int} (hid : InI id) {n : Nd} (hn : aget id T.nodes = some n)
  (hu : -4398046511104 ≤ T.used ∧ T.used ≤ 4398046511104) (hd : n.data.length ≤ 1099511627776)
include h hid hn hu hd
theorem remove_any :
    Calls Tryz.prog 59 #[.pointer (some ⟨t, 0, none⟩), .int .i64 id] w fun e w' => e = .returned (.tuple #[]) ∧ Left w t T (T.rmv id) A mb w' := by
  have hz := bs_size n.data
  have c1 := h.tb.c1
  have f1 := h.tb.fr 1
  have c3 := h.tb.c3
  have d3 := (h.nd id n hn).c3
  have hl := (h.ch (M := fun _ => False) (ch_drew _ w) (fun _ _ e => e)).look hid
  rw [nodeP_some hn] at hl
  obtain ⟨l, hl1⟩ : ∃ l, l = 64 + (n.data.length : Int) := ⟨_, rfl⟩
  have w1 : IntKind.i64.wrap (64 + ((bs n.data).size : Int)) = l := by rw [IntWalk.i64_in _ (by omega), hz, hl1]
  have w1' : wrap64 (64 + ((bs n.data).size : Int)) = l := by rw [IntWalk.wrap64_in _ (by omega), hz, hl1]
  obtain ⟨u, hu1⟩ : ∃ u, u = T.used - l := ⟨_, rfl⟩
  have w2 : IntKind.i64.wrap (T.used - l) = u := (IntWalk.i64_in _ (by omega)).trans hu1.symm
  have w2' : wrap64 (T.used - l) = u := (IntWalk.wrap64_in _ (by omega)).trans hu1.symm
  have HU := Lib.hid hu1
  have HL := Lib.hid hl1
  have H := Lib.hid h
  have HID := Lib.hid hid
  clear hu hd hz hu1 hl1 h hid
  go_enter Tryz.func59, Tryz.ntmps59
  go_wp2_with fail
  go_still_tail 18, (by kernel_rfl)
  change wpList _ _ _ _ _ w.drew
  have HC : Hid (TbAt w.drew t T A mb) := Lib.hid (H.out.ch (M := fun _ => False) (ch_drew _ w) (fun _ _ e => e))
  have HQ : Hid (Ch (Own t mb A T.nodes) w w.drew) := Lib.hid (ch_drew _ w)
  clear c1 f1 c3 d3 hl
  generalize w.drew = w1 at *
  have h2 : TbAt (w1.setCell ⟨t, 1, none⟩ (.int .i64 u)) t ⟨T.quota, u, T.last, T.nodes⟩ A mb := HC.out.upd_q (Ch.set _ _ _ rfl) (HC.out.tb.s1)
  have c1 := HC.out.tb.c1
  have f1 := HC.out.tb.fr 1
  have c3 := h2.tb.c3
  obtain ⟨w3, hdel, hmp, htu⟩ := h2.mp.del HID.out 0
  have HF : Hid (Left w t T (T.rmv id) A mb w3) := Lib.hid ⟨by
      have := h2.rm id (Ch.turned (M := fun k => k = mb) htu rfl) hmp
      have e : T.rmv id = { quota := T.quota, used := u, last := T.last, nodes := adel id T.nodes } := by
        unfold Tb.rmv
        rw [nd_of hn, HU.out, HL.out]
      rw [e]; exact this, (HQ.out.step (Ch.set _ _ _ (.inl rfl))).step (Ch.turned htu (.inr (.inl rfl)))⟩
  clear h2 hmp htu
  go_wp2_with fail
  go_end0
  exact ⟨rfl, HF.out⟩
theorem release_any :
    Calls Tryz.prog 62 #[.pointer (some ⟨t, 0, none⟩), .int .i64 id] w fun e w' => e = .returned (.tuple #[]) ∧ Left w t T (T.rel id) A mb w' := by
  have CR := Lib.hid (remove_any h hid hn hu hd)
  have HS : Hid (Left w t T T A mb w) := Lib.hid (Left.same h (Below.refl _ _))
  have c3 := h.tb.c3
  have d1 := (h.nd id n hn).c1
  have d2 := (h.nd id n hn).c2
  have hl := h.look hid
  rw [nodeP_some hn] at hl
  unfold Tb.rel
  rw [nd_of hn]
  by_cases h1 : n.links = 0
  · by_cases h2 : n.holds = 0
    · rw [if_pos ⟨h1, h2⟩]
      rw [h1] at d1
      rw [h2] at d2
      clear hu hd h1 h2
      go_enter Tryz.func62, Tryz.ntmps62
      go_wp2_with (go_at_call 59; (with_reducible refine CR.out.mono ?_); rintro e w1 ⟨rfl, hb⟩; have HB := Lib.hid hb; clear hb)
      go_end0
      exact ⟨rfl, HB.out⟩
    · rw [if_neg (fun e => h2 e.2)]
      rw [h1] at d1
      have hb2 : (n.holds == 0) = false := by simpa using h2
      clear hu hd h1 h2
      go_enter Tryz.func62, Tryz.ntmps62
      go_wp2_with fail
      go_end0
      exact ⟨rfl, HS.out⟩
  · rw [if_neg (fun e => h1 e.1)]
    have hb1 : (n.links == 0) = false := by simpa using h1
    clear hu hd h1
    go_enter Tryz.func62, Tryz.ntmps62
    go_wp2_with fail
    go_end0
    exact ⟨rfl, HS.out⟩
theorem lose_any (hl : 0 ≤ n.links ∧ n.links ≤ 4398046511104) :
    Calls Tryz.prog 53 #[.pointer (some ⟨t, 0, none⟩), .int .i64 id] w fun e w' => e = .returned (.tuple #[]) ∧ Left w t T (T.lose id) A mb w' := by
  have c3 := h.tb.c3
  have d1 := (h.nd id n hn).c1
  have f1 := (h.nd id n hn).fr 1
  have hlk := h.look hid
  rw [nodeP_some hn] at hlk
  have w1 : IntKind.i64.wrap (n.links - 1) = n.links + -1 := by rw [IntWalk.i64_in _ (by omega)]; omega
  have h2 : TbAt (w.setCell ⟨(A id).1, 1, none⟩ (.int .i64 (n.links + -1))) t (T.upd id (Nd.addLinks (-1))) A mb := h.upd_nd hn (Nd.addLinks (-1)) rfl rfl (Ch.set _ _ _ rfl) ((h.nd id n hn).s1)
  have hg : aget id (T.upd id (Nd.addLinks (-1))).nodes = some (Nd.addLinks (-1) n) := by rw [upd_get, if_pos rfl, hn]; rfl
  have CR := Lib.hid (release_any h2 hid hg hu hd)
  have HS : Hid (Left w t T (T.upd id (Nd.addLinks (-1))) A mb (w.setCell ⟨(A id).1, 1, none⟩ (.int .i64 (n.links + -1)))) := Lib.hid ⟨h2, Ch.set _ _ _ (.inr (.inr ⟨id, n, hn, .inl rfl⟩))⟩
  clear hu hd hl hg h2
  go_enter Tryz.func53, Tryz.ntmps53
  go_wp2_with (go_at_call 62; (with_reducible refine CR.out.mono ?_); rintro e w1 ⟨rfl, hb⟩; have HB := Lib.hid hb; clear hb)
  go_end0
  exact ⟨rfl, left_trans HS.out HB.out (fun k hk => own_mod (f := Nd.addLinks (-1)) (fun _ => rfl) hk)⟩
end
section
variable {w : World} {t : Nat} {T : Tb} {A : Int → Nat × Nat} {mb : Nat} (h : TbAt w t T A mb) (ok : Ok T) {id : Int} (hid : InI id)
include h ok hid
theorem drop_any :
    Calls Tryz.prog 30 #[.pointer (some ⟨t, 0, none⟩), .int .i64 id] w fun e w' =>
      e = .returned (.int .i64 (T.dropE id)) ∧ Left w t T (if T.dropE id = 0 then T.drop id else T) A mb w' := by
  have HL : Hid (Left w t T T A mb w) := Lib.hid (Left.same h (Below.refl _ _))
  unfold Tb.dropE
  cases hn : aget id T.nodes with
  | none =>
    have C := inode_none h hid hn
    simp only
    rw [if_neg (by decide)]
    go_enter Tryz.func30, Tryz.ntmps30
    go_wp2_with (go_at_call 61; (with_reducible refine C.mono ?_); rintro e w1 ⟨rfl, rfl⟩)
    go_ret
    exact ⟨rfl, HL.out⟩
  | some n =>
    have C := inode_some h hid hn
    simp only
    have d2 := (h.nd id n hn).c2
    have f2 := (h.nd id n hn).fr 2
    by_cases h0 : n.holds = 0
    · simp only [if_pos h0]
      rw [if_neg (by decide)]
      rw [h0] at d2
      clear h0
      go_enter Tryz.func30, Tryz.ntmps30
      go_wp2_with (go_at_call 61; (with_reducible refine C.mono ?_); rintro e w1 ⟨rfl, rfl⟩)
      go_ret
      exact ⟨rfl, HL.out⟩
    · simp only [if_neg h0]
      rw [if_pos trivial]
      have hb2 : (n.holds == 0) = false := by simpa using h0
      have hh := ok.hld _ _ hn
      have hq := ok.quo
      have w1 : IntKind.i64.wrap (n.holds - 1) = n.holds + -1 := by rw [IntWalk.i64_in _ (by omega)]; omega
      have h2 : TbAt (w.setCell ⟨(A id).1, 2, none⟩ (.int .i64 (n.holds + -1))) t (T.upd id (Nd.addHolds (-1))) A mb := h.upd_nd hn (Nd.addHolds (-1)) rfl rfl (Ch.set _ _ _ rfl) ((h.nd id n hn).s2)
      have hg : aget id (T.upd id (Nd.addHolds (-1))).nodes = some (Nd.addHolds (-1) n) := by rw [upd_get, if_pos rfl, hn]; rfl
      have CR := Lib.hid (release_any h2 hid hg (by show _ ≤ T.used ∧ T.used ≤ _; omega) (ok.dat id n hn))
      have HS : Hid (Left w t T (T.upd id (Nd.addHolds (-1))) A mb (w.setCell ⟨(A id).1, 2, none⟩ (.int .i64 (n.holds + -1)))) := Lib.hid ⟨h2, Ch.set _ _ _ (.inr (.inr ⟨id, n, hn, .inl rfl⟩))⟩
      clear hh hq hg h2 h0
      go_enter Tryz.func30, Tryz.ntmps30
      go_wp2_with (first
        | (go_at_call 61; (with_reducible refine C.mono ?_); rintro e w1 ⟨rfl, rfl⟩)
        | (go_at_call 62; (with_reducible refine CR.out.mono ?_); rintro e w2 ⟨rfl, hb⟩; have HB := Lib.hid hb; clear hb))
      go_ret
      exact ⟨rfl, left_trans HS.out HB.out (fun k hk => own_mod (f := Nd.addHolds (-1)) (fun _ => rfl) hk)⟩
end
end Go.Proofs.YtagdhghjcibfbaaGreat

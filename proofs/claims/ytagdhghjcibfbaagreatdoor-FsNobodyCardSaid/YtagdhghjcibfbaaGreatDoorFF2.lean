/- Layer 9: a table's methods on a file system; what paths lead to: find, place, create, list. Layer 9: change, its four acts; link, rename. Layer 9: link, rename. -/
import Derived.Test.YtagdhghjcibfbaaGreatDoorFsM
import Derived.Test.YtagdhghjcibfbaaGreatDoorInS2
import Derived.LoopTactic
import Derived.OwnWalk
import Derived.BigQuiet
namespace Go.Proofs.YtagdhghjcibfbaaGreatDoor
open Go.RowKit
set_option linter.unusedVariables false
set_option linter.unusedSectionVars false
set_option maxRecDepth 100000

/-! ### Pure facts -/
theorem id_in {T : Tb} {N : Nat} (wf : Wf T) (bd : Bd T N) (hN : N < 1000000000) {id : Int} {n : Nd} (hn : aget id T.nodes = some n) : InI id := by
  have := wf.ids _ _ hn; have := bd.last; unfold InI; omega
theorem tgt_some {T : Tb} (wf : Wf T) {d : Int} {s : List UInt8} (hE : T.entE d s = 0) : ∃ n, aget (T.tgt d s) T.nodes = some n := by
  unfold Tb.entE at hE
  split at hE
  · next hp =>
    obtain ⟨n, hn, hd, hnm, _⟩ := place_parts hp
    unfold Tb.tgt Tb.led at *
    rw [nd_of hn] at hE ⊢
    cases hg : aget s n.names with
    | none => rw [hg] at hE; cases hE
    | some v => exact wf.lead _ _ _ _ hn hg
  · next hp => exact absurd hE hp
theorem walk_some {T : Tb} (wf : Wf T) : ∀ (l : List (List UInt8)) (id : Int), (∃ n, aget id T.nodes = some n) → (T.walk id l).2 = 0 → ∃ n, aget (T.walk id l).1 T.nodes = some n
  | [], id, h, _ => h
  | s :: r, id, h, hz => by
    unfold Tb.walk at hz ⊢
    split at hz
    · next hE => rw [if_pos hE]; exact walk_some wf r _ (tgt_some wf hE) hz
    · next hE => exact absurd hz hE
theorem find_some {T : Tb} (wf : Wf T) {p : List UInt8} (hz : (T.find p).2 = 0) : ∃ n, aget (T.find p).1 T.nodes = some n := by
  obtain ⟨n, hn, _⟩ := wf.root
  exact walk_some wf _ _ ⟨n, hn⟩ hz
theorem walk_zero {T : Tb} : ∀ (l : List (List UInt8)) (id : Int), (T.walk id l).2 ≠ 0 → (T.walk id l).1 = 0
  | [], id, h => absurd rfl h
  | s :: r, id, h => by
    unfold Tb.walk at h ⊢
    split at h
    · next hE => rw [if_pos hE]; exact walk_zero r _ h
    · next hE => rw [if_neg hE]

theorem dirL_len (l : List UInt8) : (dirL l).length ≤ l.length := by
  have h := join_parts l
  by_cases e : partsL l = []
  · unfold dirL; rw [e]; simp [joinP]
  · have := joinP_app_le (partsL l).dropLast [(partsL l).getLast e]
    rw [List.dropLast_concat_getLast e, h] at this; exact this
section
variable {w : World} {fb t hb : Nat} {F : Fs} {S : Nat → Prop} {N : Nat} (h : FsAt w fb t hb F S N) (hN : N < 1000000000)
include h hN
theorem FsAt.find_in {p : List UInt8} (hz : (F.T.find p).2 = 0) : InI (F.T.find p).1 := by
  obtain ⟨n, hn⟩ := find_some h.wf hz
  exact id_in h.wf h.bd hN hn
/-! ### The table's methods -/
theorem FsAt.stp {T' : Tb} {w' : World} (a : AcT) (hT : T' = (F.T.step a).1) (d : DoP w t T' (fun k => S k ∧ k ≠ fb ∧ k ≠ hb) w') : FsP w fb t hb ⟨T', F.H⟩ S (N + 1) w' := by
  have hs := step_wf h.wf h.bd hN a
  rw [← hT] at hs
  exact FsP.of_doP h d hs.1 hs.2 (Nat.le_succ _)
theorem tm_make {dir : Int} (hdir : InI dir) (name : List UInt8) (flag : Bool) :
    Calls Tryz.prog 42 #[.pointer (some ⟨t, 0, none⟩), .int .i64 dir, .string (bs name), .bool flag] w fun e w' =>
      e = .returned (.tuple #[.int .i64 (F.T.step (aMake dir name flag)).2.1, .int .i64 (F.T.step (aMake dir name flag)).2.2.2]) ∧ FsP w fb t hb ⟨(F.T.step (aMake dir name flag)).1, F.H⟩ S (N + 1) w' := by
  obtain ⟨A, mb, h1, hS⟩ := h.tab
  exact (make_any h1 (h.bd.ok h.wf hN) h.wf.fresh hdir name flag).mono fun e w' ⟨he, A', hl⟩ => ⟨he, h.stp hN (aMake dir name flag) rfl (doP_leftX (Below.refl _ _) hl hS)⟩
theorem tm_write {id : Int} (hid : InI id) (a : Int) (ha : InI a) (s : List UInt8) (hs : s.length ≤ 140737488355328) :
    Calls Tryz.prog 57 #[.pointer (some ⟨t, 0, none⟩), .int .i64 id, .int .i64 a, .string (bs s)] w fun e w' =>
      e = .returned (.int .i64 (F.T.step (aWrite id a s)).2.2.2) ∧ FsP w fb t hb ⟨(F.T.step (aWrite id a s)).1, F.H⟩ S (N + 1) w' := by
  obtain ⟨A, mb, h1, hS⟩ := h.tab
  exact (write_any h1 (h.bd.ok h.wf hN) hid a ha s hs).mono fun e w' ⟨he, hl⟩ => ⟨he, h.stp hN (aWrite id a s) rfl (doP_left (Below.refl _ _) hl hS (fun k hk => by change Own t mb A (if F.T.writeE id a s = 0 then F.T.write id a s else F.T).nodes k at hk; split at hk; exact own_write k hk; exact hk))⟩
theorem tm_trunc {id : Int} (hid : InI id) (n : Int) (hn : InI n) :
    Calls Tryz.prog 58 #[.pointer (some ⟨t, 0, none⟩), .int .i64 id, .int .i64 n] w fun e w' =>
      e = .returned (.int .i64 (F.T.step (aTrunc id n)).2.2.2) ∧ FsP w fb t hb ⟨(F.T.step (aTrunc id n)).1, F.H⟩ S (N + 1) w' := by
  obtain ⟨A, mb, h1, hS⟩ := h.tab
  exact (trunc_any h1 (h.bd.ok h.wf hN) hid n hn).mono fun e w' ⟨he, hl⟩ => ⟨he, h.stp hN (aTrunc id n) rfl (doP_left (Below.refl _ _) hl hS (fun k hk => by change Own t mb A (if F.T.truncE id n = 0 then F.T.trunc id n else F.T).nodes k at hk; split at hk; exact own_upd (f := Nd.setData _) (fun _ => rfl) k hk; exact hk))⟩
theorem tm_hold {id : Int} (hid : InI id) :
    Calls Tryz.prog 46 #[.pointer (some ⟨t, 0, none⟩), .int .i64 id] w fun e w' =>
      e = .returned (.int .i64 (F.T.step (aHold id)).2.2.2) ∧ FsP w fb t hb ⟨(F.T.step (aHold id)).1, F.H⟩ S (N + 1) w' := by
  obtain ⟨A, mb, h1, hS⟩ := h.tab
  exact (hold_any h1 (h.bd.ok h.wf hN) hid).mono fun e w' ⟨he, hl⟩ => ⟨he, h.stp hN (aHold id) rfl (doP_left (Below.refl _ _) hl hS (fun k hk => by change Own t mb A (if F.T.holdE id = 0 then F.T.upd id (Nd.addHolds 1) else F.T).nodes k at hk; split at hk; exact own_upd (f := Nd.addHolds 1) (fun _ => rfl) k hk; exact hk))⟩
theorem tm_drop {id : Int} (hid : InI id) :
    Calls Tryz.prog 60 #[.pointer (some ⟨t, 0, none⟩), .int .i64 id] w fun e w' =>
      e = .returned (.int .i64 (F.T.step (aDrop id)).2.2.2) ∧ FsP w fb t hb ⟨(F.T.step (aDrop id)).1, F.H⟩ S (N + 1) w' := by
  obtain ⟨A, mb, h1, hS⟩ := h.tab
  exact (drop_any h1 (h.bd.ok h.wf hN) hid).mono fun e w' ⟨he, hl⟩ => ⟨he, h.stp hN (aDrop id) rfl (doP_left (Below.refl _ _) hl hS (fun k hk => by change Own t mb A (if F.T.dropE id = 0 then F.T.drop id else F.T).nodes k at hk; split at hk; exact own_upd (f := Nd.addHolds (-1)) (fun _ => rfl) k (own_rel k hk); exact hk))⟩
theorem tm_link {id dir : Int} (hid : InI id) (hdir : InI dir) (name : List UInt8) :
    Calls Tryz.prog 50 #[.pointer (some ⟨t, 0, none⟩), .int .i64 id, .int .i64 dir, .string (bs name)] w fun e w' =>
      e = .returned (.int .i64 (F.T.step (aLink id dir name)).2.2.2) ∧ FsP w fb t hb ⟨(F.T.step (aLink id dir name)).1, F.H⟩ S (N + 1) w' := by
  obtain ⟨A, mb, h1, hS⟩ := h.tab
  exact (link_any h1 (h.bd.ok h.wf hN) hid hdir name).mono fun e w' ⟨he, hl⟩ => ⟨he, h.stp hN (aLink id dir name) rfl (doP_left (Below.refl _ _) hl hS (fun k hk => by change Own t mb A (if F.T.linkE id dir name = 0 then F.T.link id dir name else F.T).nodes k at hk; split at hk; exact own_upd (f := Nd.putName name id) (fun _ => rfl) k (own_upd (f := Nd.addLinks 1) (fun _ => rfl) k hk); exact hk))⟩
theorem tm_unlink {dir : Int} (hdir : InI dir) (name : List UInt8) :
    Calls Tryz.prog 27 #[.pointer (some ⟨t, 0, none⟩), .int .i64 dir, .string (bs name)] w fun e w' =>
      e = .returned (.int .i64 (F.T.step (aUnlink dir name)).2.2.2) ∧ FsP w fb t hb ⟨(F.T.step (aUnlink dir name)).1, F.H⟩ S (N + 1) w' := by
  obtain ⟨A, mb, h1, hS⟩ := h.tab
  exact (unlink_any h1 (h.bd.ok h.wf hN) hdir name).mono fun e w' ⟨he, hl⟩ => ⟨he, h.stp hN (aUnlink dir name) rfl (doP_left (Below.refl _ _) hl hS (fun k hk => by change Own t mb A (if F.T.ofE dir name false = 0 then F.T.unlink dir name else F.T).nodes k at hk; split at hk; exact own_upd (f := Nd.delName name) (fun _ => rfl) k (own_lose k hk); exact hk))⟩
theorem tm_remove {dir : Int} (hdir : InI dir) (name : List UInt8) :
    Calls Tryz.prog 21 #[.pointer (some ⟨t, 0, none⟩), .int .i64 dir, .string (bs name)] w fun e w' =>
      e = .returned (.int .i64 (F.T.step (aRemove dir name)).2.2.2) ∧ FsP w fb t hb ⟨(F.T.step (aRemove dir name)).1, F.H⟩ S (N + 1) w' := by
  obtain ⟨A, mb, h1, hS⟩ := h.tab
  exact (removeDir_any h1 (h.bd.ok h.wf hN) hdir name).mono fun e w' ⟨he, hl⟩ => ⟨he, h.stp hN (aRemove dir name) rfl (doP_left (Below.refl _ _) hl hS (fun k hk => by change Own t mb A (if F.T.removeE dir name = 0 then F.T.remove dir name else F.T).nodes k at hk; split at hk; exact own_upd (f := Nd.delName name) (fun _ => rfl) k (own_rmv k hk); exact hk))⟩
theorem tm_ren {dir dst : Int} (hdir : InI dir) (hdst : InI dst) (name nm : List UInt8) :
    Calls Tryz.prog 53 #[.pointer (some ⟨t, 0, none⟩), .int .i64 dir, .string (bs name), .int .i64 dst, .string (bs nm)] w fun e w' =>
      e = .returned (.int .i64 (F.T.step (aRen dir name dst nm)).2.2.2) ∧ FsP w fb t hb ⟨(F.T.step (aRen dir name dst nm)).1, F.H⟩ S (N + 1) w' := by
  obtain ⟨A, mb, h1, hS⟩ := h.tab
  exact (rename_any h1 (h.bd.ok h.wf hN) hdir name hdst nm).mono fun e w' ⟨he, hl⟩ => ⟨he, h.stp hN (aRen dir name dst nm) rfl (doP_left (Below.refl _ _) hl hS (fun k hk => by change Own t mb A (if F.T.renE dir name dst nm = 0 then F.T.rename dir name dst nm else F.T).nodes k at hk; split at hk; exact own_rename k hk; exact hk))⟩
theorem tm_find {dir : Int} (hdir : InI dir) (name : List UInt8) :
    Calls Tryz.prog 48 #[.pointer (some ⟨t, 0, none⟩), .int .i64 dir, .string (bs name)] w fun e w' =>
      e = .returned (.tuple #[.int .i64 (if F.T.entE dir name = 0 then F.T.tgt dir name else 0), .int .i64 (F.T.entE dir name)]) ∧ Below w.heap.size w w' := by
  obtain ⟨A, mb, h1, hS⟩ := h.tab
  exact find_any h1 hdir name
theorem tm_read {id : Int} (hid : InI id) (a n : Int) (ha : InI a) (hn : InI n) :
    Calls Tryz.prog 56 #[.pointer (some ⟨t, 0, none⟩), .int .i64 id, .int .i64 a, .int .i64 n] w fun e w' =>
      e = .returned (.tuple #[.string (bs (F.T.step (aRead id a n)).2.2.1), .int .i64 (F.T.step (aRead id a n)).2.2.2]) ∧ Below w.heap.size w w' := by
  obtain ⟨A, mb, h1, hS⟩ := h.tab
  have e1 : F.T.step (aRead id a n) = (F.T, 0, if F.T.fileE id (min a n) = 0 then readL (F.T.nd id).data a n else [], F.T.fileE id (min a n)) := rfl
  rw [e1]
  by_cases hE : F.T.fileE id (min a n) = 0
  · rw [if_pos hE, hE]
    exact (read_ok h1 (h.bd.ok h.wf hN) hid a n ha hn hE).mono fun e w' ⟨he, hb⟩ => ⟨he, hb⟩
  · rw [if_neg hE]
    exact (read_no h1 (h.bd.ok h.wf hN) hid a n ha hn hE).mono fun e w' ⟨he, hb⟩ => ⟨he, by rw [hb]; exact Below.refl _ _⟩
theorem tm_list {dir : Int} (hdir : InI dir) :
    Calls Tryz.prog 54 #[.pointer (some ⟨t, 0, none⟩), .int .i64 dir] w fun e w' => ∃ a n c, e = .returned (.tuple #[.slice a n c, .int .i64 (F.T.kindE dir true)]) ∧ Sl w' (.slice a n c) (if F.T.kindE dir true = 0 then (F.T.nd dir).names.map (·.1) else []) ∧ Below w.heap.size w w' ∧ ∀ k, (Value.slice a n c).ownBlock = some k → w.heap.size ≤ k := by
  obtain ⟨A, mb, h1, hS⟩ := h.tab
  by_cases hE : F.T.kindE dir true = 0
  · rw [if_pos hE, hE]
    obtain ⟨n, hn, hd⟩ := kind_some hE
    exact (list_new h1 hdir hE (by rw [nd_of hn]; exact h.wf.nris _ _ hn) (by rw [nd_of hn]; have := (h.bd.nod _ _ hn).1; omega)).mono fun e w' ⟨v, he, hs, hb, hk⟩ => by
      obtain ⟨a, c, rfl, r⟩ := hs
      exact ⟨a, _, c, he, ⟨a, c, rfl, r⟩, hb, hk⟩
  · rw [if_neg hE]
    exact (list_no h1 hdir hE).mono fun e w' ⟨he, hb⟩ => ⟨none, 0, 0, he, by rw [hb]; exact Sl_nil w, by rw [hb]; exact Below.refl _ _, fun k hk => by cases hk⟩

/-! ### What paths lead to -/
set_option maxHeartbeats 1000000 in
theorem fs_find (p : List UInt8) (hp : p.length ≤ 1048576) :
    Calls Tryz.prog 25 #[.pointer (some ⟨fb, 0, none⟩), .string (bs p)] w fun e w' => e = .returned (.tuple #[.int .i64 (F.T.find p).1, .int .i64 (F.T.find p).2]) ∧ Below w.heap.size w w' := by
  have CP := Lib.hid (parts_any p w (by omega) h.mx)
  have CF : Hid (∀ w1, Below w.heap.size w w1 → ∀ (x : Int) (s : List UInt8), (∃ n, aget x F.T.nodes = some n) → Calls Tryz.prog 48 #[.pointer (some ⟨t, 0, none⟩), .int .i64 x, .string (bs s)] w1 fun e w' =>
      e = .returned (.tuple #[.int .i64 (if F.T.entE x s = 0 then F.T.tgt x s else 0), .int .i64 (F.T.entE x s)]) ∧ Below w1.heap.size w1 w') := Lib.hid fun w1 hb x s ⟨n, hn⟩ => tm_find (h.below hb) hN (id_in h.wf h.bd hN hn) s
  have HW := Lib.hid h.wf
  have HC0 : Hid (∀ w1, Below w.heap.size w w1 → w1.cell? ⟨fb, 0, none⟩ = some (.pointer (some ⟨t, 0, none⟩))) := Lib.hid fun w1 hb => (h.below hb).fs.c0
  have HR : Hid (∃ n, aget 1 F.T.nodes = some n) := by obtain ⟨n, hn, _⟩ := h.wf.root; exact Lib.hid ⟨n, hn⟩
  unfold Tb.find
  have hpl := parts_len p
  generalize partsL p = ls at *
  generalize F.T = T at *
  obtain ⟨m, hm⟩ : ∃ m, m = ls.length := ⟨_, rfl⟩
  have hmle : m ≤ 1048577 := by omega
  have HM := Lib.hid hm
  clear hm hpl h hN
  go_enter Tryz.func25, Tryz.ntmps25
  go_wp2_with (go_at_call 47; (with_reducible refine CP.out.mono ?_); rintro e w1 hr; obtain ⟨a, c, rfl, hS, hb⟩ := one_use hr; have HS1 := Lib.hid hS; have HB := Lib.hid hb; rw [← HM.out]; clear hr hS hb)
  go_loopw [6, 14] (fun id i wr => ∃ (k : Nat) (x : Int), i = .int .i64 k ∧ id = .int .i64 x ∧ k ≤ m ∧ Hid (Below w1.heap.size w1 wr) ∧ Hid ((∃ n, aget x T.nodes = some n) ∧ T.walk 1 ls = T.walk x (ls.drop k))) (fun _ i _ => m - (intOf i).toNat)
  case atStart => exact ⟨0, 1, rfl, rfl, Nat.zero_le _, Lib.hid (Below.refl _ _), Lib.hid ⟨HR.out, rfl⟩⟩
  case round =>
    obtain ⟨k, x, rfl, rfl, hk, HBr, HX⟩ := hrel
    have hbw : Below w.heap.size w wr := HB.out.trans (HBr.out.mono HB.out.size)
    by_cases hlt : k < m
    · rcases HS1.out with e0 | ⟨b, o, rfl, hw, hc⟩
      · exact absurd hlt (by rw [HM.out, e0]; simp)
      have hk' : k < ls.length := by rw [← HM.out]; exact hlt
      have hx : wr.cell? ⟨b, o + k, none⟩ = some (.string (bs ls[k])) := (HBr.out.cell (p := ⟨b, o + k, none⟩) hw).trans (hc k hk')
      have hd : ls.drop k = ls[k] :: ls.drop (k + 1) := List.drop_eq_getElem_cons hk'
      have hwk := HX.out.2
      rw [hd] at hwk
      have CF1 := Lib.hid (CF.out wr hbw x ls[k] HX.out.1)
      have c0 := HC0.out wr hbw
      generalize ls[k] = s at *
      clear hc hd hw hk'
      by_cases hE : T.entE x s = 0
      · rw [if_pos hE, hE] at CF1
        have hn := tgt_some HW.out hE
        have HX1 : Hid ((∃ n, aget (T.tgt x s) T.nodes = some n) ∧ T.walk 1 ls = T.walk (T.tgt x s) (ls.drop (k + 1))) := Lib.hid ⟨hn, by rw [hwk]; conv => lhs; unfold Tb.walk; rw [if_pos hE]⟩
        have HBW := Lib.hid hbw
        clear hE hn hwk hbw
        generalize T.tgt x s = y at *
        go_wp2_with (go_at_call 48; (with_reducible refine CF1.out.mono ?_); rintro e w2 ⟨rfl, hb⟩; have HB2 := Lib.hid hb; clear hb)
        go_roundw
        case rel => exact ⟨k + 1, y, by go_num, rfl, by omega, Lib.hid (HBr.out.trans (HB2.out.mono HBr.out.size)), HX1⟩
        case measure => simp [intOf]; omega
      · rw [if_neg hE] at CF1
        have HWK : Hid (T.walk 1 ls = (0, T.entE x s)) := Lib.hid (by rw [hwk]; conv => lhs; unfold Tb.walk; rw [if_neg hE])
        have hk2 : (T.entE x s == 0) = false := by simpa using hE
        have hk3 : (T.entE x s != 0) = true := by simpa using hE
        have HBW := Lib.hid hbw
        clear hE hwk hbw
        generalize T.entE x s = er at *
        go_wp2_with (go_at_call 48; (with_reducible refine CF1.out.mono ?_); rintro e w2 ⟨rfl, hb⟩; have HB2 := Lib.hid hb; clear hb)
        go_ret2
        exact ⟨by rw [HWK.out]; rfl, HBW.out.trans (HB2.out.mono HBW.out.size)⟩
    · obtain rfl : k = m := by omega
      have HWK : Hid (T.walk 1 ls = (x, 0)) := Lib.hid (by rw [HX.out.2, HM.out, List.drop_length]; rfl)
      have HBW := Lib.hid hbw
      clear hbw
      go_wp2_with fail
      go_ret2
      exact ⟨by rw [HWK.out]; rfl, HBW.out⟩
set_option maxHeartbeats 1000000 in
theorem fs_place (p : List UInt8) (hp : p.length ≤ 1048576) :
    Calls Tryz.prog 41 #[.pointer (some ⟨fb, 0, none⟩), .string (bs p)] w fun e w' => e = .returned (.tuple #[.int .i64 (F.T.find (dirL p)).1, .string (bs (nameL p)), .int .i64 (F.T.find (dirL p)).2]) ∧ Below w.heap.size w w' := by
  have CS := Lib.hid (split_any p w (by omega))
  have CF : Hid (∀ w1, Below w.heap.size w w1 → Calls Tryz.prog 25 #[.pointer (some ⟨fb, 0, none⟩), .string (bs (dirL p))] w1 fun e w' => e = .returned (.tuple #[.int .i64 (F.T.find (dirL p)).1, .int .i64 (F.T.find (dirL p)).2]) ∧ Below w1.heap.size w1 w') :=
    Lib.hid fun w1 hb => fs_find (h.below hb) hN (dirL p) (Nat.le_trans (dirL_len p) hp)
  generalize dirL p = d at *
  generalize nameL p = n at *
  generalize (F.T.find d).1 = x at *
  generalize (F.T.find d).2 = er at *
  clear h hN
  go_enter Tryz.func41, Tryz.ntmps41
  go_wp2_with (first
    | (go_at_call 68; (with_reducible refine CS.out.mono ?_); rintro e w1 ⟨rfl, q, rfl⟩)
    | (go_at_call 25; (with_reducible refine (CF.out _ (below_drewN8 (Below.refl _ _) q)).mono ?_); rintro e w2 ⟨rfl, hb⟩; have HB := Lib.hid hb; clear hb))
  go_ret3
  exact ⟨rfl, (below_drewN8 (Below.refl _ _) q).trans HB.out⟩
set_option maxHeartbeats 1000000 in
theorem fs_create (p : List UInt8) (hp : p.length ≤ 1048576) (flag : Bool) :
    Calls Tryz.prog 19 #[.pointer (some ⟨fb, 0, none⟩), .string (bs p), .bool flag] w fun e w' => e = .returned (.tuple #[.int .i64 (F.T.create p flag).2.1, .int .i64 (F.T.create p flag).2.2]) ∧ FsP w fb t hb ⟨(F.T.create p flag).1, F.H⟩ S (N + 1) w' := by
  have CP := Lib.hid (fs_place h hN p hp)
  have H := Lib.hid h
  unfold Tb.create
  by_cases hE : (F.T.find (dirL p)).2 = 0
  · rw [if_pos hE]
    rw [hE] at CP
    have CM : Hid (∀ w1, Below w.heap.size w w1 → Calls Tryz.prog 42 #[.pointer (some ⟨t, 0, none⟩), .int .i64 (F.T.find (dirL p)).1, .string (bs (nameL p)), .bool flag] w1 fun e w' =>
      e = .returned (.tuple #[.int .i64 (F.T.step (aMake (F.T.find (dirL p)).1 (nameL p) flag)).2.1, .int .i64 (F.T.step (aMake (F.T.find (dirL p)).1 (nameL p) flag)).2.2.2]) ∧ FsP w1 fb t hb ⟨(F.T.step (aMake (F.T.find (dirL p)).1 (nameL p) flag)).1, F.H⟩ S (N + 1) w') :=
      Lib.hid fun w1 hb => tm_make (h.below hb) hN (h.find_in hN hE) _ _
    have HC0 : Hid (∀ w1, Below w.heap.size w w1 → w1.cell? ⟨fb, 0, none⟩ = some (.pointer (some ⟨t, 0, none⟩))) := Lib.hid fun w1 hb => (h.below hb).fs.c0
    clear hE h hN
    generalize F.T.step (aMake (F.T.find (dirL p)).1 (nameL p) flag) = r at *
    generalize (F.T.find (dirL p)).1 = x at *
    generalize nameL p = n at *
    go_enter Tryz.func19, Tryz.ntmps19
    go_wp2_with (first
      | (go_at_call 41; (with_reducible refine CP.out.mono ?_); rintro e w1 ⟨rfl, hb⟩; have HB := Lib.hid hb; have c0 := HC0.out _ hb; clear hb)
      | (go_at_call 42; (with_reducible refine (CM.out _ HB.out).mono ?_); rintro e w2 ⟨rfl, hp⟩; have HP := Lib.hid hp; clear hp))
    go_ret2
    exact ⟨rfl, FsP.under HB.out (H.out.up (Nat.le_succ _)) HP.out⟩
  · rw [if_neg hE]
    have hk2 : ((F.T.find (dirL p)).2 == 0) = false := by simpa using hE
    have hk3 : ((F.T.find (dirL p)).2 != 0) = true := by simpa using hE
    clear hE h hN
    generalize (F.T.find (dirL p)).2 = er at *
    generalize (F.T.find (dirL p)).1 = x at *
    generalize nameL p = n at *
    go_enter Tryz.func19, Tryz.ntmps19
    go_wp2_with (go_at_call 41; (with_reducible refine CP.out.mono ?_); rintro e w1 ⟨rfl, hb⟩; have HB := Lib.hid hb; clear hb)
    go_ret2
    exact ⟨rfl, (FsP.of_below H.out HB.out).up (Nat.le_succ _)⟩
set_option maxHeartbeats 1000000 in
theorem fs_list (p : List UInt8) (hp : p.length ≤ 1048576) :
    Calls Tryz.prog 29 #[.pointer (some ⟨fb, 0, none⟩), .string (bs p)] w fun e w' => ∃ a n c, e = .returned (.tuple #[.slice a n c, .int .i64 (F.T.listP p).1]) ∧ Sl w' (.slice a n c) (F.T.listP p).2 ∧ Below w.heap.size w w' ∧ ∀ k, (Value.slice a n c).ownBlock = some k → w.heap.size ≤ k := by
  have CF := Lib.hid (fs_find h hN p hp)
  unfold Tb.listP
  by_cases hE : (F.T.find p).2 = 0
  · rw [if_pos hE]
    rw [hE] at CF
    have CL : Hid (∀ w1, Below w.heap.size w w1 → Calls Tryz.prog 54 #[.pointer (some ⟨t, 0, none⟩), .int .i64 (F.T.find p).1] w1 fun e w' => ∃ a n c, e = .returned (.tuple #[.slice a n c, .int .i64 (F.T.kindE (F.T.find p).1 true)]) ∧ Sl w' (.slice a n c) (if F.T.kindE (F.T.find p).1 true = 0 then (F.T.nd (F.T.find p).1).names.map (·.1) else []) ∧ Below w1.heap.size w1 w' ∧ ∀ k, (Value.slice a n c).ownBlock = some k → w1.heap.size ≤ k) :=
      Lib.hid fun w1 hb => tm_list (h.below hb) hN (h.find_in hN hE)
    have HC0 : Hid (∀ w1, Below w.heap.size w w1 → w1.cell? ⟨fb, 0, none⟩ = some (.pointer (some ⟨t, 0, none⟩))) := Lib.hid fun w1 hb => (h.below hb).fs.c0
    clear hE h hN
    generalize (if F.T.kindE (F.T.find p).1 true = 0 then (F.T.nd (F.T.find p).1).names.map (·.1) else []) = ls at *
    generalize F.T.kindE (F.T.find p).1 true = er at *
    generalize (F.T.find p).1 = x at *
    go_enter Tryz.func29, Tryz.ntmps29
    go_wp2_with (first
      | (go_at_call 25; (with_reducible refine CF.out.mono ?_); rintro e w1 ⟨rfl, hb⟩; have HB := Lib.hid hb; have c0 := HC0.out _ hb; clear hb)
      | (go_at_call 54; (with_reducible refine (CL.out _ HB.out).mono ?_); rintro e w2 ⟨a, n, c, rfl, hs, hb, hn⟩; have HS := Lib.hid hs; have HB2 := Lib.hid hb; have HN := Lib.hid hn; clear hs hb hn))
    go_ret2
    exact ⟨a, n, c, rfl, HS.out, HB.out.trans (HB2.out.mono HB.out.size), fun k hk => Nat.le_trans HB.out.size (HN.out k hk)⟩
  · rw [if_neg hE]
    have hk2 : ((F.T.find p).2 == 0) = false := by simpa using hE
    have hk3 : ((F.T.find p).2 != 0) = true := by simpa using hE
    clear hE h hN
    generalize (F.T.find p).2 = er at *
    generalize (F.T.find p).1 = x at *
    go_enter Tryz.func29, Tryz.ntmps29
    go_wp2_with (go_at_call 25; (with_reducible refine CF.out.mono ?_); rintro e w1 ⟨rfl, hb⟩; have HB := Lib.hid hb; clear hb)
    go_ret2
    exact ⟨none, 0, 0, rfl, Sl_nil _, HB.out, fun k hk => by cases hk⟩
end
end Go.Proofs.YtagdhghjcibfbaaGreatDoor

namespace Go.Proofs.YtagdhghjcibfbaaGreatDoor
open Go.RowKit
set_option linter.unusedVariables false
set_option linter.unusedSectionVars false
set_option maxRecDepth 100000

section
variable {w : World} {fb t hb : Nat} {F : Fs} {S : Nat → Prop} {N : Nat} (h : FsAt w fb t hb F S N) (hN : N < 1000000000)
include h hN
/-- change, with whatever is to be done at the place. -/
theorem fs_change (gv : Nat) (bd cp : Array Value) (hent : ∀ args w, (callFunc gv args).run Tryz.prog w = .ok (.enter gv args) w) (f : Int → List UInt8 → AcT) (p : List UInt8) (hp : p.length ≤ 1048576)
    (CG : ∀ w1, Below w.heap.size w w1 → ∀ x : Int, InI x → Calls Tryz.prog gv (bd ++ (#[.int .i64 x, .string (bs (nameL p))] ++ cp)) w1 fun e w' => e = .returned (.int .i64 (F.T.step (f x (nameL p))).2.2.2) ∧ FsP w1 fb t hb ⟨(F.T.step (f x (nameL p))).1, F.H⟩ S (N + 1) w') :
    Calls Tryz.prog 20 #[.pointer (some ⟨fb, 0, none⟩), .string (bs p), .func (.func gv) bd cp] w fun e w' => e = .returned (.int .i64 (F.T.change p f).2) ∧ FsP w fb t hb ⟨(F.T.change p f).1, F.H⟩ S (N + 1) w' := by
  have CP := Lib.hid (fs_place h hN p hp)
  have H := Lib.hid h
  unfold Tb.change
  by_cases hE : (F.T.find (dirL p)).2 = 0
  · rw [if_pos hE]
    rw [hE] at CP
    have CM := Lib.hid (fun w1 hb => CG w1 hb (F.T.find (dirL p)).1 (h.find_in hN hE))
    clear hE h hN CG
    generalize F.T.step (f (F.T.find (dirL p)).1 (nameL p)) = r at *
    generalize (F.T.find (dirL p)).1 = x at *
    generalize nameL p = n at *
    go_enter Tryz.func20, Tryz.ntmps20
    go_wp2_with (first
      | (go_at_call 41; (with_reducible refine CP.out.mono ?_); rintro e w1 ⟨rfl, hb⟩; have HB := Lib.hid hb; clear hb)
      | ((with_reducible refine (CM.out _ HB.out).mono ?_); rintro e w2 ⟨rfl, hp⟩; have HP := Lib.hid hp; clear hp))
    go_ret
    exact ⟨rfl, FsP.under HB.out (H.out.up (Nat.le_succ _)) HP.out⟩
  · rw [if_neg hE]
    have hk2 : ((F.T.find (dirL p)).2 == 0) = false := by simpa using hE
    have hk3 : ((F.T.find (dirL p)).2 != 0) = true := by simpa using hE
    clear hE h hN CG
    generalize (F.T.find (dirL p)).2 = er at *
    generalize (F.T.find (dirL p)).1 = x at *
    generalize nameL p = n at *
    go_enter Tryz.func20, Tryz.ntmps20
    go_wp2_with (go_at_call 41; (with_reducible refine CP.out.mono ?_); rintro e w1 ⟨rfl, hb⟩; have HB := Lib.hid hb; clear hb)
    go_ret
    exact ⟨rfl, (FsP.of_below H.out HB.out).up (Nat.le_succ _)⟩
/-- link's closure: the file gets one more name. -/
theorem link1_any {w1 : World} (hb1 : Below w.heap.size w w1) {b3 b7 : Nat} {id x : Int} (k3 : w1.cell? ⟨b3, 0, none⟩ = some (.pointer (some ⟨fb, 0, none⟩))) (k7 : w1.cell? ⟨b7, 0, none⟩ = some (.int .i64 id)) (hid : InI id) (hx : InI x) (n : List UInt8) :
    Calls Tryz.prog 49 #[.int .i64 x, .string (bs n), .pointer (some ⟨b3, 0, none⟩), .pointer (some ⟨b7, 0, none⟩)] w1 fun e w' => e = .returned (.int .i64 (F.T.step (aLink id x n)).2.2.2) ∧ FsP w1 fb t hb ⟨(F.T.step (aLink id x n)).1, F.H⟩ S (N + 1) w' := by
  have h1 := h.below hb1
  have c0 : w1.cell? ⟨fb, 0, none⟩ = some (.pointer (some ⟨t, 0, none⟩)) := h1.fs.c0
  have CL : Hid (Calls Tryz.prog 50 #[.pointer (some ⟨t, 0, none⟩), .int .i64 id, .int .i64 x, .string (bs n)] w1.drew fun e w' =>
      e = .returned (.int .i64 (F.T.step (aLink id x n)).2.2.2) ∧ FsP w1.drew fb t hb ⟨(F.T.step (aLink id x n)).1, F.H⟩ S (N + 1) w') := Lib.hid <| tm_link (h1.below (Below.refl _ w1).drew) hN hid hx n
  have HD : Hid (∀ F' N' w', FsP w1.drew fb t hb F' S N' w' → FsP w1 fb t hb F' S N' w') := Lib.hid fun F' N' w' hp => ⟨hp.at_, (Ch.of_below (Below.refl _ w1).drew).trans hp.ch (fun _ _ e => e)⟩
  clear h hN hb1 h1
  generalize F.T.step (aLink id x n) = r at *
  go_enter Tryz.func49, Tryz.ntmps49
  go_wp2_with fail
  go_still_tail 7, (by kernel_rfl)
  change wpList _ _ _ _ _ w1.drew
  go_wp2_with (go_at_call 50; (with_reducible refine CL.out.mono ?_); rintro e w2 ⟨rfl, hp⟩; have HP := Lib.hid hp; clear hp)
  go_ret
  exact ⟨rfl, HD.out _ _ _ HP.out⟩
theorem ren1_any {w1 : World} (hb1 : Below w.heap.size w w1) {b3 b7 b8 : Nat} {id x : Int} {m : List UInt8} (k3 : w1.cell? ⟨b3, 0, none⟩ = some (.pointer (some ⟨fb, 0, none⟩))) (k7 : w1.cell? ⟨b7, 0, none⟩ = some (.int .i64 id)) (k8 : w1.cell? ⟨b8, 0, none⟩ = some (.string (bs m))) (hid : InI id) (hx : InI x) (n : List UInt8) :
    Calls Tryz.prog 52 #[.int .i64 x, .string (bs n), .pointer (some ⟨b3, 0, none⟩), .pointer (some ⟨b7, 0, none⟩), .pointer (some ⟨b8, 0, none⟩)] w1 fun e w' => e = .returned (.int .i64 (F.T.step (aRen id m x n)).2.2.2) ∧ FsP w1 fb t hb ⟨(F.T.step (aRen id m x n)).1, F.H⟩ S (N + 1) w' := by
  have h1 := h.below hb1
  have c0 : w1.cell? ⟨fb, 0, none⟩ = some (.pointer (some ⟨t, 0, none⟩)) := h1.fs.c0
  have CL : Hid (Calls Tryz.prog 53 #[.pointer (some ⟨t, 0, none⟩), .int .i64 id, .string (bs m), .int .i64 x, .string (bs n)] w1.drew fun e w' =>
      e = .returned (.int .i64 (F.T.step (aRen id m x n)).2.2.2) ∧ FsP w1.drew fb t hb ⟨(F.T.step (aRen id m x n)).1, F.H⟩ S (N + 1) w') := Lib.hid <| tm_ren (h1.below (Below.refl _ w1).drew) hN hid hx m n
  have HD : Hid (∀ F' N' w', FsP w1.drew fb t hb F' S N' w' → FsP w1 fb t hb F' S N' w') := Lib.hid fun F' N' w' hp => ⟨hp.at_, (Ch.of_below (Below.refl _ w1).drew).trans hp.ch (fun _ _ e => e)⟩
  clear h hN hb1 h1
  generalize F.T.step (aRen id m x n) = r at *
  go_enter Tryz.func52, Tryz.ntmps52
  go_wp2_with fail
  go_still_tail 8, (by kernel_rfl)
  change wpList _ _ _ _ _ w1.drew
  go_wp2_with (go_at_call 53; (with_reducible refine CL.out.mono ?_); rintro e w2 ⟨rfl, hp⟩; have HP := Lib.hid hp; clear hp)
  go_ret
  exact ⟨rfl, HD.out _ _ _ HP.out⟩
end
end Go.Proofs.YtagdhghjcibfbaaGreatDoor

namespace Go.Proofs.YtagdhghjcibfbaaGreatDoor
open Go.RowKit
set_option linter.unusedVariables false
set_option linter.unusedSectionVars false
set_option maxRecDepth 100000

theorem box_more {w W1 w1 : World} {v u : Value} {ty : TypeId} (hbW : Below w.heap.size w W1) (hb : Below W1.heap.size W1 w1) (k3 : W1.cell? ⟨w.heap.size, 0, none⟩ = some v) :
    ∃ W2, w1.alloc (.cells #[u] ty) = W2 ∧ Below w.heap.size w W2 ∧ W2.cell? ⟨w.heap.size, 0, none⟩ = some v ∧ W2.cell? ⟨w1.heap.size, 0, none⟩ = some u := by
  have hlt := World.block_lt_of_cell? W1 _ k3
  have hs := hb.size
  refine ⟨_, rfl, (hbW.trans (hb.mono hbW.size)).alloc (Nat.le_trans hbW.size hs) _, ?_, World.cell?_alloc_new w1 _ _ _⟩
  exact (World.cell?_alloc_lt w1 _ _ (Nat.lt_of_lt_of_le hlt hs)).trans ((hb.cell (p := ⟨w.heap.size, 0, none⟩) hlt).trans k3)
theorem box_two {w W1 w1 : World} {v u u2 : Value} {ty ty2 : TypeId} (hbW : Below w.heap.size w W1) (hb : Below W1.heap.size W1 w1) (k3 : W1.cell? ⟨w.heap.size, 0, none⟩ = some v) :
    ∃ W2, (w1.alloc (.cells #[u] ty)).alloc (.cells #[u2] ty2) = W2 ∧ Below w.heap.size w W2 ∧ W2.cell? ⟨w.heap.size, 0, none⟩ = some v ∧ W2.cell? ⟨w1.heap.size, 0, none⟩ = some u ∧ W2.cell? ⟨w1.heap.size + 1, 0, none⟩ = some u2 := by
  obtain ⟨W2, hW2, h1, h2, h3⟩ := box_more (u := u) (ty := ty) hbW hb k3
  have hs : W2.heap.size = w1.heap.size + 1 := by rw [← hW2]; simp
  rw [hW2]
  refine ⟨_, rfl, h1.alloc h1.size _, ?_, ?_, ?_⟩
  · exact (World.cell?_alloc_lt W2 _ _ (World.block_lt_of_cell? W2 _ h2)).trans h2
  · exact (World.cell?_alloc_lt W2 _ _ (World.block_lt_of_cell? W2 _ h3)).trans h3
  · rw [← hs]; exact World.cell?_alloc_new W2 _ _ _
section
variable {w : World} {fb t hb : Nat} {F : Fs} {S : Nat → Prop} {N : Nat} (h : FsAt w fb t hb F S N) (hN : N < 1000000000)
include h hN
set_option maxHeartbeats 1000000 in
theorem fs_link (p q : List UInt8) (hp : p.length ≤ 1048576) (hq : q.length ≤ 1048576) :
    Calls Tryz.prog 26 #[.pointer (some ⟨fb, 0, none⟩), .string (bs p), .string (bs q)] w fun e w' => e = .returned (.int .i64 (F.T.linkP p q).2) ∧ FsP w fb t hb ⟨(F.T.linkP p q).1, F.H⟩ S (N + 1) w' := by
  obtain ⟨W1, hW1⟩ : ∃ W1, w.alloc (.cells #[.pointer (some ⟨fb, 0, none⟩)] 23) = W1 := ⟨_, rfl⟩
  have hbW : Below w.heap.size w W1 := by rw [← hW1]; exact (Below.refl _ w).alloc (Nat.le_refl _) _
  have HSW : Hid (W1.heap.size = w.heap.size + 1) := by show _ = _; rw [← hW1]; simp
  have k3 : W1.cell? ⟨w.heap.size, 0, none⟩ = some (.pointer (some ⟨fb, 0, none⟩)) := by rw [← hW1]; exact World.cell?_alloc_new w _ _ _
  have CF := Lib.hid (fs_find (h.below hbW) hN p hp)
  have H := Lib.hid h
  have HBW := Lib.hid hbW
  unfold Tb.linkP
  by_cases hE : (F.T.find p).2 = 0
  · rw [if_pos hE]
    rw [hE] at CF
    have CC : Hid (∀ w1 b7, Below w.heap.size w w1 → w1.cell? ⟨w.heap.size, 0, none⟩ = some (.pointer (some ⟨fb, 0, none⟩)) → w1.cell? ⟨b7, 0, none⟩ = some (.int .i64 (F.T.find p).1) →
        Calls Tryz.prog 20 #[.pointer (some ⟨fb, 0, none⟩), .string (bs q), .func (.func 49) #[] #[.pointer (some ⟨w.heap.size, 0, none⟩), .pointer (some ⟨b7, 0, none⟩)]] w1 fun e w' => e = .returned (.int .i64 (F.T.change q (aLink (F.T.find p).1)).2) ∧ FsP w1 fb t hb ⟨(F.T.change q (aLink (F.T.find p).1)).1, F.H⟩ S (N + 1) w') :=
      Lib.hid fun w1 b7 hb1 k3 k7 => fs_change (h.below hb1) hN 49 #[] #[.pointer (some ⟨w.heap.size, 0, none⟩), .pointer (some ⟨b7, 0, none⟩)] (enters_of Tryz.func49 (by kernel_rfl) rfl) (aLink (F.T.find p).1) q hq
        (fun w2 hb2 x hx => link1_any (h.below hb1) hN hb2 ((hb2.cell (p := ⟨w.heap.size, 0, none⟩) (World.block_lt_of_cell? w1 _ k3)).trans k3) ((hb2.cell (p := ⟨b7, 0, none⟩) (World.block_lt_of_cell? w1 _ k7)).trans k7) (h.find_in hN hE) hx _)
    clear hE h hN hbW
    generalize F.T.change q (aLink (F.T.find p).1) = r at *
    generalize (F.T.find p).1 = x at *
    go_enter Tryz.func26, Tryz.ntmps26
    go_wp2_with (first
      | (go_at_call 25; (with_reducible refine CF.out.mono ?_); rintro e w1 ⟨rfl, hb⟩; obtain ⟨W2, hW2, hb2, j3, j7⟩ := box_more (u := .int .i64 x) (ty := 3) HBW.out hb k3; have HB2 := Lib.hid hb2; clear hb hb2 k3)
      | (go_at_call 20; (with_reducible refine (CC.out _ _ HB2.out j3 j7).mono ?_); rintro e w2 ⟨rfl, hp⟩; have HP := Lib.hid hp; clear hp))
    go_ret
    exact ⟨rfl, FsP.under HB2.out (H.out.up (Nat.le_succ _)) HP.out⟩
  · rw [if_neg hE]
    have hk2 : ((F.T.find p).2 == 0) = false := by simpa using hE
    have hk3 : ((F.T.find p).2 != 0) = true := by simpa using hE
    clear hE h hN hbW
    generalize (F.T.find p).2 = er at *
    generalize (F.T.find p).1 = x at *
    go_enter Tryz.func26, Tryz.ntmps26
    go_wp2_with (go_at_call 25; (with_reducible refine CF.out.mono ?_); rintro e w1 ⟨rfl, hb⟩; have HB2 : Hid (Below w.heap.size w (w1.alloc (.cells #[.int .i64 x] 3))) := Lib.hid ((HBW.out.trans (hb.mono HBW.out.size)).alloc (Nat.le_trans HBW.out.size hb.size) _); clear hb)
    go_ret
    exact ⟨rfl, (FsP.of_below H.out HB2.out).up (Nat.le_succ _)⟩
set_option maxHeartbeats 1000000 in
theorem fs_rename (p q : List UInt8) (hp : p.length ≤ 1048576) (hq : q.length ≤ 1048576) :
    Calls Tryz.prog 28 #[.pointer (some ⟨fb, 0, none⟩), .string (bs p), .string (bs q)] w fun e w' => e = .returned (.int .i64 (F.T.renP p q).2) ∧ FsP w fb t hb ⟨(F.T.renP p q).1, F.H⟩ S (N + 1) w' := by
  obtain ⟨W1, hW1⟩ : ∃ W1, w.alloc (.cells #[.pointer (some ⟨fb, 0, none⟩)] 23) = W1 := ⟨_, rfl⟩
  have hbW : Below w.heap.size w W1 := by rw [← hW1]; exact (Below.refl _ w).alloc (Nat.le_refl _) _
  have k3 : W1.cell? ⟨w.heap.size, 0, none⟩ = some (.pointer (some ⟨fb, 0, none⟩)) := by rw [← hW1]; exact World.cell?_alloc_new w _ _ _
  have CF := Lib.hid (fs_place (h.below hbW) hN p hp)
  have H := Lib.hid h
  have HBW := Lib.hid hbW
  unfold Tb.renP
  by_cases hE : (F.T.find (dirL p)).2 = 0
  · rw [if_pos hE]
    rw [hE] at CF
    have CC : Hid (∀ w1 b7 b8, Below w.heap.size w w1 → w1.cell? ⟨w.heap.size, 0, none⟩ = some (.pointer (some ⟨fb, 0, none⟩)) → w1.cell? ⟨b7, 0, none⟩ = some (.int .i64 (F.T.find (dirL p)).1) → w1.cell? ⟨b8, 0, none⟩ = some (.string (bs (nameL p))) →
        Calls Tryz.prog 20 #[.pointer (some ⟨fb, 0, none⟩), .string (bs q), .func (.func 52) #[] #[.pointer (some ⟨w.heap.size, 0, none⟩), .pointer (some ⟨b7, 0, none⟩), .pointer (some ⟨b8, 0, none⟩)]] w1 fun e w' => e = .returned (.int .i64 (F.T.change q (aRen (F.T.find (dirL p)).1 (nameL p))).2) ∧ FsP w1 fb t hb ⟨(F.T.change q (aRen (F.T.find (dirL p)).1 (nameL p))).1, F.H⟩ S (N + 1) w') :=
      Lib.hid fun w1 b7 b8 hb1 k3 k7 k8 => fs_change (h.below hb1) hN 52 #[] #[.pointer (some ⟨w.heap.size, 0, none⟩), .pointer (some ⟨b7, 0, none⟩), .pointer (some ⟨b8, 0, none⟩)] (enters_of Tryz.func52 (by kernel_rfl) rfl) (aRen (F.T.find (dirL p)).1 (nameL p)) q hq
        (fun w2 hb2 x hx => ren1_any (h.below hb1) hN hb2 ((hb2.cell (p := ⟨w.heap.size, 0, none⟩) (World.block_lt_of_cell? w1 _ k3)).trans k3) ((hb2.cell (p := ⟨b7, 0, none⟩) (World.block_lt_of_cell? w1 _ k7)).trans k7) ((hb2.cell (p := ⟨b8, 0, none⟩) (World.block_lt_of_cell? w1 _ k8)).trans k8) (h.find_in hN hE) hx _)
    clear hE h hN hbW
    generalize F.T.change q (aRen (F.T.find (dirL p)).1 (nameL p)) = r at *
    generalize (F.T.find (dirL p)).1 = x at *
    generalize nameL p = n at *
    go_enter Tryz.func28, Tryz.ntmps28
    go_wp2_with (first
      | (go_at_call 41; (with_reducible refine CF.out.mono ?_); rintro e w1 ⟨rfl, hb⟩; obtain ⟨W2, hW2, hb2, j3, j7, j8⟩ := box_two (u := .int .i64 x) (ty := 3) (u2 := .string (bs n)) (ty2 := 9) HBW.out hb k3; have HB2 := Lib.hid hb2; clear hb hb2 k3)
      | (go_at_call 20; (with_reducible refine (CC.out _ _ _ HB2.out j3 j7 j8).mono ?_); rintro e w2 ⟨rfl, hp⟩; have HP := Lib.hid hp; clear hp))
    go_ret
    exact ⟨rfl, FsP.under HB2.out (H.out.up (Nat.le_succ _)) HP.out⟩
  · rw [if_neg hE]
    have hk2 : ((F.T.find (dirL p)).2 == 0) = false := by simpa using hE
    have hk3 : ((F.T.find (dirL p)).2 != 0) = true := by simpa using hE
    clear hE h hN hbW
    generalize (F.T.find (dirL p)).2 = er at *
    generalize (F.T.find (dirL p)).1 = x at *
    generalize nameL p = n at *
    go_enter Tryz.func28, Tryz.ntmps28
    go_wp2_with (go_at_call 41; (with_reducible refine CF.out.mono ?_); rintro e w1 ⟨rfl, hb⟩; obtain ⟨W2, hW2, hb2, j3, j7, j8⟩ := box_two (u := .int .i64 x) (ty := 3) (u2 := .string (bs n)) (ty2 := 9) HBW.out hb k3; have HB2 := Lib.hid hb2; clear hb hb2 k3)
    go_ret
    exact ⟨rfl, (FsP.of_below H.out HB2.out).up (Nat.le_succ _)⟩
end
end Go.Proofs.YtagdhghjcibfbaaGreatDoor

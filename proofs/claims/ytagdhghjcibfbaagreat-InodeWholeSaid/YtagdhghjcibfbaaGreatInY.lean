/- Layer 8: a table of the call's own; awake. -/
import Derived.Test.YtagdhghjcibfbaaGreatInX
import Derived.Test.YtagdhghjcibfbaaGreatInFr
namespace Go.Proofs.YtagdhghjcibfbaaGreat
open Go.RowKit
set_option linter.unusedVariables false
set_option linter.unusedSectionVars false
set_option maxRecDepth 100000

/-- A table that lies in blocks of the call's own; nothing that was there has turned. -/
structure At (w0 : World) (t : Nat) (T : Tb) (N : Nat) (w : World) : Prop where
  tab : ∃ S, Tab w t T S ∧ ∀ k, S k → w0.heap.size ≤ k
  bel : Below w0.heap.size w0 w
  wf : Wf T
  bd : Bd T N
theorem At.step {w0 w w' : World} {t : Nat} {T T' : Tb} {N N' : Nat} (h : At w0 t T N w) (hp : ∀ S, Tab w t T S → DoP w t T' S w') (hwf : Wf T') (hbd : Bd T' N') : At w0 t T' N' w' := by
  obtain ⟨S, h1, h2⟩ := h.tab
  obtain ⟨h3, h4⟩ := hp S h1
  have hb := h4.below h.bel h.bel.size (fun x hx hS => by have := h2 x hS; omega)
  refine ⟨⟨_, h3, fun k hk => ?_⟩, hb, hwf, hbd⟩
  rcases hk with hk | hk
  · exact h2 k hk
  · have := h.bel.size; unfold New at hk; omega
theorem at_new (q : Int) (h1 : 64 ≤ q) (h2 : q ≤ 1099511627776) (w : World) :
    Calls Tryz.prog 7 #[.int .i64 q] w fun e w' => e = .returned (.tuple #[.pointer (some ⟨w.heap.size + 1, 0, none⟩), .int .i64 0]) ∧ At w (w.heap.size + 1) (Tb.fresh q) 0 w' :=
  (new_ok q h1 h2 w).mono fun e w' ⟨a, b, c⟩ => ⟨a, ⟨_, b, fun k hk => hk.1⟩, c, wf_fresh q, bd_fresh q h1 h2⟩

section
variable {w0 w : World} {t : Nat} {T : Tb} {N : Nat} (h : At w0 t T N w) (hN : N < 1000000000)
include h hN
theorem at_do (a : AcT) (ao : ActOk a) :
    Calls Tryz.prog 10 #[.pointer (some ⟨t, 0, none⟩), actV a] w fun e w' => e = .returned (.tuple #[.int .i64 (T.step a).2.1, .string (bs (T.step a).2.2.1), .int .i64 (T.step a).2.2.2]) ∧ At w0 t (T.step a).1 (N + 1) w' := by
  obtain ⟨S, h1, h2⟩ := h.tab
  have hs := step_wf h.wf h.bd hN a
  refine (do_any h1 h.wf h.bd hN a ao).mono fun e w' ⟨he, hp⟩ => ⟨he, ?_⟩
  obtain ⟨h3, h4⟩ := hp
  have hb := h4.below h.bel h.bel.size (fun x hx hS => by have := h2 x hS; omega)
  refine ⟨⟨_, h3, fun k hk => ?_⟩, hb, hs.1, hs.2⟩
  rcases hk with hk | hk
  · exact h2 k hk
  · have := h.bel.size; unfold New at hk; omega
theorem at_left {T' : Tb} {A : Int → Nat × Nat} {mb : Nat} {w1 : World} {S : Nat → Prop} (h2 : ∀ k, S k → w0.heap.size ≤ k) (hS : ∀ k, Own t mb A T.nodes k → S k) (hl : Left w t T T' A mb w1) (hO : ∀ k, Own t mb A T'.nodes k → Own t mb A T.nodes k) (hwf : Wf T') (hbd : Bd T' (N + 1)) : At w0 t T' (N + 1) w1 := by
  have hb := hl.ch.below h.bel h.bel.size (fun x hx hk => by have := h2 x (hS x hk); omega)
  exact ⟨⟨S, ⟨A, mb, hl.tab, fun k hk => hS k (hO k hk)⟩, h2⟩, hb, hwf, hbd⟩
theorem at_same {w1 : World} (hb : Below w.heap.size w w1) : At w0 t T (N + 1) w1 := by
  obtain ⟨S, ⟨A, mb, h1, hS⟩, h2⟩ := h.tab
  exact ⟨⟨S, ⟨A, mb, h1.below hb, hS⟩, h2⟩, h.bel.trans (hb.mono h.bel.size), h.wf, h.bd.up⟩
theorem at_used : Calls Tryz.prog 12 #[.pointer (some ⟨t, 0, none⟩)] w fun e w' => e = .returned (.int .i64 T.used) ∧ At w0 t T N w' := by
  obtain ⟨S, ⟨A, mb, h1, hS⟩, h2⟩ := h.tab
  exact (used_any h1).mono fun e w' ⟨he, hw⟩ => ⟨he, by rw [hw]; exact h⟩
theorem at_make {dir : Int} (hdir : InI dir) (name : List UInt8) (flag : Bool) :
    Calls Tryz.prog 17 #[.pointer (some ⟨t, 0, none⟩), .int .i64 dir, .string (bs name), .bool flag] w fun e w' =>
      e = .returned (.tuple #[.int .i64 (T.step ⟨1, 0, dir, 0, 0, name, [], flag⟩).2.1, .int .i64 (T.step ⟨1, 0, dir, 0, 0, name, [], flag⟩).2.2.2]) ∧ At w0 t (T.step ⟨1, 0, dir, 0, 0, name, [], flag⟩).1 (N + 1) w' := by
  obtain ⟨S, ⟨A, mb, h1, hS⟩, h2⟩ := h.tab
  have hs := step_wf h.wf h.bd hN ⟨1, 0, dir, 0, 0, name, [], flag⟩
  refine (make_any h1 (h.bd.ok h.wf hN) h.wf.fresh hdir name flag).mono fun e w' ⟨he, A', hl⟩ => ⟨he, ?_⟩
  have hb := hl.ch.below h.bel h.bel.size (fun x hx hk => by have := h2 x (hS x hk); omega)
  refine ⟨⟨fun k => S k ∨ New w w' k, ⟨A', mb, hl.tab, fun k hk => ?_⟩, fun k hk => ?_⟩, hb, hs.1, hs.2⟩
  · rcases hl.own k hk with hk | hk
    · exact .inl (hS k hk)
    · exact .inr hk
  · rcases hk with hk | hk
    · exact h2 k hk
    · have := h.bel.size; unfold New at hk; omega
theorem at_write {id : Int} (hid : InI id) (a : Int) (ha : InI a) (s : List UInt8) (hs : s.length ≤ 140737488355328) :
    Calls Tryz.prog 18 #[.pointer (some ⟨t, 0, none⟩), .int .i64 id, .int .i64 a, .string (bs s)] w fun e w' =>
      e = .returned (.int .i64 (T.step ⟨8, id, 0, a, 0, [], s, false⟩).2.2.2) ∧ At w0 t (T.step ⟨8, id, 0, a, 0, [], s, false⟩).1 (N + 1) w' := by
  obtain ⟨S, ⟨A, mb, h1, hS⟩, h2⟩ := h.tab
  have hw := step_wf h.wf h.bd hN ⟨8, id, 0, a, 0, [], s, false⟩
  exact (write_any h1 (h.bd.ok h.wf hN) hid a ha s hs).mono fun e w' ⟨he, hl⟩ => ⟨he, at_left h hN h2 hS hl (fun k hk => by change Own t mb A (if T.writeE id a s = 0 then T.write id a s else T).nodes k at hk; split at hk; exact own_write k hk; exact hk) hw.1 hw.2⟩
theorem at_link {id dir : Int} (hid : InI id) (hdir : InI dir) (name : List UInt8) :
    Calls Tryz.prog 19 #[.pointer (some ⟨t, 0, none⟩), .int .i64 id, .int .i64 dir, .string (bs name)] w fun e w' =>
      e = .returned (.int .i64 (T.step ⟨3, id, dir, 0, 0, name, [], false⟩).2.2.2) ∧ At w0 t (T.step ⟨3, id, dir, 0, 0, name, [], false⟩).1 (N + 1) w' := by
  obtain ⟨S, ⟨A, mb, h1, hS⟩, h2⟩ := h.tab
  have hw := step_wf h.wf h.bd hN ⟨3, id, dir, 0, 0, name, [], false⟩
  exact (link_any h1 (h.bd.ok h.wf hN) hid hdir name).mono fun e w' ⟨he, hl⟩ => ⟨he, at_left h hN h2 hS hl (fun k hk => by change Own t mb A (if T.linkE id dir name = 0 then T.link id dir name else T).nodes k at hk; split at hk; exact own_upd (f := Nd.putName name id) (fun _ => rfl) k (own_upd (f := Nd.addLinks 1) (fun _ => rfl) k hk); exact hk) hw.1 hw.2⟩
theorem at_unlink {dir : Int} (hdir : InI dir) (name : List UInt8) :
    Calls Tryz.prog 20 #[.pointer (some ⟨t, 0, none⟩), .int .i64 dir, .string (bs name)] w fun e w' =>
      e = .returned (.int .i64 (T.step ⟨4, 0, dir, 0, 0, name, [], false⟩).2.2.2) ∧ At w0 t (T.step ⟨4, 0, dir, 0, 0, name, [], false⟩).1 (N + 1) w' := by
  obtain ⟨S, ⟨A, mb, h1, hS⟩, h2⟩ := h.tab
  have hw := step_wf h.wf h.bd hN ⟨4, 0, dir, 0, 0, name, [], false⟩
  exact (unlink_any h1 (h.bd.ok h.wf hN) hdir name).mono fun e w' ⟨he, hl⟩ => ⟨he, at_left h hN h2 hS hl (fun k hk => by change Own t mb A (if T.ofE dir name false = 0 then T.unlink dir name else T).nodes k at hk; split at hk; exact own_upd (f := Nd.delName name) (fun _ => rfl) k (own_lose k hk); exact hk) hw.1 hw.2⟩
theorem at_hold {id : Int} (hid : InI id) :
    Calls Tryz.prog 29 #[.pointer (some ⟨t, 0, none⟩), .int .i64 id] w fun e w' =>
      e = .returned (.int .i64 (T.step ⟨10, id, 0, 0, 0, [], [], false⟩).2.2.2) ∧ At w0 t (T.step ⟨10, id, 0, 0, 0, [], [], false⟩).1 (N + 1) w' := by
  obtain ⟨S, ⟨A, mb, h1, hS⟩, h2⟩ := h.tab
  have hw := step_wf h.wf h.bd hN ⟨10, id, 0, 0, 0, [], [], false⟩
  exact (hold_any h1 (h.bd.ok h.wf hN) hid).mono fun e w' ⟨he, hl⟩ => ⟨he, at_left h hN h2 hS hl (fun k hk => by change Own t mb A (if T.holdE id = 0 then T.upd id (Nd.addHolds 1) else T).nodes k at hk; split at hk; exact own_upd (f := Nd.addHolds 1) (fun _ => rfl) k hk; exact hk) hw.1 hw.2⟩
theorem at_read {id : Int} (hid : InI id) (a n : Int) (ha : InI a) (hn : InI n) :
    Calls Tryz.prog 21 #[.pointer (some ⟨t, 0, none⟩), .int .i64 id, .int .i64 a, .int .i64 n] w fun e w' =>
      e = .returned (.tuple #[.string (bs (T.step ⟨7, id, 0, a, n, [], [], false⟩).2.2.1), .int .i64 (T.step ⟨7, id, 0, a, n, [], [], false⟩).2.2.2]) ∧ At w0 t T (N + 1) w' := by
  obtain ⟨S, ⟨A, mb, h1, hS⟩, h2⟩ := h.tab
  have e1 : T.step ⟨7, id, 0, a, n, [], [], false⟩ = (T, 0, if T.fileE id (min a n) = 0 then readL (T.nd id).data a n else [], T.fileE id (min a n)) := rfl
  rw [e1]
  by_cases hE : T.fileE id (min a n) = 0
  · rw [if_pos hE, hE]
    exact (read_ok h1 (h.bd.ok h.wf hN) hid a n ha hn hE).mono fun e w' ⟨he, hb⟩ => ⟨he, at_same h hN hb⟩
  · rw [if_neg hE]
    exact (read_no h1 (h.bd.ok h.wf hN) hid a n ha hn hE).mono fun e w' ⟨he, hb⟩ => ⟨he, at_same h hN (by rw [hb]; exact Below.refl _ _)⟩
theorem at_list {dir : Int} (hdir : InI dir) (hE : T.kindE dir true = 0) :
    Calls Tryz.prog 22 #[.pointer (some ⟨t, 0, none⟩), .int .i64 dir] w fun e w' => ∃ v, e = .returned (.tuple #[v, .int .i64 0]) ∧ Sl w' v ((T.nd dir).names.map (·.1)) ∧ At w0 t T (N + 1) w' ∧ Below w.heap.size w w' := by
  obtain ⟨S, ⟨A, mb, h1, hS⟩, h2⟩ := h.tab
  obtain ⟨n, hn, hd⟩ := kind_some hE
  exact (list_ok h1 hdir hE (by rw [nd_of hn]; exact h.wf.nris _ _ hn) (by rw [nd_of hn]; have := (h.bd.nod _ _ hn).1; omega)).mono fun e w' ⟨v, he, hs, hb⟩ => ⟨v, he, hs, at_same h hN hb, hb⟩
end

/-! ### awake -/
def aw0 : Tb := Tb.fresh 1000
def aw1 : Tb := (aw0.step ⟨1, 0, 1, 0, 0, [97], [], false⟩).1
def aw2 : Tb := (aw1.step ⟨8, 2, 0, 2, 0, [], [120, 121], false⟩).1
def aw3 : Tb := (aw2.step ⟨3, 2, 1, 0, 0, [98], [], false⟩).1
def aw4 : Tb := (aw3.step ⟨4, 0, 1, 0, 0, [97], [], false⟩).1
def aw5 : Tb := (aw4.step ⟨4, 0, 1, 0, 0, [98], [], false⟩).1
theorem awF1 : (aw0.step ⟨1, 0, 1, 0, 0, [97], [], false⟩).2 = (2, [], 0) := by decide
theorem awF2 : (aw1.step ⟨8, 2, 0, 2, 0, [], [120, 121], false⟩).2 = (0, [], 0) := by decide
theorem awF3 : (aw2.step ⟨3, 2, 1, 0, 0, [98], [], false⟩).2 = (0, [], 0) := by decide
theorem awF4 : (aw3.step ⟨4, 0, 1, 0, 0, [97], [], false⟩).2 = (0, [], 0) := by decide
theorem awF5 : (aw4.step ⟨7, 2, 0, 1, 9, [], [], false⟩).2 = (0, [0, 120, 121], 0) := by decide
theorem awF6 : aw4.kindE 1 true = 0 := by decide
theorem awF7 : (aw4.nd 1).names.map (·.1) = [[98]] := by decide
theorem awF8 : aw4.used = 132 := by decide
theorem awF9 : (aw4.step ⟨4, 0, 1, 0, 0, [98], [], false⟩).2 = (0, [], 0) := by decide
theorem awF10 : aw5.used = 64 := by decide
theorem awake8_any (w : World) : Calls Tryz.prog 6 #[] w fun e w' => e = .returned (.bool true) ∧ Below w.heap.size w w' := by
  have hi : ∀ x : Int, 0 ≤ x → x ≤ 10 → InI x := fun x h1 h2 => by unfold InI; omega
  have CN := Lib.hid (at_new 1000 (by decide) (by decide) w)
  obtain ⟨t, ht⟩ : ∃ t, t = w.heap.size + 1 := ⟨_, rfl⟩
  rw [← ht] at CN
  change Hid (Calls Tryz.prog 7 #[.int .i64 1000] w fun e w' => e = .returned (.tuple #[.pointer (some ⟨t, 0, none⟩), .int .i64 0]) ∧ At w t aw0 0 w') at CN
  have C1 : Hid (∀ w1, At w t aw0 0 w1 → Calls Tryz.prog 17 #[.pointer (some ⟨t, 0, none⟩), .int .i64 1, .string ⟨#[97]⟩, .bool false] w1 fun e w' => e = .returned (.tuple #[.int .i64 2, .int .i64 0]) ∧ At w t aw1 1 w') := Lib.hid fun w1 h => by
    have := at_make h (by decide) (hi 1 (by decide) (by decide)) [97] false
    rw [awF1] at this; exact this
  have C2 : Hid (∀ w1, At w t aw1 1 w1 → Calls Tryz.prog 18 #[.pointer (some ⟨t, 0, none⟩), .int .i64 2, .int .i64 2, .string ⟨#[120, 121]⟩] w1 fun e w' => e = .returned (.int .i64 0) ∧ At w t aw2 2 w') := Lib.hid fun w1 h => by
    have := at_write h (by decide) (hi 2 (by decide) (by decide)) 2 (hi 2 (by decide) (by decide)) [120, 121] (by decide)
    rw [awF2] at this; exact this
  have C3 : Hid (∀ w1, At w t aw2 2 w1 → Calls Tryz.prog 19 #[.pointer (some ⟨t, 0, none⟩), .int .i64 2, .int .i64 1, .string ⟨#[98]⟩] w1 fun e w' => e = .returned (.int .i64 0) ∧ At w t aw3 3 w') := Lib.hid fun w1 h => by
    have := at_link h (by decide) (hi 2 (by decide) (by decide)) (hi 1 (by decide) (by decide)) [98]
    rw [awF3] at this; exact this
  have C4 : Hid (∀ w1, At w t aw3 3 w1 → Calls Tryz.prog 20 #[.pointer (some ⟨t, 0, none⟩), .int .i64 1, .string ⟨#[97]⟩] w1 fun e w' => e = .returned (.int .i64 0) ∧ At w t aw4 4 w') := Lib.hid fun w1 h => by
    have := at_unlink h (by decide) (hi 1 (by decide) (by decide)) [97]
    rw [awF4] at this; exact this
  have C5 : Hid (∀ w1, At w t aw4 4 w1 → Calls Tryz.prog 21 #[.pointer (some ⟨t, 0, none⟩), .int .i64 2, .int .i64 1, .int .i64 9] w1 fun e w' => e = .returned (.tuple #[.string ⟨#[0, 120, 121]⟩, .int .i64 0]) ∧ At w t aw4 5 w') := Lib.hid fun w1 h => by
    have := at_read h (by decide) (hi 2 (by decide) (by decide)) 1 9 (hi 1 (by decide) (by decide)) (hi 9 (by decide) (by decide))
    rw [awF5] at this; exact this
  have C6 : Hid (∀ w1, At w t aw4 5 w1 → Calls Tryz.prog 22 #[.pointer (some ⟨t, 0, none⟩), .int .i64 1] w1 fun e w' => ∃ v, e = .returned (.tuple #[v, .int .i64 0]) ∧ Sl w' v [[98]] ∧ At w t aw4 6 w' ∧ Below w1.heap.size w1 w') := Lib.hid fun w1 h => by
    have := at_list h (by decide) (hi 1 (by decide) (by decide)) awF6
    rw [awF7] at this; exact this
  have C7 : Hid (∀ w1, At w t aw4 6 w1 → Calls Tryz.prog 12 #[.pointer (some ⟨t, 0, none⟩)] w1 fun e w' => e = .returned (.int .i64 132) ∧ w' = w1) := Lib.hid fun w1 h => by
    obtain ⟨S, ⟨A, mb, h1, hS⟩, h2⟩ := h.tab
    have := used_any h1
    rw [awF8] at this; exact this
  have C8 : Hid (∀ w1, At w t aw4 6 w1 → Calls Tryz.prog 20 #[.pointer (some ⟨t, 0, none⟩), .int .i64 1, .string ⟨#[98]⟩] w1 fun e w' => e = .returned (.int .i64 0) ∧ At w t aw5 7 w') := Lib.hid fun w1 h => by
    have := at_unlink h (by decide) (hi 1 (by decide) (by decide)) [98]
    rw [awF9] at this; exact this
  have C9 : Hid (∀ w1, At w t aw5 7 w1 → Calls Tryz.prog 12 #[.pointer (some ⟨t, 0, none⟩)] w1 fun e w' => e = .returned (.int .i64 64) ∧ w' = w1) := Lib.hid fun w1 h => by
    obtain ⟨S, ⟨A, mb, h1, hS⟩, h2⟩ := h.tab
    have := used_any h1
    rw [awF10] at this; exact this
  have f1 : ((⟨#[0, 120, 121]⟩ : ByteArray).toList == [0, 120, 121]) = true := by rw [Lib.toList_data]; decide
  have f2 : ((bs [98]).toList == [98]) = true := by rw [bs_toList]; decide
  clear hi ht
  go_enter Tryz.func6, Tryz.ntmps6
  go_wp2_with (first
    | (go_at_call 7; (with_reducible refine CN.out.mono ?_); rintro e w1 ⟨rfl, h⟩; have H0 := Lib.hid h; clear h)
    | (go_at_call 17; (with_reducible refine (C1.out _ H0.out).mono ?_); rintro e w2 ⟨rfl, h⟩; have H1 := Lib.hid h; clear h)
    | (go_at_call 18; (with_reducible refine (C2.out _ H1.out).mono ?_); rintro e w3 ⟨rfl, h⟩; have H2 := Lib.hid h; clear h)
    | (go_at_call 19; (with_reducible refine (C3.out _ H2.out).mono ?_); rintro e w4 ⟨rfl, h⟩; have H3 := Lib.hid h; clear h)
    | (go_at_call 20; (with_reducible refine (C4.out _ H3.out).mono ?_); rintro e w5 ⟨rfl, h⟩; have H4 := Lib.hid h; clear h)
    | (go_at_call 21; (with_reducible refine (C5.out _ H4.out).mono ?_); rintro e w6 ⟨rfl, h⟩; have H5 := Lib.hid h; clear h)
    | (go_at_call 22; (with_reducible refine (C6.out _ H5.out).mono ?_); rintro e w7 ⟨v, rfl, hs, h, hb⟩; obtain ⟨sa, sc, rfl, hsc1, hsc2, hsat⟩ := hs; obtain ⟨b, o, rfl, hlt, hc⟩ := hsat.resolve_left (by simp); have hc0 : w7.cell? ⟨b, o, none⟩ = some (.string (bs [98])) := hc 0 (by simp); clear hsat hc hlt hsc1 hsc2 hb; have H6 := Lib.hid h; clear h; refine Hid.out ?_))
  refine Lib.hid ?_
  go_wp2_with (first
    | (go_at_call 12; (with_reducible refine (C7.out _ H6.out).mono ?_); rintro e w8 ⟨rfl, rfl⟩)
    | (go_at_call 20; (with_reducible refine (C8.out _ H6.out).mono ?_); rintro e w9 ⟨rfl, h⟩; have H7 := Lib.hid h; clear h)
    | (go_at_call 12; (with_reducible refine (C9.out _ H7.out).mono ?_); rintro e w8 ⟨rfl, rfl⟩))
  go_ret
  exact ⟨rfl, H7.out.bel⟩
end Go.Proofs.YtagdhghjcibfbaaGreat

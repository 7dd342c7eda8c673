/- The contract of takeName. -/
import Derived.Test.YtnjikipncgbjjaaGreatDoorJsE
namespace Go.Proofs.YtnjikipncgbjjaaGreatDoor
open Go.RowKit
set_option linter.unusedVariables false
set_option maxRecDepth 100000
variable {X : Nat → Prop}

/-- What takeName answers, and leaves. -/
def NamePost (w0 w : World) (P : Nat) (l : List UInt8) (F : Fr) (K : List Fr) (sv : Value) (R : List Value) (e : Ending) (w' : World) : Prop :=
  Ch (· ∈ blks P sv R) w w' ∧ ((e = .returned (.bool false) ∧ nameG F l = none) ∨ (e = .returned (.bool true) ∧ ∃ F' r, nameG F l = some (F', r) ∧ PS X w0 w' P r (F' :: K) sv R))

theorem PS.drewN {w0 w : World} {P : Nat} {l : List UInt8} {K : List Fr} {sv : Value} {R : List Value} (h : PS X w0 w P l K sv R) (n : Nat) : PS X w0 (w.drewN n) P l K sv R := h.text (gb_drewN w n _) h.blk
theorem PS.inP {w0 w : World} {P : Nat} {l : List UInt8} {K : List Fr} {sv : Value} {R : List Value} (h : PS X w0 w P l K sv R) {w' : World} (g : w.grownBy w' (some P)) : Ch (· ∈ blks P sv R) w w' :=
  (Ch.of_gb g).mono (fun x _ e => by cases e; simp [blks])
theorem PS.tab {w0 w : World} {P : Nat} {l : List UInt8} {K : List Fr} {sv : Value} {R : List Value} (h : PS X w0 w P l K sv R) (hT : Tab5 w0) : Tab5 w := hT.below h.below
def Fr.named (F : Fr) (n : ByteArray) : Fr := { F with name := n }
theorem fr_named (F : Fr) (rv : Value) (n : ByteArray) : (frCells F rv).set 5 (.string n) = frCells (F.named n) rv := rfl
theorem named_ok (F : Fr) (n : ByteArray) (h : F.obj = true) : FrOk (F.named n) := fun e => by
  have : F.obj = false := e
  rw [h] at this; cases this

theorem ch_set {M : Nat → Prop} {w w1 : World} (h : Ch M w w1) {g j : Nat} {u : Value} (hg : M g) : Ch M w (w1.setCell ⟨g, j, none⟩ u) :=
  h.trans (Ch.of_gb (gb_set w1 ⟨g, j, none⟩ u)) (fun x _ e => by cases e; exact hg)
theorem mem_sv {P g n cap : Nat} {R : List Value} : g ∈ blks P (.slice (some ⟨g, 0, none⟩) n cap) R := by unfold blks; exact List.mem_cons_of_mem _ (List.mem_append_left _ (mem_ownB.2 rfl))

set_option maxHeartbeats 2000000 in
theorem name_any (l : List UInt8) (hl : l.length ≤ 500000) (P : Nat) (F : Fr) (K : List Fr) (sv : Value) (R : List Value) (w0 w : World) (hT : Tab5 w0) (h : PS X w0 w P l (F :: K) sv R) :
    Calls Tryz.prog 72 #[.pointer (some ⟨P, 0, none⟩)] w (NamePost (X := X) w0 w P l F K sv R) := by
  by_cases hF : F.obj = false
  · refine (name_list l P F hF K sv R w0 w h).mono ?_
    rintro e w' ⟨rfl, n, rfl⟩
    exact ⟨h.inP (gb_drewN w n _), .inr ⟨rfl, F, l, by unfold nameG; rw [hF]; rfl, h.drewN n⟩⟩
  · have hF : F.obj = true := by simpa using hF
    obtain ⟨g, cap, rv, R', rfl, rfl, hcap, hcm, hgP, hg0, hc, hf⟩ := h.top
    have c1 := h.blk.c1
    have k0 := hc 0 _ rfl
    have hk0 : frKind F = 7 := by unfold frKind; rw [hF]; rfl
    rw [hk0, Nat.add_zero] at k0
    have H := Lib.hid h
    have HT : Hid (∀ n, TabsW (w.drewN n)) := fun n => ((h.drewN n).tab hT).tabs
    cases hu : unqG l with
    | none =>
      have HN : Hid (nameG F l = none) := by show nameG F l = none; unfold nameG; rw [if_pos hF, hu]
      have CQ := Lib.hid (fun n => takeQ_no l hu hl P _ (w.drewN n) (HT.out n) ((H.out.drewN n).blk))
      have HST : Hid (∀ w1, PS X w0 w1 P (sk l) (F :: K) (.slice (some ⟨g, 0, none⟩) (K.length + 1) cap) (rv :: R') → PS X w0 (w1.setCell ⟨g, K.length * 6 + 5, none⟩ (.string ⟨#[]⟩)) P (sk l) (F.named ⟨#[]⟩ :: K) (.slice (some ⟨g, 0, none⟩) (K.length + 1) cap) (rv :: R')) :=
        fun w1 h1 => h1.store 5 _ (by omega) (fr_named F rv _) rfl rfl (named_ok F _ hF)
      have HC : Hid (∀ w1, PS X w0 w1 P (sk l) (F :: K) (.slice (some ⟨g, 0, none⟩) (K.length + 1) cap) (rv :: R') → w1.cell? ⟨g, K.length * 6 + 5, none⟩ = some (.string F.name) ∧ w1.frozen? ⟨g, K.length * 6 + 5, none⟩ = false) := fun w1 h1 => by
        obtain ⟨g', cap', rv2, R2, e1, e2, _, _, _, _, hc', hf'⟩ := h1.top
        cases e1; cases e2
        exact ⟨hc' 5 _ rfl, hf' _⟩
      generalize hk : K.length = k at *
      have HK := Lib.hid hk
      clear hk hc hf h hk0 hT hu HT
      go_enter Tryz.func72, Tryz.ntmps72
      go_wp2_with fail
      go_quiet (fail)
      go_wp2_with (go_at_call 96; (with_reducible refine (CQ.out _).mono ?_); rintro e w1 ⟨rfl, h1, hg1⟩; have H1 := Lib.hid ((H.out.drewN nq).text hg1 h1); have HG := Lib.hid (gb_trans (gb_drewN w nq _) hg1); have n5 := (HC.out _ H1.out).1; have f5 := (HC.out _ H1.out).2; clear h1 hg1)
      go_ret
      exact ⟨ch_set (H.out.inP HG.out) mem_sv, .inl ⟨rfl, HN.out⟩⟩
    | some x =>
      obtain ⟨t, m⟩ := x
      have CQ := Lib.hid (fun n => takeQ_yes l t m hu hl P _ (w.drewN n) (HT.out n) ((H.out.drewN n).blk))
      have hml : (sk (l.drop m)).length ≤ 500000 := Nat.le_trans (sk_len _) (by rw [List.length_drop]; omega)
      have HN : Hid (nameG F l = (takeG 58 (sk (l.drop m))).map fun r => (F.named (bs t), r)) := by show nameG F l = _; unfold nameG; rw [if_pos hF, hu]; rfl
      generalize sk (l.drop m) = l1 at CQ hml HN
      have HST : Hid (∀ w1, PS X w0 w1 P l1 (F :: K) (.slice (some ⟨g, 0, none⟩) (K.length + 1) cap) (rv :: R') → PS X w0 (w1.setCell ⟨g, K.length * 6 + 5, none⟩ (.string (bs t))) P l1 (F.named (bs t) :: K) (.slice (some ⟨g, 0, none⟩) (K.length + 1) cap) (rv :: R')) :=
        fun w1 h1 => h1.store 5 _ (by omega) (fr_named F rv _) rfl rfl (named_ok F _ hF)
      have HC : Hid (∀ w1, PS X w0 w1 P l1 (F :: K) (.slice (some ⟨g, 0, none⟩) (K.length + 1) cap) (rv :: R') → w1.cell? ⟨g, K.length * 6 + 5, none⟩ = some (.string F.name) ∧ w1.frozen? ⟨g, K.length * 6 + 5, none⟩ = false) := fun w1 h1 => by
        obtain ⟨g', cap', rv2, R2, e1, e2, _, _, _, _, hc', hf'⟩ := h1.top
        cases e1; cases e2
        exact ⟨hc' 5 _ rfl, hf' _⟩
      generalize hk : K.length = k at *
      have HK := Lib.hid hk
      clear hk hc hf h hk0 hT hu HT
      cases ht : takeG 58 l1 with
      | none =>
        have CT : Hid (∀ wx, PB wx P (bs l1) (.slice (some ⟨g, 0, none⟩) (k + 1) cap) → Calls Tryz.prog 69 #[.pointer (some ⟨P, 0, none⟩), .int .u8 58] wx fun e w' => e = .returned (.bool false) ∧ wx = w') := fun wx hx => take_no 58 l1 ht P _ wx hx
        rw [ht] at HN
        clear ht hml
        generalize bs t = T at *
        go_enter Tryz.func72, Tryz.ntmps72
        go_wp2_with fail
        go_quiet (fail)
        go_wp2_with (first
          | (go_at_call 96; (with_reducible refine (CQ.out _).mono ?_); rintro e w1 ⟨rfl, h1, hg1⟩; have H1 := Lib.hid ((H.out.drewN nq).text hg1 h1); have HG := Lib.hid (gb_trans (gb_drewN w nq _) hg1); have n5 := (HC.out _ H1.out).1; have f5 := (HC.out _ H1.out).2; have H2 := Lib.hid (HST.out _ H1.out); clear h1 hg1)
          | (go_at_call 69; (with_reducible refine (CT.out _ H2.out.blk).mono ?_); rintro e w2 ⟨rfl, rfl⟩))
        go_ret
        exact ⟨ch_set (H.out.inP HG.out) mem_sv, .inl ⟨rfl, HN.out⟩⟩
      | some r =>
        have CT : Hid (∀ wx, PB wx P (bs l1) (.slice (some ⟨g, 0, none⟩) (k + 1) cap) → Calls Tryz.prog 69 #[.pointer (some ⟨P, 0, none⟩), .int .u8 58] wx fun e w' => e = .returned (.bool true) ∧ PB w' P (bs r) (.slice (some ⟨g, 0, none⟩) (k + 1) cap) ∧ wx.grownBy w' (some P)) := fun wx hx => take_yes 58 l1 r ht (by omega) P _ wx hx
        rw [ht] at HN
        clear ht hml
        generalize bs t = T at *
        go_enter Tryz.func72, Tryz.ntmps72
        go_wp2_with fail
        go_quiet (fail)
        go_wp2_with (first
          | (go_at_call 96; (with_reducible refine (CQ.out _).mono ?_); rintro e w1 ⟨rfl, h1, hg1⟩; have H1 := Lib.hid ((H.out.drewN nq).text hg1 h1); have HG := Lib.hid (gb_trans (gb_drewN w nq _) hg1); have n5 := (HC.out _ H1.out).1; have f5 := (HC.out _ H1.out).2; have H2 := Lib.hid (HST.out _ H1.out); clear h1 hg1)
          | (go_at_call 69; (with_reducible refine (CT.out _ H2.out.blk).mono ?_); rintro e w2 ⟨rfl, h3, hg3⟩))
        go_ret
        exact ⟨(ch_set (H.out.inP HG.out) mem_sv).trans (H2.out.inP hg3) (fun x _ hx => hx), .inr ⟨rfl, _, r, HN.out, H2.out.text hg3 h3⟩⟩
end Go.Proofs.YtnjikipncgbjjaaGreatDoor

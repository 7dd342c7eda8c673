/- Layer 8: what is refused changes nothing; Nodes of a table of the call's own; what Nodes handed back stays, whatever is done on the table. -/
import Derived.Test.YtagdhghjcibfbaaGreatInNc
import Derived.Test.YtagdhghjcibfbaaGreatInY
namespace Go.Proofs.YtagdhghjcibfbaaGreat
open Go.RowKit
set_option linter.unusedVariables false
set_option linter.unusedSectionVars false
set_option maxRecDepth 100000

theorem step_refused (T : Tb) (a : AcT) (h : (T.step a).2.2.2 ≠ 0) : (T.step a).1 = T := by
  unfold Tb.step at h ⊢
  by_cases h1 : a.kind = 1
  · rw [if_pos h1] at h ⊢; exact if_neg h
  rw [if_neg h1] at h ⊢
  by_cases h2 : a.kind = 2
  · rw [if_pos h2]
  rw [if_neg h2] at h ⊢
  by_cases h3 : a.kind = 3
  · rw [if_pos h3] at h ⊢; exact if_neg h
  rw [if_neg h3] at h ⊢
  by_cases h4 : a.kind = 4
  · rw [if_pos h4] at h ⊢; exact if_neg h
  rw [if_neg h4] at h ⊢
  by_cases h5 : a.kind = 5
  · rw [if_pos h5] at h ⊢; exact if_neg h
  rw [if_neg h5] at h ⊢
  by_cases h6 : a.kind = 6
  · rw [if_pos h6] at h ⊢; exact if_neg h
  rw [if_neg h6] at h ⊢
  by_cases h7 : a.kind = 7
  · rw [if_pos h7]
  rw [if_neg h7] at h ⊢
  by_cases h8 : a.kind = 8
  · rw [if_pos h8] at h ⊢; exact if_neg h
  rw [if_neg h8] at h ⊢
  by_cases h9 : a.kind = 9
  · rw [if_pos h9] at h ⊢; exact if_neg h
  rw [if_neg h9] at h ⊢
  by_cases h10 : a.kind = 10
  · rw [if_pos h10] at h ⊢; exact if_neg h
  rw [if_neg h10] at h ⊢
  by_cases h11 : a.kind = 11
  · rw [if_pos h11] at h ⊢; exact if_neg h
  rw [if_neg h11]
theorem step_quota (T : Tb) (a : AcT) : (T.step a).1.quota = T.quota := by
  have c : ∀ (E : Int) (X : Tb), X.quota = T.quota → (if E = 0 then X else T).quota = T.quota := fun E X h => by
    split
    · exact h
    · rfl
  have rel : ∀ (X : Tb) (id : Int), X.quota = T.quota → (X.rel id).quota = T.quota := fun X id h => by
    unfold Tb.rel
    split
    · exact h
    · exact h
  unfold Tb.step
  by_cases h1 : a.kind = 1
  · rw [if_pos h1]; exact c _ _ rfl
  rw [if_neg h1]
  by_cases h2 : a.kind = 2
  · rw [if_pos h2]
  rw [if_neg h2]
  by_cases h3 : a.kind = 3
  · rw [if_pos h3]; exact c _ _ rfl
  rw [if_neg h3]
  by_cases h4 : a.kind = 4
  · rw [if_pos h4]; exact c _ _ (rel _ _ rfl)
  rw [if_neg h4]
  by_cases h5 : a.kind = 5
  · rw [if_pos h5]; exact c _ _ rfl
  rw [if_neg h5]
  by_cases h6 : a.kind = 6
  · rw [if_pos h6]
    refine c _ _ ?_
    unfold Tb.rename
    split
    · split
      · rfl
      · exact rel _ _ rfl
    · rfl
  rw [if_neg h6]
  by_cases h7 : a.kind = 7
  · rw [if_pos h7]
  rw [if_neg h7]
  by_cases h8 : a.kind = 8
  · rw [if_pos h8]
    refine c _ _ ?_
    unfold Tb.write
    split
    · rfl
    · rfl
  rw [if_neg h8]
  by_cases h9 : a.kind = 9
  · rw [if_pos h9]; exact c _ _ rfl
  rw [if_neg h9]
  by_cases h10 : a.kind = 10
  · rw [if_pos h10]; exact c _ _ rfl
  rw [if_neg h10]
  by_cases h11 : a.kind = 11
  · rw [if_pos h11]; exact c _ _ (rel _ _ rfl)
  rw [if_neg h11]

/-! ### What Nodes handed back, in blocks of Q -/
def NsF (w : World) (v : Value) (l : List (Int × Nd)) (Q : Nat → Prop) : Prop := ∃ g c, v = .slice (some ⟨g, 0, none⟩) l.length c ∧ g < w.heap.size ∧ Q g ∧ ∀ j (h : j < l.length), ∃ eb ec, NcAt w g j l[j] eb ec ∧ Q eb
theorem NsF.ns {w : World} {v : Value} {l : List (Int × Nd)} {Q : Nat → Prop} (h : NsF w v l Q) : NsC w v l := by
  obtain ⟨g, c, h1, h2, _, h3⟩ := h
  exact ⟨g, c, h1, h2, fun j hj => by obtain ⟨eb, ec, h4, _⟩ := h3 j hj; exact ⟨eb, ec, h4⟩⟩
theorem NsAt.far {w : World} {v : Value} {l : List (Int × Nd)} {lo : Nat} (h : NsAt w v l lo) : NsF w v l (lo ≤ ·) := by
  obtain ⟨g, c, cs, rfl, hown, hnd⟩ := h
  rcases hown.2 with ⟨h0, _⟩ | ⟨g', cap, cur, he, hlo, hgb, r1, r2, r3, r4⟩
  · cases h0
  obtain rfl : g' = g := by cases he; rfl
  have row : ∀ t u, cs[t]? = some u → w.cell? ⟨g', t, none⟩ = some u := fun t u hu => by
    rw [← r4, List.getElem?_take] at hu
    split at hu
    · have : cur[t]? = some u := by simpa using hu
      simp [World.cell?, hgb, this]
    · cases hu
  refine ⟨g', c, rfl, (Array.getElem?_eq_some_iff.1 hgb).1, hlo, fun j hj => ?_⟩
  obtain ⟨ev, ⟨eb, ec, rfl, hs, hlt, hen⟩, h0, h1, h2, h3, h4, h5⟩ := NdsIn.get l j hj hnd
  exact ⟨eb, ec, ⟨row _ _ h0, row _ _ h1, row _ _ h2, row _ _ h3, row _ _ h4, row _ _ h5, hlt, hen⟩, hs.1⟩
/-- What is done in other blocks. -/
theorem NsF.ch {w w' : World} {v : Value} {l : List (Int × Nd)} {Q M : Nat → Prop} (h : NsF w v l Q) (g : Ch M w w') (hM : ∀ k, Q k → ¬ M k) : NsF w' v l Q := by
  obtain ⟨b, c, h1, h2, h3, h4⟩ := h
  refine ⟨b, c, h1, Nat.lt_of_lt_of_le h2 g.size, h3, fun j hj => ?_⟩
  obtain ⟨eb, ec, n, hq⟩ := h4 j hj
  have e1 := g.block b h2 (hM _ h3)
  have e2 := g.block eb n.lt (hM _ hq)
  exact ⟨eb, ec, ⟨(World.cell?_of_block (w := w) e1).trans n.c0, (World.cell?_of_block (w := w) e1).trans n.c1, (World.cell?_of_block (w := w) e1).trans n.c2, (World.cell?_of_block (w := w) e1).trans n.c3, (World.cell?_of_block (w := w) e1).trans n.c4, (World.cell?_of_block (w := w) e1).trans n.c5, Nat.lt_of_lt_of_le n.lt g.size, fun i hi => ⟨(World.cell?_of_block (w := w) e2).trans (n.en i hi).1, (World.cell?_of_block (w := w) e2).trans (n.en i hi).2⟩⟩, hq⟩
theorem NsF.mono {w : World} {v : Value} {l : List (Int × Nd)} {Q Q' : Nat → Prop} (h : NsF w v l Q) (hq : ∀ k, Q k → Q' k) : NsF w v l Q' := by
  obtain ⟨g, c, h1, h2, h3, h4⟩ := h
  exact ⟨g, c, h1, h2, hq _ h3, fun j hj => by obtain ⟨eb, ec, n, k⟩ := h4 j hj; exact ⟨eb, ec, n, hq _ k⟩⟩
/-- A table of the call's own, and what Nodes handed back, apart. -/
structure AtV (w0 : World) (t : Nat) (T : Tb) (N : Nat) (v : Value) (l : List (Int × Nd)) (w : World) : Prop where
  ex : ∃ S, Tab w t T S ∧ (∀ k, S k → w0.heap.size ≤ k) ∧ NsF w v l (fun k => ¬ S k)
  bel : Below w0.heap.size w0 w
  wf : Wf T
  bd : Bd T N
theorem AtV.at_ {w0 w : World} {t : Nat} {T : Tb} {N : Nat} {v : Value} {l : List (Int × Nd)} (h : AtV w0 t T N v l w) : At w0 t T N w := by
  obtain ⟨S, h1, h2, _⟩ := h.ex
  exact ⟨⟨S, h1, h2⟩, h.bel, h.wf, h.bd⟩
theorem AtV.ns {w0 w : World} {t : Nat} {T : Tb} {N : Nat} {v : Value} {l : List (Int × Nd)} (h : AtV w0 t T N v l w) : NsC w v l := by
  obtain ⟨S, _, _, h3⟩ := h.ex
  exact h3.ns
section
variable {w0 w : World} {t : Nat} {T : Tb} {N : Nat} (hN : N < 1000000000)
include hN
theorem at_nodes (h : At w0 t T N w) : Calls Tryz.prog 15 #[.pointer (some ⟨t, 0, none⟩)] w fun e w' => ∃ v, e = .returned v ∧ AtV w0 t T (N + 1) v T.nodes w' ∧ Below w.heap.size w w' := by
  obtain ⟨S, ⟨A, mb, h1, hS⟩, h2⟩ := h.tab
  have hlt : ∀ k, Own t mb A T.nodes k → k < w.heap.size := fun k hk => h1.lt hk
  have ok := h.bd.ok h.wf hN
  refine (nodes_any h1 h.wf.ris h.wf.nris h.wf.fil (fun id n hn => by have := (h.bd.nod id n hn).1; omega) (fun id n hn => by have := ok.ids id n hn; unfold InI; omega) (fun e => by
    obtain ⟨r, hr, _⟩ := h.wf.root
    rw [e] at hr; cases hr) (by have := h.bd.len; omega)).mono fun e w' ⟨v, he, hv, hb⟩ => ?_
  refine ⟨v, he, ⟨⟨fun k => Own t mb A T.nodes k, ⟨A, mb, h1.below hb, fun k hk => hk⟩, fun k hk => h2 k (hS k hk), hv.far.mono fun k hk ho => ?_⟩, h.bel.trans (hb.mono h.bel.size), h.wf, h.bd.up⟩, hb⟩
  have := hlt k ho
  omega
theorem atv_do {v : Value} {l : List (Int × Nd)} (h : AtV w0 t T N v l w) (a : AcT) (ao : ActOk a) :
    Calls Tryz.prog 10 #[.pointer (some ⟨t, 0, none⟩), actV a] w fun e w' => e = .returned (.tuple #[.int .i64 (T.step a).2.1, .string (bs (T.step a).2.2.1), .int .i64 (T.step a).2.2.2]) ∧ At w0 t (T.step a).1 (N + 1) w' ∧ NsC w' v l := by
  obtain ⟨S, h1, h2, h5⟩ := h.ex
  have hs := step_wf h.wf h.bd hN a
  refine (do_any h1 h.wf h.bd hN a ao).mono fun e w' ⟨he, hp⟩ => ⟨he, ?_⟩
  obtain ⟨h3, h4⟩ := hp
  have hb := h4.below h.bel h.bel.size (fun x hx hS => by have := h2 x hS; omega)
  refine ⟨⟨⟨_, h3, fun k hk => ?_⟩, hb, hs.1, hs.2⟩, (h5.ch h4 (fun k hk => hk)).ns⟩
  rcases hk with hk | hk
  · exact h2 k hk
  · have := h.bel.size; unfold New at hk; omega
end
end Go.Proofs.YtagdhghjcibfbaaGreat

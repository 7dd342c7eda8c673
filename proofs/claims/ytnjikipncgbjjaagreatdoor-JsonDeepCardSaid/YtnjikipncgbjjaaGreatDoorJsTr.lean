/- The nodes of a value in memory. -/
import Derived.Test.YtnjikipncgbjjaaGreatDoorJsX3
namespace Go.Proofs.YtnjikipncgbjjaaGreatDoor
open Go.RowKit
set_option linter.unusedVariables false
set_option linter.unusedSectionVars false

/-- What stands in a value, with itself. -/
inductive JV.In (v : JV) : JV → Prop
  | root : JV.In v v
  | list {a u : JV} : JV.In v a → u ∈ a.list → JV.In v u
  | field {a : JV} {p : ByteArray × JV} : JV.In v a → p ∈ a.fields → JV.In v p.2
theorem JV.In.trans {v u x : JV} (h : JV.In v u) (k : JV.In u x) : JV.In v x := by
  induction k with
  | root => exact h
  | list _ hu ih => exact ih.list hu
  | field _ hp ih => exact ih.field hp
theorem JV.In.size {v u : JV} (h : JV.In v u) : u.size ≤ v.size := by
  induction h with
  | root => exact Nat.le_refl _
  | list _ hu ih => have := JV.size_list hu; omega
  | field _ hp ih => have := JV.size_field hp; omega
theorem JV.in_cases {v u : JV} (h : JV.In v u) : u = v ∨ (∃ x ∈ v.list, JV.In x u) ∨ ∃ p ∈ v.fields, JV.In p.2 u := by
  induction h with
  | root => exact .inl rfl
  | @list a u _ hu ih =>
    rcases ih with rfl | ⟨x, hx, hi⟩ | ⟨p, hp, hi⟩
    · exact .inr (.inl ⟨u, hu, .root⟩)
    · exact .inr (.inl ⟨x, hx, hi.list hu⟩)
    · exact .inr (.inr ⟨p, hp, hi.list hu⟩)
  | @field a q _ hq ih =>
    rcases ih with rfl | ⟨x, hx, hi⟩ | ⟨p, hp, hi⟩
    · exact .inr (.inr ⟨q, hq, .root⟩)
    · exact .inr (.inl ⟨x, hx, hi.field hq⟩)
    · exact .inr (.inr ⟨p, hp, hi.field hq⟩)
theorem JV.length_list (v : JV) : v.list.length < v.size ∧ v.fields.length < v.size := by
  obtain ⟨k, t, l, f⟩ := v
  have h1 : ∀ l : List JV, l.length ≤ JV.sizeL l := by
    intro l
    induction l with
    | nil => exact Nat.le_refl _
    | cons x l ih => have := x.size_pos; simp only [JV.sizeL, List.length_cons]; omega
  have h2 : ∀ l : List (ByteArray × JV), l.length ≤ JV.sizeF l := by
    intro l
    induction l with
    | nil => exact Nat.le_refl _
    | cons x l ih => obtain ⟨n, x⟩ := x; have := x.size_pos; simp only [JV.sizeF, List.length_cons]; omega
  have := h1 l
  have := h2 f
  simp only [JV.size, JV.list, JV.fields]
  omega
theorem JV.depth_le_size (v : JV) : v.depth ≤ v.size := by
  induction v using JV.ind with
  | h v h1 h2 =>
    obtain ⟨k, t, l, f⟩ := v
    simp only [JV.list, JV.fields] at h1 h2
    have a1 : ∀ l : List JV, (∀ u ∈ l, u.depth ≤ u.size) → JV.depthL l ≤ JV.sizeL l := by
      intro l
      induction l with
      | nil => intro _; exact Nat.le_refl _
      | cons x l ih => intro h; have := ih (fun u hu => h u (by simp [hu])); have := h x (by simp); simp only [JV.sizeL, JV.depthL]; omega
    have a2 : ∀ l : List (ByteArray × JV), (∀ p ∈ l, p.2.depth ≤ p.2.size) → JV.depthF l ≤ JV.sizeF l := by
      intro l
      induction l with
      | nil => intro _; exact Nat.le_refl _
      | cons x l ih => intro h; obtain ⟨n, x⟩ := x; have := ih (fun u hu => h u (by simp [hu])); have := h (n, x) (by simp); simp only [JV.sizeF, JV.depthF]; simp only at this; omega
    have := a1 l h1
    have := a2 f h2
    simp only [JV.depth, JV.size]
    omega

/-! ### A value's address tells the value -/
section
variable {w : World} {S : Nat → Prop}
theorem LAt.inj : ∀ (v u : JV) {b o : Nat}, LAt w S v b o → LAt w S u b o → v = u := by
  intro v
  induction v using JV.ind with
  | h v h1 h2 =>
    intro u b o hv hu
    obtain ⟨k, t, l, f⟩ := v
    obtain ⟨k', t', l', f'⟩ := u
    obtain ⟨c0, c1, c2, c3, p0, p1, p2, p3, hv⟩ := hv
    obtain ⟨d0, d1, d2, d3, q0, q1, q2, q3, hu⟩ := hu
    rw [p0] at q0; rw [p1] at q1; rw [p2] at q2; rw [p3] at q3
    cases q0; cases q1; cases q2; cases q3
    simp only [LV] at hv hu
    obtain ⟨e0, e1, ⟨a, cap, e2, e3⟩, ⟨a', cap', e4, e5⟩⟩ := hv
    obtain ⟨g0, g1, ⟨a2, cap2, g2, g3⟩, ⟨a2', cap2', g4, g5⟩⟩ := hu
    rw [e0] at g0; rw [e1] at g1; rw [e2] at g2; rw [e4] at g4
    simp only [Value.int.injEq, true_and] at g0
    simp only [Value.string.injEq] at g1
    simp only [Value.slice.injEq] at g2 g4
    obtain ⟨rfl, hl, -⟩ := g2
    obtain ⟨rfl, hf, -⟩ := g4
    subst g0; subst g1
    simp only [JV.list, JV.fields] at h1 h2
    have el : l = l' := by
      rcases e3 with e3 | ⟨b2, o2, ha, _, hl2⟩
      · subst e3; exact (List.length_eq_zero_iff.1 (by simpa using hl.symm)).symm
      · rcases g3 with g3 | ⟨b3, o3, ha', _, hl3⟩
        · subst g3; exact List.length_eq_zero_iff.1 (by simpa using hl)
        · rw [ha] at ha'
          simp only [Option.some.injEq, Addr.mk.injEq, and_true] at ha'
          obtain ⟨rfl, rfl⟩ := ha'
          refine List.ext_getElem hl fun i hi1 hi2 => ?_
          exact h1 _ (List.getElem_mem hi1) _ (hl2.at l i _ (List.getElem?_eq_getElem hi1)) (hl3.at l' i _ (List.getElem?_eq_getElem hi2))
    have ef : f = f' := by
      rcases e5 with e5 | ⟨b2, o2, ha, _, hl2⟩
      · subst e5; exact (List.length_eq_zero_iff.1 (by simpa using hf.symm)).symm
      · rcases g5 with g5 | ⟨b3, o3, ha', _, hl3⟩
        · subst g5; exact List.length_eq_zero_iff.1 (by simpa using hf)
        · rw [ha] at ha'
          simp only [Option.some.injEq, Addr.mk.injEq, and_true] at ha'
          obtain ⟨rfl, rfl⟩ := ha'
          refine List.ext_getElem hf fun i hi1 hi2 => ?_
          obtain ⟨x1, x2⟩ := hl2.at f i _ (List.getElem?_eq_getElem hi1)
          obtain ⟨y1, y2⟩ := hl3.at f' i _ (List.getElem?_eq_getElem hi2)
          rw [x1] at y1
          simp only [Option.some.injEq, Value.string.injEq] at y1
          exact Prod.ext y1 (h2 _ (List.getElem_mem hi1) _ x2 y2)
    rw [el, ef]
end

/-! ### The nodes -/
/-- Where the row of a slice begins. -/
def slOf (w : World) (b o : Nat) : Nat × Nat := match w.cell? ⟨b, o, none⟩ with
  | some (.slice (some a) _ _) => (a.block, a.off)
  | _ => (0, 0)
theorem slOf_eq {w : World} {b o b2 o2 n c : Nat} (h : w.cell? ⟨b, o, none⟩ = some (.slice (some ⟨b2, o2, none⟩) n c)) : slOf w b o = (b2, o2) := by unfold slOf; rw [h]
abbrev Nd := (Nat × Nat) × JV
def kidL (w : World) (p : Nd) : List Nd := p.2.list.zipIdx.map fun q => (((slOf w p.1.1 (p.1.2 + 2)).1, (slOf w p.1.1 (p.1.2 + 2)).2 + q.2 * 4 + 0), q.1)
def kidF (w : World) (p : Nd) : List Nd := p.2.fields.zipIdx.map fun q => (((slOf w p.1.1 (p.1.2 + 3)).1, (slOf w p.1.1 (p.1.2 + 3)).2 + q.2 * 5 + 1), q.1.2)
/-- What a node is: a value that stands in v, where it lies. -/
def NdOk (v : JV) (w : World) (S : Nat → Prop) (tb : Option Nat) (p : Nd) : Prop := JV.In v p.2 ∧ LAt w S p.2 p.1.1 p.1.2 ∧ Clean w p.1.1 ∧ some p.1.1 ≠ tb

section
variable {v : JV} {w : World} {S : Nat → Prop} {tb : Option Nat}
theorem LAt.row2 {u : JV} {b o : Nat} (h : LAt w S u b o) : ∃ a cap, w.cell? ⟨b, o + 2, none⟩ = some (.slice a u.list.length cap) ∧ (u.list = [] ∨ ∃ b2 o2, a = some ⟨b2, o2, none⟩ ∧ (S b2 ∧ Clean w b2) ∧ LVs w S b2 o2 u.list) := by
  obtain ⟨k, t, l, f⟩ := u
  obtain ⟨c0, c1, c2, c3, p0, p1, p2, p3, hv⟩ := h
  simp only [LV] at hv
  obtain ⟨e0, e1, ⟨a, cap, e2, e3⟩, ⟨a', cap', e4, e5⟩⟩ := hv
  exact ⟨a, cap, by rw [p2, e2]; rfl, e3⟩
theorem LAt.row3 {u : JV} {b o : Nat} (h : LAt w S u b o) : ∃ a cap, w.cell? ⟨b, o + 3, none⟩ = some (.slice a u.fields.length cap) ∧ (u.fields = [] ∨ ∃ b2 o2, a = some ⟨b2, o2, none⟩ ∧ (S b2 ∧ Clean w b2) ∧ LFs w S b2 o2 u.fields) := by
  obtain ⟨k, t, l, f⟩ := u
  obtain ⟨c0, c1, c2, c3, p0, p1, p2, p3, hv⟩ := h
  simp only [LV] at hv
  obtain ⟨e0, e1, ⟨a, cap, e2, e3⟩, ⟨a', cap', e4, e5⟩⟩ := hv
  exact ⟨a', cap', by rw [p3, e4]; rfl, e5⟩
theorem kidL_ok (hS : ∀ b, S b → some b ≠ tb) {p : Nd} (h : NdOk v w S tb p) : ∀ q ∈ kidL w p, NdOk v w S tb q := by
  intro q hq
  obtain ⟨⟨u, i⟩, hx, rfl⟩ := List.mem_map.1 hq
  have hi := List.mem_zipIdx_iff_getElem?.1 hx
  simp only at hi
  obtain ⟨hin, hat, hc, hn⟩ := h
  obtain ⟨a, cap, h2, h3⟩ := hat.row2
  rcases h3 with h3 | ⟨b2, o2, rfl, ⟨hs, hcl⟩, hl⟩
  · rw [h3] at hi; simp at hi
  · have hsl := slOf_eq h2
    rw [hsl]
    refine ⟨hin.list (List.mem_of_getElem? hi), ?_, hcl, hS b2 hs⟩
    have := hl.at _ i u hi
    rw [show o2 + i * 4 + 0 = o2 + 4 * i by omega]
    exact this
theorem kidF_ok (hS : ∀ b, S b → some b ≠ tb) {p : Nd} (h : NdOk v w S tb p) : ∀ q ∈ kidF w p, NdOk v w S tb q := by
  intro q hq
  obtain ⟨⟨u, i⟩, hx, rfl⟩ := List.mem_map.1 hq
  have hi := List.mem_zipIdx_iff_getElem?.1 hx
  simp only at hi
  obtain ⟨hin, hat, hc, hn⟩ := h
  obtain ⟨a, cap, h2, h3⟩ := hat.row3
  rcases h3 with h3 | ⟨b2, o2, rfl, ⟨hs, hcl⟩, hl⟩
  · rw [h3] at hi; simp at hi
  · have hsl := slOf_eq h2
    rw [hsl]
    refine ⟨hin.field (List.mem_of_getElem? hi), ?_, hcl, hS b2 hs⟩
    have := (hl.at _ i u hi).2
    rw [show o2 + i * 5 + 1 = o2 + 5 * i + 1 by omega]
    exact this
end
end Go.Proofs.YtnjikipncgbjjaaGreatDoor

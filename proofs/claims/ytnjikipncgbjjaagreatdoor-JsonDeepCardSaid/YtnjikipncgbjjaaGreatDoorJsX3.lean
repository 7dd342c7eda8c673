/- walk: what is laid on the stack. -/
import Derived.Test.YtnjikipncgbjjaaGreatDoorJsX2
namespace Go.Proofs.YtnjikipncgbjjaaGreatDoor
open Go.RowKit Go.Shelf
set_option linter.unusedVariables false
set_option linter.unusedSectionVars false

theorem info_pv : (Tryz.prog.info? 46).map (fun i => (i.zero, i.size, i.bytes)) = some (some (.pointer none), 1, 8) := by kernel_rfl

/-- What lies on the stack costs at least one each. -/
theorem length_le_wLeft {α : Type} [DecidableEq α] (T : Tr α) : ∀ st : List (α × Bool), st.length ≤ wLeft T st
  | [] => Nat.le_refl _
  | (a, b) :: st => by
    have h1 := length_le_wLeft T st
    have h2 := work_pos T a
    unfold wLeft at h1 ⊢
    cases b <;> simp <;> omega
theorem stL_length {α : Type} [DecidableEq α] (T : Tr α) (f : α → Option Nat) (a : α) (tl : List (α × Bool)) (l : List α) : (stL T f a tl l).length ≤ l.length + 1 + tl.length := by
  have : (pushedL T f l).length ≤ l.length := List.length_filter_le _ _
  unfold stL
  simp only [List.length_append, List.length_map, List.length_reverse, List.length_cons]
  omega
theorem stL_pos {α : Type} [DecidableEq α] (T : Tr α) (f : α → Option Nat) (a : α) (tl : List (α × Bool)) (l : List α) : 1 ≤ (stL T f a tl l).length := by
  unfold stL
  simp only [List.length_append, List.length_map, List.length_reverse, List.length_cons]
  omega

/-- A row of two cells at the least is no block of one cell. -/
theorem row_not_one {W : World} {base : Nat} {e t : TypeId} {v u : Value} {k : Nat} {xs : List Value} {B : Nat} {ft : Nat × Nat} (hr : W.ownsRow base e 1 v k xs) (hk : 2 ≤ k) (hB : W.heap[B]? = some (.cells #[u] t ft)) : v.ownBlock ≠ some B := by
  rcases hr.2 with ⟨_, e0⟩ | ⟨g, cap, cur, rfl, _, hgb, hn, _, hs, _⟩
  · omega
  · intro e'
    obtain rfl : g = B := by simpa [Value.ownBlock] using e'
    rw [hB] at hgb
    cases hgb
    simp at hs
    omega

/-- Whether the top is open is not seen. -/
theorem WW.flag {α : Type} {T : Tr α} {ad : α → Nat × Nat} {M : Int} {tb : Option Nat} {Vis : List α → World → Prop} {w W : World} {vf : Value} {a : α} {b : Bool} {st : List (α × Bool)} {f : α → Option Nat} {vs : List α} {G : Nat × Nat → Option Int} {sv : Value} {Ds : List Nat}
    (h : WW T ad M vf tb Vis w W ((a, b) :: st) f vs G sv Ds) (b' : Bool) : WW T ad M vf tb Vis w W ((a, b') :: st) f vs G sv Ds :=
  ⟨h.b0, h.b1, h.b3, h.b5, by have := h.row; rw [rowOf_cons] at this ⊢; exact this, h.map, h.mapf, h.mapb, h.vis, h.grown, h.marks⟩

/-- One is laid on the stack. -/
theorem WW.pushed {α : Type} {T : Tr α} {ad : α → Nat × Nat} {M : Int} {g : Nat} {lb : Array Value} {tb : Option Nat} {Vis : List α → World → Prop} {w W w1 : World} {vf : Value} {st : List (α × Bool)} {f : α → Option Nat} {vs : List α} {G : Nat × Nat → Option Int} {sv v' : Value} {Ds : List Nat}
    (hh : WH T ad M g lb tb Vis w) (h : WW T ad M vf tb Vis w W st f vs G sv Ds) (x : α) (b : Bool) (o : Obj) (hown : w1.ownsRow (w.heap.size + 4) 46 1 v' (st.length + 1) (rowOf ad st ++ [pv (ad x)])) (hgrow : (W.alloc o).grownBy w1 sv.ownBlock) :
    WW T ad M vf tb Vis w (w1.setCell ⟨w.heap.size + 5, 0, none⟩ v') ((x, b) :: st) f vs G v' Ds := by
  have h1 := h.newer hh (World.grownBy_alloc W o none)
  have hob : ∀ k, sv.ownBlock = some k → w.heap.size + 4 ≤ k ∧ ∃ cs ft, (W.alloc o).heap[k]? = some (.cells cs 46 ft) := fun k hk => by
    rcases h1.row.2 with ⟨e, _⟩ | ⟨g, cap, cur, e, hb, hgb, _⟩
    · rw [e] at hk; simp [Value.ownBlock] at hk
    · rw [e] at hk
      obtain rfl : g = k := by simpa [Value.ownBlock] using hk
      exact ⟨hb, _, _, hgb⟩
  have hb2 : RowKit.Below w.heap.size (W.alloc o) w1 := bel_gb hgrow h1.grown.size (fun k e => by have := (hob k e).1; omega)
  have hg := grownBy_setCell' w1 (w.heap.size + 5) v'
  have hb3 : RowKit.Below w.heap.size w1 (w1.setCell ⟨w.heap.size + 5, 0, none⟩ v') := (Below.refl _ w1).setCell (p := ⟨w.heap.size + 5, 0, none⟩) (by show w.heap.size ≤ w.heap.size + 5; omega) _
  have ne : ∀ k, k ≠ w.heap.size + 5 → some k ≠ some (w.heap.size + 5) := fun k hk e => hk (Option.some.inj e)
  have b5 : Boxed w1 (w.heap.size + 5) 82 sv := h1.b5.kept hgrow (h1.b5.not_row (by decide) h1.row)
  refine ⟨(h1.b0.kept hgrow (h1.b0.not_row (by decide) h1.row)).kept hg (ne _ (by omega)), (h1.b1.kept hgrow (h1.b1.not_row (by decide) h1.row)).kept hg (ne _ (by omega)), (h1.b3.kept hgrow (h1.b3.not_row (by decide) h1.row)).kept hg (ne _ (by omega)), b5.set v',
    ?_, (h1.map.grown2 hgrow ?_ (fun a ha => ?_)).grown2 hg (ne _ (by omega)) (fun a ha => ?_), h1.mapf, h1.mapb, hh.keep _ _ _ h1.vis (hb2.trans hb3), gb_bel h1.grown (hb2.trans hb3), h1.marks.1, fun D hD => ⟨(h1.marks.2 D hD).1, ?_⟩⟩
  · rw [rowOf_cons]
    exact hown.kept hg (.inr (b5.set v' |> fun _ => (b5.not_row (by decide) hown).symm))
  · intro e
    obtain ⟨_, cs, ft, hc⟩ := hob _ e.symm
    obtain ⟨es, clock, hm, _⟩ := h1.map
    rw [hm] at hc; cases hc
  · cases hG : G a with
    | none => rw [hG] at ha; exact absurd rfl ha
    | some d =>
      obtain ⟨y, rfl⟩ := (h1.mapb a d hG).2
      obtain ⟨c, t, hx⟩ := (hh.node y).1
      have := (Array.getElem?_eq_some_iff.1 hx).1
      intro e
      have := (hob _ e.symm).1
      omega
  · cases hG : G a with
    | none => rw [hG] at ha; exact absurd rfl ha
    | some d =>
      obtain ⟨y, rfl⟩ := (h1.mapb a d hG).2
      obtain ⟨c, t, hx⟩ := (hh.node y).1
      have := (Array.getElem?_eq_some_iff.1 hx).1
      exact ne _ (by omega)
  · have hd := h1.marks.2 D hD
    have hD1 : some D ≠ sv.ownBlock := fun e => by
      obtain ⟨_, cs, ft, hc⟩ := hob _ e.symm
      rw [hd.2] at hc; cases hc
    have hd1 := (hgrow.block D (Array.getElem?_eq_some_iff.1 hd.2).1 hD1).trans hd.2
    refine (hg.block D (Array.getElem?_eq_some_iff.1 hd1).1 (ne _ (by omega))).trans hd1
end Go.Proofs.YtnjikipncgbjjaaGreatDoor

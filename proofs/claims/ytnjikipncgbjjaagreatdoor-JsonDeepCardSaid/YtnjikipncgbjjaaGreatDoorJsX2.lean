/- What a part of the children of a new node lays on the stack, and visits. -/
import Derived.Test.YtnjikipncgbjjaaGreatDoorJsZ
namespace Go.Proofs.YtnjikipncgbjjaaGreatDoor
open Go.RowKit
set_option linter.unusedVariables false
set_option linter.unusedSectionVars false
section
variable {α : Type} [DecidableEq α] (T : Tr α) (f : α → Option Nat)
def pushedL (l : List α) : List α := l.filter fun c => decide (T.kids c ≠ []) && (f c).isNone
def singlesL (l : List α) : List α := l.filter fun c => decide (T.kids c = [])
theorem pushedL_all (a : α) : pushedL T f (T.kids a) = pushed T f a := rfl
theorem singlesL_all (a : α) : singlesL T (T.kids a) = singles T a := rfl
theorem pushedL_yes (l : List α) (c : α) (h1 : T.kids c ≠ []) (h2 : f c = none) : pushedL T f (l ++ [c]) = pushedL T f l ++ [c] := by
  simp [pushedL, h1, h2]
theorem pushedL_single (l : List α) (c : α) (h : T.kids c = []) : pushedL T f (l ++ [c]) = pushedL T f l := by
  simp [pushedL, h]
theorem pushedL_met (l : List α) (c : α) (n : Nat) (h : f c = some n) : pushedL T f (l ++ [c]) = pushedL T f l := by
  simp [pushedL, h]
theorem singlesL_yes (l : List α) (c : α) (h : T.kids c = []) : singlesL T (l ++ [c]) = singlesL T l ++ [c] := by
  simp [singlesL, h]
theorem singlesL_no (l : List α) (c : α) (h : T.kids c ≠ []) : singlesL T (l ++ [c]) = singlesL T l := by
  simp [singlesL, h]
/-- The stack while a new node's children come. -/
def stL (a : α) (tl : List (α × Bool)) (l : List α) : List (α × Bool) := ((pushedL T f l).reverse.map fun c => (c, false)) ++ (a, true) :: tl
theorem stL_nil (a : α) (tl : List (α × Bool)) : stL T f a tl [] = (a, true) :: tl := rfl
theorem stL_all (a : α) (tl : List (α × Bool)) : stL T f a tl (T.kids a) = ((pushed T f a).reverse.map fun c => (c, false)) ++ (a, true) :: tl := rfl
theorem stL_yes (a : α) (tl : List (α × Bool)) (l : List α) (c : α) (h1 : T.kids c ≠ []) (h2 : f c = none) : stL T f a tl (l ++ [c]) = (c, false) :: stL T f a tl l := by
  unfold stL; rw [pushedL_yes T f l c h1 h2]; simp
theorem stL_single (a : α) (tl : List (α × Bool)) (l : List α) (c : α) (h : T.kids c = []) : stL T f a tl (l ++ [c]) = stL T f a tl l := by
  unfold stL; rw [pushedL_single T f l c h]
theorem stL_met (a : α) (tl : List (α × Bool)) (l : List α) (c : α) (n : Nat) (h : f c = some n) : stL T f a tl (l ++ [c]) = stL T f a tl l := by
  unfold stL; rw [pushedL_met T f l c n h]
end

/-- A new mark. -/
theorem WW.mark {α : Type} {T : Tr α} {ad : α → Nat × Nat} {M : Int} {tb : Option Nat} {Vis : List α → World → Prop} {w W : World} {vf : Value} {st : List (α × Bool)} {f : α → Option Nat} {vs : List α} {G : Nat × Nat → Option Int} {sv : Value} {Ds : List Nat}
    (h : WW T ad M vf tb Vis w W st f vs G sv Ds) (D : Nat) (hD : w.heap.size + 6 ≤ D) (hn : D ∉ Ds) (hd : W.heap[D]? = some (.deferred (some []))) : WW T ad M vf tb Vis w W st f vs G sv (D :: Ds) :=
  ⟨h.b0, h.b1, h.b3, h.b5, h.row, h.map, h.mapf, h.mapb, h.vis, h.grown, List.nodup_cons.2 ⟨hn, h.marks.1⟩, fun D' h' => by
    rcases List.mem_cons.1 h' with e | e
    · subst e; exact ⟨hD, hd⟩
    · exact h.marks.2 D' e⟩
/-- A block beyond the start's that is no cells is turned, and is none of the marks: what a law of a range over a function turns. -/
theorem WW.turned {α : Type} {T : Tr α} {ad : α → Nat × Nat} {M : Int} {g : Nat} {lb : Array Value} {tb : Option Nat} {Vis : List α → World → Prop} {w W W' : World} {vf : Value} {st : List (α × Bool)} {f : α → Option Nat} {vs : List α} {G : Nat × Nat → Option Int} {sv : Value} {Ds : List Nat} {row : Option Nat}
    (hh : WH T ad M g lb tb Vis w) (h : WW T ad M vf tb Vis w W st f vs G sv Ds) (hg : W.grownBy W' row) (hr : ∀ k, row = some k → w.heap.size + 6 ≤ k ∧ k ∉ Ds ∧ ∃ o : Obj, W.heap[k]? = some o ∧ o.isCells = false) : WW T ad M vf tb Vis w W' st f vs G sv Ds := by
  have ne : ∀ k, k < w.heap.size + 6 → some k ≠ row := fun k hk e => by have := (hr k e.symm).1; omega
  have hbel : RowKit.Below w.heap.size W W' := bel_gb hg h.grown.size (fun k e => by have := (hr k e).1; omega)
  refine ⟨h.b0.kept hg (ne _ (by omega)), h.b1.kept hg (ne _ (by omega)), h.b3.kept hg (ne _ (by omega)), h.b5.kept hg (ne _ (by omega)), h.row.kept hg ?_, h.map.grown2 hg (ne _ (by omega)) (fun a ha => ?_), h.mapf, h.mapb, hh.keep _ _ _ h.vis hbel, gb_bel h.grown hbel, h.marks.1, fun D hD => ⟨(h.marks.2 D hD).1, ?_⟩⟩
  · rcases h.row.2 with ⟨e, _⟩ | ⟨b, cap, cur, e, _, hb, _⟩
    · exact .inl (by rw [e]; rfl)
    · refine .inr fun e' => ?_
      rw [e] at e'
      obtain ⟨_, _, o, ho, hc⟩ := hr b e'.symm
      rw [hb] at ho; cases ho; cases hc
  · cases hG : G a with
    | none => rw [hG] at ha; exact absurd rfl ha
    | some d =>
      obtain ⟨x, rfl⟩ := (h.mapb a d hG).2
      obtain ⟨c, t, hx⟩ := (hh.node x).1
      have := (Array.getElem?_eq_some_iff.1 hx).1
      exact ne _ (by omega)
  · have hd := h.marks.2 D hD
    exact (hg.block D (Array.getElem?_eq_some_iff.1 hd.2).1 (fun e => (hr D e.symm).2.1 hD)).trans hd.2
end Go.Proofs.YtnjikipncgbjjaaGreatDoor

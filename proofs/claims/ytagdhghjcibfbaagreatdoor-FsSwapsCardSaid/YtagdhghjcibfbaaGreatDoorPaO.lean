/- Layer 7: the program's Clean. -/
import Derived.Test.YtagdhghjcibfbaaGreatDoorPaN
import Derived.Maps.AppendAt
namespace Go.Proofs.YtagdhghjcibfbaaGreatDoor
open Go.RowKit Go.Shelf
attribute [local go_sem] Oper.semAt_some
set_option linter.unusedVariables false
set_option maxRecDepth 100000

def okN (ns : List (List UInt8)) : Bool := ns.all nameB && decide (ns.length ≤ 8)
theorem okN_pre {x y : List (List UInt8)} (h : x <+: y) (hx : okN x = false) : okN y = false := by
  cases hy : okN y with
  | false => rfl
  | true =>
    obtain ⟨z, rfl⟩ := h
    unfold okN at hx hy
    simp only [List.all_append, Bool.and_eq_true, decide_eq_true_eq, List.length_append] at hy
    rw [hy.1.1, decide_eq_true (by omega)] at hx
    cases hx
theorem okN_snoc (acc : List (List UInt8)) (x : List UInt8) (h : okN acc = true) : okN (acc ++ [x]) = (nameB x && !decide (acc.length = 8)) := by
  unfold okN at h ⊢
  simp only [Bool.and_eq_true, decide_eq_true_eq] at h
  rw [List.all_append, h.1]
  have h2 := h.2
  simp only [List.all_cons, List.all_nil, Bool.and_true, Bool.true_and, List.length_append, List.length_cons, List.length_nil]
  congr 1
  rw [Bool.eq_iff_iff]; simp; omega
theorem good_ok (l : List UInt8) : goodL (namesL l) = (okN (namesL l) && decide ((joinP (namesL l)).length ≤ 96)) := rfl
theorem filter_pre {x y : List (List UInt8)} (h : x <+: y) : x.filter keepB <+: y.filter keepB := by
  obtain ⟨z, rfl⟩ := h
  rw [List.filter_append]; exact List.prefix_append _ _

/-- What holds between two parts: acc are the names so far. -/
structure CI (B n0 : Nat) (w : World) (acc : List (List UInt8)) (W : World) : Prop where
  r1 : Boxed W B 9 (.string ⟨#[]⟩)
  r2 : Boxed W (B + 1) 24 (.int .i64 0)
  nm : ∃ v, Boxed W (B + 2) 29 v ∧ W.ownsRow n0 9 1 v acc.length (strs acc)
  bl : Below B w W
  sz : n0 ≤ W.heap.size
theorem CI.grown {B n0 : Nat} {w : World} {acc : List (List UInt8)} {W W' : World} {row : Option Nat} (h : CI B n0 w acc W) (hB : B + 3 ≤ n0) (hg : W.grownBy W' row)
    (hr : ∀ r, row = some r → B + 3 ≤ r ∧ (r < n0 ∨ ∃ o : Obj, W.heap[r]? = some o ∧ o.isCells = false)) : CI B n0 w acc W' := by
  have hn : ∀ k, k < B + 3 → some k ≠ row := fun k hk e => by have := (hr k e.symm).1; omega
  obtain ⟨v, v1, v2⟩ := h.nm
  refine ⟨h.r1.kept hg (hn _ (by omega)), h.r2.kept hg (hn _ (by omega)), ⟨v, v1.kept hg (hn _ (by omega)), v2.kept hg ?_⟩, h.bl.grown hg (by have := h.sz; omega) (fun k e => by have := (hr k e).1; omega), Nat.le_trans h.sz hg.size⟩
  cases ho : v.ownBlock with
  | none => exact .inl rfl
  | some g =>
    refine .inr fun e => ?_
    have h1 := (v2.lt g ho).1
    rcases (hr g e.symm).2 with h2 | ⟨o, h2, h3⟩
    · omega
    · rcases v2.2 with ⟨rfl, _⟩ | ⟨g', cap, cur, rfl, _, hh, _⟩
      · simp [Value.ownBlock] at ho
      · obtain rfl : g' = g := by simpa [Value.ownBlock] using ho
        rw [hh] at h2; cases h2; cases h3
/-- What holds where a part is no name. -/
structure CX (B : Nat) (w : World) (W : World) : Prop where
  r1 : Boxed W B 9 (.string ⟨#[]⟩)
  r2 : Boxed W (B + 1) 24 (.int .i64 2)
  bl : Below B w W
  sz : B ≤ W.heap.size
theorem CX.grown {B : Nat} {w W W' : World} {row : Option Nat} (h : CX B w W) (hg : W.grownBy W' row) (hr : ∀ r, row = some r → B + 3 ≤ r) : CX B w W' :=
  ⟨h.r1.kept hg (fun e => by have := hr _ e.symm; omega), h.r2.kept hg (fun e => by have := hr _ e.symm; omega), h.bl.grown hg h.sz (fun k e => by have := hr _ e; omega), Nat.le_trans h.sz hg.size⟩
theorem gbBelow {W W' : World} (h : Below W.heap.size W W') : W.grownBy W' none := ⟨h.os, h.tape, h.output, h.size, fun k hk _ => h.block k hk⟩
theorem kfBelow {B : Nat} {W W' : World} (h : Below W.heap.size W W') : KeepsFrom B W W' := ⟨h.size, fun k o _ hk _ => (h.block k (Array.getElem?_eq_some_iff.1 hk).1).trans hk⟩

/-- Behind 'names = append(names, part)'. -/
theorem CI.put {B n0 : Nat} {w W w1 : World} {acc : List (List UInt8)} {x : List UInt8} {v v' : Value} {tmp : Obj} (h : CI B n0 w acc W) (hB : B + 6 ≤ n0) (hv : Boxed W (B + 2) 29 v) (hrow : W.ownsRow n0 9 1 v acc.length (strs acc))
    (hown' : w1.ownsRow n0 9 1 v' (acc.length + 1) (strs acc ++ [.string (bs x)])) (hgrow : (W.alloc tmp).grownBy w1 v.ownBlock) :
    CI B n0 w (acc ++ [x]) (w1.setCell ⟨B + 2, 0, none⟩ v') ∧ KeepsFrom n0 W (w1.setCell ⟨B + 2, 0, none⟩ v') ∧ ∀ k ∈ [B + 4, B + 3, B + 5], (w1.setCell ⟨B + 2, 0, none⟩ v').heap[k]? = W.heap[k]? := by
  have hn : ∀ k, k < n0 → some k ≠ v.ownBlock := fun k hk e => by have := (hrow.lt k e.symm).1; omega
  have hs := h.sz
  have hbk : ∀ k, k < n0 → k ≠ B + 2 → (w1.setCell ⟨B + 2, 0, none⟩ v').heap[k]? = W.heap[k]? := fun k hk hk2 => by
    rw [Below.heap_setCell _ _ _ k (by show k ≠ B + 2; exact hk2), hgrow.block k (by simp; omega) (hn k hk)]
    exact Below.heap_alloc _ _ k (by omega)
  have hv1 : Boxed w1 (B + 2) 29 v := (hv.alloc tmp).kept hgrow (hn _ (by omega))
  refine ⟨⟨(hbk B (by omega) (by omega)).trans h.r1, (hbk (B + 1) (by omega) (by omega)).trans h.r2, ⟨v', hv1.set v', ?_⟩, ?_, ?_⟩, ?_, fun k hk => hbk k ?_ ?_⟩
  · rw [strs_snoc, List.length_append]
    refine hown'.kept (grownBy_setCell' w1 (B + 2) v') ?_
    cases ho : v'.ownBlock with
    | none => exact .inl rfl
    | some g => exact .inr fun e => by have := (hown'.lt g ho).1; cases e; omega
  · refine ((h.bl.alloc (by omega) tmp).grown hgrow (by simp; omega) (fun k e => by have := (hrow.lt k e).1; omega)).setCell (p := ⟨B + 2, 0, none⟩) (by show B ≤ B + 2; omega) v'
  · have := hgrow.size
    simp at this ⊢; omega
  · refine (((KeepsOthers.alloc W tmp).trans (KeepsOthers.of_grownBy hgrow fun j o ej hj => ?_)).trans (KeepsOthers.setCell _ _ _)).from _
    rcases (hrow.alloc tmp).2 with ⟨rfl, _⟩ | ⟨g, cap, cur, rfl, _, hgb, _⟩
    · simp [Value.ownBlock] at ej
    · obtain rfl : g = j := by simpa [Value.ownBlock] using ej
      rw [hgb] at hj; cases hj; rfl
  · simp at hk; omega
  · simp at hk; omega
end Go.Proofs.YtagdhghjcibfbaaGreatDoor

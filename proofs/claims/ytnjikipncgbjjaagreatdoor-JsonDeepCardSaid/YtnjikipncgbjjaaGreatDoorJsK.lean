/- The contract of put, its first part: a value is laid in the innermost unfinished one. -/
import Derived.Test.YtnjikipncgbjjaaGreatDoorJsJ
import Derived.Deep.DeepCutAuto
import Derived.Deep.CutBlock
namespace Go.Proofs.YtnjikipncgbjjaaGreatDoor
open Go.RowKit
set_option linter.unusedVariables false
set_option maxRecDepth 100000
variable {X : Nat → Prop}

theorem info_val : (Tryz.prog.info? 26).map (fun i => (i.zero, i.size, i.bytes)) = some (some (.agg #[.int .i64 0, .string ⟨#[]⟩, .slice none 0 0, .slice none 0 0]), 4, 72) := by kernel_rfl
theorem info_fld : (Tryz.prog.info? 52).map (fun i => (i.zero, i.size, i.bytes)) = some (some (.agg #[.string ⟨#[]⟩, .int .i64 0, .string ⟨#[]⟩, .slice none 0 0, .slice none 0 0]), 5, 88) := by kernel_rfl

theorem own_shape {w : World} {base : Nat} {e : TypeId} {size : Nat} {v : Value} {n : Nat} {xs : List Value} (h : w.ownsRow base e size v n xs) : ∃ a c, v = .slice a n c := by
  rcases h.2 with ⟨rfl, rfl⟩ | ⟨g, cap, cur, rfl, _⟩
  · exact ⟨none, 0, rfl⟩
  · exact ⟨_, _, rfl⟩

theorem new_cell {w : World} {b gg cap n s : Nat} {e : TypeId} {cs zs : List Value} (h : w.ownsRow b e s (.slice (some ⟨gg, 0, none⟩) (n + 1) cap) (n + 1) (cs ++ zs)) (hc : cs.length = n * s) (j : Nat) (hj : j < s) (z : Value) (hz : zs[j]? = some z) : w.cell? ⟨gg, n * s + j, none⟩ = some z := by
  rw [h.cellAt (n * s + j) (by rw [Nat.add_mul]; omega), List.getElem?_append_right (by omega), hc, show n * s + j - n * s = j by omega, hz]
theorem cell_past {w : World} {g j gg : Nat} {z : Value} (h : w.cell? ⟨g, j, none⟩ = some z) (hn : g ≠ gg) (i : Nat) (x : Value) : (w.setCell ⟨gg, i, none⟩ x).cell? ⟨g, j, none⟩ = some z :=
  (World.cell?_setCell_other w ⟨gg, i, none⟩ ⟨g, j, none⟩ x (fun e => hn (by cases e; rfl))).trans h
theorem set_new {cs zs : List Value} {m : Nat} (hc : cs.length = m) (j : Nat) (u : Value) : (cs ++ zs).set (m + j) u = cs ++ zs.set j u := by
  rw [List.set_append_right _ _ (by omega), show m + j - cs.length = j by omega]
theorem stored4 {w : World} {b gg cap n : Nat} {e : TypeId} {cs : List Value} {z0 z1 z2 z3 : Value} (h : w.ownsRow b e 4 (.slice (some ⟨gg, 0, none⟩) (n + 1) cap) (n + 1) (cs ++ [z0, z1, z2, z3])) (hc : cs.length = n * 4) (x0 x1 x2 x3 : Value) :
    ((((w.setCell ⟨gg, n * 4, none⟩ x0).setCell ⟨gg, n * 4 + 1, none⟩ x1).setCell ⟨gg, n * 4 + 2, none⟩ x2).setCell ⟨gg, n * 4 + 3, none⟩ x3).ownsRow b e 4 (.slice (some ⟨gg, 0, none⟩) (n + 1) cap) (n + 1) (cs ++ [x0, x1, x2, x3]) ∧
      w.grownBy ((((w.setCell ⟨gg, n * 4, none⟩ x0).setCell ⟨gg, n * 4 + 1, none⟩ x1).setCell ⟨gg, n * 4 + 2, none⟩ x2).setCell ⟨gg, n * 4 + 3, none⟩ x3) (some gg) := by
  obtain ⟨h1, g1⟩ := h.stored (n * 4) x0
  obtain ⟨h2, g2⟩ := h1.stored (n * 4 + 1) x1
  obtain ⟨h3, g3⟩ := h2.stored (n * 4 + 2) x2
  obtain ⟨h4, g4⟩ := h3.stored (n * 4 + 3) x3
  refine ⟨?_, gb_trans (gb_trans (gb_trans g1 g2) g3) g4⟩
  have e0 := set_new (zs := [z0, z1, z2, z3]) hc 0 x0
  rw [Nat.add_zero] at e0
  rw [e0, set_new hc, set_new hc, set_new hc] at h4
  exact h4
theorem stored5 {w : World} {b gg cap n : Nat} {e : TypeId} {cs : List Value} {z0 z1 z2 z3 z4 : Value} (h : w.ownsRow b e 5 (.slice (some ⟨gg, 0, none⟩) (n + 1) cap) (n + 1) (cs ++ [z0, z1, z2, z3, z4])) (hc : cs.length = n * 5) (x0 x1 x2 x3 x4 : Value) :
    (((((w.setCell ⟨gg, n * 5, none⟩ x0).setCell ⟨gg, n * 5 + 1, none⟩ x1).setCell ⟨gg, n * 5 + 2, none⟩ x2).setCell ⟨gg, n * 5 + 3, none⟩ x3).setCell ⟨gg, n * 5 + 4, none⟩ x4).ownsRow b e 5 (.slice (some ⟨gg, 0, none⟩) (n + 1) cap) (n + 1) (cs ++ [x0, x1, x2, x3, x4]) ∧
      w.grownBy (((((w.setCell ⟨gg, n * 5, none⟩ x0).setCell ⟨gg, n * 5 + 1, none⟩ x1).setCell ⟨gg, n * 5 + 2, none⟩ x2).setCell ⟨gg, n * 5 + 3, none⟩ x3).setCell ⟨gg, n * 5 + 4, none⟩ x4) (some gg) := by
  obtain ⟨h1, g1⟩ := h.stored (n * 5) x0
  obtain ⟨h2, g2⟩ := h1.stored (n * 5 + 1) x1
  obtain ⟨h3, g3⟩ := h2.stored (n * 5 + 2) x2
  obtain ⟨h4, g4⟩ := h3.stored (n * 5 + 3) x3
  obtain ⟨h5, g5⟩ := h4.stored (n * 5 + 4) x4
  refine ⟨?_, gb_trans (gb_trans (gb_trans (gb_trans g1 g2) g3) g4) g5⟩
  have e0 := set_new (zs := [z0, z1, z2, z3, z4]) hc 0 x0
  rw [Nat.add_zero] at e0
  rw [e0, set_new hc, set_new hc, set_new hc, set_new hc] at h5
  exact h5

/-- A value has been put in the innermost unfinished one. -/
def AddedR (w0 W : World) (P : Nat) (l : List UInt8) (F : Fr) (v : JV) (K : List Fr) (sv rv : Value) (R : List Value) (wx : World) : Prop :=
  ∃ gg n cap, PS X w0 wx P l (F.add v :: K) sv (.slice (some ⟨gg, 0, none⟩) n cap :: R) ∧ Ch (· ∈ blks P sv (rv :: R)) W wx ∧ ∀ b ∈ blks P sv (.slice (some ⟨gg, 0, none⟩) n cap :: R), b ∈ blks P sv (rv :: R) ∨ W.heap.size ≤ b

theorem AddedR.of {w0 W wa w1 w2 : World} {P : Nat} {l : List UInt8} {F : Fr} {v : JV} {K : List Fr} {g nn cap n k gg cap' j : Nat} {rv : Value} {R' : List Value} {cs : List Value} {x0 x1 x2 x3 : Value}
    (h : PS X w0 W P l (F :: K) (.slice (some ⟨g, 0, none⟩) nn cap) (rv :: R')) (he : ElsIn W (free (blks P (.slice (some ⟨g, 0, none⟩) nn cap) (rv :: R')) X) F.obj F.els cs) (hv : LV W (free (blks P (.slice (some ⟨g, 0, none⟩) nn cap) (rv :: R')) X) v x0 x1 x2 x3)
    (hk : K.length = k) (hn : F.els.length = n) (ha : Below W.heap.size W wa) (hown : w2.ownsRow w0.heap.size (elT F.obj) (elN F.obj) (.slice (some ⟨gg, 0, none⟩) (n + 1) cap') (n + 1) (cs ++ elCells F x0 x1 x2 x3))
    (hg : wa.grownBy w1 rv.ownBlock) (hgg : rv.ownBlock = some gg ∨ gg = wa.heap.size) (hg2 : w1.grownBy w2 (some gg)) (hj : rowAt F = j) :
    AddedR (X := X) w0 W P l F v K (.slice (some ⟨g, 0, none⟩) nn cap) rv R' (w2.setCell ⟨g, k * 6 + j, none⟩ (.slice (some ⟨gg, 0, none⟩) (n + 1) cap')) := by
  subst hk; subst hn; subst hj
  exact ⟨gg, _, cap', h.added ha he hv rfl hown hg hgg hg2⟩
theorem AddedR.of4 {w0 W w1 : World} {P : Nat} {l : List UInt8} {F : Fr} {v : JV} {K : List Fr} {g nn cap n k gg cap' : Nat} {rv : Value} {R' : List Value} {cs : List Value} {x0 x1 x2 x3 z0 z1 z2 z3 : Value} {o : Obj} (hF : F.obj = false)
    (h : PS X w0 W P l (F :: K) (.slice (some ⟨g, 0, none⟩) nn cap) (rv :: R')) (he : ElsIn W (free (blks P (.slice (some ⟨g, 0, none⟩) nn cap) (rv :: R')) X) F.obj F.els cs) (hv : LV W (free (blks P (.slice (some ⟨g, 0, none⟩) nn cap) (rv :: R')) X) v x0 x1 x2 x3)
    (hk : K.length = k) (hn : F.els.length = n) (hc : cs.length = n * 4) (hown : w1.ownsRow w0.heap.size 26 4 (.slice (some ⟨gg, 0, none⟩) (n + 1) cap') (n + 1) (cs ++ [z0, z1, z2, z3]))
    (hg : ((W.alloc o).drew).grownBy w1 rv.ownBlock) (hgg : rv.ownBlock = some gg ∨ gg = W.heap.size + 1) :
    AddedR (X := X) w0 W P l F v K (.slice (some ⟨g, 0, none⟩) nn cap) rv R' (((((w1.setCell ⟨gg, n * 4, none⟩ x0).setCell ⟨gg, n * 4 + 1, none⟩ x1).setCell ⟨gg, n * 4 + 2, none⟩ x2).setCell ⟨gg, n * 4 + 3, none⟩ x3).setCell ⟨g, k * 6 + 2, none⟩ (.slice (some ⟨gg, 0, none⟩) (n + 1) cap')) := by
  have st := stored4 hown hc x0 x1 x2 x3
  refine AddedR.of h he hv hk hn ((Below.refl W.heap.size W).alloc (Nat.le_refl _) o).drew ?_ hg (by simpa using hgg) st.2 (by unfold rowAt; rw [hF]; rfl)
  have e : elCells F x0 x1 x2 x3 = [x0, x1, x2, x3] := by unfold elCells; rw [hF]; rfl
  rw [e, hF]
  exact st.1
theorem AddedR.of5 {w0 W w1 : World} {P : Nat} {l : List UInt8} {F : Fr} {v : JV} {K : List Fr} {g nn cap n k gg cap' : Nat} {rv : Value} {R' : List Value} {cs : List Value} {x0 x1 x2 x3 z0 z1 z2 z3 z4 : Value} {o : Obj} (hF : F.obj = true)
    (h : PS X w0 W P l (F :: K) (.slice (some ⟨g, 0, none⟩) nn cap) (rv :: R')) (he : ElsIn W (free (blks P (.slice (some ⟨g, 0, none⟩) nn cap) (rv :: R')) X) F.obj F.els cs) (hv : LV W (free (blks P (.slice (some ⟨g, 0, none⟩) nn cap) (rv :: R')) X) v x0 x1 x2 x3)
    (hk : K.length = k) (hn : F.els.length = n) (hc : cs.length = n * 5) (hown : w1.ownsRow w0.heap.size 52 5 (.slice (some ⟨gg, 0, none⟩) (n + 1) cap') (n + 1) (cs ++ [z0, z1, z2, z3, z4]))
    (hg : ((W.alloc o).drew).grownBy w1 rv.ownBlock) (hgg : rv.ownBlock = some gg ∨ gg = W.heap.size + 1) :
    AddedR (X := X) w0 W P l F v K (.slice (some ⟨g, 0, none⟩) nn cap) rv R' ((((((w1.setCell ⟨gg, n * 5, none⟩ (.string F.name)).setCell ⟨gg, n * 5 + 1, none⟩ x0).setCell ⟨gg, n * 5 + 2, none⟩ x1).setCell ⟨gg, n * 5 + 3, none⟩ x2).setCell ⟨gg, n * 5 + 4, none⟩ x3).setCell ⟨g, k * 6 + 3, none⟩ (.slice (some ⟨gg, 0, none⟩) (n + 1) cap')) := by
  have st := stored5 hown hc (.string F.name) x0 x1 x2 x3
  refine AddedR.of h he hv hk hn ((Below.refl W.heap.size W).alloc (Nat.le_refl _) o).drew ?_ hg (by simpa using hgg) st.2 (by unfold rowAt; rw [hF]; rfl)
  have e : elCells F x0 x1 x2 x3 = [.string F.name, x0, x1, x2, x3] := by unfold elCells; rw [hF]; rfl
  rw [e, hF]
  exact st.1
theorem set_swap (w : World) {g gg i j : Nat} {x y : Value} (hn : g ≠ gg) : (w.setCell ⟨g, i, none⟩ x).setCell ⟨gg, j, none⟩ y = (w.setCell ⟨gg, j, none⟩ y).setCell ⟨g, i, none⟩ x := by
  have : ∀ (h : Array Obj) (f f' : Obj → Obj), (h.modify g f).modify gg f' = (h.modify gg f').modify g f := fun h f f' => by
    apply Array.ext_getElem?
    intro k
    simp only [Array.getElem?_modify]
    by_cases e1 : gg = k
    · subst e1; rw [if_pos rfl, if_neg hn, if_pos rfl, if_neg hn]
    · rw [if_neg e1, if_neg e1]
  simp only [World.setCell, this]
theorem AddedR.of4b {w0 W w1 : World} {P : Nat} {l : List UInt8} {F : Fr} {v : JV} {K : List Fr} {g nn cap n k gg cap' : Nat} {rv : Value} {R' : List Value} {cs : List Value} {x0 x1 x2 x3 z0 z1 z2 z3 : Value} {o : Obj} (hne : g ≠ gg) (hF : F.obj = false)
    (h : PS X w0 W P l (F :: K) (.slice (some ⟨g, 0, none⟩) nn cap) (rv :: R')) (he : ElsIn W (free (blks P (.slice (some ⟨g, 0, none⟩) nn cap) (rv :: R')) X) F.obj F.els cs) (hv : LV W (free (blks P (.slice (some ⟨g, 0, none⟩) nn cap) (rv :: R')) X) v x0 x1 x2 x3)
    (hk : K.length = k) (hn : F.els.length = n) (hc : cs.length = n * 4) (hown : w1.ownsRow w0.heap.size 26 4 (.slice (some ⟨gg, 0, none⟩) (n + 1) cap') (n + 1) (cs ++ [z0, z1, z2, z3]))
    (hg : ((W.alloc o).drew).grownBy w1 rv.ownBlock) (hgg : rv.ownBlock = some gg ∨ gg = W.heap.size + 1) :
    AddedR (X := X) w0 W P l F v K (.slice (some ⟨g, 0, none⟩) nn cap) rv R' (((((w1.setCell ⟨g, k * 6 + 2, none⟩ (.slice (some ⟨gg, 0, none⟩) (n + 1) cap')).setCell ⟨gg, n * 4, none⟩ x0).setCell ⟨gg, n * 4 + 1, none⟩ x1).setCell ⟨gg, n * 4 + 2, none⟩ x2).setCell ⟨gg, n * 4 + 3, none⟩ x3) := by
  rw [set_swap _ hne, set_swap _ hne, set_swap _ hne, set_swap _ hne]
  exact AddedR.of4 hF h he hv hk hn hc hown hg hgg
theorem AddedR.of5b {w0 W w1 : World} {P : Nat} {l : List UInt8} {F : Fr} {v : JV} {K : List Fr} {g nn cap n k gg cap' : Nat} {rv : Value} {R' : List Value} {cs : List Value} {x0 x1 x2 x3 z0 z1 z2 z3 z4 : Value} {o : Obj} (hne : g ≠ gg) (hF : F.obj = true)
    (h : PS X w0 W P l (F :: K) (.slice (some ⟨g, 0, none⟩) nn cap) (rv :: R')) (he : ElsIn W (free (blks P (.slice (some ⟨g, 0, none⟩) nn cap) (rv :: R')) X) F.obj F.els cs) (hv : LV W (free (blks P (.slice (some ⟨g, 0, none⟩) nn cap) (rv :: R')) X) v x0 x1 x2 x3)
    (hk : K.length = k) (hn : F.els.length = n) (hc : cs.length = n * 5) (hown : w1.ownsRow w0.heap.size 52 5 (.slice (some ⟨gg, 0, none⟩) (n + 1) cap') (n + 1) (cs ++ [z0, z1, z2, z3, z4]))
    (hg : ((W.alloc o).drew).grownBy w1 rv.ownBlock) (hgg : rv.ownBlock = some gg ∨ gg = W.heap.size + 1) :
    AddedR (X := X) w0 W P l F v K (.slice (some ⟨g, 0, none⟩) nn cap) rv R' ((((((w1.setCell ⟨g, k * 6 + 3, none⟩ (.slice (some ⟨gg, 0, none⟩) (n + 1) cap')).setCell ⟨gg, n * 5, none⟩ (.string F.name)).setCell ⟨gg, n * 5 + 1, none⟩ x0).setCell ⟨gg, n * 5 + 2, none⟩ x1).setCell ⟨gg, n * 5 + 3, none⟩ x2).setCell ⟨gg, n * 5 + 4, none⟩ x3) := by
  rw [set_swap _ hne, set_swap _ hne, set_swap _ hne, set_swap _ hne, set_swap _ hne]
  exact AddedR.of5 hF h he hv hk hn hc hown hg hgg
/-- What the walk of put knows, ahead of the append. -/
theorem put_keep {w W : World} {l : List UInt8} {P : Nat} {F : Fr} {K : List Fr} {g n cap rn rc j : Nat} {ra : Option Addr} {R' : List Value} {w0 : World} {x0 x1 x2 x3 z : Value} (H : PS X w0 w P l (F :: K) (.slice (some ⟨g, 0, none⟩) n cap) (.slice ra rn rc :: R')) (HW : PS (newer X w W) w0 W P l (F :: K) (.slice (some ⟨g, 0, none⟩) n cap) (.slice ra rn rc :: R'))
    (HA : RB W w.heap.size x0 x1 x2 x3) (hgl : g < W.heap.size) (hf : W.frozen? ⟨g, j, none⟩ = false) (q2 : W.cell? ⟨g, j, none⟩ = some z) (o : Obj) (wz : World) (hg : ((W.alloc o).drew).grownBy wz (Value.slice ra rn rc).ownBlock) :
    wz.frozen? ⟨g, j, none⟩ = false ∧ wz.cell? ⟨g, j, none⟩ = some z ∧ RB wz w.heap.size x0 x1 x2 x3 := by
  have hne : some g ≠ (Value.slice ra rn rc).ownBlock := fun e => HW.apart.2.2 _ (by simp) g e.symm rfl
  have hb1 : ((W.alloc o).drew).heap[g]? = W.heap[g]? := Below.heap_alloc W o g hgl
  have hb2 : wz.heap[g]? = W.heap[g]? := (hg.block g (by simp; omega) hne).trans hb1
  refine ⟨(World.frozen?_of_block hb2).trans hf, (World.cell?_of_block (a := ⟨g, j, none⟩) hb2).trans q2, RB.gb (w := (W.alloc o).drew) (HA.below ((Below.refl _ _).alloc (Nat.le_refl _) o).drew) hg (fun e => ?_)⟩
  have := H.lt w.heap.size (by unfold blks; rw [List.flatMap_cons]; exact List.mem_cons_of_mem _ (List.mem_append_right _ (List.mem_append_left _ (mem_ownB.2 e.symm))))
  omega

theorem PS.cells {w0 w : World} {P : Nat} {l : List UInt8} {F : Fr} {K : List Fr} {g n cap k : Nat} {rv : Value} {R : List Value} (h : PS X w0 w P l (F :: K) (.slice (some ⟨g, 0, none⟩) n cap) (rv :: R)) (hk : K.length = k) (j : Nat) (u : Value) (hu : (frCells F rv)[j]? = some u) : w.cell? ⟨g, k * 6 + j, none⟩ = some u := by
  obtain ⟨g2, cap2, rv2, R2, e1, e2, _, _, _, _, hc2, _⟩ := h.top
  cases e1
  simp only [Value.slice.injEq, Option.some.injEq, Addr.mk.injEq, and_true] at e2
  obtain ⟨rfl, _, _⟩ := e2
  rw [← hk]; exact hc2 j u hu
theorem fr_shape (F : Fr) (a : Option Addr) (n c : Nat) : (∃ la ln lc, frList F (.slice a n c) = .slice la ln lc) ∧ ∃ fa fn fc, frFlds F (.slice a n c) = .slice fa fn fc := by
  obtain ⟨o, els, nm⟩ := F
  cases o
  · exact ⟨⟨a, n, c, rfl⟩, ⟨none, 0, 0, rfl⟩⟩
  · exact ⟨⟨none, 0, 0, rfl⟩, ⟨a, n, c, rfl⟩⟩
/-- The end of a step that answers a value, behind a new block. -/
theorem val_end2 {w0 w W w4 : World} {P : Nat} {r : List UInt8} {K : List Fr} {sv' : Value} {R' : List Value} {v : JV} {fn : Func} {p u : Tmp} {a : Act} {b : Nat} {M : List Nat} {o : Obj} {x0 x1 x2 x3 y0 y1 y2 y3 : Value} (hres : fn.results = #[.cell p 26, .tmp u]) (hWb : Below w.heap.size w W) (hw0 : w0.heap.size ≤ w.heap.size) (hb0 : w.heap.size ≤ b) (hb1 : b < W.heap.size)
    (c4 : Ch (· ∈ M) W w4) (hsub : ∀ x ∈ blks P sv' R', x ∈ M ∨ W.heap.size ≤ x)
    (h4 : PS (newer X w W) w0 w4 P r K sv' R') (hv : LV w4 (free (blks P sv' R') (newer X w W)) v x0 x1 x2 x3)
    (hz : RB w4 b y0 y1 y2 y3) (hp : a.tmps.getD p undef = .pointer (some ⟨b, 0, none⟩)) (hu : a.tmps.getD u undef = .bool true) (hd : a.defers = []) :
    bodyPost Tryz.prog fn (OutPost (X := X) w0 w P M (.val v r K)) .ret a (((((w4.setCell ⟨b, 0, none⟩ x0).setCell ⟨b, 1, none⟩ x1).setCell ⟨b, 2, none⟩ x2).setCell ⟨b, 3, none⟩ x3).alloc o) := by
  have hW := hWb.size
  have hb4 : b < w4.heap.size := hz.lt
  have c5 : Ch (· = b) w4 (((((w4.setCell ⟨b, 0, none⟩ x0).setCell ⟨b, 1, none⟩ x1).setCell ⟨b, 2, none⟩ x2).setCell ⟨b, 3, none⟩ x3).alloc o) :=
    ((Ch.of_gb (gb_set4 w4 b x0 x1 x2 x3)).mono (M' := (· = b)) (fun x _ e => by cases e; rfl)).trans (Ch.of_gb (gb_alloc _ o (some b))) (fun x _ e => by cases e; rfl)
  refine ret_val hres hp hu hd ((hz.set4 x0 x1 x2 x3).below ((Below.refl _ _).alloc (Nat.le_refl _) o)) ⟨((Ch.of_below (M := (· ∈ M)) hWb).trans c4 (fun x _ e => e)).trans c5 (fun x hx e => by subst e; omega), ?_⟩
  refine ⟨x0, x1, x2, x3, sv', R', rfl, (h4.other c5 (fun x e => by subst e; exact .inr ⟨hb0, hb1⟩) (fun x hx e => by subst e; omega)).leave, ?_, fun x hx => ?_⟩
  · exact LV.move (fun x hx hs => ⟨c5.block x hx (fun e => by subst e; exact hs.2 (.inr ⟨hb0, hb1⟩)), free_less hs⟩) v hv
  · rcases hsub x hx with e | e
    · exact .inl e
    · exact .inr (by omega)
theorem fail_end {w0 w W w4 : World} {P : Nat} {fn : Func} {p u : Tmp} {a : Act} {b : Nat} {M : List Nat} {y0 y1 y2 y3 : Value} (hres : fn.results = #[.cell p 26, .tmp u]) (hWb : Below w.heap.size w W) (hb0 : w.heap.size ≤ b)
    (c4 : Ch (· ∈ M) W w4) (hz : RB w4 b y0 y1 y2 y3) (hp : a.tmps.getD p undef = .pointer (some ⟨b, 0, none⟩)) (hu : a.tmps.getD u undef = .bool false) (hd : a.defers = []) :
    bodyPost Tryz.prog fn (OutPost (X := X) w0 w P M .fail) .ret a ((((w4.setCell ⟨b, 0, none⟩ (.int .i64 0)).setCell ⟨b, 1, none⟩ (.string ⟨#[]⟩)).setCell ⟨b, 2, none⟩ (.slice none 0 0)).setCell ⟨b, 3, none⟩ (.slice none 0 0)) := by
  have c5 := (Ch.of_gb (gb_set4 w4 b (.int .i64 0) (.string ⟨#[]⟩) (.slice none 0 0) (.slice none 0 0))).mono (M' := (· = b)) (fun x _ e => by cases e; rfl)
  exact ret_val hres hp hu hd (hz.set4 _ _ _ _) ⟨((Ch.of_below (M := (· ∈ M)) hWb).trans c4 (fun x _ e => e)).trans c5 (fun x hx e => by subst e; omega), _, _, _, _, _, _, _, _, rfl⟩
end Go.Proofs.YtnjikipncgbjjaaGreatDoor

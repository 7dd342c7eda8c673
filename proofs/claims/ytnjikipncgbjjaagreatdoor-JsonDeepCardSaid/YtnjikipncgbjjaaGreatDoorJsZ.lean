/- walk: what its world holds between two rounds; its rounds. -/
import Derived.Test.YtnjikipncgbjjaaGreatDoorJsY
import Derived.WalkSmall
namespace Go.Proofs.YtnjikipncgbjjaaGreatDoor
open Go.RowKit Go.Shelf
attribute [local go_sem] Oper.semAt_some
set_option linter.unusedVariables false
set_option maxRecDepth 100000

theorem PM.grown2 {w w' : World} {row : Option Nat} {b : Nat} {f : Nat × Nat → Option Value} (h : PM w b f) (hg : w.grownBy w' row) (hb : some b ≠ row) (hc : ∀ a, f a ≠ none → some a.1 ≠ row) : PM w' b f := by
  obtain ⟨es, clock, hm, h1, h2, h3⟩ := h
  refine ⟨es, clock, (hg.block b (Array.getElem?_eq_some_iff.1 hm).1 hb).trans hm, fun i e hi => ?_, h2, h3⟩
  obtain ⟨a, ha, hcl, hf⟩ := h1 i e hi
  exact ⟨a, ha, hcl.kept hg (hc a (by rw [hf]; simp)), hf⟩

/-- A node lies in memory: its block is of cells that nothing has frozen; its list and fields lead to what stands in it. -/
def NodeAt {α : Type} (T : Tr α) (ad : α → Nat × Nat) (w : World) (x : α) : Prop :=
  Clean w (ad x).1 ∧ ∃ z1 z2 a2 a3 cap2 cap3, T.kids x = z1 ++ z2 ∧ z1.length ≤ 1099511627776 ∧ z2.length ≤ 1099511627776 ∧ RowAt ad 4 0 a2 z1 ∧ RowAt ad 5 1 a3 z2 ∧
    w.cell? ⟨(ad x).1, (ad x).2 + 2, none⟩ = some (.slice a2 z1.length cap2) ∧ w.cell? ⟨(ad x).1, (ad x).2 + 3, none⟩ = some (.slice a3 z2.length cap3)
theorem NodeAt.kept {α : Type} {T : Tr α} {ad : α → Nat × Nat} {w w' : World} {x : α} {row : Option Nat} (h : NodeAt T ad w x) (hg : w.grownBy w' row) (hne : some (ad x).1 ≠ row) : NodeAt T ad w' x := by
  obtain ⟨hc, z1, z2, a2, a3, cap2, cap3, h1, h2, h3, h4, h5, h6, h7⟩ := h
  exact ⟨hc.kept hg hne, z1, z2, a2, a3, cap2, cap3, h1, h2, h3, h4, h5, hg.cell h6 hne, hg.cell h7 hne⟩

/-- The stack in memory. -/
def rowOf {α : Type} (ad : α → Nat × Nat) (st : List (α × Bool)) : List Value := st.reverse.map fun x => pv (ad x.1)
theorem rowOf_len {α : Type} (ad : α → Nat × Nat) (st : List (α × Bool)) : (rowOf ad st).length = st.length := by simp [rowOf]
theorem rowOf_cons {α : Type} (ad : α → Nat × Nat) (a : α) (b : Bool) (st : List (α × Bool)) : rowOf ad ((a, b) :: st) = rowOf ad st ++ [pv (ad a)] := by simp [rowOf]

/-- The world of walk between two rounds. -/
structure WW {α : Type} (T : Tr α) (ad : α → Nat × Nat) (M : Int) (vf : Value) (tb : Option Nat) (Vis : List α → World → Prop) (w W : World) (st : List (α × Bool)) (f : α → Option Nat) (vs : List α) (G : Nat × Nat → Option Int) (sv : Value) (Ds : List Nat) : Prop where
  b0 : Boxed W w.heap.size 48 vf
  b1 : Boxed W (w.heap.size + 1) 3 (.int .i64 0)
  b3 : Boxed W (w.heap.size + 3) 81 (.map (some (w.heap.size + 2)))
  b5 : Boxed W (w.heap.size + 5) 82 sv
  row : W.ownsRow (w.heap.size + 4) 46 1 sv st.length (rowOf ad st)
  map : PM W (w.heap.size + 2) (fun a => (G a).map (.int .i64))
  mapf : ∀ x, G (ad x) = (f x).map Int.ofNat
  mapb : ∀ a d, G a = some d → (0 ≤ d ∧ d ≤ M) ∧ ∃ x, ad x = a
  vis : Vis vs W
  grown : w.grownBy W tb
  marks : Ds.Nodup ∧ ∀ D ∈ Ds, w.heap.size + 6 ≤ D ∧ W.heap[D]? = some (.deferred (some []))

/-- What walk is handed. -/
structure WH {α : Type} (T : Tr α) (ad : α → Nat × Nat) (M : Int) (g : Nat) (lb : Array Value) (tb : Option Nat) (Vis : List α → World → Prop) (w : World) : Prop where
  inj : ∀ x y, ad x = ad y → x = y
  node : ∀ x, NodeAt T ad w x
  apart : ∀ x, some (ad x).1 ≠ tb
  low : ∀ t, tb = some t → t < w.heap.size
  deep : ∀ x, (T.dep x : Int) ≤ M
  one : 1 ≤ M ∧ M ≤ 1099511627776
  visit : ∀ vs x W, Vis vs W → w.grownBy W tb → Calls Tryz.prog g (#[pv (ad x)] ++ lb) W fun e W' => e = .returned (.tuple #[]) ∧ Vis (vs ++ [x]) W' ∧ W.grownBy W' tb
  keep : ∀ vs W W', Vis vs W → RowKit.Below w.heap.size W W' → Vis vs W'

theorem gb_tr {a b c : World} {row : Option Nat} (h : a.grownBy b row) (k : b.grownBy c row) : a.grownBy c row :=
  ⟨k.os.trans h.os, k.tape.trans h.tape, k.output.trans h.output, Nat.le_trans h.size k.size, fun i hi hn => (k.block i (Nat.lt_of_lt_of_le hi h.size) hn).trans (h.block i hi hn)⟩
theorem gb_new {a b c : World} {row row' : Option Nat} (h : a.grownBy b row) (k : b.grownBy c row') (hr : ∀ j, row' = some j → a.heap.size ≤ j) : a.grownBy c row :=
  ⟨k.os.trans h.os, k.tape.trans h.tape, k.output.trans h.output, Nat.le_trans h.size k.size, fun i hi hn => (k.block i (Nat.lt_of_lt_of_le hi h.size) (fun e => by have := hr i e.symm; omega)).trans (h.block i hi hn)⟩

theorem gb_bel {w W W' : World} {tb : Option Nat} (h : w.grownBy W tb) (b : RowKit.Below w.heap.size W W') : w.grownBy W' tb :=
  ⟨b.os.trans h.os, b.tape.trans h.tape, b.output.trans h.output, Nat.le_trans h.size b.size, fun i hi hn => (b.block i hi).trans (h.block i hi hn)⟩
theorem bel_gb {W W' : World} {n : Nat} {row : Option Nat} (h : W.grownBy W' row) (hn : n ≤ W.heap.size) (hr : ∀ k, row = some k → n ≤ k) : RowKit.Below n W W' := (Below.refl n W).grown h hn hr

/-- What the callee of a visit leaves: all but what was visited is as it was. -/
theorem WW.visited {α : Type} {T : Tr α} {ad : α → Nat × Nat} {M : Int} {g : Nat} {lb : Array Value} {tb : Option Nat} {Vis : List α → World → Prop} {w W W' : World} {vf : Value} {st : List (α × Bool)} {f : α → Option Nat} {vs vs' : List α} {G : Nat × Nat → Option Int} {sv : Value} {Ds : List Nat}
    (hh : WH T ad M g lb tb Vis w) (h : WW T ad M vf tb Vis w W st f vs G sv Ds) (hg : W.grownBy W' tb) (hv : Vis vs' W') : WW T ad M vf tb Vis w W' st f vs' G sv Ds := by
  have hne : ∀ k, w.heap.size ≤ k → some k ≠ tb := fun k hk e => by have := hh.low k e.symm; omega
  refine ⟨h.b0.kept hg (hne _ (Nat.le_refl _)), h.b1.kept hg (hne _ (by omega)), h.b3.kept hg (hne _ (by omega)), h.b5.kept hg (hne _ (by omega)), h.row.kept hg ?_, h.map.grown2 hg (hne _ (by omega)) (fun a ha => ?_), h.mapf, h.mapb, hv, gb_tr h.grown hg, h.marks.1, fun D hD => ⟨(h.marks.2 D hD).1, ?_⟩⟩
  · cases hsv : sv.ownBlock with
    | none => exact .inl rfl
    | some k => exact .inr (hne k (by have := (h.row.lt k hsv).1; omega))
  · cases hG : G a with
    | none => rw [hG] at ha; exact absurd rfl ha
    | some d =>
      obtain ⟨x, rfl⟩ := (h.mapb a d hG).2
      exact hh.apart x
  · have hd := (h.marks.2 D hD).2
    exact (hg.block D (Array.getElem?_eq_some_iff.1 hd).1 (hne D (by have := (h.marks.2 D hD).1; omega))).trans hd
/-- New blocks. -/
theorem WW.newer {α : Type} {T : Tr α} {ad : α → Nat × Nat} {M : Int} {g : Nat} {lb : Array Value} {tb : Option Nat} {Vis : List α → World → Prop} {w W W' : World} {vf : Value} {st : List (α × Bool)} {f : α → Option Nat} {vs : List α} {G : Nat × Nat → Option Int} {sv : Value} {Ds : List Nat}
    (hh : WH T ad M g lb tb Vis w) (h : WW T ad M vf tb Vis w W st f vs G sv Ds) (hg : W.grownBy W' none) : WW T ad M vf tb Vis w W' st f vs G sv Ds := by
  refine ⟨h.b0.kept hg (by simp), h.b1.kept hg (by simp), h.b3.kept hg (by simp), h.b5.kept hg (by simp), h.row.kept hg ?_, h.map.grown2 hg (by simp) (by simp), h.mapf, h.mapb, hh.keep _ _ _ h.vis (bel_gb hg h.grown.size (by simp)), gb_new h.grown hg (by simp), h.marks.1, fun D hD => ⟨(h.marks.2 D hD).1, ?_⟩⟩
  · cases hsv : sv.ownBlock with
    | none => exact .inl rfl
    | some k => exact .inr (by simp)
  · have hd := (h.marks.2 D hD).2
    exact (hg.block D (Array.getElem?_eq_some_iff.1 hd).1 (by simp)).trans hd

/-- The world as walk begins. -/
def wStart (w : World) (vf : Value) (p : Nat × Nat) : World :=
  (((((w.alloc (.cells #[vf] 48)).alloc (.cells #[.int .i64 0] 3)).alloc (.map #[] 0)).alloc (.cells #[.map (some (w.heap.size + 1 + 1))] 81)).alloc (.cells #[.pointer (some ⟨p.1, p.2, none⟩)] 46)).alloc (.cells #[.slice (some ⟨w.heap.size + 1 + 1 + 1 + 1, 0, none⟩) 1 1] 82)
theorem WW.start {α : Type} {T : Tr α} {ad : α → Nat × Nat} {M : Int} {g : Nat} {lb : Array Value} {tb : Option Nat} {Vis : List α → World → Prop} {w : World} (hh : WH T ad M g lb tb Vis w) (vf : Value) (r : α) (hv : Vis [] w) :
    WW T ad M vf tb Vis w (wStart w vf (ad r)) [(r, false)] (fun _ => none) [] (fun _ => none) (.slice (some ⟨w.heap.size + 4, 0, none⟩) 1 1) [] := by
  have sz : (wStart w vf (ad r)).heap.size = w.heap.size + 6 := by simp [wStart]
  have gn : w.grownBy (wStart w vf (ad r)) none := gb_tr (gb_tr (gb_tr (gb_tr (gb_tr (World.grownBy_alloc w _ none) (World.grownBy_alloc _ _ none)) (World.grownBy_alloc _ _ none)) (World.grownBy_alloc _ _ none)) (World.grownBy_alloc _ _ none)) (World.grownBy_alloc _ _ none)
  have h4 : (wStart w vf (ad r)).heap[w.heap.size + 4]? = some (.cells #[pv (ad r)] 46 (0, 0)) := by
    have h := Boxed.new ((((w.alloc (.cells #[vf] 48)).alloc (.cells #[.int .i64 0] 3)).alloc (.map #[] 0)).alloc (.cells #[.map (some (w.heap.size + 1 + 1))] 81)) 46 (pv (ad r))
    simp only [World.size_alloc] at h
    exact h.alloc _
  refine ⟨?_, ?_, ?_, ?_, ⟨by simp [rowOf], .inr ⟨w.heap.size + 4, 1, #[pv (ad r)], rfl, Nat.le_refl _, h4, Nat.le_refl _, by unfold maxLen; omega, rfl, by simp [rowOf]⟩⟩, ?_, ?_, ?_, ?_, ?_, ?_⟩
  · exact (((((Boxed.new w 48 vf).alloc _).alloc _).alloc _).alloc _).alloc _
  · have h := Boxed.new (w.alloc (.cells #[vf] 48)) 3 (.int .i64 0)
    simp only [World.size_alloc] at h
    exact (((h.alloc _).alloc _).alloc _).alloc _
  · have h := Boxed.new (((w.alloc (.cells #[vf] 48)).alloc (.cells #[.int .i64 0] 3)).alloc (.map #[] 0)) 81 (.map (some (w.heap.size + 1 + 1)))
    simp only [World.size_alloc] at h
    exact (h.alloc _).alloc _
  · have h := Boxed.new (((((w.alloc (.cells #[vf] 48)).alloc (.cells #[.int .i64 0] 3)).alloc (.map #[] 0)).alloc (.cells #[.map (some (w.heap.size + 1 + 1))] 81)).alloc (.cells #[.pointer (some ⟨(ad r).1, (ad r).2, none⟩)] 46)) 82 (.slice (some ⟨w.heap.size + 1 + 1 + 1 + 1, 0, none⟩) 1 1)
    simp only [World.size_alloc] at h
    exact h
  · have h := PM.made ((w.alloc (.cells #[vf] 48)).alloc (.cells #[.int .i64 0] 3))
    simp only [World.size_alloc] at h
    exact ((h.grown (World.grownBy_alloc _ _ none) (by simp) (by simp)).grown (World.grownBy_alloc _ _ none) (by simp) (by simp)).grown (World.grownBy_alloc _ _ none) (by simp) (by simp)
  · intro x; rfl
  · intro a d h; cases h
  · exact hh.keep _ _ _ hv (bel_gb gn (Nat.le_refl _) (by simp))
  · exact gb_new (World.grownBy.mk rfl rfl rfl (Nat.le_refl _) (fun _ _ _ => rfl)) gn (by simp)
  · exact ⟨List.nodup_nil, by simp⟩

/-- The stack's slice is stored. -/
theorem WW.stored {α : Type} {T : Tr α} {ad : α → Nat × Nat} {M : Int} {g : Nat} {lb : Array Value} {tb : Option Nat} {Vis : List α → World → Prop} {w W : World} {vf : Value} {st st' : List (α × Bool)} {f : α → Option Nat} {vs : List α} {G : Nat × Nat → Option Int} {sv sv' : Value} {Ds : List Nat}
    (hh : WH T ad M g lb tb Vis w) (h : WW T ad M vf tb Vis w W st f vs G sv Ds) (hr : W.ownsRow (w.heap.size + 4) 46 1 sv' st'.length (rowOf ad st')) :
    WW T ad M vf tb Vis w (W.setCell ⟨w.heap.size + 5, 0, none⟩ sv') st' f vs G sv' Ds := by
  have hg := grownBy_setCell' W (w.heap.size + 5) sv'
  have hbel : RowKit.Below w.heap.size W (W.setCell ⟨w.heap.size + 5, 0, none⟩ sv') := (Below.refl _ W).setCell (p := ⟨w.heap.size + 5, 0, none⟩) (by show w.heap.size ≤ w.heap.size + 5; omega) _
  have ne : ∀ k, k ≠ w.heap.size + 5 → some k ≠ some (w.heap.size + 5) := fun k hk e => hk (Option.some.inj e)
  refine ⟨h.b0.kept hg (ne _ (by omega)), h.b1.kept hg (ne _ (by omega)), h.b3.kept hg (ne _ (by omega)), h.b5.set sv', hr.kept hg (.inr (h.b5.not_row (by decide) hr).symm), h.map.grown2 hg (ne _ (by omega)) (fun a ha => ?_), h.mapf, h.mapb, hh.keep _ _ _ h.vis hbel, gb_bel h.grown hbel, h.marks.1, fun D hD => ⟨(h.marks.2 D hD).1, ?_⟩⟩
  · cases hG : G a with
    | none => rw [hG] at ha; exact absurd rfl ha
    | some d =>
      obtain ⟨x, rfl⟩ := (h.mapb a d hG).2
      obtain ⟨c, t, hx⟩ := (hh.node x).1
      have := (Array.getElem?_eq_some_iff.1 hx).1
      exact ne _ (by omega)
  · have hd := h.marks.2 D hD
    exact (hg.block D (Array.getElem?_eq_some_iff.1 hd.2).1 (ne _ (by omega))).trans hd.2

/-- The map's store. -/
theorem WW.mapped {α : Type} [DecidableEq α] {T : Tr α} {ad : α → Nat × Nat} {M : Int} {g : Nat} {lb : Array Value} {tb : Option Nat} {Vis : List α → World → Prop} {w W W' : World} {vf : Value} {st : List (α × Bool)} {f : α → Option Nat} {vs : List α} {G : Nat × Nat → Option Int} {sv : Value} {Ds : List Nat}
    (hh : WH T ad M g lb tb Vis w) (h : WW T ad M vf tb Vis w W st f vs G sv Ds) (hg : W.grownBy W' (some (w.heap.size + 2))) (a : α) (d : Nat) (hd : (d : Int) ≤ M)
    (hpm : PM W' (w.heap.size + 2) (fun x => if x = ad a then some (.int .i64 (d : Int)) else (G x).map (.int .i64))) :
    WW T ad M vf tb Vis w W' st (fun x => if x = a then some d else f x) vs (fun x => if x = ad a then some (d : Int) else G x) sv Ds := by
  have hbel : RowKit.Below w.heap.size W W' := bel_gb hg h.grown.size (fun k e => by cases e; omega)
  have ne : ∀ k, k ≠ w.heap.size + 2 → some k ≠ some (w.heap.size + 2) := fun k hk e => hk (Option.some.inj e)
  refine ⟨h.b0.kept hg (ne _ (by omega)), h.b1.kept hg (ne _ (by omega)), h.b3.kept hg (ne _ (by omega)), h.b5.kept hg (ne _ (by omega)), h.row.kept hg ?_, ?_, fun x => ?_, fun x e hx => ?_, hh.keep _ _ _ h.vis hbel, gb_bel h.grown hbel, h.marks.1, fun D hD => ⟨(h.marks.2 D hD).1, ?_⟩⟩
  · cases hsv : sv.ownBlock with
    | none => exact .inl rfl
    | some k => exact .inr (ne k (by have := (h.row.lt k hsv).1; omega))
  · have e : (fun x => ((if x = ad a then some (d : Int) else G x).map (Value.int .i64))) = fun x => if x = ad a then some (.int .i64 (d : Int)) else (G x).map (.int .i64) := by
      funext x
      by_cases hx : x = ad a
      · simp [hx]
      · simp [hx]
    rw [e]; exact hpm
  · by_cases hx : x = a
    · subst hx; simp
    · have hne : ad x ≠ ad a := fun e => hx (hh.inj x a e)
      simp only [if_neg hx, if_neg hne]
      exact h.mapf x
  · by_cases hxa : x = ad a
    · rw [if_pos hxa] at hx
      cases hx
      exact ⟨⟨by omega, hd⟩, a, hxa.symm⟩
    · rw [if_neg hxa] at hx
      exact h.mapb x e hx
  · have hd' := h.marks.2 D hD
    exact (hg.block D (Array.getElem?_eq_some_iff.1 hd'.2).1 (ne _ (by omega))).trans hd'.2
end Go.Proofs.YtnjikipncgbjjaaGreatDoor

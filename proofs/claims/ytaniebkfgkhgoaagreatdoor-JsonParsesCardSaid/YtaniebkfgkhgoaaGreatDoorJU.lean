/- Helpers of walk: a loop whose measure lies in what is not seen; the frame's marks at its return; isSingle by cells; bounds. walk: what its world holds between two rounds; its rounds. What a part of the children of a new node lays on the stack, and visits. walk: what is laid on the stack. The nodes of a value in memory. The nodes of a value in memory as what walk walks through. -/
import Derived.Test.YtaniebkfgkhgoaaGreatDoorJT
import Derived.WalkSmall
namespace Go.Proofs.YtaniebkfgkhgoaaGreatDoor
open Go.RowKit Go.Shelf
attribute [local go_sem] Oper.semAt_some
set_option linter.unusedVariables false
set_option maxRecDepth 100000

section
variable {F : Fence} {n : Nat} {P : Program} {Q : Exit → Act → World → Prop} {a : Act} {w : World}
theorem least {p : Nat → Prop} : ∀ k, p k → ∃ k, p k ∧ ∀ j, p j → k ≤ j := by
  intro k
  induction k using Nat.strongRecOn with
  | _ k ih =>
    intro hk
    by_cases h : ∃ j, j < k ∧ p j
    · obtain ⟨j, hj, hp⟩ := h
      exact ih j hj hp
    · exact ⟨k, hk, fun j hj => Nat.le_of_not_lt fun hlt => h ⟨j, hlt, hj⟩⟩
theorem least' {p : Nat → Prop} (h : ∃ k, p k) : ∃ k, p k ∧ ∀ j, p j → k ≤ j := let ⟨k, hk⟩ := h; least k hk
open Classical in
/-- A loop whose invariant bears a number that falls. -/
theorem wpIn_loop_min {c : Code} (I : Nat → Act → World → Prop) (k0 : Nat) (h0 : I k0 a w) (round : ∀ k a w, I k a w → c.wpIn F n P (Exit.then (fun a' w' => ∃ k', k' < k ∧ I k' a' w') Q) a w) : (Code.loop c).wpIn F n P Q a w := by
  refine wpIn_loop (fun a w => ∃ k, I k a w) (fun a w => if h : ∃ k, I k a w then (least' h).choose else 0) ⟨k0, h0⟩ fun a w h => ?_
  refine wpIn_mono (round (least' h).choose a w (least' h).choose_spec.1) fun e a' w' hq => ?_
  cases e with
  | normal =>
    obtain ⟨k', hk, hI⟩ := hq
    refine ⟨⟨k', hI⟩, ?_⟩
    have h' : ∃ k, I k a' w' := ⟨k', hI⟩
    show (if h : ∃ k, I k a' w' then (least' h).choose else 0) < (if h : ∃ k, I k a w then (least' h).choose else 0)
    rw [dif_pos h', dif_pos h]
    exact Nat.lt_of_le_of_lt ((least' h').choose_spec.2 k' hI) hk
  | _ => exact hq

/-- The marks of the rounds' deferred calls are taken, one after another. -/
theorem leaves_coll {fn : Func} {tmps : Array Value} {R : Ending → World → Prop} : ∀ (Ds : List Nat) (w : World), Ds.Nodup → (∀ D ∈ Ds, w.heap[D]? = some (.deferred (some []))) →
    (∀ w', w'.os = w.os → w'.tape = w.tape → w'.output = w.output → w'.heap.size = w.heap.size → (∀ k, k ∉ Ds → w'.heap[k]? = w.heap[k]?) → LeavesInM F n P fn tmps R [] .returning w') →
    LeavesInM F n P fn tmps R (Ds.map fun D => { target := .collected D, args := #[] }) .returning w
  | [], w, _, _, h => h w rfl rfl rfl rfl (fun _ _ => rfl)
  | D :: Ds, w, hn, hd, h => by
    have hD := hd D (by simp)
    obtain ⟨hn1, hn2⟩ := List.nodup_cons.1 hn
    refine ⟨by simp, .inl ⟨D, _, rfl, run_takeDeferred hD, ?_⟩⟩
    refine leaves_coll Ds _ hn2 (fun D' h' => ?_) (fun w' e1 e2 e3 e4 e5 => h w' e1 e2 e3 (by rw [e4]; simp [World.putObj]) (fun k hk => ?_))
    · rw [World.putObj_heap_other (fun e => hn1 (by rw [← e]; exact h'))]
      exact hd D' (by simp [h'])
    · rw [e5 k (fun e => hk (by simp [e]))]
      exact World.putObj_heap_other (fun e => hk (by simp [e]))
end

theorem isSingle_c {w : World} {b o n2 n3 cap2 cap3 : Nat} {a2 a3 : Option Addr} (h2 : w.cell? ⟨b, o + 2, none⟩ = some (.slice a2 n2 cap2)) (h3 : w.cell? ⟨b, o + 3, none⟩ = some (.slice a3 n3 cap3)) :
    Calls Tryz.prog 38 #[.pointer (some ⟨b, o, none⟩)] w (fun e w' => e = .returned (.bool (decide (n2 = 0 ∧ n3 = 0))) ∧ w' = w) := by
  have hd : decide (n2 = 0 ∧ n3 = 0) = (decide ((n2 : Int) = 0) && decide ((n3 : Int) = 0)) := by
    rw [decide_eq_decide.2 (show (n2 = 0 ∧ n3 = 0) ↔ ((n2 : Int) = 0 ∧ (n3 : Int) = 0) by omega), Bool.decide_and]
  rw [hd]
  clear hd
  by_cases hn : (n2 : Int) = 0
  · rw [decide_eq_true hn, Bool.true_and]
    go_enter Tryz.func38, Tryz.ntmps38
    go_wp2_with fail
    go_ret
    exact ⟨rfl, rfl⟩
  · rw [decide_eq_false hn, Bool.false_and]
    have hn' : decide ((n2 : Int) = 0) = false := by simpa using hn
    go_enter Tryz.func38, Tryz.ntmps38
    go_wp2_with fail
    go_ret
    exact ⟨rfl, rfl⟩

theorem grL_bound (G : Nat × Nat → Option Int) (M : Int) (hM : 1 ≤ M) (h : ∀ a d, G a = some d → 0 ≤ d ∧ d ≤ M) : ∀ l : List (Nat × Nat), 0 ≤ grL G l ∧ grL G l ≤ M := by
  have key : ∀ (l : List (Nat × Nat)) (g : Int), 0 ≤ g → g ≤ M → 0 ≤ l.foldl (grD G) g ∧ l.foldl (grD G) g ≤ M := by
    intro l
    induction l with
    | nil => intro g h1 h2; exact ⟨h1, h2⟩
    | cons a l ih =>
      intro g h1 h2
      rw [List.foldl_cons]
      have hg : 0 ≤ (G a).getD 0 ∧ (G a).getD 0 ≤ M := by
        cases hG : G a with
        | none => simp; omega
        | some d => simpa using h a d hG
      exact ih _ (by unfold grD; omega) (by unfold grD; omega)
  exact fun l => key l 0 (by omega) (by omega)
end Go.Proofs.YtaniebkfgkhgoaaGreatDoor

namespace Go.Proofs.YtaniebkfgkhgoaaGreatDoor
open Go.RowKit Go.Shelf
attribute [local go_sem] Oper.semAt_some
set_option linter.unusedVariables false
set_option maxRecDepth 100000

theorem PM.grown2 {w w' : World} {row : Option Nat} {b : Nat} {f : Nat × Nat → Option Value} (h : PM w b f) (hg : w.grownBy w' row) (hb : some b ≠ row) (hc : ∀ a, f a ≠ none → some a.1 ≠ row) : PM w' b f := by
  obtain ⟨es, clock, hm, h1, h2, h3⟩ := h
  refine ⟨es, clock, (hg.block b (Array.getElem?_eq_some_iff.1 hm).1 hb).trans hm, fun i e hi => ?_, h2, h3⟩
  obtain ⟨a, ha, hcl, hf⟩ := h1 i e hi
  exact ⟨a, ha, hcl.kept hg (hc a (by rw [hf]; simp)), hf⟩

/-- A node lies in memory: its block is of cells that nothing has frozen; its list and fields lead to what stands in it. -/
def NodeAt {α : Type} (T : Tr α) (ad : α → Nat × Nat) (w : World) (x : α) : Prop :=
  Clean w (ad x).1 ∧ ∃ z1 z2 a2 a3 cap2 cap3, T.kids x = z1 ++ z2 ∧ z1.length ≤ 1099511627776 ∧ z2.length ≤ 1099511627776 ∧ RowAt ad 4 0 a2 z1 ∧ RowAt ad 5 1 a3 z2 ∧
    w.cell? ⟨(ad x).1, (ad x).2 + 2, none⟩ = some (.slice a2 z1.length cap2) ∧ w.cell? ⟨(ad x).1, (ad x).2 + 3, none⟩ = some (.slice a3 z2.length cap3)
theorem NodeAt.kept {α : Type} {T : Tr α} {ad : α → Nat × Nat} {w w' : World} {x : α} {row : Option Nat} (h : NodeAt T ad w x) (hg : w.grownBy w' row) (hne : some (ad x).1 ≠ row) : NodeAt T ad w' x := by
  obtain ⟨hc, z1, z2, a2, a3, cap2, cap3, h1, h2, h3, h4, h5, h6, h7⟩ := h
  exact ⟨hc.kept hg hne, z1, z2, a2, a3, cap2, cap3, h1, h2, h3, h4, h5, hg.cell h6 hne, hg.cell h7 hne⟩

/-- The stack in memory. -/
def rowOf {α : Type} (ad : α → Nat × Nat) (st : List (α × Bool)) : List Value := st.reverse.map fun x => pv (ad x.1)
theorem rowOf_len {α : Type} (ad : α → Nat × Nat) (st : List (α × Bool)) : (rowOf ad st).length = st.length := by simp [rowOf]
theorem rowOf_cons {α : Type} (ad : α → Nat × Nat) (a : α) (b : Bool) (st : List (α × Bool)) : rowOf ad ((a, b) :: st) = rowOf ad st ++ [pv (ad a)] := by simp [rowOf]

/-- The world of walk between two rounds. -/
structure WW {α : Type} (T : Tr α) (ad : α → Nat × Nat) (M : Int) (vf : Value) (tb : Option Nat) (Vis : List α → World → Prop) (w W : World) (st : List (α × Bool)) (f : α → Option Nat) (vs : List α) (G : Nat × Nat → Option Int) (sv : Value) (Ds : List Nat) : Prop where
  b0 : Boxed W w.heap.size 47 vf
  b1 : Boxed W (w.heap.size + 1) 3 (.int .i64 0)
  b3 : Boxed W (w.heap.size + 3) 80 (.map (some (w.heap.size + 2)))
  b5 : Boxed W (w.heap.size + 5) 81 sv
  row : W.ownsRow (w.heap.size + 4) 45 1 sv st.length (rowOf ad st)
  map : PM W (w.heap.size + 2) (fun a => (G a).map (.int .i64))
  mapf : ∀ x, G (ad x) = (f x).map Int.ofNat
  mapb : ∀ a d, G a = some d → (0 ≤ d ∧ d ≤ M) ∧ ∃ x, ad x = a
  vis : Vis vs W
  grown : w.grownBy W tb
  marks : Ds.Nodup ∧ ∀ D ∈ Ds, w.heap.size + 6 ≤ D ∧ W.heap[D]? = some (.deferred (some []))

/-- What walk is handed. -/
structure WH {α : Type} (T : Tr α) (ad : α → Nat × Nat) (M : Int) (g : Nat) (lb : Array Value) (tb : Option Nat) (Vis : List α → World → Prop) (w : World) : Prop where
  inj : ∀ x y, ad x = ad y → x = y
  node : ∀ x, NodeAt T ad w x
  apart : ∀ x, some (ad x).1 ≠ tb
  low : ∀ t, tb = some t → t < w.heap.size
  deep : ∀ x, (T.dep x : Int) ≤ M
  one : 1 ≤ M ∧ M ≤ 1099511627776
  visit : ∀ vs x W, Vis vs W → w.grownBy W tb → Calls Tryz.prog g (#[pv (ad x)] ++ lb) W fun e W' => e = .returned (.tuple #[]) ∧ Vis (vs ++ [x]) W' ∧ W.grownBy W' tb
  keep : ∀ vs W W', Vis vs W → RowKit.Below w.heap.size W W' → Vis vs W'

theorem gb_tr {a b c : World} {row : Option Nat} (h : a.grownBy b row) (k : b.grownBy c row) : a.grownBy c row :=
  ⟨k.os.trans h.os, k.tape.trans h.tape, k.output.trans h.output, Nat.le_trans h.size k.size, fun i hi hn => (k.block i (Nat.lt_of_lt_of_le hi h.size) hn).trans (h.block i hi hn)⟩
theorem gb_new {a b c : World} {row row' : Option Nat} (h : a.grownBy b row) (k : b.grownBy c row') (hr : ∀ j, row' = some j → a.heap.size ≤ j) : a.grownBy c row :=
  ⟨k.os.trans h.os, k.tape.trans h.tape, k.output.trans h.output, Nat.le_trans h.size k.size, fun i hi hn => (k.block i (Nat.lt_of_lt_of_le hi h.size) (fun e => by have := hr i e.symm; omega)).trans (h.block i hi hn)⟩

theorem gb_bel {w W W' : World} {tb : Option Nat} (h : w.grownBy W tb) (b : RowKit.Below w.heap.size W W') : w.grownBy W' tb :=
  ⟨b.os.trans h.os, b.tape.trans h.tape, b.output.trans h.output, Nat.le_trans h.size b.size, fun i hi hn => (b.block i hi).trans (h.block i hi hn)⟩
theorem bel_gb {W W' : World} {n : Nat} {row : Option Nat} (h : W.grownBy W' row) (hn : n ≤ W.heap.size) (hr : ∀ k, row = some k → n ≤ k) : RowKit.Below n W W' := (Below.refl n W).grown h hn hr

/-- What the callee of a visit leaves: all but what was visited is as it was. -/
theorem WW.visited {α : Type} {T : Tr α} {ad : α → Nat × Nat} {M : Int} {g : Nat} {lb : Array Value} {tb : Option Nat} {Vis : List α → World → Prop} {w W W' : World} {vf : Value} {st : List (α × Bool)} {f : α → Option Nat} {vs vs' : List α} {G : Nat × Nat → Option Int} {sv : Value} {Ds : List Nat}
    (hh : WH T ad M g lb tb Vis w) (h : WW T ad M vf tb Vis w W st f vs G sv Ds) (hg : W.grownBy W' tb) (hv : Vis vs' W') : WW T ad M vf tb Vis w W' st f vs' G sv Ds := by
  have hne : ∀ k, w.heap.size ≤ k → some k ≠ tb := fun k hk e => by have := hh.low k e.symm; omega
  refine ⟨h.b0.kept hg (hne _ (Nat.le_refl _)), h.b1.kept hg (hne _ (by omega)), h.b3.kept hg (hne _ (by omega)), h.b5.kept hg (hne _ (by omega)), h.row.kept hg ?_, h.map.grown2 hg (hne _ (by omega)) (fun a ha => ?_), h.mapf, h.mapb, hv, gb_tr h.grown hg, h.marks.1, fun D hD => ⟨(h.marks.2 D hD).1, ?_⟩⟩
  · cases hsv : sv.ownBlock with
    | none => exact .inl rfl
    | some k => exact .inr (hne k (by have := (h.row.lt k hsv).1; omega))
  · cases hG : G a with
    | none => rw [hG] at ha; exact absurd rfl ha
    | some d =>
      obtain ⟨x, rfl⟩ := (h.mapb a d hG).2
      exact hh.apart x
  · have hd := (h.marks.2 D hD).2
    exact (hg.block D (Array.getElem?_eq_some_iff.1 hd).1 (hne D (by have := (h.marks.2 D hD).1; omega))).trans hd
/-- New blocks. -/
theorem WW.newer {α : Type} {T : Tr α} {ad : α → Nat × Nat} {M : Int} {g : Nat} {lb : Array Value} {tb : Option Nat} {Vis : List α → World → Prop} {w W W' : World} {vf : Value} {st : List (α × Bool)} {f : α → Option Nat} {vs : List α} {G : Nat × Nat → Option Int} {sv : Value} {Ds : List Nat}
    (hh : WH T ad M g lb tb Vis w) (h : WW T ad M vf tb Vis w W st f vs G sv Ds) (hg : W.grownBy W' none) : WW T ad M vf tb Vis w W' st f vs G sv Ds := by
  refine ⟨h.b0.kept hg (by simp), h.b1.kept hg (by simp), h.b3.kept hg (by simp), h.b5.kept hg (by simp), h.row.kept hg ?_, h.map.grown2 hg (by simp) (by simp), h.mapf, h.mapb, hh.keep _ _ _ h.vis (bel_gb hg h.grown.size (by simp)), gb_new h.grown hg (by simp), h.marks.1, fun D hD => ⟨(h.marks.2 D hD).1, ?_⟩⟩
  · cases hsv : sv.ownBlock with
    | none => exact .inl rfl
    | some k => exact .inr (by simp)
  · have hd := (h.marks.2 D hD).2
    exact (hg.block D (Array.getElem?_eq_some_iff.1 hd).1 (by simp)).trans hd

/-- The world as walk begins. -/
def wStart (w : World) (vf : Value) (p : Nat × Nat) : World :=
  (((((w.alloc (.cells #[vf] 47)).alloc (.cells #[.int .i64 0] 3)).alloc (.map #[] 0)).alloc (.cells #[.map (some (w.heap.size + 1 + 1))] 80)).alloc (.cells #[.pointer (some ⟨p.1, p.2, none⟩)] 45)).alloc (.cells #[.slice (some ⟨w.heap.size + 1 + 1 + 1 + 1, 0, none⟩) 1 1] 81)
theorem WW.start {α : Type} {T : Tr α} {ad : α → Nat × Nat} {M : Int} {g : Nat} {lb : Array Value} {tb : Option Nat} {Vis : List α → World → Prop} {w : World} (hh : WH T ad M g lb tb Vis w) (vf : Value) (r : α) (hv : Vis [] w) :
    WW T ad M vf tb Vis w (wStart w vf (ad r)) [(r, false)] (fun _ => none) [] (fun _ => none) (.slice (some ⟨w.heap.size + 4, 0, none⟩) 1 1) [] := by
  have sz : (wStart w vf (ad r)).heap.size = w.heap.size + 6 := by simp [wStart]
  have gn : w.grownBy (wStart w vf (ad r)) none := gb_tr (gb_tr (gb_tr (gb_tr (gb_tr (World.grownBy_alloc w _ none) (World.grownBy_alloc _ _ none)) (World.grownBy_alloc _ _ none)) (World.grownBy_alloc _ _ none)) (World.grownBy_alloc _ _ none)) (World.grownBy_alloc _ _ none)
  have h4 : (wStart w vf (ad r)).heap[w.heap.size + 4]? = some (.cells #[pv (ad r)] 45 (0, 0)) := by
    have h := Boxed.new ((((w.alloc (.cells #[vf] 47)).alloc (.cells #[.int .i64 0] 3)).alloc (.map #[] 0)).alloc (.cells #[.map (some (w.heap.size + 1 + 1))] 80)) 45 (pv (ad r))
    simp only [World.size_alloc] at h
    exact h.alloc _
  refine ⟨?_, ?_, ?_, ?_, ⟨by simp [rowOf], .inr ⟨w.heap.size + 4, 1, #[pv (ad r)], rfl, Nat.le_refl _, h4, Nat.le_refl _, by unfold maxLen; omega, rfl, by simp [rowOf]⟩⟩, ?_, ?_, ?_, ?_, ?_, ?_⟩
  · exact (((((Boxed.new w 47 vf).alloc _).alloc _).alloc _).alloc _).alloc _
  · have h := Boxed.new (w.alloc (.cells #[vf] 47)) 3 (.int .i64 0)
    simp only [World.size_alloc] at h
    exact (((h.alloc _).alloc _).alloc _).alloc _
  · have h := Boxed.new (((w.alloc (.cells #[vf] 47)).alloc (.cells #[.int .i64 0] 3)).alloc (.map #[] 0)) 80 (.map (some (w.heap.size + 1 + 1)))
    simp only [World.size_alloc] at h
    exact (h.alloc _).alloc _
  · have h := Boxed.new (((((w.alloc (.cells #[vf] 47)).alloc (.cells #[.int .i64 0] 3)).alloc (.map #[] 0)).alloc (.cells #[.map (some (w.heap.size + 1 + 1))] 80)).alloc (.cells #[.pointer (some ⟨(ad r).1, (ad r).2, none⟩)] 45)) 81 (.slice (some ⟨w.heap.size + 1 + 1 + 1 + 1, 0, none⟩) 1 1)
    simp only [World.size_alloc] at h
    exact h
  · have h := PM.made ((w.alloc (.cells #[vf] 47)).alloc (.cells #[.int .i64 0] 3))
    simp only [World.size_alloc] at h
    exact ((h.grown (World.grownBy_alloc _ _ none) (by simp) (by simp)).grown (World.grownBy_alloc _ _ none) (by simp) (by simp)).grown (World.grownBy_alloc _ _ none) (by simp) (by simp)
  · intro x; rfl
  · intro a d h; cases h
  · exact hh.keep _ _ _ hv (bel_gb gn (Nat.le_refl _) (by simp))
  · exact gb_new (World.grownBy.mk rfl rfl rfl (Nat.le_refl _) (fun _ _ _ => rfl)) gn (by simp)
  · exact ⟨List.nodup_nil, by simp⟩

/-- The stack's slice is stored. -/
theorem WW.stored {α : Type} {T : Tr α} {ad : α → Nat × Nat} {M : Int} {g : Nat} {lb : Array Value} {tb : Option Nat} {Vis : List α → World → Prop} {w W : World} {vf : Value} {st st' : List (α × Bool)} {f : α → Option Nat} {vs : List α} {G : Nat × Nat → Option Int} {sv sv' : Value} {Ds : List Nat}
    (hh : WH T ad M g lb tb Vis w) (h : WW T ad M vf tb Vis w W st f vs G sv Ds) (hr : W.ownsRow (w.heap.size + 4) 45 1 sv' st'.length (rowOf ad st')) :
    WW T ad M vf tb Vis w (W.setCell ⟨w.heap.size + 5, 0, none⟩ sv') st' f vs G sv' Ds := by
  have hg := grownBy_setCell' W (w.heap.size + 5) sv'
  have hbel : RowKit.Below w.heap.size W (W.setCell ⟨w.heap.size + 5, 0, none⟩ sv') := (Below.refl _ W).setCell (p := ⟨w.heap.size + 5, 0, none⟩) (by show w.heap.size ≤ w.heap.size + 5; omega) _
  have ne : ∀ k, k ≠ w.heap.size + 5 → some k ≠ some (w.heap.size + 5) := fun k hk e => hk (Option.some.inj e)
  refine ⟨h.b0.kept hg (ne _ (by omega)), h.b1.kept hg (ne _ (by omega)), h.b3.kept hg (ne _ (by omega)), h.b5.set sv', hr.kept hg (.inr (h.b5.not_row (by decide) hr).symm), h.map.grown2 hg (ne _ (by omega)) (fun a ha => ?_), h.mapf, h.mapb, hh.keep _ _ _ h.vis hbel, gb_bel h.grown hbel, h.marks.1, fun D hD => ⟨(h.marks.2 D hD).1, ?_⟩⟩
  · cases hG : G a with
    | none => rw [hG] at ha; exact absurd rfl ha
    | some d =>
      obtain ⟨x, rfl⟩ := (h.mapb a d hG).2
      obtain ⟨c, t, hx⟩ := (hh.node x).1
      have := (Array.getElem?_eq_some_iff.1 hx).1
      exact ne _ (by omega)
  · have hd := h.marks.2 D hD
    exact (hg.block D (Array.getElem?_eq_some_iff.1 hd.2).1 (ne _ (by omega))).trans hd.2

/-- The map's store. -/
theorem WW.mapped {α : Type} [DecidableEq α] {T : Tr α} {ad : α → Nat × Nat} {M : Int} {g : Nat} {lb : Array Value} {tb : Option Nat} {Vis : List α → World → Prop} {w W W' : World} {vf : Value} {st : List (α × Bool)} {f : α → Option Nat} {vs : List α} {G : Nat × Nat → Option Int} {sv : Value} {Ds : List Nat}
    (hh : WH T ad M g lb tb Vis w) (h : WW T ad M vf tb Vis w W st f vs G sv Ds) (hg : W.grownBy W' (some (w.heap.size + 2))) (a : α) (d : Nat) (hd : (d : Int) ≤ M)
    (hpm : PM W' (w.heap.size + 2) (fun x => if x = ad a then some (.int .i64 (d : Int)) else (G x).map (.int .i64))) :
    WW T ad M vf tb Vis w W' st (fun x => if x = a then some d else f x) vs (fun x => if x = ad a then some (d : Int) else G x) sv Ds := by
  have hbel : RowKit.Below w.heap.size W W' := bel_gb hg h.grown.size (fun k e => by cases e; omega)
  have ne : ∀ k, k ≠ w.heap.size + 2 → some k ≠ some (w.heap.size + 2) := fun k hk e => hk (Option.some.inj e)
  refine ⟨h.b0.kept hg (ne _ (by omega)), h.b1.kept hg (ne _ (by omega)), h.b3.kept hg (ne _ (by omega)), h.b5.kept hg (ne _ (by omega)), h.row.kept hg ?_, ?_, fun x => ?_, fun x e hx => ?_, hh.keep _ _ _ h.vis hbel, gb_bel h.grown hbel, h.marks.1, fun D hD => ⟨(h.marks.2 D hD).1, ?_⟩⟩
  · cases hsv : sv.ownBlock with
    | none => exact .inl rfl
    | some k => exact .inr (ne k (by have := (h.row.lt k hsv).1; omega))
  · have e : (fun x => ((if x = ad a then some (d : Int) else G x).map (Value.int .i64))) = fun x => if x = ad a then some (.int .i64 (d : Int)) else (G x).map (.int .i64) := by
      funext x
      by_cases hx : x = ad a
      · simp [hx]
      · simp [hx]
    rw [e]; exact hpm
  · by_cases hx : x = a
    · subst hx; simp
    · have hne : ad x ≠ ad a := fun e => hx (hh.inj x a e)
      simp only [if_neg hx, if_neg hne]
      exact h.mapf x
  · by_cases hxa : x = ad a
    · rw [if_pos hxa] at hx
      cases hx
      exact ⟨⟨by omega, hd⟩, a, hxa.symm⟩
    · rw [if_neg hxa] at hx
      exact h.mapb x e hx
  · have hd' := h.marks.2 D hD
    exact (hg.block D (Array.getElem?_eq_some_iff.1 hd'.2).1 (ne _ (by omega))).trans hd'.2
end Go.Proofs.YtaniebkfgkhgoaaGreatDoor

namespace Go.Proofs.YtaniebkfgkhgoaaGreatDoor
open Go.RowKit
set_option linter.unusedVariables false
set_option linter.unusedSectionVars false
section
variable {α : Type} [DecidableEq α] (T : Tr α) (f : α → Option Nat)
def pushedL (l : List α) : List α := l.filter fun c => decide (T.kids c ≠ []) && (f c).isNone
def singlesL (l : List α) : List α := l.filter fun c => decide (T.kids c = [])
theorem pushedL_all (a : α) : pushedL T f (T.kids a) = pushed T f a := rfl
theorem singlesL_all (a : α) : singlesL T (T.kids a) = singles T a := rfl
theorem pushedL_yes (l : List α) (c : α) (h1 : T.kids c ≠ []) (h2 : f c = none) : pushedL T f (l ++ [c]) = pushedL T f l ++ [c] := by
  simp [pushedL, h1, h2]
theorem pushedL_single (l : List α) (c : α) (h : T.kids c = []) : pushedL T f (l ++ [c]) = pushedL T f l := by
  simp [pushedL, h]
theorem pushedL_met (l : List α) (c : α) (n : Nat) (h : f c = some n) : pushedL T f (l ++ [c]) = pushedL T f l := by
  simp [pushedL, h]
theorem singlesL_yes (l : List α) (c : α) (h : T.kids c = []) : singlesL T (l ++ [c]) = singlesL T l ++ [c] := by
  simp [singlesL, h]
theorem singlesL_no (l : List α) (c : α) (h : T.kids c ≠ []) : singlesL T (l ++ [c]) = singlesL T l := by
  simp [singlesL, h]
/-- The stack while a new node's children come. -/
def stL (a : α) (tl : List (α × Bool)) (l : List α) : List (α × Bool) := ((pushedL T f l).reverse.map fun c => (c, false)) ++ (a, true) :: tl
theorem stL_nil (a : α) (tl : List (α × Bool)) : stL T f a tl [] = (a, true) :: tl := rfl
theorem stL_all (a : α) (tl : List (α × Bool)) : stL T f a tl (T.kids a) = ((pushed T f a).reverse.map fun c => (c, false)) ++ (a, true) :: tl := rfl
theorem stL_yes (a : α) (tl : List (α × Bool)) (l : List α) (c : α) (h1 : T.kids c ≠ []) (h2 : f c = none) : stL T f a tl (l ++ [c]) = (c, false) :: stL T f a tl l := by
  unfold stL; rw [pushedL_yes T f l c h1 h2]; simp
theorem stL_single (a : α) (tl : List (α × Bool)) (l : List α) (c : α) (h : T.kids c = []) : stL T f a tl (l ++ [c]) = stL T f a tl l := by
  unfold stL; rw [pushedL_single T f l c h]
theorem stL_met (a : α) (tl : List (α × Bool)) (l : List α) (c : α) (n : Nat) (h : f c = some n) : stL T f a tl (l ++ [c]) = stL T f a tl l := by
  unfold stL; rw [pushedL_met T f l c n h]
end

/-- A new mark. -/
theorem WW.mark {α : Type} {T : Tr α} {ad : α → Nat × Nat} {M : Int} {tb : Option Nat} {Vis : List α → World → Prop} {w W : World} {vf : Value} {st : List (α × Bool)} {f : α → Option Nat} {vs : List α} {G : Nat × Nat → Option Int} {sv : Value} {Ds : List Nat}
    (h : WW T ad M vf tb Vis w W st f vs G sv Ds) (D : Nat) (hD : w.heap.size + 6 ≤ D) (hn : D ∉ Ds) (hd : W.heap[D]? = some (.deferred (some []))) : WW T ad M vf tb Vis w W st f vs G sv (D :: Ds) :=
  ⟨h.b0, h.b1, h.b3, h.b5, h.row, h.map, h.mapf, h.mapb, h.vis, h.grown, List.nodup_cons.2 ⟨hn, h.marks.1⟩, fun D' h' => by
    rcases List.mem_cons.1 h' with e | e
    · subst e; exact ⟨hD, hd⟩
    · exact h.marks.2 D' e⟩
/-- A block beyond the start's that is no cells is turned, and is none of the marks: what a law of a range over a function turns. -/
theorem WW.turned {α : Type} {T : Tr α} {ad : α → Nat × Nat} {M : Int} {g : Nat} {lb : Array Value} {tb : Option Nat} {Vis : List α → World → Prop} {w W W' : World} {vf : Value} {st : List (α × Bool)} {f : α → Option Nat} {vs : List α} {G : Nat × Nat → Option Int} {sv : Value} {Ds : List Nat} {row : Option Nat}
    (hh : WH T ad M g lb tb Vis w) (h : WW T ad M vf tb Vis w W st f vs G sv Ds) (hg : W.grownBy W' row) (hr : ∀ k, row = some k → w.heap.size + 6 ≤ k ∧ k ∉ Ds ∧ ∃ o : Obj, W.heap[k]? = some o ∧ o.isCells = false) : WW T ad M vf tb Vis w W' st f vs G sv Ds := by
  have ne : ∀ k, k < w.heap.size + 6 → some k ≠ row := fun k hk e => by have := (hr k e.symm).1; omega
  have hbel : RowKit.Below w.heap.size W W' := bel_gb hg h.grown.size (fun k e => by have := (hr k e).1; omega)
  refine ⟨h.b0.kept hg (ne _ (by omega)), h.b1.kept hg (ne _ (by omega)), h.b3.kept hg (ne _ (by omega)), h.b5.kept hg (ne _ (by omega)), h.row.kept hg ?_, h.map.grown2 hg (ne _ (by omega)) (fun a ha => ?_), h.mapf, h.mapb, hh.keep _ _ _ h.vis hbel, gb_bel h.grown hbel, h.marks.1, fun D hD => ⟨(h.marks.2 D hD).1, ?_⟩⟩
  · rcases h.row.2 with ⟨e, _⟩ | ⟨b, cap, cur, e, _, hb, _⟩
    · exact .inl (by rw [e]; rfl)
    · refine .inr fun e' => ?_
      rw [e] at e'
      obtain ⟨_, _, o, ho, hc⟩ := hr b e'.symm
      rw [hb] at ho; cases ho; cases hc
  · cases hG : G a with
    | none => rw [hG] at ha; exact absurd rfl ha
    | some d =>
      obtain ⟨x, rfl⟩ := (h.mapb a d hG).2
      obtain ⟨c, t, hx⟩ := (hh.node x).1
      have := (Array.getElem?_eq_some_iff.1 hx).1
      exact ne _ (by omega)
  · have hd := h.marks.2 D hD
    exact (hg.block D (Array.getElem?_eq_some_iff.1 hd.2).1 (fun e => (hr D e.symm).2.1 hD)).trans hd.2
end Go.Proofs.YtaniebkfgkhgoaaGreatDoor

namespace Go.Proofs.YtaniebkfgkhgoaaGreatDoor
open Go.RowKit Go.Shelf
set_option linter.unusedVariables false
set_option linter.unusedSectionVars false

theorem info_pv : (Tryz.prog.info? 45).map (fun i => (i.zero, i.size, i.bytes)) = some (some (.pointer none), 1, 8) := by kernel_rfl

/-- What lies on the stack costs at least one each. -/
theorem length_le_wLeft {α : Type} [DecidableEq α] (T : Tr α) : ∀ st : List (α × Bool), st.length ≤ wLeft T st
  | [] => Nat.le_refl _
  | (a, b) :: st => by
    have h1 := length_le_wLeft T st
    have h2 := work_pos T a
    unfold wLeft at h1 ⊢
    cases b <;> simp <;> omega
theorem stL_length {α : Type} [DecidableEq α] (T : Tr α) (f : α → Option Nat) (a : α) (tl : List (α × Bool)) (l : List α) : (stL T f a tl l).length ≤ l.length + 1 + tl.length := by
  have : (pushedL T f l).length ≤ l.length := List.length_filter_le _ _
  unfold stL
  simp only [List.length_append, List.length_map, List.length_reverse, List.length_cons]
  omega
theorem stL_pos {α : Type} [DecidableEq α] (T : Tr α) (f : α → Option Nat) (a : α) (tl : List (α × Bool)) (l : List α) : 1 ≤ (stL T f a tl l).length := by
  unfold stL
  simp only [List.length_append, List.length_map, List.length_reverse, List.length_cons]
  omega

/-- A row of two cells at the least is no block of one cell. -/
theorem row_not_one {W : World} {base : Nat} {e t : TypeId} {v u : Value} {k : Nat} {xs : List Value} {B : Nat} {ft : Nat × Nat} (hr : W.ownsRow base e 1 v k xs) (hk : 2 ≤ k) (hB : W.heap[B]? = some (.cells #[u] t ft)) : v.ownBlock ≠ some B := by
  rcases hr.2 with ⟨_, e0⟩ | ⟨g, cap, cur, rfl, _, hgb, hn, _, hs, _⟩
  · omega
  · intro e'
    obtain rfl : g = B := by simpa [Value.ownBlock] using e'
    rw [hB] at hgb
    cases hgb
    simp at hs
    omega

/-- Whether the top is open is not seen. -/
theorem WW.flag {α : Type} {T : Tr α} {ad : α → Nat × Nat} {M : Int} {tb : Option Nat} {Vis : List α → World → Prop} {w W : World} {vf : Value} {a : α} {b : Bool} {st : List (α × Bool)} {f : α → Option Nat} {vs : List α} {G : Nat × Nat → Option Int} {sv : Value} {Ds : List Nat}
    (h : WW T ad M vf tb Vis w W ((a, b) :: st) f vs G sv Ds) (b' : Bool) : WW T ad M vf tb Vis w W ((a, b') :: st) f vs G sv Ds :=
  ⟨h.b0, h.b1, h.b3, h.b5, by have := h.row; rw [rowOf_cons] at this ⊢; exact this, h.map, h.mapf, h.mapb, h.vis, h.grown, h.marks⟩

/-- One is laid on the stack. -/
theorem WW.pushed {α : Type} {T : Tr α} {ad : α → Nat × Nat} {M : Int} {g : Nat} {lb : Array Value} {tb : Option Nat} {Vis : List α → World → Prop} {w W w1 : World} {vf : Value} {st : List (α × Bool)} {f : α → Option Nat} {vs : List α} {G : Nat × Nat → Option Int} {sv v' : Value} {Ds : List Nat}
    (hh : WH T ad M g lb tb Vis w) (h : WW T ad M vf tb Vis w W st f vs G sv Ds) (x : α) (b : Bool) (o : Obj) (hown : w1.ownsRow (w.heap.size + 4) 45 1 v' (st.length + 1) (rowOf ad st ++ [pv (ad x)])) (hgrow : (W.alloc o).grownBy w1 sv.ownBlock) :
    WW T ad M vf tb Vis w (w1.setCell ⟨w.heap.size + 5, 0, none⟩ v') ((x, b) :: st) f vs G v' Ds := by
  have h1 := h.newer hh (World.grownBy_alloc W o none)
  have hob : ∀ k, sv.ownBlock = some k → w.heap.size + 4 ≤ k ∧ ∃ cs ft, (W.alloc o).heap[k]? = some (.cells cs 45 ft) := fun k hk => by
    rcases h1.row.2 with ⟨e, _⟩ | ⟨g, cap, cur, e, hb, hgb, _⟩
    · rw [e] at hk; simp [Value.ownBlock] at hk
    · rw [e] at hk
      obtain rfl : g = k := by simpa [Value.ownBlock] using hk
      exact ⟨hb, _, _, hgb⟩
  have hb2 : RowKit.Below w.heap.size (W.alloc o) w1 := bel_gb hgrow h1.grown.size (fun k e => by have := (hob k e).1; omega)
  have hg := grownBy_setCell' w1 (w.heap.size + 5) v'
  have hb3 : RowKit.Below w.heap.size w1 (w1.setCell ⟨w.heap.size + 5, 0, none⟩ v') := (Below.refl _ w1).setCell (p := ⟨w.heap.size + 5, 0, none⟩) (by show w.heap.size ≤ w.heap.size + 5; omega) _
  have ne : ∀ k, k ≠ w.heap.size + 5 → some k ≠ some (w.heap.size + 5) := fun k hk e => hk (Option.some.inj e)
  have b5 : Boxed w1 (w.heap.size + 5) 81 sv := h1.b5.kept hgrow (h1.b5.not_row (by decide) h1.row)
  refine ⟨(h1.b0.kept hgrow (h1.b0.not_row (by decide) h1.row)).kept hg (ne _ (by omega)), (h1.b1.kept hgrow (h1.b1.not_row (by decide) h1.row)).kept hg (ne _ (by omega)), (h1.b3.kept hgrow (h1.b3.not_row (by decide) h1.row)).kept hg (ne _ (by omega)), b5.set v',
    ?_, (h1.map.grown2 hgrow ?_ (fun a ha => ?_)).grown2 hg (ne _ (by omega)) (fun a ha => ?_), h1.mapf, h1.mapb, hh.keep _ _ _ h1.vis (hb2.trans hb3), gb_bel h1.grown (hb2.trans hb3), h1.marks.1, fun D hD => ⟨(h1.marks.2 D hD).1, ?_⟩⟩
  · rw [rowOf_cons]
    exact hown.kept hg (.inr (b5.set v' |> fun _ => (b5.not_row (by decide) hown).symm))
  · intro e
    obtain ⟨_, cs, ft, hc⟩ := hob _ e.symm
    obtain ⟨es, clock, hm, _⟩ := h1.map
    rw [hm] at hc; cases hc
  · cases hG : G a with
    | none => rw [hG] at ha; exact absurd rfl ha
    | some d =>
      obtain ⟨y, rfl⟩ := (h1.mapb a d hG).2
      obtain ⟨c, t, hx⟩ := (hh.node y).1
      have := (Array.getElem?_eq_some_iff.1 hx).1
      intro e
      have := (hob _ e.symm).1
      omega
  · cases hG : G a with
    | none => rw [hG] at ha; exact absurd rfl ha
    | some d =>
      obtain ⟨y, rfl⟩ := (h1.mapb a d hG).2
      obtain ⟨c, t, hx⟩ := (hh.node y).1
      have := (Array.getElem?_eq_some_iff.1 hx).1
      exact ne _ (by omega)
  · have hd := h1.marks.2 D hD
    have hD1 : some D ≠ sv.ownBlock := fun e => by
      obtain ⟨_, cs, ft, hc⟩ := hob _ e.symm
      rw [hd.2] at hc; cases hc
    have hd1 := (hgrow.block D (Array.getElem?_eq_some_iff.1 hd.2).1 hD1).trans hd.2
    refine (hg.block D (Array.getElem?_eq_some_iff.1 hd1).1 (ne _ (by omega))).trans hd1
end Go.Proofs.YtaniebkfgkhgoaaGreatDoor

namespace Go.Proofs.YtaniebkfgkhgoaaGreatDoor
open Go.RowKit
set_option linter.unusedVariables false
set_option linter.unusedSectionVars false

/-- What stands in a value, with itself. -/
inductive JV.In (v : JV) : JV → Prop
  | root : JV.In v v
  | list {a u : JV} : JV.In v a → u ∈ a.list → JV.In v u
  | field {a : JV} {p : ByteArray × JV} : JV.In v a → p ∈ a.fields → JV.In v p.2
theorem JV.In.trans {v u x : JV} (h : JV.In v u) (k : JV.In u x) : JV.In v x := by
  induction k with
  | root => exact h
  | list _ hu ih => exact ih.list hu
  | field _ hp ih => exact ih.field hp
theorem JV.In.size {v u : JV} (h : JV.In v u) : u.size ≤ v.size := by
  induction h with
  | root => exact Nat.le_refl _
  | list _ hu ih => have := JV.size_list hu; omega
  | field _ hp ih => have := JV.size_field hp; omega
theorem JV.in_cases {v u : JV} (h : JV.In v u) : u = v ∨ (∃ x ∈ v.list, JV.In x u) ∨ ∃ p ∈ v.fields, JV.In p.2 u := by
  induction h with
  | root => exact .inl rfl
  | @list a u _ hu ih =>
    rcases ih with rfl | ⟨x, hx, hi⟩ | ⟨p, hp, hi⟩
    · exact .inr (.inl ⟨u, hu, .root⟩)
    · exact .inr (.inl ⟨x, hx, hi.list hu⟩)
    · exact .inr (.inr ⟨p, hp, hi.list hu⟩)
  | @field a q _ hq ih =>
    rcases ih with rfl | ⟨x, hx, hi⟩ | ⟨p, hp, hi⟩
    · exact .inr (.inr ⟨q, hq, .root⟩)
    · exact .inr (.inl ⟨x, hx, hi.field hq⟩)
    · exact .inr (.inr ⟨p, hp, hi.field hq⟩)
theorem JV.length_list (v : JV) : v.list.length < v.size ∧ v.fields.length < v.size := by
  obtain ⟨k, t, l, f⟩ := v
  have h1 : ∀ l : List JV, l.length ≤ JV.sizeL l := by
    intro l
    induction l with
    | nil => exact Nat.le_refl _
    | cons x l ih => have := x.size_pos; simp only [JV.sizeL, List.length_cons]; omega
  have h2 : ∀ l : List (ByteArray × JV), l.length ≤ JV.sizeF l := by
    intro l
    induction l with
    | nil => exact Nat.le_refl _
    | cons x l ih => obtain ⟨n, x⟩ := x; have := x.size_pos; simp only [JV.sizeF, List.length_cons]; omega
  have := h1 l
  have := h2 f
  simp only [JV.size, JV.list, JV.fields]
  omega
theorem JV.depth_le_size (v : JV) : v.depth ≤ v.size := by
  induction v using JV.ind with
  | h v h1 h2 =>
    obtain ⟨k, t, l, f⟩ := v
    simp only [JV.list, JV.fields] at h1 h2
    have a1 : ∀ l : List JV, (∀ u ∈ l, u.depth ≤ u.size) → JV.depthL l ≤ JV.sizeL l := by
      intro l
      induction l with
      | nil => intro _; exact Nat.le_refl _
      | cons x l ih => intro h; have := ih (fun u hu => h u (by simp [hu])); have := h x (by simp); simp only [JV.sizeL, JV.depthL]; omega
    have a2 : ∀ l : List (ByteArray × JV), (∀ p ∈ l, p.2.depth ≤ p.2.size) → JV.depthF l ≤ JV.sizeF l := by
      intro l
      induction l with
      | nil => intro _; exact Nat.le_refl _
      | cons x l ih => intro h; obtain ⟨n, x⟩ := x; have := ih (fun u hu => h u (by simp [hu])); have := h (n, x) (by simp); simp only [JV.sizeF, JV.depthF]; simp only at this; omega
    have := a1 l h1
    have := a2 f h2
    simp only [JV.depth, JV.size]
    omega

/-! ### A value's address tells the value -/
section
variable {w : World} {S : Nat → Prop}
theorem LAt.inj : ∀ (v u : JV) {b o : Nat}, LAt w S v b o → LAt w S u b o → v = u := by
  intro v
  induction v using JV.ind with
  | h v h1 h2 =>
    intro u b o hv hu
    obtain ⟨k, t, l, f⟩ := v
    obtain ⟨k', t', l', f'⟩ := u
    obtain ⟨c0, c1, c2, c3, p0, p1, p2, p3, hv⟩ := hv
    obtain ⟨d0, d1, d2, d3, q0, q1, q2, q3, hu⟩ := hu
    rw [p0] at q0; rw [p1] at q1; rw [p2] at q2; rw [p3] at q3
    cases q0; cases q1; cases q2; cases q3
    simp only [LV] at hv hu
    obtain ⟨e0, e1, ⟨a, cap, e2, e3⟩, ⟨a', cap', e4, e5⟩⟩ := hv
    obtain ⟨g0, g1, ⟨a2, cap2, g2, g3⟩, ⟨a2', cap2', g4, g5⟩⟩ := hu
    rw [e0] at g0; rw [e1] at g1; rw [e2] at g2; rw [e4] at g4
    simp only [Value.int.injEq, true_and] at g0
    simp only [Value.string.injEq] at g1
    simp only [Value.slice.injEq] at g2 g4
    obtain ⟨rfl, hl, -⟩ := g2
    obtain ⟨rfl, hf, -⟩ := g4
    subst g0; subst g1
    simp only [JV.list, JV.fields] at h1 h2
    have el : l = l' := by
      rcases e3 with e3 | ⟨b2, o2, ha, _, hl2⟩
      · subst e3; exact (List.length_eq_zero_iff.1 (by simpa using hl.symm)).symm
      · rcases g3 with g3 | ⟨b3, o3, ha', _, hl3⟩
        · subst g3; exact List.length_eq_zero_iff.1 (by simpa using hl)
        · rw [ha] at ha'
          simp only [Option.some.injEq, Addr.mk.injEq, and_true] at ha'
          obtain ⟨rfl, rfl⟩ := ha'
          refine List.ext_getElem hl fun i hi1 hi2 => ?_
          exact h1 _ (List.getElem_mem hi1) _ (hl2.at l i _ (List.getElem?_eq_getElem hi1)) (hl3.at l' i _ (List.getElem?_eq_getElem hi2))
    have ef : f = f' := by
      rcases e5 with e5 | ⟨b2, o2, ha, _, hl2⟩
      · subst e5; exact (List.length_eq_zero_iff.1 (by simpa using hf.symm)).symm
      · rcases g5 with g5 | ⟨b3, o3, ha', _, hl3⟩
        · subst g5; exact List.length_eq_zero_iff.1 (by simpa using hf)
        · rw [ha] at ha'
          simp only [Option.some.injEq, Addr.mk.injEq, and_true] at ha'
          obtain ⟨rfl, rfl⟩ := ha'
          refine List.ext_getElem hf fun i hi1 hi2 => ?_
          obtain ⟨x1, x2⟩ := hl2.at f i _ (List.getElem?_eq_getElem hi1)
          obtain ⟨y1, y2⟩ := hl3.at f' i _ (List.getElem?_eq_getElem hi2)
          rw [x1] at y1
          simp only [Option.some.injEq, Value.string.injEq] at y1
          exact Prod.ext y1 (h2 _ (List.getElem_mem hi1) _ x2 y2)
    rw [el, ef]
end

/-! ### The nodes -/
/-- Where the row of a slice begins. -/
def slOf (w : World) (b o : Nat) : Nat × Nat := match w.cell? ⟨b, o, none⟩ with
  | some (.slice (some a) _ _) => (a.block, a.off)
  | _ => (0, 0)
theorem slOf_eq {w : World} {b o b2 o2 n c : Nat} (h : w.cell? ⟨b, o, none⟩ = some (.slice (some ⟨b2, o2, none⟩) n c)) : slOf w b o = (b2, o2) := by unfold slOf; rw [h]
abbrev Nd := (Nat × Nat) × JV
def kidL (w : World) (p : Nd) : List Nd := p.2.list.zipIdx.map fun q => (((slOf w p.1.1 (p.1.2 + 2)).1, (slOf w p.1.1 (p.1.2 + 2)).2 + q.2 * 4 + 0), q.1)
def kidF (w : World) (p : Nd) : List Nd := p.2.fields.zipIdx.map fun q => (((slOf w p.1.1 (p.1.2 + 3)).1, (slOf w p.1.1 (p.1.2 + 3)).2 + q.2 * 5 + 1), q.1.2)
/-- What a node is: a value that stands in v, where it lies. -/
def NdOk (v : JV) (w : World) (S : Nat → Prop) (tb : Option Nat) (p : Nd) : Prop := JV.In v p.2 ∧ LAt w S p.2 p.1.1 p.1.2 ∧ Clean w p.1.1 ∧ some p.1.1 ≠ tb

section
variable {v : JV} {w : World} {S : Nat → Prop} {tb : Option Nat}
theorem LAt.row2 {u : JV} {b o : Nat} (h : LAt w S u b o) : ∃ a cap, w.cell? ⟨b, o + 2, none⟩ = some (.slice a u.list.length cap) ∧ (u.list = [] ∨ ∃ b2 o2, a = some ⟨b2, o2, none⟩ ∧ (S b2 ∧ Clean w b2) ∧ LVs w S b2 o2 u.list) := by
  obtain ⟨k, t, l, f⟩ := u
  obtain ⟨c0, c1, c2, c3, p0, p1, p2, p3, hv⟩ := h
  simp only [LV] at hv
  obtain ⟨e0, e1, ⟨a, cap, e2, e3⟩, ⟨a', cap', e4, e5⟩⟩ := hv
  exact ⟨a, cap, by rw [p2, e2]; rfl, e3⟩
theorem LAt.row3 {u : JV} {b o : Nat} (h : LAt w S u b o) : ∃ a cap, w.cell? ⟨b, o + 3, none⟩ = some (.slice a u.fields.length cap) ∧ (u.fields = [] ∨ ∃ b2 o2, a = some ⟨b2, o2, none⟩ ∧ (S b2 ∧ Clean w b2) ∧ LFs w S b2 o2 u.fields) := by
  obtain ⟨k, t, l, f⟩ := u
  obtain ⟨c0, c1, c2, c3, p0, p1, p2, p3, hv⟩ := h
  simp only [LV] at hv
  obtain ⟨e0, e1, ⟨a, cap, e2, e3⟩, ⟨a', cap', e4, e5⟩⟩ := hv
  exact ⟨a', cap', by rw [p3, e4]; rfl, e5⟩
theorem kidL_ok (hS : ∀ b, S b → some b ≠ tb) {p : Nd} (h : NdOk v w S tb p) : ∀ q ∈ kidL w p, NdOk v w S tb q := by
  intro q hq
  obtain ⟨⟨u, i⟩, hx, rfl⟩ := List.mem_map.1 hq
  have hi := List.mem_zipIdx_iff_getElem?.1 hx
  simp only at hi
  obtain ⟨hin, hat, hc, hn⟩ := h
  obtain ⟨a, cap, h2, h3⟩ := hat.row2
  rcases h3 with h3 | ⟨b2, o2, rfl, ⟨hs, hcl⟩, hl⟩
  · rw [h3] at hi; simp at hi
  · have hsl := slOf_eq h2
    rw [hsl]
    refine ⟨hin.list (List.mem_of_getElem? hi), ?_, hcl, hS b2 hs⟩
    have := hl.at _ i u hi
    rw [show o2 + i * 4 + 0 = o2 + 4 * i by omega]
    exact this
theorem kidF_ok (hS : ∀ b, S b → some b ≠ tb) {p : Nd} (h : NdOk v w S tb p) : ∀ q ∈ kidF w p, NdOk v w S tb q := by
  intro q hq
  obtain ⟨⟨u, i⟩, hx, rfl⟩ := List.mem_map.1 hq
  have hi := List.mem_zipIdx_iff_getElem?.1 hx
  simp only at hi
  obtain ⟨hin, hat, hc, hn⟩ := h
  obtain ⟨a, cap, h2, h3⟩ := hat.row3
  rcases h3 with h3 | ⟨b2, o2, rfl, ⟨hs, hcl⟩, hl⟩
  · rw [h3] at hi; simp at hi
  · have hsl := slOf_eq h2
    rw [hsl]
    refine ⟨hin.field (List.mem_of_getElem? hi), ?_, hcl, hS b2 hs⟩
    have := (hl.at _ i u hi).2
    rw [show o2 + i * 5 + 1 = o2 + 5 * i + 1 by omega]
    exact this
end
end Go.Proofs.YtaniebkfgkhgoaaGreatDoor

namespace Go.Proofs.YtaniebkfgkhgoaaGreatDoor
open Go.RowKit
set_option linter.unusedVariables false
set_option linter.unusedSectionVars false

theorem kidL_snd (w : World) (p : Nd) : (kidL w p).map (·.2) = p.2.list := by
  unfold kidL
  rw [List.map_map]
  exact List.zipIdx_map_fst 0 _
theorem kidF_snd (w : World) (p : Nd) : (kidF w p).map (·.2) = p.2.fields.map (·.2) := by
  unfold kidF
  rw [List.map_map]
  have : ((fun x : Nd => x.2) ∘ fun q : (ByteArray × JV) × Nat => (((slOf w p.1.1 (p.1.2 + 3)).1, (slOf w p.1.1 (p.1.2 + 3)).2 + q.2 * 5 + 1), q.1.2)) = (fun q : ByteArray × JV => q.2) ∘ Prod.fst := rfl
  rw [this, ← List.map_map, List.zipIdx_map_fst]
theorem kidL_len (w : World) (p : Nd) : (kidL w p).length = p.2.list.length := by rw [← kidL_snd w p, List.length_map]
theorem kidF_len (w : World) (p : Nd) : (kidF w p).length = p.2.fields.length := by rw [← List.length_map (f := fun x : Nd => x.2), kidF_snd, List.length_map]

theorem depthL_fold : ∀ (l : List JV) (g : Nat), l.foldl (fun g u => max g u.depth) g = max g (JV.depthL l)
  | [], g => by simp [JV.depthL]
  | x :: r, g => by rw [List.foldl_cons, depthL_fold r]; simp only [JV.depthL]; omega
theorem depthF_fold : ∀ (l : List (ByteArray × JV)) (g : Nat), (l.map (·.2)).foldl (fun g u => max g u.depth) g = max g (JV.depthF l)
  | [], g => by simp [JV.depthF]
  | (n, x) :: r, g => by rw [List.map_cons, List.foldl_cons, depthF_fold r]; simp only [JV.depthF]; omega
theorem sizeL_sum : ∀ l : List JV, (l.map fun u => 2 * u.size).sum = 2 * JV.sizeL l
  | [] => rfl
  | x :: r => by simp only [List.map_cons, List.sum_cons, sizeL_sum r, JV.sizeL]; omega
theorem sizeF_sum : ∀ l : List (ByteArray × JV), ((l.map (·.2)).map fun u => 2 * u.size).sum = 2 * JV.sizeF l
  | [] => rfl
  | (n, x) :: r => by simp only [List.map_cons, List.sum_cons, sizeF_sum r, JV.sizeF]; omega

section
variable (v : JV) (w : World) (S : Nat → Prop) (tb : Option Nat) (hS : ∀ b, S b → some b ≠ tb)
abbrev NdT := { p : Nd // NdOk v w S tb p }
def kidsL (a : NdT v w S tb) : List (NdT v w S tb) := (kidL w a.1).pmap Subtype.mk (kidL_ok hS a.2)
def kidsF (a : NdT v w S tb) : List (NdT v w S tb) := (kidF w a.1).pmap Subtype.mk (kidF_ok hS a.2)
theorem kidsL_snd (a : NdT v w S tb) : (kidsL v w S tb hS a).map (fun c => c.1.2) = a.1.2.list := by
  unfold kidsL
  rw [List.map_pmap, List.pmap_eq_map]
  exact kidL_snd w a.1
theorem kidsF_snd (a : NdT v w S tb) : (kidsF v w S tb hS a).map (fun c => c.1.2) = a.1.2.fields.map (·.2) := by
  unfold kidsF
  rw [List.map_pmap, List.pmap_eq_map]
  exact kidF_snd w a.1
theorem kidsL_get (a : NdT v w S tb) (j : Nat) (hj : j < (kidsL v w S tb hS a).length) (hj' : j < (kidL w a.1).length) : ((kidsL v w S tb hS a)[j]).1 = (kidL w a.1)[j] := by
  simp only [kidsL, List.getElem_pmap]
theorem kidsF_get (a : NdT v w S tb) (j : Nat) (hj : j < (kidsF v w S tb hS a).length) (hj' : j < (kidF w a.1).length) : ((kidsF v w S tb hS a)[j]).1 = (kidF w a.1)[j] := by
  simp only [kidsF, List.getElem_pmap]
def trOf : Tr (NdT v w S tb) where
  kids a := kidsL v w S tb hS a ++ kidsF v w S tb hS a
  sz a := a.1.2.size
  fall a c hc := by
    rcases List.mem_append.1 hc with h | h
    · exact JV.size_list (by rw [← kidsL_snd v w S tb hS a]; exact List.mem_map_of_mem h)
    · have : c.1.2 ∈ a.1.2.fields.map (·.2) := by rw [← kidsF_snd v w S tb hS a]; exact List.mem_map_of_mem (f := fun c : NdT v w S tb => c.1.2) h
      obtain ⟨p, hp, e⟩ := List.mem_map.1 this
      rw [← e]
      exact JV.size_field hp
  dep a := a.1.2.depth
  dep_eq a := by
    have e : ∀ (l : List (NdT v w S tb)) (g : Nat), l.foldl (fun g c => max g c.1.2.depth) g = (l.map fun c => c.1.2).foldl (fun g u => max g u.depth) g := fun l g => by rw [List.foldl_map]
    rw [List.foldl_append, e, e, kidsL_snd, kidsF_snd, depthF_fold, depthL_fold]
    obtain ⟨⟨ad, k, t, l, f⟩, hp⟩ := a
    simp only [JV.depth, JV.list, JV.fields]
    omega
  work a := 2 * a.1.2.size
  work_eq a := by
    have e : ∀ l : List (NdT v w S tb), (l.map fun c => 2 * c.1.2.size) = (l.map fun c => c.1.2).map fun u => 2 * u.size := fun l => by rw [List.map_map]; rfl
    rw [List.map_append, List.sum_append, e, e, kidsL_snd, kidsF_snd, sizeL_sum, sizeF_sum]
    obtain ⟨⟨ad, k, t, l, f⟩, hp⟩ := a
    simp only [JV.size, JV.list, JV.fields]
    omega
variable {v w S tb}
def adOf (a : NdT v w S tb) : Nat × Nat := a.1.1
theorem adOf_inj (x y : NdT v w S tb) (h : adOf x = adOf y) : x = y := by
  obtain ⟨⟨a, u⟩, h1, h2, h3⟩ := x
  obtain ⟨⟨a', u'⟩, k1, k2, k3⟩ := y
  have : a = a' := h
  subst this
  have : u = u' := LAt.inj u u' h2 k2
  subst this
  rfl
theorem kids_nil (a : NdT v w S tb) : (trOf v w S tb hS).kids a = [] ↔ a.1.2.list = [] ∧ a.1.2.fields = [] := by
  show kidsL v w S tb hS a ++ kidsF v w S tb hS a = [] ↔ _
  rw [List.append_eq_nil_iff, ← List.length_eq_zero_iff, ← List.length_eq_zero_iff, ← List.length_eq_zero_iff, ← List.length_eq_zero_iff]
  unfold kidsL kidsF
  rw [List.length_pmap, List.length_pmap, kidL_len, kidF_len]
theorem node_at (hsz : v.size ≤ 1099511627776) (a : NdT v w S tb) : NodeAt (trOf v w S tb hS) adOf w a := by
  obtain ⟨hin, hat, hc, hn⟩ := a.2
  obtain ⟨a2, cap2, q2, e2⟩ := hat.row2
  obtain ⟨a3, cap3, q3, e3⟩ := hat.row3
  have hle := hin.size
  have hln := JV.length_list a.1.2
  refine ⟨hc, kidsL v w S tb hS a, kidsF v w S tb hS a, a2, a3, cap2, cap3, rfl, ?_, ?_, ?_, ?_, ?_, ?_⟩
  · unfold kidsL; rw [List.length_pmap, kidL_len]; omega
  · unfold kidsF; rw [List.length_pmap, kidF_len]; omega
  · rcases e2 with e | ⟨b2, o2, e, _⟩
    · left; rw [← List.length_eq_zero_iff]; unfold kidsL; rw [List.length_pmap, kidL_len, e]; rfl
    · right
      refine ⟨b2, o2, e, fun j hj => ?_⟩
      rw [e] at q2
      have hs := slOf_eq q2
      have hj2 : j < (kidL w a.1).length := by have := hj; unfold kidsL at this; rwa [List.length_pmap] at this
      show ((kidsL v w S tb hS a)[j]).1.1 = _
      rw [kidsL_get v w S tb hS a j hj hj2]
      simp only [kidL, List.getElem_map, hs]
      simp
  · rcases e3 with e | ⟨b2, o2, e, _⟩
    · left; rw [← List.length_eq_zero_iff]; unfold kidsF; rw [List.length_pmap, kidF_len, e]; rfl
    · right
      refine ⟨b2, o2, e, fun j hj => ?_⟩
      rw [e] at q3
      have hs := slOf_eq q3
      have hj2 : j < (kidF w a.1).length := by have := hj; unfold kidsF at this; rwa [List.length_pmap] at this
      show ((kidsF v w S tb hS a)[j]).1.1 = _
      rw [kidsF_get v w S tb hS a j hj hj2]
      simp only [kidF, List.getElem_map, hs]
      simp
  · unfold kidsL; rw [List.length_pmap, kidL_len]; exact q2
  · unfold kidsF; rw [List.length_pmap, kidF_len]; exact q3

/-- What is below a node. -/
theorem sub_in {r x : NdT v w S tb} (h : Tr.Sub (trOf v w S tb hS) r x) : JV.In r.1.2 x.1.2 := by
  induction h with
  | root => exact .root
  | @kid a c _ hc ih =>
    rcases List.mem_append.1 hc with h | h
    · exact ih.list (by rw [← kidsL_snd v w S tb hS a]; exact List.mem_map_of_mem h)
    · have : c.1.2 ∈ a.1.2.fields.map (·.2) := by rw [← kidsF_snd v w S tb hS a]; exact List.mem_map_of_mem (f := fun c : NdT v w S tb => c.1.2) h
      obtain ⟨p, hp, e⟩ := List.mem_map.1 this
      rw [← e]
      exact ih.field hp
theorem in_sub {r : NdT v w S tb} {u : JV} (h : JV.In r.1.2 u) : ∃ x : NdT v w S tb, Tr.Sub (trOf v w S tb hS) r x ∧ x.1.2 = u := by
  induction h with
  | root => exact ⟨r, .root, rfl⟩
  | @list a u _ hu ih =>
    obtain ⟨x, hx, rfl⟩ := ih
    rw [← kidsL_snd v w S tb hS x] at hu
    obtain ⟨c, hc, e⟩ := List.mem_map.1 hu
    exact ⟨c, .kid hx (List.mem_append_left _ hc), e⟩
  | @field a p _ hp ih =>
    obtain ⟨x, hx, rfl⟩ := ih
    have : p.2 ∈ x.1.2.fields.map (·.2) := List.mem_map_of_mem hp
    rw [← kidsF_snd v w S tb hS x] at this
    obtain ⟨c, hc, e⟩ := List.mem_map.1 this
    exact ⟨c, .kid hx (List.mem_append_right _ hc), e⟩
end
end Go.Proofs.YtaniebkfgkhgoaaGreatDoor

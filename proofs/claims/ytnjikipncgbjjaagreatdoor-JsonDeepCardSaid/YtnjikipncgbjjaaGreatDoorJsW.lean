/- innerOf; depthAround: one more than the greatest depth of what stands in a value. -/
import Derived.Test.YtnjikipncgbjjaaGreatDoorJsV
namespace Go.Proofs.YtnjikipncgbjjaaGreatDoor
open Go.RowKit Go.Shelf
attribute [local go_sem] Oper.semAt_some
set_option linter.unusedVariables false
set_option maxRecDepth 100000

/-- What the iterator of innerOf wants kept: what lay below n₀, and its box. -/
def KpI (n₀ B : Nat) (W W' : World) : Prop := RowKit.Below n₀ W W' ∧ W'.heap[B]? = W.heap[B]?
theorem kpI_t {n₀ B : Nat} {X Y Z : World} (h : KpI n₀ B X Y) (k : KpI n₀ B Y Z) : KpI n₀ B X Z := ⟨h.1.trans k.1, k.2.trans h.2⟩
theorem kpI_b {n₀ B : Nat} {w : World} (hn : n₀ ≤ w.heap.size) (hB : B < w.heap.size) (W : World) (l : Nat) (o o' : Obj) (hl : w.heap.size ≤ l) (h : W.heap[l]? = some o) (h1 : o.isCells = false) (h2 : o.isWalk = false) : KpI n₀ B W (W.putObj l o') :=
  ⟨belowK_b hn W l o o' hl h h1 h2, World.putObj_heap_other (by omega)⟩

theorem inner_stops {α : Type} (ad : α → Nat × Nat) (F : Fence) (n : Nat) (h73 : F.fn 73) (hro : F.round = none) (hn : 1 ≤ n) (n₀ B vb vo : Nat) (z1 z2 : List α) (a2 a3 : Option Addr) (cap2 cap3 : Nat)
    (hl1 : z1.length ≤ 1099511627776) (hl2 : z2.length ≤ 1099511627776) (h2 : RowAt ad 4 0 a2 z1) (h3 : RowAt ad 5 1 a3 z2) (hvb : vb < n₀)
    (w : World) (hn₀ : n₀ ≤ w.heap.size) (c0 : w.cell? ⟨B, 0, none⟩ = some (.pointer (some ⟨vb, vo, none⟩))) (c2 : w.cell? ⟨vb, vo + 2, none⟩ = some (.slice a2 z1.length cap2)) (c3 : w.cell? ⟨vb, vo + 3, none⟩ = some (.slice a3 z2.length cap3)) :
    SeqStopsK F n Tryz.prog 73 #[.pointer (some ⟨B, 0, none⟩)] (fun x : α => #[pv (ad x)]) (KpI n₀ B) (fun ys => ys = z1 ++ z2) (fun pre => pre <+: z1 ++ z2) (z1.length + z2.length) w := fun l J Jx W hW _ _ hY h0 => by
  have mv : ∀ {b o : Nat} {c : Value}, w.cell? ⟨b, o, none⟩ = some c → W.cell? ⟨b, o, none⟩ = some c := fun {b o c} h => (World.cell?_of_block (hW.block b (World.block_lt_of_cell? w _ h))).trans h
  refine (inner_in ad (KpI n₀ B) F n h73 hro hn l B vb vo z1 z2 a2 a3 cap2 cap3 hl1 hl2 h2 h3 (fun h => ⟨h.2, h.1.block vb hvb⟩) J Jx hY W (mv c0) (mv c2) (mv c3) h0)

set_option maxHeartbeats 1000000 in
theorem innerOf_in (F : Fence) (n : Nat) (h47 : F.fn 47) (hro : F.round = none) (v : Option Addr) (w : World) :
    CallsIn F n Tryz.prog 47 #[.pointer v] w fun e w' => e = .returned (.func (.func 73) #[] #[.pointer (some ⟨w.heap.size, 0, none⟩)]) ∧ w' = w.alloc (.cells #[.pointer v] 46) := by
  refine callsIn_of_wp Tryz.func47 rfl h47 ?_ hro
  simp only [Tryz.ntmps47, List.size_toArray, List.length_cons, List.length_nil, Nat.reduceAdd, Nat.reduceSub, Array.replicate_succ, Array.replicate_zero, List.push_toArray, List.append_toArray, List.nil_append, List.cons_append]
  gi_wp2
  go_ret
  exact ⟨rfl, rfl⟩

theorem info_val4 : Tryz.prog.info? 26 = some ((Tryz.prog.info? 26).getD default) ∧ ((Tryz.prog.info? 26).getD default).size = 4 := ⟨by kernel_rfl, by kernel_rfl⟩
/-- The greatest depth so far. -/
def grD (G : Nat × Nat → Option Int) (g : Int) (a : Nat × Nat) : Int := max (max g ((G a).getD 0)) 1
def grL (G : Nat × Nat → Option Int) (l : List (Nat × Nat)) : Int := l.foldl (grD G) 0
theorem grL_snoc (G : Nat × Nat → Option Int) (l : List (Nat × Nat)) (a : Nat × Nat) : grL G (l ++ [a]) = grD G (grL G l) a := by simp [grL]

theorem PM.grown {w w' : World} {row : Option Nat} {b : Nat} {f : Nat × Nat → Option Value} (h : PM w b f) (hg : w.grownBy w' row) (hb : some b ≠ row) (hc : ∀ k, some k = row → ¬ Clean w k) : PM w' b f := by
  obtain ⟨es, clock, hm, h1, h2, h3⟩ := h
  refine ⟨es, clock, (hg.block b (Array.getElem?_eq_some_iff.1 hm).1 hb).trans hm, fun i e hi => ?_, h2, h3⟩
  obtain ⟨a, ha, hcl, hf⟩ := h1 i e hi
  exact ⟨a, ha, hcl.kept hg (fun e => hc _ e hcl), hf⟩

set_option maxHeartbeats 4000000 in
theorem depthAround_in {α : Type} (ad : α → Nat × Nat) (F : Fence) (n : Nat) (h46 : F.fn 46) (h47 : F.fn 47) (h73 : F.fn 73) (hro : F.round = none) (hn : 3 ≤ n) (vb vo : Nat) (z1 z2 : List α) (a2 a3 : Option Addr) (cap2 cap3 : Nat)
    (hl1 : z1.length ≤ 1099511627776) (hl2 : z2.length ≤ 1099511627776) (h2 : RowAt ad 4 0 a2 z1) (h3 : RowAt ad 5 1 a3 z2) (mb : Nat) (G : Nat × Nat → Option Int) (w : World) (hvb : vb < w.heap.size)
    (hm : PM w mb (fun a => (G a).map (.int .i64))) (hcl : ∀ x : α, Clean w (ad x).1) (hbnd : ∀ l : List (Nat × Nat), 0 ≤ grL G l ∧ grL G l < 4611686018427387904)
    (c2 : w.cell? ⟨vb, vo + 2, none⟩ = some (.slice a2 z1.length cap2)) (c3 : w.cell? ⟨vb, vo + 3, none⟩ = some (.slice a3 z2.length cap3)) :
    CallsIn F n Tryz.prog 46 #[.pointer (some ⟨vb, vo, none⟩), .map (some mb)] w fun e W' => e = .returned (.int .i64 (grL G ((z1 ++ z2).map ad) + 1)) ∧ RowKit.Below w.heap.size w W' := by
  have h1 : 1 ≤ n := by omega
  have hmb : mb < w.heap.size := by obtain ⟨es, clock, hh, _⟩ := hm; exact (Array.getElem?_eq_some_iff.1 hh).1
  refine callsIn_of_wp_marks Tryz.func46 rfl h46 ?_ hro
  simp only [Tryz.ntmps46, List.size_toArray, List.length_cons, List.length_nil, Nat.reduceAdd, Nat.reduceSub, Array.replicate_succ, Array.replicate_zero, List.push_toArray, List.append_toArray, List.nil_append, List.cons_append]
  gi_wp2_with (gi_at_call 47; refine (innerOf_in F (n - 1) h47 hro _ _).mono ?_; rintro e w' ⟨rfl, rfl⟩)
  have bM := ((Boxed.new w 81 (.map (some mb))).alloc (.cells #[.int .i64 0] 3)).alloc (.cells #[.pointer (some ⟨vb, vo, none⟩)] 46)
  have bG := (Boxed.new (w.alloc (.cells #[.map (some mb)] 81)) 3 (.int .i64 0)).alloc (.cells #[.pointer (some ⟨vb, vo, none⟩)] 46)
  have bV := Boxed.new ((w.alloc (.cells #[.map (some mb)] 81)).alloc (.cells #[.int .i64 0] 3)) 46 (.pointer (some ⟨vb, vo, none⟩))
  simp only [World.size_alloc] at bM bG bV
  have hB0 : RowKit.Below w.heap.size w (((w.alloc (.cells #[.map (some mb)] 81)).alloc (.cells #[.int .i64 0] 3)).alloc (.cells #[.pointer (some ⟨vb, vo, none⟩)] 46)) := (((Below.refl _ w).alloc (Nat.le_refl _) _).alloc (by simp) _).alloc (by simp; omega) _
  have mv : ∀ {W : World}, RowKit.Below w.heap.size w W → ∀ {b o : Nat} {c : Value}, w.cell? ⟨b, o, none⟩ = some c → W.cell? ⟨b, o, none⟩ = some c := @fun W hW b o c h => (World.cell?_of_block (hW.block b (World.block_lt_of_cell? w _ h))).trans h
  refine wpIn_rangeFunc_ownG hro h1 (gf := 73) (lb := #[.pointer (some ⟨w.heap.size + 1 + 1, 0, none⟩)]) rfl h73 (enters_of Tryz.func73 (by kernel_rfl) rfl)
    (inner_stops ad F (n - 1) h73 hro (by omega) w.heap.size (w.heap.size + 1 + 1) vb vo z1 z2 a2 a3 cap2 cap3 hl1 hl2 h2 h3 hvb _ (by simp; omega) bV.cell (mv hB0 c2) (mv hB0 c3)) kpI_t (kpI_b (by simp; omega) (by simp)) (Below.refl _ _) (fun _ => rfl)
    (fun pre W => ((W.cell? ⟨w.heap.size + 1, 0, none⟩ = some (.int .i64 (grL G (pre.map ad))) ∧ W.frozen? ⟨w.heap.size + 1, 0, none⟩ = false) ∧ W.cell? ⟨w.heap.size, 0, none⟩ = some (.map (some mb))) ∧ RowKit.Below w.heap.size w W)
    (fun _ _ _ => False)
    (OwnFrom.and (Own.from (fun s A B row hs hg hr => ⟨⟨cell_kept hs.1.1 hg hr, (frozen_kept hs.1.1 hg hr).trans hs.1.2⟩, cell_kept hs.2 hg hr⟩) _) (ownFrom_below (Nat.le_refl _) (by simp; omega)))
    (fun _ _ _ _ _ hs _ _ => hs)
    ⟨⟨⟨bG.cell, bG.frozen⟩, bM.cell⟩, hB0⟩
    (fun x => { tmps := #[.pointer (some ⟨vb, vo, none⟩), .map (some mb), undef, .pointer (some ⟨w.heap.size, 0, none⟩), .int .i64 0, .pointer (some ⟨w.heap.size + 1, 0, none⟩), pv (ad x), .pointer (some ⟨vb, vo, none⟩), .func (.func 73) #[] #[.pointer (some ⟨w.heap.size + 1 + 1, 0, none⟩)], pv (ad x), undef, undef, undef, undef, undef, undef, undef], defers := [] }) ?assign ?body ?done ?stop
  case assign =>
    intro l x W K hK
    gi_wp2
    exact hK
  case body =>
    rintro l pre x W ⟨⟨⟨hc, hf⟩, hcm⟩, hB⟩ _
    have hmW : PM W mb (fun a => (G a).map (.int .i64)) := hm.grown (gb_below hB none) (by simp) (by simp)
    obtain ⟨j0, hj0, hjz⟩ : ∃ j : TypeInfo, Tryz.prog.info? 26 = some j ∧ j.size = 4 := ⟨_, info_val4⟩
    have hlk := hmW.look (P := Tryz.prog) W Tryz.underlying46 hj0 (by rw [hjz]; decide) Tryz.underlying81 (Tryz.zeroValue3 W) ((hcl x).kept (gb_below hB none) (by simp)) false
    have hv : ((G (ad x)).map (Value.int .i64)).getD (.int .i64 0) = .int .i64 ((G (ad x)).getD 0) := by cases G (ad x) <;> rfl
    simp only [Bool.false_eq_true, if_false, hv] at hlk
    have hb1 := hbnd (pre.map ad)
    have hb2 := hbnd ([] ++ [ad x])
    rw [grL_snoc] at hb2
    have fin : ∀ (y : Int) (act : Act), y = grD G (grL G (pre.map ad)) (ad x) → ownPostG (w.heap.size + 1 + 1 + 1) (KpI w.heap.size (w.heap.size + 1 + 1))
        (fun pre W => ((W.cell? ⟨w.heap.size + 1, 0, none⟩ = some (.int .i64 (grL G (pre.map ad))) ∧ W.frozen? ⟨w.heap.size + 1, 0, none⟩ = false) ∧ W.cell? ⟨w.heap.size, 0, none⟩ = some (.map (some mb))) ∧ RowKit.Below w.heap.size w W)
        (fun _ _ _ => False) (pre ++ [x]) W Exit.normal act (W.setCell ⟨w.heap.size + 1, 0, none⟩ (.int .i64 y)) := by
      rintro y act rfl
      refine ⟨(KeepsOthers.setCell _ _ _).from _, ⟨(Below.refl w.heap.size W).setCell (p := ⟨w.heap.size + 1, 0, none⟩) (Nat.le_succ _) _, Below.heap_setCell _ _ _ _ (by show w.heap.size + 1 + 1 ≠ w.heap.size + 1; omega)⟩, ⟨⟨?_, by rw [World.frozen?_setCell]; exact hf⟩, ?_⟩, hB.setCell (p := ⟨w.heap.size + 1, 0, none⟩) (Nat.le_succ _) _⟩
      · rw [List.map_append, List.map_cons, List.map_nil, grL_snoc]
        exact World.cell?_setCell_same' _ _ _ (by rw [hc]; rfl)
      · exact (World.cell?_of_block (Below.heap_setCell _ _ _ _ (by show w.heap.size ≠ w.heap.size + 1; omega))).trans hcm
    gi_wp2
    all_goals (refine fin _ _ ?_; unfold grD)
    all_goals (try split at *)
    all_goals omega
  case done =>
    rintro D ys W hD rfl ⟨⟨⟨hc, hf⟩, hcm⟩, hB⟩ hK
    have hb1 := hbnd ((z1 ++ z2).map ad)
    generalize hgm : grL G ((z1 ++ z2).map ad) = gm at hb1 hc
    have hw1 : wrap64 (gm + 1) = gm + 1 := by unfold wrap64; omega
    gi_wp2
    refine ⟨by simp, .inl ⟨_, _, rfl, run_takeDeferred hK, ?_⟩⟩
    exact ⟨_, results_tmp rfl _ _ _, by rw [hgm]; rfl, hB.trans (belowK_b (w := w) (Nat.le_refl _) W D _ _ (by simp at hD; omega) hK rfl rfl)⟩
  case stop =>
    rintro D c pre W _ _ h _
    exact h.elim
end Go.Proofs.YtnjikipncgbjjaaGreatDoor

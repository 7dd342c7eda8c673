/- walk: its contract. -/
import Derived.Test.YtaniebkfgkhgoaaGreatDoorJU
namespace Go.Proofs.YtaniebkfgkhgoaaGreatDoor
open Go.RowKit Go.Shelf
attribute [local go_sem] Oper.semAt_some
set_option linter.unusedVariables false
set_option maxRecDepth 100000

def WInv {α : Type} [DecidableEq α] (T : Tr α) (ad : α → Nat × Nat) (M : Int) (vf : Value) (tb : Option Nat) (Vis : List α → World → Prop) (w : World) (r : α) (k : Nat) (a : Act) (W : World) : Prop :=
  ∃ (st : List (α × Bool)) (f : α → Option Nat) (vs : List α) (G : Nat × Nat → Option Int) (sv : Value) (Ds : List Nat), k = wLeft T st ∧ wLeft T st ≤ T.work r ∧ WI T r st f vs ∧ WW T ad M vf tb Vis w W st f vs G sv Ds ∧
    ∃ u7 u8 u9 u10 u11 u12 u13 u14 u15 u16 u17 u18 u19 u20 u21 u22 u23 u24 u25 u26 u27 u28 u29 u30 u31 u32 u33 u34 u35 u36 u37 u38 u39 u40 u41 u42 u43 u44 u45 u46 u47 u48 u49 u50 u51 u52 u53 u54 u55 u56 u57 u58 u59 u60 u61 u62 u63 u64 u65 u66 u67 u68 u69 u70 u71 u72 u73 u74 u75 u76 : Value, a = { tmps := #[.pointer (some ⟨(ad r).1, (ad r).2, none⟩), vf, undef, .pointer (some ⟨w.heap.size, 0, none⟩), .pointer (some ⟨w.heap.size + 1, 0, none⟩), .pointer (some ⟨w.heap.size + 3, 0, none⟩), .pointer (some ⟨w.heap.size + 5, 0, none⟩), u7, u8, u9, u10, u11, u12, u13, u14, u15, u16, u17, u18, u19, u20, u21, u22, u23, u24, u25, u26, u27, u28, u29, u30, u31, u32, u33, u34, u35, u36, u37, u38, u39, u40, u41, u42, u43, u44, u45, u46, u47, u48, u49, u50, u51, u52, u53, u54, u55, u56, u57, u58, u59, u60, u61, u62, u63, u64, u65, u66, u67, u68, u69, u70, u71, u72, u73, u74, u75, u76], defers := Ds.map fun D => { target := .collected D, args := #[] } }

set_option maxHeartbeats 4000000 in
theorem walk_any {α : Type} [DecidableEq α] (T : Tr α) (ad : α → Nat × Nat) (M : Int) (gv : Nat) (lb : Array Value) (tb : Option Nat) (Vis : List α → World → Prop) (w : World) (hh : WH T ad M gv lb tb Vis w) (r : α) (hv0 : Vis [] w) (hwk : T.work r ≤ 1099511627776) (hent : ∀ args w, (callFunc gv args).run Tryz.prog w = .ok (.enter gv args) w) :
    Calls Tryz.prog 22 #[pv (ad r), .func (.func gv) #[] lb] w fun e W' => e = .returned (.int .i64 (T.dep r : Int)) ∧ ∃ vs, (∀ x, x ∈ vs ↔ Tr.Sub T r x) ∧ Vis vs W' ∧ w.grownBy W' tb := by
  have hmm := @run_makeMap Tryz.prog
  show Calls _ _ #[.pointer (some ⟨(ad r).1, (ad r).2, none⟩), .func (.func gv) #[] lb] _ _
  refine (callsIn_wide (n := 9)).1 ?_
  refine callsIn_of_wp_marks Tryz.func22 rfl trivial ?_ rfl
  simp only [Tryz.ntmps22, List.size_toArray, List.length_cons, List.length_nil, Nat.reduceAdd, Nat.reduceSub, Array.replicate_succ, Array.replicate_zero, List.push_toArray, List.append_toArray, List.nil_append, List.cons_append]
  gi_wp2
  refine wpIn_loop_min (WInv T ad M (.func (.func gv) #[] lb) tb Vis w r) (wLeft T [(r, false)]) ?start ?round
  case start =>
    exact ⟨[(r, false)], fun _ => none, [], fun _ => none, .slice (some ⟨w.heap.size + 4, 0, none⟩) 1 1, [], rfl, by simp [wLeft], WI.start T r, WW.start hh _ r hv0, _, _, _, _, _, _, _, _, _, _, _, _, _, _, _, _, _, _, _, _, _, _, _, _, _, _, _, _, _, _, _, _, _, _, _, _, _, _, _, _, _, _, _, _, _, _, _, _, _, _, _, _, _, _, _, _, _, _, _, _, _, _, _, _, _, _, _, _, _, _, rfl⟩
  case round =>
    rintro k a W ⟨st, f, vs, G, sv, Ds, rfl, hwl, hI, hW, u7, u8, u9, u10, u11, u12, u13, u14, u15, u16, u17, u18, u19, u20, u21, u22, u23, u24, u25, u26, u27, u28, u29, u30, u31, u32, u33, u34, u35, u36, u37, u38, u39, u40, u41, u42, u43, u44, u45, u46, u47, u48, u49, u50, u51, u52, u53, u54, u55, u56, u57, u58, u59, u60, u61, u62, u63, u64, u65, u66, u67, u68, u69, u70, u71, u72, u73, u74, u75, u76, rfl⟩
    cases st with
    | nil =>
      have hc5 := hW.b5.cell
      have hc3 := hW.b3.cell
      have hc1 := hW.b1.cell
      have hf1 := hW.b1.frozen
      obtain ⟨p, cap, hsv⟩ : ∃ p cap, sv = .slice p 0 cap := by
        rcases hW.row.2 with ⟨e, _⟩ | ⟨g, cap, cur, e, _⟩
        · exact ⟨_, _, e⟩
        · exact ⟨_, _, e⟩
      rw [hsv] at hc5
      obtain ⟨j0, hj0, hjz⟩ : ∃ j : TypeInfo, Tryz.prog.info? 26 = some j ∧ j.size = 4 := ⟨_, info_val4⟩
      have hfin := hI.finish
      have hlk := hW.map.look (P := Tryz.prog) W Tryz.underlying45 hj0 (by rw [hjz]; decide) Tryz.underlying80 (Tryz.zeroValue3 W) (((hh.node r).kept hW.grown (hh.apart r)).1) false
      have hv : ((G (ad r)).map (Value.int .i64)).getD (.int .i64 0) = .int .i64 (T.dep r : Int) := by rw [hW.mapf, hfin.1]; rfl
      simp only [Bool.false_eq_true, if_false, hv] at hlk
      have hlk2 : (Instr.lookup 80 (.map (some (w.heap.size + 2))) (.pointer (some ⟨(ad r).1, (ad r).2, none⟩)) false).run Tryz.prog W = .ok (.int .i64 (T.dep r : Int)) W := hlk
      clear hlk hv
      have HW := Lib.hid hW
      have HI := Lib.hid hI
      have HF := Lib.hid hfin
      clear hW hI hfin
      gi_wp2
      have hnd : ∀ D ∈ Ds, w.heap.size + 6 ≤ D := fun D hD => (HW.out.marks.2 D hD).1
      have hbel : RowKit.Below w.heap.size W (W.setCell ⟨w.heap.size + 1, 0, none⟩ (.int .i64 (T.dep r : Int))) := (Below.refl _ W).setCell (p := ⟨w.heap.size + 1, 0, none⟩) (Nat.le_succ _) _
      refine leaves_coll Ds _ HW.out.marks.1 (fun D hD => ?_) (fun w' e1 e2 e3 e4 e5 => ?_)
      · exact (Below.heap_setCell _ _ _ _ (by have := hnd D hD; show D ≠ w.heap.size + 1; omega)).trans (HW.out.marks.2 D hD).2
      · have hb2 : RowKit.Below w.heap.size W w' := hbel.trans ⟨e1, e2, e3, Nat.le_of_eq e4.symm, fun k hk => e5 k (fun hm => by have := hnd k hm; omega)⟩
        have hcr : w'.cell? ⟨w.heap.size + 1, 0, none⟩ = some (.int .i64 (T.dep r : Int)) := (World.cell?_of_block (a := ⟨w.heap.size + 1, 0, none⟩) (e5 (w.heap.size + 1) (fun hm => by have := hnd _ hm; omega))).trans (HW.out.b1.set _).cell
        refine ⟨.int .i64 (T.dep r : Int), ?_, rfl, vs, HF.out.2, hh.keep _ _ _ HW.out.vis hb2, gb_bel HW.out.grown hb2⟩
        simp [results, Tryz.f22, go_sem, hcr]
    | cons top st =>
      obtain ⟨a, b⟩ := top
      obtain ⟨g, cap, rfl⟩ := ownsRow_succ (hW.row : W.ownsRow (w.heap.size + 4) 45 1 sv (st.length + 1) _)
      have hc5 := hW.b5.cell
      have hf5 := hW.b5.frozen
      have hc3 := hW.b3.cell
      have hc0 := hW.b0.cell
      have hrow : W.ownsRow (w.heap.size + 4) 45 1 (.slice (some ⟨g, 0, none⟩) (st.length + 1) cap) (st.length + 1) (rowOf ad st ++ [pv (ad a)]) := by rw [← rowOf_cons ad a b st]; exact hW.row
      have hcell : W.cell? ⟨g, st.length, none⟩ = some (.pointer (some ⟨(ad a).1, (ad a).2, none⟩)) := by
        rw [hrow.cellAt st.length (by omega), List.getElem?_append_right (by rw [rowOf_len]; exact Nat.le_refl _), rowOf_len, Nat.sub_self]; rfl
      have hcap : st.length + 1 ≤ cap := by
        rcases hrow.2 with ⟨e, _⟩ | ⟨g', cap', cur, e, _, _, hn, _⟩
        · cases e
        · cases e; exact hn
      have hmax : cap ≤ 9223372036854775807 := by
        rcases hrow.2 with ⟨e, _⟩ | ⟨g', cap', cur, e, _, _, _, hm, _⟩
        · cases e
        · cases e; unfold maxLen at hm; omega
      obtain ⟨j0, hj0, hjz⟩ : ∃ j : TypeInfo, Tryz.prog.info? 26 = some j ∧ j.size = 4 := ⟨_, info_val4⟩
      have hlk := hW.map.look (P := Tryz.prog) W Tryz.underlying45 hj0 (by rw [hjz]; decide) Tryz.underlying80 (Tryz.zeroValue3 W) (((hh.node a).kept hW.grown (hh.apart a)).1) true
      simp only [hW.mapf, if_true] at hlk
      cases hfa : f a with
      | none =>
        obtain rfl : b = false := hI.top_other (by rw [hfa]; simp)
        have hlk2 : (Instr.lookup 80 (.map (some (w.heap.size + 2))) (.pointer (some ⟨(ad a).1, (ad a).2, none⟩)) true).run Tryz.prog W = .ok (.tuple #[.int .i64 0, .bool false]) W := by
          rw [hfa] at hlk; exact hlk
        have V1 : Hid (CallsIn Fence.wide 8 Tryz.prog gv (#[.pointer (some ⟨(ad a).1, (ad a).2, none⟩)] ++ lb) W fun e W' => e = .returned (.tuple #[]) ∧ WW T ad M (.func (.func gv) #[] lb) tb Vis w W' ((a, false) :: st) f (vs ++ [a]) G (.slice (some ⟨g, 0, none⟩) (st.length + 1) cap) Ds) :=
          Lib.hid (callsIn_wide.2 ((hh.visit vs a W hW.vis hW.grown).mono (by rintro e W' ⟨rfl, hv, hg⟩; exact ⟨rfl, hW.visited hh hg hv⟩)))
        have MU : Hid (∀ w1, WW T ad M (.func (.func gv) #[] lb) tb Vis w w1 ((a, false) :: st) f (vs ++ [a]) G (.slice (some ⟨g, 0, none⟩) (st.length + 1) cap) Ds → w1.cell? ⟨w.heap.size + 3, 0, none⟩ = some (.map (some (w.heap.size + 2))) ∧ ∃ w2, (Instr.mapUpdate 80 (.map (some (w.heap.size + 2))) (.pointer (some ⟨(ad a).1, (ad a).2, none⟩)) (.int .i64 0)).run Tryz.prog w1 = .ok () w2 ∧
            WW T ad M (.func (.func gv) #[] lb) tb Vis w w2 ((a, false) :: st) (fun x => if x = a then some 0 else f x) (vs ++ [a]) (fun x => if x = ad a then some (0 : Int) else G x) (.slice (some ⟨g, 0, none⟩) (st.length + 1) cap) Ds) := by
          refine Lib.hid fun w1 h1 => ⟨h1.b3.cell, ?_⟩
          obtain ⟨w2, r1, r2, r3, r4⟩ := h1.map.store (P := Tryz.prog) w1 Tryz.underlying45 hj0 (by rw [hjz]; decide) Tryz.underlying80 (((hh.node a).kept h1.grown (hh.apart a)).1) (.int .i64 0)
          exact ⟨w2, r1, h1.mapped hh r3 a 0 (by have := hh.one.1; omega) r2⟩
        have IO : Hid (∀ w2, CallsIn Fence.wide 8 Tryz.prog 46 #[.pointer (some ⟨(ad a).1, (ad a).2, none⟩)] w2 fun e w' => e = .returned (.func (.func 72) #[] #[.pointer (some ⟨w2.heap.size, 0, none⟩)]) ∧ w' = w2.alloc (.cells #[.pointer (some ⟨(ad a).1, (ad a).2, none⟩)] 45)) := Lib.hid fun w2 => innerOf_in Fence.wide 8 trivial rfl _ w2
        have HW := Lib.hid hW
        have HNO := Lib.hid (hI.no_open hfa)
        have HI := Lib.hid (hI.enter hfa)
        clear hW hI hrow hlk
        gi_wp2_with first
          | (refine ⟨trivial, ?_⟩; with_reducible refine V1.out.mono ?_; rintro e w1 ⟨rfl, hw1⟩; obtain ⟨c3', w2, hmu, hw2⟩ := MU.out w1 hw1; have HW2 := Lib.hid hw2; clear hw1 hw2)
          | (refine ⟨trivial, ?_⟩; with_reducible refine (IO.out _).mono ?_; rintro e w3 ⟨rfl, hw3⟩)
        rw [← hw3]
        obtain ⟨bx, hbx⟩ : ∃ bx, w2.heap.size = bx := ⟨_, rfl⟩
        have hsz3 : w3.heap.size = bx + 1 := by rw [hw3, ← hbx]; simp
        have hg3 : w2.grownBy w3 none := by rw [hw3]; exact World.grownBy_alloc _ _ none
        have HW3 := Lib.hid ((HW2.out.newer hh hg3).flag true)
        have hown3 : (Value.slice (some ⟨g, 0, none⟩) (st.length + 1) cap).ownBlock ≠ some bx := fun e => by
          have := (HW2.out.row.lt bx e).2
          omega
        have hbox3 : w3.heap[bx]? = some (.cells #[.pointer (some ⟨(ad a).1, (ad a).2, none⟩)] 45 (0, 0)) := by rw [hw3, ← hbx]; exact World.alloc_heap_new _ _
        have hwle : w.heap.size ≤ bx := by rw [← hbx]; exact HW2.out.grown.size
        rw [hbx]
        clear hw3 hg3 HW2 hbx hmu c3' V1 MU IO
        obtain ⟨hcl, z1, z2, a2, a3, cap2, cap3, hk, hl1, hl2, hr1, hr2, q2, q3⟩ := (hh.node a).kept HW3.out.grown (hh.apart a)
        have hva := World.block_lt_of_cell? w3 _ q2
        have hvaw : (ad a).1 < w.heap.size := by
          obtain ⟨c, t, hx⟩ := (hh.node a).1
          exact (Array.getElem?_eq_some_iff.1 hx).1
        have hDs : ∀ D ∈ Ds, D < w3.heap.size := fun D hD => (Array.getElem?_eq_some_iff.1 (HW3.out.marks.2 D hD).2).1
        have hstb : st.length ≤ 1099511627776 := by
          have := length_le_wLeft T ((a, false) :: st)
          simp only [List.length_cons] at this
          omega
        have mv : ∀ {W : World}, RowKit.Below w3.heap.size w3 W → ∀ {b o : Nat} {c : Value}, w3.cell? ⟨b, o, none⟩ = some c → W.cell? ⟨b, o, none⟩ = some c := @fun W hW b o c h => (World.cell?_of_block (hW.block b (World.block_lt_of_cell? w3 _ h))).trans h
        have hbxc : w3.cell? ⟨bx, 0, none⟩ = some (.pointer (some ⟨(ad a).1, (ad a).2, none⟩)) := by simp [World.cell?, hbox3]
        refine wpIn_rangeFunc_ownG (α := α) rfl (by omega) (gf := 72) (lb := #[.pointer (some ⟨bx, 0, none⟩)]) rfl trivial (enters_of Tryz.func72 (by kernel_rfl) rfl)
          (encs := fun x : α => #[pv (ad x)]) (Kp := fun W W' => W'.heap[bx]? = W.heap[bx]? ∧ W'.heap[(ad a).1]? = W.heap[(ad a).1]?) (S := fun ys => ys = z1 ++ z2) (Sp := fun pre => pre <+: z1 ++ z2) (N := z1.length + z2.length) (w0 := w3)
          (fun l J Jx W hW _ _ hY h0 => inner_in ad (fun W W' => W'.heap[bx]? = W.heap[bx]? ∧ W'.heap[(ad a).1]? = W.heap[(ad a).1]?) Fence.wide _ trivial rfl (by omega) l bx (ad a).1 (ad a).2 z1 z2 a2 a3 cap2 cap3 hl1 hl2 hr1 hr2 (fun h => h) J Jx hY W (mv hW hbxc) (mv hW q2) (mv hW q3) h0)
          (fun h k => ⟨k.1.trans h.1, k.2.trans h.2⟩) (fun W l o o' hl h _ _ => ⟨World.putObj_heap_other (by omega), World.putObj_heap_other (by omega)⟩) (Below.refl _ _) (fun _ => rfl)
          (fun pre W => ∃ sv', WW T ad M (.func (.func gv) #[] lb) tb Vis w W (stL T f a st pre) (fun x => if x = a then some 0 else f x) (vs ++ [a] ++ singlesL T pre) (fun x => if x = ad a then some (0 : Int) else G x) sv' Ds ∧ sv'.ownBlock ≠ some bx ∧ W.heap[bx]? = some (.cells #[.pointer (some ⟨(ad a).1, (ad a).2, none⟩)] 45 (0, 0)))
          (fun c pre _ => ∃ y, pre.getLast? = some y ∧ (if y = a then some 0 else f y) = some 0)
          (fun s A B row hs hg hr => by
            obtain ⟨sv', h1, h2, h3⟩ := hs
            refine ⟨sv', h1.turned hh hg (fun k e => ⟨?_, fun hD => ?_, (hr k e).2⟩), h2, (hg.block bx (Array.getElem?_eq_some_iff.1 h3).1 (fun e => ?_)).trans h3⟩
            · have := (hr k e).1
              have := HW3.out.b5.lt
              omega
            · have := (hr k e).1
              have := hDs k hD
              omega
            · have := (hr bx e.symm).1
              omega)
          (fun c s A B row hs hg hr => hs)
          ⟨_, by rw [stL_nil]; simpa [singlesL] using HW3.out, hown3, hbox3⟩
          (fun x => { tmps := #[.pointer (some ⟨(ad r).1, (ad r).2, none⟩), .func (.func gv) #[] lb, undef, .pointer (some ⟨w.heap.size, 0, none⟩), .pointer (some ⟨w.heap.size + 1, 0, none⟩), .pointer (some ⟨w.heap.size + 3, 0, none⟩), .pointer (some ⟨w.heap.size + 5, 0, none⟩), .int .i64 st.length, .pointer (some ⟨(ad a).1, (ad a).2, none⟩), .int .i64 0, .bool false, .pointer (some ⟨(ad x).1, (ad x).2, none⟩), u12, u13, u14, u15, u16, .slice (some ⟨g, 0, none⟩) (st.length + 1) cap, .int .i64 (st.length + 1), .bool true, .slice (some ⟨g, 0, none⟩) (st.length + 1) cap, .int .i64 (st.length + 1), .int .i64 st.length, .slice (some ⟨g, 0, none⟩) (st.length + 1) cap, .int .i64 st.length, .pointer (some ⟨g, st.length, none⟩), .pointer (some ⟨(ad a).1, (ad a).2, none⟩), .tuple #[.int .i64 0, .bool false], .map (some (w.heap.size + 2)), .pointer (some ⟨(ad a).1, (ad a).2, none⟩), .tuple #[.int .i64 0, .bool false], .int .i64 0, .bool false, .bool false, u34, u35, u36, u37, u38, u39, u40, u41, u42, u43, .func (.func gv) #[] lb, .pointer (some ⟨(ad a).1, (ad a).2, none⟩), .tuple #[], .map (some (w.heap.size + 2)), .pointer (some ⟨(ad a).1, (ad a).2, none⟩), .pointer (some ⟨(ad a).1, (ad a).2, none⟩), .func (.func 72) #[] #[.pointer (some ⟨bx, 0, none⟩)], .pointer (some ⟨(ad x).1, (ad x).2, none⟩), u52, u53, u54, u55, u56, u57, u58, u59, u60, u61, u62, u63, u64, u65, u66, u67, u68, u69, u70, u71, u72, u73, u74, u75, u76], defers := [] }) ?assign ?body ?done ?stop
        case assign =>
          intro l x W K hK
          gi_wp2
          exact hK
        case done =>
          rintro D ys W hD rfl ⟨sv', hWW, hne, hbx⟩ hK
          rw [← hk] at hWW
          have HWW := Lib.hid hWW
          clear hWW
          gi_wp2
          exact ⟨_, wLeft_enter T f a st, _, _, _, _, sv', D :: Ds, rfl, Nat.le_trans (Nat.le_of_lt (wLeft_enter T f a st)) hwl, HI.out, HWW.out.mark D (by have := HW3.out.b5.lt; omega) (fun hm => by have := hDs D hm; omega) hK, _, _, _, _, _, _, _, _, _, _, _, _, _, _, _, _, _, _, _, _, _, _, _, _, _, _, _, _, _, _, _, _, _, _, _, _, _, _, _, _, _, _, _, _, _, _, _, _, _, _, _, _, _, _, _, _, _, _, _, _, _, _, _, _, _, _, _, _, _, _, rfl⟩
        case stop =>
          rintro D c pre W hD hpre ⟨y, hy, h0⟩ _
          exfalso
          have hmem : y ∈ T.kids a := by rw [hk]; exact hpre.subset (List.mem_of_getLast? hy)
          by_cases hya : y = a
          · have := T.fall a y hmem
            rw [hya] at this
            omega
          · rw [if_neg hya] at h0
            exact HNO.out y hmem h0
        case body =>
          rintro l pre x W ⟨sv', hWW, hne, hbxW⟩ hlen
          have hlkx := hWW.map.look (P := Tryz.prog) W Tryz.underlying45 hj0 (by rw [hjz]; decide) Tryz.underlying80 (Tryz.zeroValue3 W) (((hh.node x).kept hWW.grown (hh.apart x)).1) true
          simp only [hWW.mapf, if_true] at hlkx
          have hxc0 := hWW.b0.cell
          have hxc3 := hWW.b3.cell
          have hxc5 := hWW.b5.cell
          have hvaW : (ad a).1 < W.heap.size := Nat.lt_of_lt_of_le hvaw hWW.grown.size
          have hbxlt : bx < W.heap.size := (Array.getElem?_eq_some_iff.1 hbxW).1
          obtain ⟨hclx, y1, y2, b2, b3, d2, d3, hkx, _, _, _, _, r2, r3⟩ := (hh.node x).kept hWW.grown (hh.apart x)
          have CI : Hid (∀ k, CallsIn (Fence.wide.inRound l) k Tryz.prog 38 #[.pointer (some ⟨(ad x).1, (ad x).2, none⟩)] W fun e w' => e = .returned (.bool (decide (y1.length = 0 ∧ y2.length = 0))) ∧ W = w') := Lib.hid fun k => CallsIn.inRound l (callsIn_wide.2 ((isSingle_c r2 r3).mono fun e w' h => ⟨h.1, h.2.symm⟩))
          have hdec : decide (y1.length = 0 ∧ y2.length = 0) = decide (T.kids x = []) := by
            rw [decide_eq_decide, hkx, List.append_eq_nil_iff, List.length_eq_zero_iff, List.length_eq_zero_iff]
          rw [hdec] at CI
          have hW3b := HW3.out.b5.lt
          have hlowt : ∀ t, tb = some t → t < w3.heap.size := fun t ht => by have := hh.low t ht; omega
          have VX : Hid (∀ k, CallsIn (Fence.wide.inRound l) k Tryz.prog gv (#[.pointer (some ⟨(ad x).1, (ad x).2, none⟩)] ++ lb) W fun e W' => e = .returned (.tuple #[]) ∧ (WW T ad M (.func (.func gv) #[] lb) tb Vis w W' (stL T f a st pre) (fun x => if x = a then some 0 else f x) (vs ++ [a] ++ singlesL T pre ++ [x]) (fun x => if x = ad a then some (0 : Int) else G x) sv' Ds ∧ KeepsFrom w3.heap.size W W' ∧ (W'.heap[bx]? = W.heap[bx]? ∧ W'.heap[(ad a).1]? = W.heap[(ad a).1]?))) := by
            refine Lib.hid fun k => CallsIn.inRound l (callsIn_wide.2 ((hh.visit _ x W hWW.vis hWW.grown).mono ?_))
            rintro e W' ⟨rfl, hv, hg⟩
            refine ⟨rfl, hWW.visited hh hg hv, KeepsFrom.of_grownBy hg hlowt, hg.block bx hbxlt (fun e => by have := hh.low bx e.symm; omega), hg.block _ hvaW (hh.apart a)⟩
          have HWW := Lib.hid hWW
          have HNE := Lib.hid hne
          have HBX := Lib.hid hbxW
          clear hWW hne hbxW r2 r3
          by_cases hs : T.kids x = []
          · rw [decide_eq_true hs] at CI
            generalize hfx : (if x = a then some 0 else f x) = fx at hlkx
            obtain ⟨dv, mb, hlkx2⟩ : ∃ (dv : Int) (mb : Bool), (Instr.lookup 80 (.map (some (w.heap.size + 2))) (.pointer (some ⟨(ad x).1, (ad x).2, none⟩)) true).run Tryz.prog W = .ok (.tuple #[.int .i64 dv, .bool mb]) W := by
              cases fx with
              | none => exact ⟨0, false, hlkx⟩
              | some d => exact ⟨d, true, hlkx⟩
            clear hlkx
            gi_wp2_with first
              | (refine ⟨trivial, ?_⟩; with_reducible refine (CI.out _).mono ?_; rintro e w1 ⟨rfl, rfl⟩)
              | (refine ⟨trivial, ?_⟩; with_reducible refine (VX.out _).mono ?_; rintro e w1 ⟨rfl, hw1, hkf, hkp⟩; have HX1 := Lib.hid hw1; have HX2 := Lib.hid hkf; have HX3 := Lib.hid hkp; clear hw1 hkf hkp)
            refine ⟨HX2.out, HX3.out, sv', ?_, HNE.out, HX3.out.1.trans HBX.out⟩
            rw [stL_single T f a st pre x hs, singlesL_yes T pre x hs, ← List.append_assoc]
            exact HX1.out
          · rw [decide_eq_false hs] at CI
            cases hfx : (if x = a then some 0 else f x) with
            | none =>
              rw [hfx] at hlkx
              have hlkx2 : (Instr.lookup 80 (.map (some (w.heap.size + 2))) (.pointer (some ⟨(ad x).1, (ad x).2, none⟩)) true).run Tryz.prog W = .ok (.tuple #[.int .i64 0, .bool false]) W := hlkx
              clear hlkx
              have hfx0 : f x = none := by
                by_cases hxa : x = a
                · rw [if_pos hxa] at hfx; cases hfx
                · rw [if_neg hxa] at hfx; exact hfx
              have hrow := HWW.out.row
              have hll := stL_length T f a st pre
              have hl1' := stL_pos T f a st pre
              have hkle : (stL T f a st pre).length ≤ 4398046511104 := by omega
              generalize hkk : (stL T f a st pre).length = kk at hrow hll hl1' hkle
              have HKK := Lib.hid hkk
              clear hkk
              have hm1 : kk + 1 ≤ maxLen := by unfold maxLen; omega
              obtain ⟨i0, hi, hz0, hz1, hz2⟩ := info_parts info_pv
              have hbase : w.heap.size + 4 ≤ W.heap.size := by have := HWW.out.b5.lt; omega
              gi_wp2_with first
                | (refine ⟨trivial, ?_⟩; with_reducible refine (CI.out _).mono ?_; rintro e w1 ⟨rfl, rfl⟩)
                | (gi_at_builtin; refine wpListIn_append_own _ rfl _ _ 81 rfl (w.heap.size + 4) 45 i0 (.pointer none) 1 8 Tryz.underlying81 hi hz0 hz1 hz2 rfl (by decide) _ _ _ rfl (hrow.alloc _) ⟨W.heap.size, 0, none⟩ 1 1 [.pointer (some ⟨(ad x).1, (ad x).2, none⟩)] rfl rfl (cell_one_new _ _ _) (by simp [Value.oneCell']) hm1 (by omega) (by simp; omega) ?_; intro v' w1 hown' hgrow _; obtain ⟨g', cap', rfl⟩ := ownsRow_succ hown'; have hq5 := (HWW.out.b5.alloc _).kept hgrow (HWW.out.b5.not_row (by decide) hrow); have hq5c := hq5.cell; have hq5f := hq5.frozen; have HOWN := Lib.hid hown'; have HGROW := Lib.hid hgrow; clear hown' hgrow hq5)
              have HP := Lib.hid (HWW.out.pushed hh x false _ (by rw [HKK.out]; exact HOWN.out) HGROW.out)
              have hg1 := grownBy_setCell' w1 (w.heap.size + 5) (.slice (some ⟨g', 0, none⟩) (kk + 1) cap')
              have hnb : ∀ k, sv'.ownBlock = some k → w.heap.size + 4 ≤ k ∧ ∃ cs ft, W.heap[k]? = some (.cells cs 45 ft) := fun k hk => by
                rcases hrow.2 with ⟨e, _⟩ | ⟨g, cap, cur, e, hb, hgb, _⟩
                · rw [e] at hk; simp [Value.ownBlock] at hk
                · rw [e] at hk
                  obtain rfl : g = k := by simpa [Value.ownBlock] using hk
                  exact ⟨hb, _, _, hgb⟩
              have keep : ∀ k, k < W.heap.size → some k ≠ sv'.ownBlock → k ≠ w.heap.size + 5 → (w1.setCell ⟨w.heap.size + 5, 0, none⟩ (.slice (some ⟨g', 0, none⟩) (kk + 1) cap')).heap[k]? = W.heap[k]? := fun k h1 h2 h3 =>
                ((hg1.block k (Nat.lt_of_lt_of_le h1 (Nat.le_trans (by simp) HGROW.out.size)) (fun e => h3 (Option.some.inj e))).trans (HGROW.out.block k (by simp; omega) h2)).trans (Below.heap_alloc W _ k h1)
              have hbx5 : bx ≠ w.heap.size + 5 := fun e => by
                have h5 := HWW.out.b5
                rw [← e] at h5
                have h6 : W.heap[bx]? = some (.cells #[sv'] 81 (0, 0)) := h5
                rw [HBX.out] at h6
                exact absurd h6 (by simp)
              have kbx := keep bx hbxlt (fun e => HNE.out e.symm) hbx5
              refine ⟨?_, ⟨kbx, keep _ hvaW (fun e => by have := (hnb _ e.symm).1; omega) (by omega)⟩, (.slice (some ⟨g', 0, none⟩) (kk + 1) cap'), ?_, ?_, kbx.trans HBX.out⟩
              · refine (((KeepsOthers.alloc W _).trans (KeepsOthers.of_grownBy HGROW.out fun j o ej hj => ?_)).trans (KeepsOthers.setCell _ _ _)).from _
                obtain ⟨_, cs, ft, hc⟩ := hnb j ej
                rw [(Below.heap_alloc W _ j (Array.getElem?_eq_some_iff.1 hc).1).trans hc] at hj
                cases hj; rfl
              · rw [stL_yes T f a st pre x hs hfx0, singlesL_no T pre x hs]
                exact HP.out
              · refine row_not_one HP.out.row ?_ (kbx.trans HBX.out)
                simp only [List.length_cons]
                rw [HKK.out]
                omega
            | some d =>
              rw [hfx] at hlkx
              cases d with
              | zero =>
                have hlkx2 : (Instr.lookup 80 (.map (some (w.heap.size + 2))) (.pointer (some ⟨(ad x).1, (ad x).2, none⟩)) true).run Tryz.prog W = .ok (.tuple #[.int .i64 0, .bool true]) W := hlkx
                have hxc1 := HWW.out.b1.cell
                have hxf1 := HWW.out.b1.frozen
                clear hlkx
                gi_wp2_with first
                  | (refine ⟨trivial, ?_⟩; with_reducible refine (CI.out _).mono ?_; rintro e w1 ⟨rfl, rfl⟩)
                exact ⟨(KeepsOthers.setCell _ _ _).from _, x, by simp, hfx⟩
              | succ d =>
                have hlkx2 : (Instr.lookup 80 (.map (some (w.heap.size + 2))) (.pointer (some ⟨(ad x).1, (ad x).2, none⟩)) true).run Tryz.prog W = .ok (.tuple #[.int .i64 ((d : Int) + 1), .bool true]) W := hlkx
                have hd0 : ¬ ((d : Int) + 1 = 0) := by omega
                have hfxs : f x = some (d + 1) := by
                  by_cases hxa : x = a
                  · rw [if_pos hxa] at hfx; cases hfx
                  · rw [if_neg hxa] at hfx; exact hfx
                clear hlkx
                gi_wp2_with first
                  | (refine ⟨trivial, ?_⟩; with_reducible refine (CI.out _).mono ?_; rintro e w1 ⟨rfl, rfl⟩)
                refine ⟨KeepsFrom.refl _ _, ⟨rfl, rfl⟩, sv', ?_, HNE.out, HBX.out⟩
                rw [stL_met T f a st pre x _ hfxs, singlesL_no T pre x hs]
                exact HWW.out
      | some d =>
        cases d with
        | zero =>
          obtain rfl : b = true := hI.top_open hfa
          have hlk2 : (Instr.lookup 80 (.map (some (w.heap.size + 2))) (.pointer (some ⟨(ad a).1, (ad a).2, none⟩)) true).run Tryz.prog W = .ok (.tuple #[.int .i64 0, .bool true]) W := by
            rw [hfa] at hlk; exact hlk
          have hst : (st.length : Int) + 1 - 1 = (st.length : Int) := by omega
          have hpop := ownsRow_pop (xs := rowOf ad st) (last := [pv (ad a)]) (by rw [rowOf_len]; omega) hrow
          have HW := Lib.hid hW
          have HKD := Lib.hid hI.kids_done
          have HSG := Lib.hid hI.done
          have HI := Lib.hid hI.close
          have HP := Lib.hid hpop
          clear hW hI hpop hrow hlk
          gi_wp2
          have S2 := HW.out.stored hh HP.out
          generalize (W.setCell ⟨w.heap.size + 5, 0, none⟩ (.slice (some ⟨g, 0, none⟩) st.length cap)) = W2 at S2 ⊢
          have c3 := S2.b3.cell
          have CD : Hid (CallsIn Fence.wide 8 Tryz.prog 45 #[.pointer (some ⟨(ad a).1, (ad a).2, none⟩), .map (some (w.heap.size + 2))] W2.drew fun e W' => e = .returned (.int .i64 (T.dep a : Int)) ∧ RowKit.Below W2.heap.size W2 W') := by
            obtain ⟨hcl, z1, z2, a2, a3, cap2, cap3, hk, hl1, hl2, hr1, hr2, q2, q3⟩ := (hh.node a).kept S2.grown (hh.apart a)
            have hbnd := grL_bound G M hh.one.1 (fun x d hx => (S2.mapb x d hx).1)
            refine (depthAround_in ad Fence.wide 8 trivial trivial trivial rfl (by omega) (ad a).1 (ad a).2 z1 z2 a2 a3 cap2 cap3 hl1 hl2 hr1 hr2 (w.heap.size + 2) G W2.drew (World.block_lt_of_cell? W2 _ q2) S2.map (fun x => ((hh.node x).kept S2.grown (hh.apart x)).1) (fun l => ⟨(hbnd l).1, by have := (hbnd l).2; have := hh.one.2; omega⟩) q2 q3).mono ?_
            rintro e W' ⟨rfl, hb⟩
            refine ⟨?_, ⟨hb.os, hb.tape, hb.output, hb.size, hb.block⟩⟩
            rw [← hk, grL_dep T ad G a (fun c hc => ⟨fun hkc => by rw [S2.mapf, HKD.out c hc hkc]; rfl, fun hkc => ?_⟩)]
            rw [S2.mapf]
            cases hfc : f c with
            | none => simp
            | some d =>
              cases d with
              | zero => simp
              | succ d =>
                have h1 := (HSG.out c d hfc).1
                have h2 : T.dep c = 1 := by rw [T.dep_eq, hkc]; rfl
                simp only [Option.map_some, Option.getD_some]
                show ((d + 1 : Nat) : Int) ≤ 1
                omega
          have HS := Lib.hid S2
          clear S2
          have hmx : Tryz.prog.follows .mixedOrders = true := by kernel_rfl
          have MU : Hid (∀ w1, RowKit.Below W2.heap.size W2 w1 → w1.cell? ⟨w.heap.size + 3, 0, none⟩ = some (.map (some (w.heap.size + 2))) ∧ ∃ w2, (Instr.mapUpdate 80 (.map (some (w.heap.size + 2))) (.pointer (some ⟨(ad a).1, (ad a).2, none⟩)) (.int .i64 (T.dep a : Int))).run Tryz.prog w1 = .ok () w2 ∧
              WW T ad M (.func (.func gv) #[] lb) tb Vis w w2 st (fun x => if x = a then some (T.dep a) else f x) vs (fun x => if x = ad a then some (T.dep a : Int) else G x) (.slice (some ⟨g, 0, none⟩) st.length cap) Ds) := by
            intro w1 hb1
            have S3 := HS.out.newer hh (gb_below hb1 none)
            refine ⟨S3.b3.cell, ?_⟩
            obtain ⟨w2, r1, r2, r3, r4⟩ := S3.map.store (P := Tryz.prog) w1 Tryz.underlying45 hj0 (by rw [hjz]; decide) Tryz.underlying80 (((hh.node a).kept S3.grown (hh.apart a)).1) (.int .i64 (T.dep a : Int))
            exact ⟨w2, r1, S3.mapped hh r3 a (T.dep a) (hh.deep a) r2⟩
          refine wpIn_mono (Q := fun e a' w' => match e with
            | .normal => ∃ u7 u8 u9 u10 u11 u12 u13 u14 u15 u16 u17 u18 u19 u20 u21 u22 u23 u24 u25 u26 u27 u28 u29 u30 u31 u32 u33 u34 u35 u36 u37 u38 u39 u40 u41 u42 u43 u44 u45 u46 u47 u48 u49 u50 u51 u52 u53 u54 u55 u56 u57 u58 u59 u60 u61 u62 u63 u64 u65 u66 u67 u68 u69 u70 u71 u72 u73 u74 u75 u76 : Value, a' = { tmps := #[.pointer (some ⟨(ad r).1, (ad r).2, none⟩), .func (.func gv) #[] lb, undef, .pointer (some ⟨w.heap.size, 0, none⟩), .pointer (some ⟨w.heap.size + 1, 0, none⟩), .pointer (some ⟨w.heap.size + 3, 0, none⟩), .pointer (some ⟨w.heap.size + 5, 0, none⟩), u7, u8, u9, u10, u11, u12, u13, u14, u15, u16, u17, u18, u19, u20, u21, u22, u23, u24, u25, u26, u27, u28, u29, u30, u31, u32, u33, u34, u35, u36, u37, u38, u39, u40, u41, u42, u43, u44, u45, u46, u47, u48, u49, u50, u51, u52, u53, u54, u55, u56, u57, u58, u59, u60, u61, u62, u63, u64, u65, u66, u67, u68, u69, u70, u71, u72, u73, u74, u75, u76], defers := Ds.map fun D => { target := .collected D, args := #[] } } ∧ WW T ad M (.func (.func gv) #[] lb) tb Vis w w' st (fun x => if x = a then some (T.dep a) else f x) vs (fun x => if x = ad a then some (T.dep a : Int) else G x) (.slice (some ⟨g, 0, none⟩) st.length cap) Ds
            | _ => False) ?reg ?aft
          case reg =>
            gi_region_with_o (refine ⟨trivial, ?_⟩; refine CD.out.mono ?_; rintro e w1 ⟨rfl, hb1⟩; obtain ⟨c3', w2, hmu, hw2⟩ := MU.out w1 hb1)
            all_goals exact ⟨_, _, _, _, _, _, _, _, _, _, _, _, _, _, _, _, _, _, _, _, _, _, _, _, _, _, _, _, _, _, _, _, _, _, _, _, _, _, _, _, _, _, _, _, _, _, _, _, _, _, _, _, _, _, _, _, _, _, _, _, _, _, _, _, _, _, _, _, _, _, rfl, hw2⟩
          case aft =>
            intro e a' w' h
            cases e with
            | normal =>
              obtain ⟨u7, u8, u9, u10, u11, u12, u13, u14, u15, u16, u17, u18, u19, u20, u21, u22, u23, u24, u25, u26, u27, u28, u29, u30, u31, u32, u33, u34, u35, u36, u37, u38, u39, u40, u41, u42, u43, u44, u45, u46, u47, u48, u49, u50, u51, u52, u53, u54, u55, u56, u57, u58, u59, u60, u61, u62, u63, u64, u65, u66, u67, u68, u69, u70, u71, u72, u73, u74, u75, u76, rfl, h⟩ := h
              have HH := Lib.hid h
              clear h
              gi_wp2
              exact ⟨wLeft T st, wLeft_pop T a true st, st, _, vs, _, _, Ds, rfl, Nat.le_trans (Nat.le_of_lt (wLeft_pop T a true st)) hwl, HI.out, HH.out, _, _, _, _, _, _, _, _, _, _, _, _, _, _, _, _, _, _, _, _, _, _, _, _, _, _, _, _, _, _, _, _, _, _, _, _, _, _, _, _, _, _, _, _, _, _, _, _, _, _, _, _, _, _, _, _, _, _, _, _, _, _, _, _, _, _, _, _, _, _, rfl⟩
            | _ => exact h.elim
        | succ d =>
          obtain rfl : b = false := hI.top_other (by rw [hfa]; simp)
          have hlk2 : (Instr.lookup 80 (.map (some (w.heap.size + 2))) (.pointer (some ⟨(ad a).1, (ad a).2, none⟩)) true).run Tryz.prog W = .ok (.tuple #[.int .i64 ((d : Int) + 1), .bool true]) W := by
            rw [hfa] at hlk; exact hlk
          have hst : (st.length : Int) + 1 - 1 = (st.length : Int) := by omega
          have hd0 : ¬ ((d : Int) + 1 = 0) := by omega
          have hpop := ownsRow_pop (xs := rowOf ad st) (last := [pv (ad a)]) (by rw [rowOf_len]; omega) hrow
          have HW := Lib.hid hW
          have HI := Lib.hid (hI.pop hfa)
          have HP := Lib.hid hpop
          clear hW hI hpop hrow hlk
          gi_wp2
          exact ⟨wLeft T st, wLeft_pop T a false st, st, f, vs, G, _, Ds, rfl, Nat.le_trans (Nat.le_of_lt (wLeft_pop T a false st)) hwl, HI.out, HW.out.stored hh HP.out, _, _, _, _, _, _, _, _, _, _, _, _, _, _, _, _, _, _, _, _, _, _, _, _, _, _, _, _, _, _, _, _, _, _, _, _, _, _, _, _, _, _, _, _, _, _, _, _, _, _, _, _, _, _, _, _, _, _, _, _, _, _, _, _, _, _, _, _, _, _, rfl⟩
end Go.Proofs.YtaniebkfgkhgoaaGreatDoor

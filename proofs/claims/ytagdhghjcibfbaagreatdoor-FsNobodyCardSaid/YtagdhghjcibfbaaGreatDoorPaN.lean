/- A range over a function whose iterator writes variables of its own between two rounds; the library's strings.SplitSeq. -/
import Derived.Test.YtagdhghjcibfbaaGreatDoorPaL
import Derived.RangeFuncNested
import Derived.RangeFuncBound
import Derived.RangeFuncCalls
import Derived.RangeFuncLeaves
import Derived.Shelf.Abstract
import Derived.Shelf.RegionOpen
import Derived.OwnWalkIn
import Derived.TacticsInMore
import Derived.LoopNIn
import Derived.LoopIn
namespace Go.Proofs.YtagdhghjcibfbaaGreatDoor
open Go.RowKit Go.Shelf
attribute [local go_sem] Oper.semAt_some
set_option linter.unusedVariables false
set_option maxRecDepth 100000

/-- What an iterator promises that takes steps Tn of its own between the rounds: whatever invariants abide its steps are carried through. -/
def Turns {α : Type} (F : Fence) (n : Nat) (P : Program) (g : Nat) (lb : Array Value) (en : α → Value) (Tn : World → World → Prop) (ks : List Nat) (S Sp : List α → Prop) (N : Nat) (w : World) : Prop :=
  ∀ (l : Nat) (J Jx : List α → World → Prop), (∀ s X Y, J s X → Tn X Y → J s Y) → (∀ s X Y, Jx s X → Tn X Y → Jx s Y) →
    (∀ pre x X, J pre X → pre.length < N → YieldAt F (n - 1) P l #[en x] X fun e Y => (e = .returned (.bool true) ∧ J (pre ++ [x]) Y ∧ ∀ k ∈ ks, Y.heap[k]? = X.heap[k]?) ∨ (e = .returned (.bool false) ∧ Jx (pre ++ [x]) Y)) →
    J [] w → CallsIn F n P g (#[.func (.yield l) #[] #[]] ++ lb) w fun e Y => (∃ v, e = .returned v) ∧ ((∃ xs, S xs ∧ J xs Y) ∨ ∃ pre, Sp pre ∧ Jx pre Y)

/-- The ways out of a round's body. -/
def outT {α : Type} (B : Nat) (ks : List Nat) (I : List α → World → Prop) (Ix : List α → World → Prop) (xs : List α) (W : World) : Exit → Act → World → Prop
  | .normal, _, Y => KeepsFrom B W Y ∧ (∀ k ∈ ks, Y.heap[k]? = W.heap[k]?) ∧ I xs Y
  | .ret, _, Y => KeepsFrom B W Y ∧ Ix xs Y
  | _, _, _ => False

/-- A loop over such an iterator, whose body goes on or returns. -/
theorem range_turns {F : Fence} {n : Nat} {P : Program} {α : Type} {g : Operand} {p : Tmp} {assign body : Code} {Q : Exit → Act → World → Prop} {a : Act} {w : World} (hro : F.round = none) (h1 : 1 ≤ n)
    {gf : Nat} {lb : Array Value} (hg : a.eval g = .func (.func gf) #[] lb) (hF : F.fn gf) (eg : ∀ args w, (callFunc gf args).run P w = .ok (.enter gf args) w) {en : α → Value} {Tn : World → World → Prop} {ks : List Nat} {S Sp : List α → Prop} {N : Nat} (hks : ∀ k ∈ ks, k < w.heap.size)
    (I Ix : List α → World → Prop) (hI : OwnFrom w.heap.size I) (hIx : OwnFrom w.heap.size Ix) (tI : ∀ s X Y, I s X → Tn X Y → I s Y) (tIx : ∀ s X Y, Ix s X → Tn X Y → Ix s Y)
    (tB : ∀ X Y k, Tn X Y → w.heap.size ≤ k → Y.heap[k]? = X.heap[k]?) (h0 : I [] w)
    (hseq : ∀ W, Below w.heap.size w W → Turns F (n - 1) P gf lb en Tn ks S Sp N W) (a₁ : α → Act)
    (hassign : ∀ (l : Nat) (x : α) (W : World) (K : Act → World → Prop), K (a₁ x) W → assign.wpIn (F.inRound l) (n - 1 - 1) P (Exit.then K (fun _ _ _ => False)) { tmps := a.tmps.setIfInBounds p (en x), defers := [] } W)
    (hbody : ∀ (l : Nat) (pre : List α) (x : α) (W : World), I pre W → pre.length < N → body.wpIn (F.inRound l) (n - 1 - 1) P (outT w.heap.size ks I Ix (pre ++ [x]) W) (a₁ x) W)
    (hdone : ∀ (D : Nat) (xs : List α) (W : World), w.heap.size ≤ D → S xs → I xs W → W.heap[D]? = some (.deferred (some [])) → Q .normal { a with defers := { target := .collected D, args := #[] } :: a.defers } W)
    (hstop : ∀ (D : Nat) (pre : List α) (W : World), w.heap.size ≤ D → Sp pre → Ix pre W → W.heap[D]? = some (.deferred (some [])) → Code.ret.wpIn F n P Q { a with defers := { target := .collected D, args := #[] } :: a.defers } W) :
    (Code.rangeFunc g #[p] assign body).wpIn F n P Q a w := by
  refine wpIn_rangeFunc fun fn hfn => ?_
  rw [hro]
  obtain ⟨R, hR⟩ : ∃ R : LoopState → Option Code → Loop, ∀ s c, R s c = ⟨s, c, fn, a.tmps, #[p], assign, body, w.heap.size⟩ := ⟨_, fun _ _ => rfl⟩
  have hE := run_enterLoop_outer (P := P) (w := w) fn a.tmps #[p] assign body
  have k0 : ((w.alloc (.deferred (some []))).alloc (.loop (R .ready none))).heap[w.heap.size]? = some (.deferred (some [])) := by
    rw [Below.heap_alloc _ _ _ (by simp)]; exact World.alloc_heap_new w _
  have k1 : ((w.alloc (.deferred (some []))).alloc (.loop (R .ready none))).heap[w.heap.size + 1]? = some (.loop (R .ready none)) := by
    have := World.alloc_heap_new (w.alloc (.deferred (some []))) (.loop (R .ready none))
    rwa [World.size_alloc] at this
  have kI : I [] ((w.alloc (.deferred (some []))).alloc (.loop (R .ready none))) := hI.alloc _ (hI.alloc _ h0)
  have kb : Below w.heap.size w ((w.alloc (.deferred (some []))).alloc (.loop (R .ready none))) := ((Below.refl _ w).alloc (Nat.le_refl _) _).alloc (by simp) _
  rw [← hR] at hE
  generalize hV : (w.alloc (.deferred (some []))).alloc (.loop (R .ready none)) = V at *
  refine ⟨_, _, V, ⟨.fn (.func gf) lb, #[.func (.yield (w.heap.size + 1)) #[] #[]]⟩, V, gf, #[.func (.yield (w.heap.size + 1)) #[] #[]] ++ lb, V, hE, ?_, ?_, ?_, fun _ => h1, ?_⟩
  · simp only [resolve, hg]; simp [go_sem]
  · intro f' e; simp [Target.leads] at e; subst e; exact hF
  · simp [invoke, go_sem, eg]
  refine (hseq V kb (w.heap.size + 1)
    (fun s W => (I s W ∧ W.heap[w.heap.size]? = some (.deferred (some []))) ∧ W.heap[w.heap.size + 1]? = some (.loop (R .ready none)))
    (fun s W => (Ix s W ∧ W.heap[w.heap.size]? = some (.deferred (some []))) ∧ W.heap[w.heap.size + 1]? = some (.loop (R .done (some .ret))))
    (fun s X Y h t => ⟨⟨tI s X Y h.1.1 t, (tB X Y _ t (Nat.le_refl _)).trans h.1.2⟩, (tB X Y _ t (Nat.le_succ _)).trans h.2⟩)
    (fun s X Y h t => ⟨⟨tIx s X Y h.1.1 t, (tB X Y _ t (Nat.le_refl _)).trans h.1.2⟩, (tB X Y _ t (Nat.le_succ _)).trans h.2⟩)
    (fun pre x X hJ hN => ?_) ⟨⟨kI, k0⟩, k1⟩).mono ?_
  · obtain ⟨⟨j1, j2⟩, j3⟩ := hJ
    have lt := (Array.getElem?_eq_some_iff.1 j3).1
    refine ⟨fn, _, assign, body, ?_, roundIn_of_wpIn (tmps := a.tmps.setIfInBounds p (en x)) hfn (hassign _ x X _ ⟨_, run_beginRound j3 (by rw [hR]), ?_⟩)⟩
    · have := run_yield (P := P) (args := #[en x]) j3 (by rw [hR]; rfl)
      rw [hR] at this
      simpa using this
    have b3 : (X.putObj (w.heap.size + 1) (.loop { R .ready none with state := .busy })).heap[w.heap.size + 1]? = some (.loop (R .busy none)) := by
      rw [World.putObj_heap_same lt, hR, hR]
    have b2 : (X.putObj (w.heap.size + 1) (.loop { R .ready none with state := .busy })).heap[w.heap.size]? = some (.deferred (some [])) := (World.putObj_heap_other (by omega)).trans j2
    refine wpIn_mono (hbody _ pre x _ (hI.putObj _ j1 (Nat.le_succ _) j3 rfl) hN) fun e a2 Y hp => ?_
    have back : ∀ (c : Option Code), KeepsFrom w.heap.size (X.putObj (w.heap.size + 1) (.loop { R .ready none with state := .busy })) Y →
        (Instr.endRound (w.heap.size + 1) c).run P Y = .ok (.bool c.isNone) (Y.putObj (w.heap.size + 1) (.loop (R (if c.isNone then .ready else .done) c))) ∧ Y.heap[w.heap.size + 1]? = some (.loop (R .busy none)) ∧
        (Y.putObj (w.heap.size + 1) (.loop (R (if c.isNone then .ready else .done) c))).heap[w.heap.size]? = some (.deferred (some [])) ∧ (Y.putObj (w.heap.size + 1) (.loop (R (if c.isNone then .ready else .done) c))).heap[w.heap.size + 1]? = some (.loop (R (if c.isNone then .ready else .done) c)) := fun c hk => by
      have y3 := hk.same _ _ (Nat.le_succ _) b3 rfl
      have := run_endRound (P := P) c y3
      rw [hR] at this
      rw [hR]
      exact ⟨this, y3, (World.putObj_heap_other (by omega)).trans (hk.same _ _ (Nat.le_refl _) b2 rfl), World.putObj_heap_same (Array.getElem?_eq_some_iff.1 y3).1⟩
    cases e with
    | normal =>
      obtain ⟨q1, q2, q3, q4⟩ := back none hp.1
      refine ⟨_, _, q1, .inl ⟨rfl, ⟨⟨hI.putObj _ hp.2.2 (Nat.le_succ _) q2 rfl, q3⟩, q4⟩, fun k hk => ?_⟩⟩
      have hlt := hks k hk
      exact (World.putObj_heap_other (by omega)).trans ((hp.2.1 k hk).trans (World.putObj_heap_other (by omega)))
    | ret =>
      obtain ⟨q1, q2, q3, q4⟩ := back (some .ret) hp.1
      exact ⟨_, _, q1, .inr ⟨rfl, ⟨hIx.putObj _ hp.2 (Nat.le_succ _) q2 rfl, q3⟩, q4⟩⟩
    | exit id => exact hp.elim
    | goto t => exact hp.elim
    | panic c => exact hp.elim
    | outgrown => exact hp.elim
  · rintro e Y ⟨⟨v, rfl⟩, ⟨xs, hS, ⟨i1, i2⟩, i3⟩ | ⟨pre, hS, ⟨i1, i2⟩, i3⟩⟩
    · have := run_endLoop (P := P) i3 (by rw [hR]; simp)
      rw [hR] at this
      exact ⟨none, _, this, hdone _ xs _ (Nat.le_refl _) hS (hI.putObj _ i1 (Nat.le_succ _) i3 rfl) ((World.putObj_heap_other (by omega)).trans i2)⟩
    · have := run_endLoop (P := P) i3 (by rw [hR]; simp)
      rw [hR] at this
      exact ⟨some .ret, _, this, hstop _ pre _ (Nat.le_refl _) hS (hIx.putObj _ i1 (Nat.le_succ _) i3 rfl) ((World.putObj_heap_other (by omega)).trans i2)⟩

/-! strings.SplitSeq -/
/-- The iterator's own step: it writes the rest of the text. -/
def TnS (b : Nat) (X Y : World) : Prop := ∃ v, Y = X.setCell ⟨b, 0, none⟩ (.string v)
theorem index_split (l : List UInt8) : (Lib.indexByte l 47 = -1 ∧ splitP l = [l]) ∨ ∃ i : Nat, i < l.length ∧ Lib.indexByte l 47 = i ∧ splitP l = l.take i :: splitP (l.drop (i + 1)) := by
  induction l with
  | nil => left; exact ⟨rfl, rfl⟩
  | cons c l ih =>
    rw [show Lib.indexByte (c :: l) 47 = if c == 47 then 0 else if Lib.indexByte l 47 == -1 then -1 else Lib.indexByte l 47 + 1 from rfl]
    by_cases hc : c = 47
    · right
      refine ⟨0, by simp, by rw [if_pos (by simpa using hc)]; rfl, ?_⟩
      simp [splitP, hc]
    · have hs : splitP (c :: l) = (c :: (splitP l).headD []) :: (splitP l).tail := by simp only [splitP]; rw [if_neg hc]
      rw [if_neg (by simpa using hc)]
      rcases ih with ⟨h1, h2⟩ | ⟨i, h0, h1, h2⟩
      · left
        rw [h1, hs, h2]
        exact ⟨rfl, rfl⟩
      · right
        refine ⟨i + 1, by simp; omega, by rw [h1, if_neg (by simp)]; rfl, ?_⟩
        rw [hs, h2]; simp

/-- The bytes that a cell's text still has. -/
def leftS (b : Nat) (W : World) : Nat := match W.cell? ⟨b, 0, none⟩ with | some (.string s) => s.size | _ => 0

set_option maxHeartbeats 4000000 in
theorem seq_turns (l0 : List UInt8) (bp bv bo : Nat) (hl : l0.length ≤ 1099511627776) (n : Nat) (hn : 1 ≤ n) (W : World) (hne : bv ≠ bp) (hne2 : bv ≠ bo)
    (cp : W.cell? ⟨bp, 0, none⟩ = some (.string ⟨#[47]⟩)) (cv : W.cell? ⟨bv, 0, none⟩ = some (.string (bs l0))) (co : W.cell? ⟨bo, 0, none⟩ = some (.int .i64 0)) (fv : W.frozen? ⟨bv, 0, none⟩ = false) :
    Turns Fence.wide n Tryz.prog 132 #[.pointer (some ⟨bp, 0, none⟩), .pointer (some ⟨bv, 0, none⟩), .pointer (some ⟨bo, 0, none⟩)] (fun x : List UInt8 => .string (bs x)) (TnS bv) [bp, bv, bo] (fun xs => xs = splitP l0) (fun pre => pre <+: splitP l0) (splitP l0).length W := by
  intro l J Jx tJ tJx hY h0
  refine callsIn_of_wp Tryz.func132 rfl trivial ?_ rfl
  simp only [Tryz.ntmps132, List.size_toArray, List.length_cons, List.length_nil, Nat.reduceAdd, Nat.reduceSub, Array.replicate_succ, Array.replicate_zero, List.push_toArray, List.append_toArray, List.nil_append, List.cons_append]
  have hIX : Hid (∀ (r : List UInt8) (w0 : World) k, CallsIn Fence.wide k Tryz.prog 120 #[.string (bs r), .string ⟨#[47]⟩] w0 fun e w' => e = .returned (.int .i64 (Lib.indexByte r 47)) ∧ w0 = w') := fun r w0 k =>
    callsIn_wide.2 ((Tryz.strings_Index_one (bs r) 47 w0).mono fun e w' h => ⟨h.1, h.2.symm⟩)
  have HJ := Lib.hid tJ
  have HJx := Lib.hid tJx
  have HY := Lib.hid hY
  clear tJ tJx hY
  have e0 : (((⟨#[47]⟩ : ByteArray).size : Int) == 0) = false := by decide
  gi_wp2
  gi_loopw [7, 8] (fun _ _ wr => ∃ (pre : List (List UInt8)) (r : List UInt8), Hid (splitP l0 = pre ++ splitP r) ∧ r.length ≤ l0.length ∧ Hid (J pre wr) ∧ wr.cell? ⟨bv, 0, none⟩ = some (.string (bs r)) ∧ wr.cell? ⟨bp, 0, none⟩ = some (.string ⟨#[47]⟩) ∧ wr.cell? ⟨bo, 0, none⟩ = some (.int .i64 0) ∧ wr.frozen? ⟨bv, 0, none⟩ = false) (fun _ _ wr => leftS bv wr)
  case atStart => exact ⟨[], l0, rfl, Nat.le_refl _, h0, cv, cp, co, fv⟩
  case round =>
    clear cv cp co fv
    obtain ⟨pre, r, hsp, hrl, hJ, cv, cp, co, fv⟩ := hrel
    have HI := Lib.hid (hIX.out r)
    have hrs : (bs r).size = r.length := bs_size r
    have hspl := congrArg List.length hsp.out
    rw [List.length_append] at hspl
    rcases index_split r with ⟨hi, hr⟩ | ⟨i, hir, hi, hr⟩
    · rw [hi] at HI
      have hlast : splitP l0 = pre ++ [r] := by rw [hsp.out, hr]
      rw [hr] at hspl
      obtain ⟨fn, tmps, assign, body, hy, hR⟩ := HY.out pre r wr hJ.out (by rw [hspl]; simp)
      have HR := Lib.hid hR
      have HL := Lib.hid hlast
      clear hi hr hspl hlast hR hrs
      generalize bs r = rs at *
      gi_wp2_with (refine ⟨trivial, ?_⟩; gi_at_call 120; (with_reducible refine (HI.out _ _).mono ?_); rintro e w1 ⟨rfl, rfl⟩)
      refine HR.out.mono ?_
      rintro e W3 (⟨rfl, hJ3, hk3⟩ | ⟨rfl, hJx3⟩)
      · have HJ3 := Lib.hid hJ3
        clear hJ3 hk3
        gi_wp2
        go_end0
        exact ⟨⟨_, rfl⟩, .inl ⟨_, HL.out.symm, HJ3.out⟩⟩
      · have HJ3 := Lib.hid hJx3
        clear hJx3
        gi_wp2
        go_end0
        exact ⟨⟨_, rfl⟩, .inr ⟨_, by rw [HL.out]; exact List.prefix_refl _, HJ3.out⟩⟩
    · rw [hi] at HI
      have hlast : splitP l0 = (pre ++ [r.take i]) ++ splitP (r.drop (i + 1)) := by rw [hsp.out, hr]; simp
      rw [hr] at hspl
      obtain ⟨fn, tmps, assign, body, hy, hR⟩ := HY.out pre (r.take i) wr hJ.out (by rw [hspl]; simp)
      have HR := Lib.hid hR
      have HL := Lib.hid hlast
      have hx1 := bs_ext0 r i
      have hx2 := bs_extr r (i + 1)
      rw [← hx1] at hy
      have hdl : (r.drop (i + 1)).length < r.length := by rw [List.length_drop]; omega
      have HX2 := Lib.hid hx2
      have hdl2 : (r.drop (i + 1)).length ≤ l0.length := by omega
      have HM : Hid (leftS bv wr = r.length) := by show _ = _; unfold leftS; rw [cv]; exact hrs
      have HM2 : Hid ((r.drop (i + 1)).length < r.length) := hdl
      have hz1 : (i : Int) ≤ ((bs r).size : Int) := by omega
      have hz2 : (i : Int) + 1 ≤ ((bs r).size : Int) := by omega
      have hz3 : (bs r).size ≤ 1099511627776 := by omega
      have hw1 : IntKind.i64.wrap ((i : Int) + 1) = (i : Int) + 1 := IntWalk.i64_in _ (by omega)
      have hw2 : ((i : Int) + 1).toNat = i + 1 := by omega
      clear hi hr hspl hlast hR hrs hx1 hx2 hir hdl
      generalize hrs : bs r = rs at *
      clear hrs
      gi_wp2_with (refine ⟨trivial, ?_⟩; gi_at_call 120; (with_reducible refine (HI.out _ _).mono ?_); rintro e w1 ⟨rfl, rfl⟩)
      refine HR.out.mono ?_
      rintro e W3 (⟨rfl, hJ3, hk3⟩ | ⟨rfl, hJx3⟩)
      · have HJ3 := Lib.hid hJ3
        have cv3 := (World.cell?_of_block (a := ⟨bv, 0, none⟩) (hk3 bv (by simp))).trans cv
        have cp3 := (World.cell?_of_block (a := ⟨bp, 0, none⟩) (hk3 bp (by simp))).trans cp
        have co3 := (World.cell?_of_block (a := ⟨bo, 0, none⟩) (hk3 bo (by simp))).trans co
        have fv3 := (World.frozen?_of_block (a := ⟨bv, 0, none⟩) (hk3 bv (by simp))).trans fv
        clear hJ3 hk3
        gi_wp2
        go_roundw
        case rel =>
          refine ⟨pre ++ [r.take i], r.drop (i + 1), HL.out, hdl2, HJ.out _ _ _ HJ3.out ⟨_, rfl⟩, ?_, ?_, ?_, ?_⟩
          · rw [World.cell?_setCell_same' _ _ _ (by rw [cv3]; rfl)]; exact congrArg (fun z => some (Value.string z)) HX2.out
          · rw [World.cell?_setCell_other _ _ _ _ (by intro e; cases e; exact hne rfl)]; exact cp3
          · rw [World.cell?_setCell_other _ _ _ _ (by intro e; cases e; exact hne2 rfl)]; exact co3
          · rw [World.frozen?_setCell]; exact fv3
        case measure =>
          rw [HM.out]
          unfold leftS
          rw [World.cell?_setCell_same' _ _ _ (by rw [cv3]; rfl)]
          have := congrArg ByteArray.size HX2.out
          rw [bs_size] at this
          have h2 := HM2.out
          show (rs.extract (i + 1) rs.size).size < _
          omega
      · have HJ3 := Lib.hid hJx3
        clear hJx3
        gi_wp2
        refine bodyPost_ret (results_none rfl _ _ _) rfl ?_
        exact ⟨⟨_, rfl⟩, .inr ⟨_, by rw [HL.out]; exact List.prefix_append _ _, HJ3.out⟩⟩

/-- What SplitSeq hands back, and the blocks that it lays. -/
theorem splitSeq_in (s : ByteArray) (n : Nat) (w : World) :
    CallsIn Fence.wide n Tryz.prog 110 #[.string s, .string ⟨#[47]⟩, .int .i64 0] w fun e w' => e = .returned (.func (.func 132) #[] #[.pointer (some ⟨w.heap.size + 1, 0, none⟩), .pointer (some ⟨w.heap.size, 0, none⟩), .pointer (some ⟨w.heap.size + 2, 0, none⟩)]) ∧
      w' = ((w.alloc (.cells #[.string s] 9)).alloc (.cells #[.string ⟨#[47]⟩] 9)).alloc (.cells #[.int .i64 0] 3) := by
  refine callsIn_of_wp Tryz.func110 rfl trivial ?_ rfl
  simp only [Tryz.ntmps110, List.size_toArray, List.length_cons, List.length_nil, Nat.reduceAdd, Nat.reduceSub, Array.replicate_succ, Array.replicate_zero, List.push_toArray, List.append_toArray, List.nil_append, List.cons_append]
  gi_wp2
  go_ret
  exact ⟨rfl, rfl⟩
theorem seq_in (s : ByteArray) (n : Nat) (hn : 1 ≤ n) (w : World) :
    CallsIn Fence.wide n Tryz.prog 87 #[.string s, .string ⟨#[47]⟩] w fun e w' => e = .returned (.func (.func 132) #[] #[.pointer (some ⟨w.heap.size + 1, 0, none⟩), .pointer (some ⟨w.heap.size, 0, none⟩), .pointer (some ⟨w.heap.size + 2, 0, none⟩)]) ∧
      w' = ((w.alloc (.cells #[.string s] 9)).alloc (.cells #[.string ⟨#[47]⟩] 9)).alloc (.cells #[.int .i64 0] 3) := by
  refine callsIn_of_wp Tryz.func87 rfl trivial ?_ rfl
  simp only [Tryz.ntmps87, List.size_toArray, List.length_cons, List.length_nil, Nat.reduceAdd, Nat.reduceSub, Array.replicate_succ, Array.replicate_zero, List.push_toArray, List.append_toArray, List.nil_append, List.cons_append]
  gi_wp2_with (refine ⟨trivial, ?_⟩; gi_at_call 110; (with_reducible refine (splitSeq_in _ _ _).mono ?_); rintro e w1 ⟨rfl, rfl⟩)
  go_ret
  exact ⟨rfl, rfl⟩
end Go.Proofs.YtagdhghjcibfbaaGreatDoor

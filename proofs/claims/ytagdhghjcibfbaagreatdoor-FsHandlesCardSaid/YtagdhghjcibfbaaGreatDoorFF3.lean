/- Layer 9: open, file, size, shut. Layer 9: arrays of handles as values: an element; whether one is all noughts. Layer 9: file, size, shut. -/
import Derived.Test.YtagdhghjcibfbaaGreatDoorFF2
import Derived.Test.YtagdhghjcibfbaaGreatDoorFsShelf
namespace Go.Proofs.YtagdhghjcibfbaaGreatDoor
open Go.RowKit
set_option linter.unusedVariables false
set_option linter.unusedSectionVars false
set_option maxRecDepth 100000

theorem idxFrom0 : ∀ (l : List Int) (i : Nat), Lib.idxFrom l 0 i = if idx0 l < l.length then ((i + idx0 l : Nat) : Int) else -1
  | [], i => rfl
  | x :: r, i => by
    unfold Lib.idxFrom idx0
    rw [List.findIdx_cons]
    by_cases h : x = 0
    · simp [h]
    · have ih := idxFrom0 r (i + 1)
      unfold idx0 at ih
      simp only [h, decide_false, cond_false, if_false, List.length_cons]
      rw [ih]
      split <;> split <;> first | omega | rfl
theorem idx_take8 {l : List Int} (h : l.length = 8) : Lib.idxOf (l.take 8) 0 = if idx0 l < 8 then (idx0 l : Int) else -1 := by
  rw [List.take_of_length_le (by omega)]
  unfold Lib.idxOf
  rw [idxFrom0, h, Nat.zero_add]
theorem len8 {l : List Int} (h : l.length = 8) : ∃ r0 r1 r2 r3 r4 r5 r6 r7, l = [r0, r1, r2, r3, r4, r5, r6, r7] := by
  match l, h with
  | [r0, r1, r2, r3, r4, r5, r6, r7], _ => exact ⟨r0, r1, r2, r3, r4, r5, r6, r7, rfl⟩
theorem arr8' : Tryz.prog.underlying 69 = some (.array 8 3) := by kernel_rfl
theorem arr8 : Tryz.prog.underlying 69 = some (.array (Tryz.prog.arrayLen 69) (Tryz.prog.elem 69)) := by kernel_rfl
theorem arrLen8 : Tryz.prog.arrayLen 69 = 8 := by kernel_rfl
theorem size8 (w : World) : (sizeOf (Tryz.prog.elem 69)).run Tryz.prog w = .ok 1 w := by kernel_rfl
theorem off_add (b o l : Nat) : (⟨b, o, none⟩ : Addr).add l = ⟨b, o + l, none⟩ := by
  unfold Addr.add
  split
  · rename_i h; subst h; rfl
  · rfl
theorem slice8 (b : Nat) (w : World) : (Instr.sliceAt 69 (.pointer (some ⟨b, 0, none⟩)) none none none).run Tryz.prog w = .ok (.slice (some ⟨b, 0, none⟩) 8 8) w := by
  rw [run_sliceAt_array_all w 69 ⟨b, 0, none⟩ arr8, size8]
  show Result.ok _ w = _
  unfold slicedAt
  rw [arrLen8]
  rfl
theorem idxAt8 (b i : Nat) (m : Int) (hm : m = (i : Int)) (hi : i < 8) (w : World) : (Instr.indexAt 69 (.pointer (some ⟨b, 0, none⟩)) (.int .i64 m)).run Tryz.prog w = .ok (.pointer (some ⟨b, i, none⟩)) w := by
  subst hm
  have h1 : (0 : Int) ≤ i ∧ (i : Int) < (8 : Nat) := ⟨by omega, by omega⟩
  simp [Instr.indexAt, asIntOf, run_underlying arr8', Instr.sureAddr, off_add]
  omega

/-- An array of handles in a block of the call's own. -/
def AB (w : World) (b : Nat) (l : List Int) : Prop := w.heap[b]? = some (.cells (l.map fun x => Value.int .i64 x).toArray 69 (0, 0))
section
variable {w w' : World} {b : Nat} {l : List Int} (h : AB w b l)
include h
theorem AB.cell {i : Nat} (hi : i < l.length) : w.cell? ⟨b, i, none⟩ = some (.int .i64 (l.getD i 0)) := by
  unfold AB at h
  simp [World.cell?, h, hi, List.getD_eq_getElem?_getD]
theorem AB.fr (i : Nat) : w.frozen? ⟨b, i, none⟩ = false := by unfold AB at h; simp [World.frozen?, h]
theorem AB.ch {M : Nat → Prop} (g : Ch M w w') (hn : ¬ M b) : AB w' b l := g.heap h hn
theorem AB.set (i : Nat) (x : Int) : AB (w.setCell ⟨b, i, none⟩ (.int .i64 x)) b (l.set i x) := by
  unfold AB at h ⊢
  simp only [World.setCell, Array.getElem?_modify, h, List.map_set]
  simp
end
section
variable {w W1 w4 : World} {fb t hb : Nat} {F F' : Fs} {S : Nat → Prop} {N N' : Nat}
theorem FsP.poke (b : Below w.heap.size w W1) (h : FsAt w fb t hb F S N) (k : FsP W1 fb t hb F' S N' w4) {B : Nat} (h1 : w.heap.size ≤ B) (h2 : B < W1.heap.size) (i : Nat) (v : Value) :
    FsP w fb t hb F' S N' (w4.setCell ⟨B, i, none⟩ v) := by
  have s2 := k.ch.size
  have hc : Ch (fun x => x = B) w4 (w4.setCell ⟨B, i, none⟩ v) := Ch.set w4 _ _ rfl
  have hz : (w4.setCell ⟨B, i, none⟩ v).heap.size = w4.heap.size := by simp [World.setCell]
  have hgm := h.gm
  have s1 := b.size
  refine ⟨(k.at_.ch hc (fun x hx e => ?_) (fun e => by omega)).grow (fun x hx => ?_) (fun x hx => ?_) (fun e => ?_), ((Ch.of_below b).trans k.ch (fun _ _ e => e)).trans hc (fun x hx e => by omega)⟩
  · subst e
    rcases hx with hx | hx
    · have := h.lt _ hx; omega
    · unfold New at hx; omega
  · rcases hx with hx | hx
    · exact .inl hx
    · right; unfold New at *; omega
  · rw [hz]
    rcases hx with hx | hx
    · have := h.lt x hx; omega
    · unfold New at hx; omega
  · rcases e with e | e
    · exact h.gl e
    · unfold New at e; omega
end

section
variable {w : World} {fb t hb : Nat} {F : Fs} {S : Nat → Prop} {N : Nat} (h : FsAt w fb t hb F S N) (hN : N < 999999000)
include h hN
set_option maxHeartbeats 1000000 in
theorem fs_open (gv : Nat) (bd cp : Array Value) (hent : ∀ args w, (callFunc gv args).run Tryz.prog w = .ok (.enter gv args) w) {o : Int} (ho : InI o) (r : Tb × Int × Int) (hr : r.2.2 = 0 → InI r.2.1)
    (CG : ∀ w1, Below w.heap.size w w1 → Calls Tryz.prog gv (bd ++ cp) w1 fun e w' => e = .returned (.tuple #[.int .i64 r.2.1, .int .i64 r.2.2]) ∧ FsP w1 fb t hb ⟨r.1, F.H⟩ S (N + 1) w') :
    Calls Tryz.prog 22 #[.pointer (some ⟨fb, 0, none⟩), .int .i64 o, .func (.func gv) bd cp] w fun e w' => e = .returned (.tuple #[.int .i64 (F.open_ o r).2.1, .int .i64 (F.open_ o r).2.2]) ∧ FsP w fb t hb (F.open_ o r).1 S (N + 3) w' := by
  have H := Lib.hid h
  have hlk := h.mp.look ho
  have hlen := h.hok.row_len o
  have c1 : w.cell? ⟨fb, 1, none⟩ = some (.map (some hb)) := h.fs.c1
  have c0 : w.cell? ⟨fb, 0, none⟩ = some (.pointer (some ⟨t, 0, none⟩)) := h.fs.c0
  change (Instr.lookup _ _ _ _).run _ _ = .ok (hndV (F.row o)) w at hlk
  have hsl := fun w0 => slice8 w.heap.size w0
  have HIDX := Lib.hid (idx_take8 hlen)
  unfold Fs.open_
  by_cases hi : idx0 (F.row o) < 8
  · rw [if_pos hi]
    rw [if_pos hi] at HIDX
    have HK := Lib.hid hi
    obtain ⟨k, hk⟩ : ∃ k, k = idx0 (F.row o) := ⟨_, rfl⟩
    rw [← hk] at HIDX HK ⊢
    have HW1 := Lib.hid ((Below.refl w.heap.size w).alloc (Nat.le_refl _) (.cells ((F.row o).map fun x => Value.int .i64 x).toArray 69))
    have HA := Lib.hid (show AB (w.alloc (.cells ((F.row o).map fun x => Value.int .i64 x).toArray 69)) w.heap.size (F.row o) from (MapKept.heap_alloc w _).1)
    have HSZ : Hid ((w.alloc (.cells ((F.row o).map fun x => Value.int .i64 x).toArray 69)).heap.size = w.heap.size + 1) := by show _ = _; simp
    have HLEN := Lib.hid hlen
    have CC := Lib.hid (CG _ HW1.out)
    have SLT := Lib.hid h.lt
    have HOK := Lib.hid h.hok
    obtain ⟨r0, r1, r2, r3, r4, r5, r6, r7, hrow⟩ := len8 hlen
    have e1 : ((F.row o).map fun x => Value.int .i64 x).toArray = #[.int .i64 r0, .int .i64 r1, .int .i64 r2, .int .i64 r3, .int .i64 r4, .int .i64 r5, .int .i64 r6, .int .i64 r7] := by rw [hrow]; rfl
    have e2 : hndV (F.row o) = .agg #[.int .i64 r0, .int .i64 r1, .int .i64 r2, .int .i64 r3, .int .i64 r4, .int .i64 r5, .int .i64 r6, .int .i64 r7] := by rw [hrow]; rfl
    rw [e2] at hlk
    rw [e1] at HW1 HA HSZ CC
    obtain ⟨W1, hW1⟩ : ∃ W1, w.alloc (.cells #[.int .i64 r0, .int .i64 r1, .int .i64 r2, .int .i64 r3, .int .i64 r4, .int .i64 r5, .int .i64 r6, .int .i64 r7] 69) = W1 := ⟨_, rfl⟩
    rw [hW1] at HW1 HA HSZ CC
    have CI : Hid (Calls Tryz.prog 45 #[.slice (some ⟨w.heap.size, 0, none⟩) 8 8, .int .i64 0] W1 fun e w' => e = .returned (.int .i64 (k : Int)) ∧ w' = W1) := by
      have := Tryz.slices_Index_int w.heap.size 0 8 8 (F.row o) 0 W1 (by omega) (by omega) (fun j hj => by rw [Nat.zero_add]; exact HA.out.cell hj)
      rw [HIDX.out] at this
      exact Lib.hid this
    have hk2 : decide ((k : Int) < 0) = false := decide_eq_false (by omega)
    clear e1 e2 hrow hk h hi hlen CG
    by_cases hE : r.2.2 = 0
    · rw [if_pos hE]
      rw [hE] at CC
      have HRI := Lib.hid (hr hE)
      have CH : Hid (∀ w2, FsP W1 fb t hb ⟨r.1, F.H⟩ S (N + 1) w2 → Calls Tryz.prog 46 #[.pointer (some ⟨t, 0, none⟩), .int .i64 r.2.1] w2 fun e w' =>
          e = .returned (.int .i64 (r.1.step (aHold r.2.1)).2.2.2) ∧ FsP W1 fb t hb ⟨(r.1.step (aHold r.2.1)).1, F.H⟩ S (N + 2) w') := Lib.hid fun w2 hp =>
        (tm_hold hp.at_ (by omega) HRI.out).mono fun e w' ⟨he, hq⟩ => ⟨he, hp.trans hq H.out.gl (Nat.lt_of_lt_of_le H.out.gm HW1.out.size)⟩
      have HC0 : Hid (∀ w2 F' N', FsP W1 fb t hb F' S N' w2 → w2.cell? ⟨fb, 0, none⟩ = some (.pointer (some ⟨t, 0, none⟩)) ∧ w2.cell? ⟨fb, 1, none⟩ = some (.map (some hb)) ∧ AB w2 w.heap.size (F.row o)) :=
        Lib.hid fun w2 F' N' hp => ⟨hp.at_.fs.c0, hp.at_.fs.c1, HA.out.ch hp.ch (fun e => absurd (SLT.out _ e) (Nat.lt_irrefl _))⟩
      clear hE hr
      generalize r.1.step (aHold r.2.1) = st at *
      generalize r.1 = T1 at *
      generalize r.2.1 = id at *
      by_cases hF : st.2.2.2 = 0
      · rw [if_pos hF]
        rw [hF] at CH
        clear hF
        go_enter Tryz.func22, Tryz.ntmps22
        go_wp2_with (first
          | (go_at_call 45; (with_reducible refine CI.out.mono ?_); rintro e w1 ⟨rfl, rfl⟩)
          | (go_at_call 46; (with_reducible refine (CH.out _ HP.out).mono ?_); rintro e w4 ⟨rfl, hp⟩; have HP4 := Lib.hid hp; obtain ⟨c0, c1, ab⟩ := HC0.out _ _ _ hp; have hcl := ab.cell (i := k) (by rw [HLEN.out]; exact HK.out); have hfr := ab.fr k; have HAB := Lib.hid (ab.set k id); have HP5 := Lib.hid (FsP.poke HW1.out H.out hp (B := w.heap.size) (Nat.le_refl _) (by rw [HSZ.out]; exact Nat.lt_succ_self _) k (.int .i64 id)); obtain ⟨W5, hW5⟩ : ∃ W5, w4.setCell ⟨w.heap.size, k, none⟩ (.int .i64 id) = W5 := ⟨_, rfl⟩; rw [hW5] at HP5 HAB; clear hp ab; refine Hid.out ?_)
          | ((with_reducible refine CC.out.mono ?_); rintro e w2 ⟨rfl, hp⟩; have HP := Lib.hid hp; obtain ⟨c0, c1, ab⟩ := HC0.out _ _ _ hp; clear hp))
        refine Lib.hid ?_
        have hix := fun w0 => idxAt8 w.heap.size k (k : Int) rfl HK.out w0
        go_wp2_with fail
        have HQ := Lib.hid (HP5.out.over (Below.refl _ W5).drew H.out.gl H.out.gm)
        obtain ⟨w6, hrun, hmp, htu⟩ := HQ.out.at_.mp.put (show F.H.length < maxLen by have := HOK.out.n; unfold maxLen; omega) ho ((F.row o).set k id)
        have HF := Lib.hid (HQ.out.trans (FsP.of_map HQ.out.at_ htu hmp ((Hok.put HOK.out (o := o) (k := k) HRI.out).mono (show N + 1 ≤ N + 3 by omega)) (show N + 2 ≤ N + 3 by omega)) H.out.gl H.out.gm)
        obtain ⟨s0, s1, s2, s3, s4, s5, s6, s7, hs⟩ := len8 (l := (F.row o).set k id) (by rw [List.length_set]; exact HLEN.out)
        have e2 : hndV ((F.row o).set k id) = .agg #[.int .i64 s0, .int .i64 s1, .int .i64 s2, .int .i64 s3, .int .i64 s4, .int .i64 s5, .int .i64 s6, .int .i64 s7] := by rw [hs]; rfl
        rw [e2] at hrun
        have ab := HAB.out
        rw [hs] at ab
        have d0 := ab.cell (i := 0) (by simp); have d1 := ab.cell (i := 1) (by simp); have d2 := ab.cell (i := 2) (by simp); have d3 := ab.cell (i := 3) (by simp)
        have d4 := ab.cell (i := 4) (by simp); have d5 := ab.cell (i := 5) (by simp); have d6 := ab.cell (i := 6) (by simp); have d7 := ab.cell (i := 7) (by simp)
        simp only [List.getD_cons_zero, List.getD_cons_succ] at d0 d1 d2 d3 d4 d5 d6 d7
        have f1 : W5.cell? ⟨fb, 1, none⟩ = some (.map (some hb)) := HP5.out.at_.fs.c1
        clear hmp htu e2 hs ab HQ HAB hix hcl hfr c0 c1
        go_still_tail 6, (by kernel_rfl)
        change wpList _ _ _ _ _ W5.drew
        clear d0 d1 d2 d3 d4 d5 d6 d7 f1
        have wk : wrap64 ((k : Int) + 1) = (k : Int) + 1 := IntWalk.wrap64_in _ (by have := HK.out; omega)
        go_wp2_with fail
        go_ret2
        exact ⟨by first | rfl | (simp only [wk]; rfl), HF.out⟩
      · rw [if_neg hF]
        have hk3 : (st.2.2.2 == 0) = false := by simpa using hF
        have hk4 : (st.2.2.2 != 0) = true := by simpa using hF
        clear hF
        generalize st.2.2.2 = er at *
        go_enter Tryz.func22, Tryz.ntmps22
        go_wp2_with (first
          | (go_at_call 45; (with_reducible refine CI.out.mono ?_); rintro e w1 ⟨rfl, rfl⟩)
          | (go_at_call 46; (with_reducible refine (CH.out _ HP.out).mono ?_); rintro e w4 ⟨rfl, hp⟩; have HP4 := Lib.hid hp; clear hp)
          | ((with_reducible refine CC.out.mono ?_); rintro e w2 ⟨rfl, hp⟩; have HP := Lib.hid hp; obtain ⟨c0, c1, ab⟩ := HC0.out _ _ _ hp; clear hp))
        go_ret2
        exact ⟨rfl, (FsP.under HW1.out (H.out.up (Nat.le_add_right N 2)) HP4.out).up (by omega)⟩
    · rw [if_neg hE]
      have hk3 : (r.2.2 == 0) = false := by simpa using hE
      have hk4 : (r.2.2 != 0) = true := by simpa using hE
      clear hE hr
      generalize r.2.2 = er at *
      generalize r.2.1 = id at *
      go_enter Tryz.func22, Tryz.ntmps22
      go_wp2_with (first
        | (go_at_call 45; (with_reducible refine CI.out.mono ?_); rintro e w1 ⟨rfl, rfl⟩)
        | ((with_reducible refine CC.out.mono ?_); rintro e w2 ⟨rfl, hp⟩; have HP := Lib.hid hp; clear hp))
      go_ret2
      exact ⟨rfl, (FsP.under HW1.out (H.out.up (Nat.le_add_right N 1)) HP.out).up (by omega)⟩
  · rw [if_neg hi]
    rw [if_neg hi] at HIDX
    have HW1 := Lib.hid ((Below.refl w.heap.size w).alloc (Nat.le_refl _) (.cells ((F.row o).map fun x => Value.int .i64 x).toArray 69))
    have HA := Lib.hid (show AB (w.alloc (.cells ((F.row o).map fun x => Value.int .i64 x).toArray 69)) w.heap.size (F.row o) from (MapKept.heap_alloc w _).1)
    obtain ⟨r0, r1, r2, r3, r4, r5, r6, r7, hrow⟩ := len8 hlen
    have e1 : ((F.row o).map fun x => Value.int .i64 x).toArray = #[.int .i64 r0, .int .i64 r1, .int .i64 r2, .int .i64 r3, .int .i64 r4, .int .i64 r5, .int .i64 r6, .int .i64 r7] := by rw [hrow]; rfl
    have e2 : hndV (F.row o) = .agg #[.int .i64 r0, .int .i64 r1, .int .i64 r2, .int .i64 r3, .int .i64 r4, .int .i64 r5, .int .i64 r6, .int .i64 r7] := by rw [hrow]; rfl
    rw [e2] at hlk
    rw [e1] at HW1 HA
    obtain ⟨W1, hW1⟩ : ∃ W1, w.alloc (.cells #[.int .i64 r0, .int .i64 r1, .int .i64 r2, .int .i64 r3, .int .i64 r4, .int .i64 r5, .int .i64 r6, .int .i64 r7] 69) = W1 := ⟨_, rfl⟩
    rw [hW1] at HW1 HA
    have CI : Hid (Calls Tryz.prog 45 #[.slice (some ⟨w.heap.size, 0, none⟩) 8 8, .int .i64 0] W1 fun e w' => e = .returned (.int .i64 (-1)) ∧ w' = W1) := by
      have := Tryz.slices_Index_int w.heap.size 0 8 8 (F.row o) 0 W1 (by omega) (by omega) (fun j hj => by rw [Nat.zero_add]; exact HA.out.cell hj)
      rw [HIDX.out] at this
      exact Lib.hid this
    clear e1 e2 hrow h hi hlen CG HA
    go_enter Tryz.func22, Tryz.ntmps22
    go_wp2_with (go_at_call 45; (with_reducible refine CI.out.mono ?_); rintro e w1 ⟨rfl, rfl⟩)
    go_ret2
    exact ⟨rfl, (FsP.of_below H.out HW1.out).up (by omega)⟩
end
end Go.Proofs.YtagdhghjcibfbaaGreatDoor

namespace Go.Proofs.YtagdhghjcibfbaaGreatDoor
open Go.RowKit
set_option linter.unusedVariables false
set_option maxRecDepth 100000

theorem partI (cs : Array Value) (i : Nat) (v : Value) (h : cs[i]? = some v) (w : World) : (part 3 cs i).run Tryz.prog w = .ok v w := by
  simp [part, h]
theorem eqI (d : Nat) (a b : Int) (w : World) : (Op.equalIn (d + 1) 3 (.int .i64 a) (.int .i64 b)).run Tryz.prog w = .ok (a == b) w := run_equalIn_int w d 3 .i64 .i64 a b Tryz.underlying3
theorem eqAll (d : Nat) (xs ys : Array Value) (w : World) (x y : Nat → Int) : ∀ (l : List Nat), (∀ i ∈ l, xs[i]? = some (.int .i64 (x i)) ∧ ys[i]? = some (.int .i64 (y i))) →
    (forIn (m := Sem) l ((none, ()) : Option Bool × Unit) fun i r => do
      let a ← part 3 xs i
      let b ← part 3 ys i
      let e ← Op.equalIn (d + 1) 3 a b
      if e = false then pure (ForInStep.done (some false, ())) else pure (ForInStep.yield (none, ()))).run Tryz.prog w = .ok (if l.all (fun i => x i == y i) then (none, ()) else (some false, ())) w
  | [], h => by simp
  | i :: l, h => by
    obtain ⟨h1, h2⟩ := h i (by simp)
    have ih := eqAll d xs ys w x y l (fun j hj => h j (by simp [hj]))
    rw [List.forIn_cons]
    simp only [Sem.run_bind, partI _ _ _ h1, partI _ _ _ h2, eqI, Result.andThen_ok]
    by_cases e : x i = y i
    · have e2 : (x i == y i) = true := by simpa using e
      simp only [e2, Bool.true_eq_false, if_false, Sem.run_pure, Result.andThen_ok, List.all_cons, Bool.true_and]
      exact ih
    · have e2 : (x i == y i) = false := by simpa using e
      simp only [e2, if_true, Sem.run_pure, Result.andThen_ok, List.all_cons, Bool.false_and, Bool.false_eq_true, if_false]
theorem index8 (r0 r1 r2 r3 r4 r5 r6 r7 : Int) (i : Nat) (hi : i < 8) (w : World) :
    (Instr.index 69 (.agg #[.int .i64 r0, .int .i64 r1, .int .i64 r2, .int .i64 r3, .int .i64 r4, .int .i64 r5, .int .i64 r6, .int .i64 r7]) (.int .i64 (i : Int))).run Tryz.prog w = .ok (.int .i64 ([r0, r1, r2, r3, r4, r5, r6, r7].getD i 0)) w := by
  have h1 : (0 : Int) ≤ i ∧ (i : Int) < (8 : Nat) := ⟨by omega, by omega⟩
  simp [Instr.index, asIntOf, run_underlying arr8']
  rw [if_pos (by omega)]
  refine partI _ _ _ ?_ w
  match i, hi with
  | 0, _ => rfl | 1, _ => rfl | 2, _ => rfl | 3, _ => rfl | 4, _ => rfl | 5, _ => rfl | 6, _ => rfl | 7, _ => rfl
theorem eq8 (s0 s1 s2 s3 s4 s5 s6 s7 : Int) (w : World) :
    (Op.equalIn 10000 69 (.agg #[.int .i64 s0, .int .i64 s1, .int .i64 s2, .int .i64 s3, .int .i64 s4, .int .i64 s5, .int .i64 s6, .int .i64 s7]) (.agg #[.int .i64 0, .int .i64 0, .int .i64 0, .int .i64 0, .int .i64 0, .int .i64 0, .int .i64 0, .int .i64 0])).run Tryz.prog w = .ok (decide ([s0, s1, s2, s3, s4, s5, s6, s7] = z8)) w := by
  unfold Op.equalIn
  simp [run_underlying arr8']
  have h := eqAll 9998 #[.int .i64 s0, .int .i64 s1, .int .i64 s2, .int .i64 s3, .int .i64 s4, .int .i64 s5, .int .i64 s6, .int .i64 s7] #[.int .i64 0, .int .i64 0, .int .i64 0, .int .i64 0, .int .i64 0, .int .i64 0, .int .i64 0, .int .i64 0] w
    (fun i => [s0, s1, s2, s3, s4, s5, s6, s7].getD i 0) (fun i => [0, 0, 0, 0, 0, 0, 0, 0].getD i 0) (List.range' 0 8) (fun i hi => by
      have : i < 8 := by have := List.mem_range'_1.1 hi; omega
      match i, this with
      | 0, _ => exact ⟨rfl, rfl⟩ | 1, _ => exact ⟨rfl, rfl⟩ | 2, _ => exact ⟨rfl, rfl⟩ | 3, _ => exact ⟨rfl, rfl⟩
      | 4, _ => exact ⟨rfl, rfl⟩ | 5, _ => exact ⟨rfl, rfl⟩ | 6, _ => exact ⟨rfl, rfl⟩ | 7, _ => exact ⟨rfl, rfl⟩)
  rw [h]
  have e : decide ([s0, s1, s2, s3, s4, s5, s6, s7] = z8) = (List.range' 0 8).all (fun i => [s0, s1, s2, s3, s4, s5, s6, s7].getD i 0 == [0, 0, 0, 0, 0, 0, 0, 0].getD i 0) := by
    rw [Bool.eq_iff_iff, decide_eq_true_eq]
    simp [List.range', z8]
  rw [e]
  cases (List.range' 0 8).all (fun i => [s0, s1, s2, s3, s4, s5, s6, s7].getD i 0 == [0, 0, 0, 0, 0, 0, 0, 0].getD i 0) <;> simp
theorem eqB8 (s0 s1 s2 s3 s4 s5 s6 s7 : Int) (w : World) :
    (binOp .eql 69 (.agg #[.int .i64 s0, .int .i64 s1, .int .i64 s2, .int .i64 s3, .int .i64 s4, .int .i64 s5, .int .i64 s6, .int .i64 s7]) (.agg #[.int .i64 0, .int .i64 0, .int .i64 0, .int .i64 0, .int .i64 0, .int .i64 0, .int .i64 0, .int .i64 0])).run Tryz.prog w = .ok (.bool (decide ([s0, s1, s2, s3, s4, s5, s6, s7] = z8))) w := by
  rw [run_eql_struct, eq8]
  rfl
theorem eqG8 : Tryz.prog.eqGuardType Tryz.prog.depth 69 = false := by kernel_rfl
end Go.Proofs.YtagdhghjcibfbaaGreatDoor

namespace Go.Proofs.YtagdhghjcibfbaaGreatDoor
open Go.RowKit
set_option linter.unusedVariables false
set_option linter.unusedSectionVars false
set_option maxRecDepth 100000

section
variable {w : World} {fb t hb : Nat} {F : Fs} {S : Nat → Prop} {N : Nat} (h : FsAt w fb t hb F S N) (hN : N < 999999000)
include h hN
set_option maxHeartbeats 1000000 in
theorem fs_file {o : Int} (ho : InI o) (x : Int) (hx : InI x) :
    Calls Tryz.prog 55 #[.pointer (some ⟨fb, 0, none⟩), .int .i64 o, .int .i64 x] w fun e w' => e = .returned (.int .i64 (F.file o x)) ∧ w' = w := by
  have hlk := h.mp.look ho
  have hlen := h.hok.row_len o
  have c1 : w.cell? ⟨fb, 1, none⟩ = some (.map (some hb)) := h.fs.c1
  change (Instr.lookup _ _ _ _).run _ _ = .ok (hndV (F.row o)) w at hlk
  unfold Fs.file
  generalize F.row o = row at *
  obtain ⟨r0, r1, r2, r3, r4, r5, r6, r7, rfl⟩ := len8 hlen
  change (Instr.lookup _ _ _ _).run _ _ = .ok (.agg #[.int .i64 r0, .int .i64 r1, .int .i64 r2, .int .i64 r3, .int .i64 r4, .int .i64 r5, .int .i64 r6, .int .i64 r7]) w at hlk
  clear hlen h
  by_cases hb1 : x < 1 ∨ 8 < x
  · rw [if_pos hb1]
    by_cases h1 : x < 1
    · have h1' : decide (x < 1) = true := decide_eq_true h1
      go_enter Tryz.func55, Tryz.ntmps55
      go_wp2_with fail
      go_ret
      exact ⟨rfl, rfl⟩
    · have h1' : decide (x < 1) = false := decide_eq_false h1
      have h2 : 8 < x := by omega
      have h2' : decide (8 < x) = true := decide_eq_true h2
      go_enter Tryz.func55, Tryz.ntmps55
      go_wp2_with fail
      go_ret
      exact ⟨rfl, rfl⟩
  · rw [if_neg hb1]
    obtain ⟨k, hk⟩ : ∃ k : Nat, x - 1 = (k : Int) := ⟨(x - 1).toNat, by omega⟩
    have hk8 : k < 8 := by omega
    have HT : Hid ((x - 1).toNat = k) := by show _ = _; omega
    rw [HT.out]
    have wx : wrap64 (x - 1) = (k : Int) := by rw [hk]; exact IntWalk.wrap64_in _ (by omega)
    have wx2 : IntKind.i64.wrap (x - 1) = (k : Int) := by rw [hk]; exact IntWalk.i64_in _ (by omega)
    have h1' : decide (x < 1) = false := decide_eq_false (by omega)
    have h2' : decide (8 < x) = false := decide_eq_false (by omega)
    have hix := fun w0 => index8 r0 r1 r2 r3 r4 r5 r6 r7 k hk8 w0
    generalize [r0, r1, r2, r3, r4, r5, r6, r7].getD k 0 = v at *
    clear hb1 hx hk HT
    go_enter Tryz.func55, Tryz.ntmps55
    go_wp2_with fail
    go_ret
    exact ⟨rfl, rfl⟩
theorem fs_size {id : Int} (hid : InI id) :
    Calls Tryz.prog 59 #[.pointer (some ⟨fb, 0, none⟩), .int .i64 id] w fun e w' => e = .returned (.tuple #[.int .i64 ((F.T.step (aRead id 0 1048576)).2.2.1.length : Int), .int .i64 (F.T.step (aRead id 0 1048576)).2.2.2]) ∧ Below w.heap.size w w' := by
  have CR := Lib.hid (tm_read h (by omega) hid 0 1048576 (by unfold InI; omega) (by unfold InI; omega))
  have c0 : w.cell? ⟨fb, 0, none⟩ = some (.pointer (some ⟨t, 0, none⟩)) := h.fs.c0
  generalize (F.T.step (aRead id 0 1048576)).2.2.2 = er at *
  generalize (F.T.step (aRead id 0 1048576)).2.2.1 = d at *
  clear h hN
  have hz := bs_size d
  go_enter Tryz.func59, Tryz.ntmps59
  go_wp2_with (go_at_call 56; (with_reducible refine CR.out.mono ?_); rintro e w1 ⟨rfl, hb⟩; have HB := Lib.hid hb; clear hb)
  go_ret2
  exact ⟨by first | rfl | (simp only [hz]; rfl), HB.out⟩
set_option maxHeartbeats 1000000 in
theorem fs_shut {o : Int} (ho : InI o) (x : Int) (k : Nat) (hk : k < 8) (hx : x - 1 = (k : Int)) :
    Calls Tryz.prog 31 #[.pointer (some ⟨fb, 0, none⟩), .int .i64 o, .int .i64 x] w fun e w' => e = .returned (.tuple #[]) ∧ FsP w fb t hb (F.shut o k) S (N + 2) w' := by
  have H := Lib.hid h
  have hlk := h.mp.look ho
  have hlen := h.hok.row_len o
  have c1 : w.cell? ⟨fb, 1, none⟩ = some (.map (some hb)) := h.fs.c1
  have c0 : w.cell? ⟨fb, 0, none⟩ = some (.pointer (some ⟨t, 0, none⟩)) := h.fs.c0
  change (Instr.lookup _ _ _ _).run _ _ = .ok (hndV (F.row o)) w at hlk
  unfold Fs.shut
  have HW1 := Lib.hid ((Below.refl w.heap.size w).alloc (Nat.le_refl _) (.cells ((F.row o).map fun x => Value.int .i64 x).toArray 69))
  have HA := Lib.hid (show AB (w.alloc (.cells ((F.row o).map fun x => Value.int .i64 x).toArray 69)) w.heap.size (F.row o) from (MapKept.heap_alloc w _).1)
  have HSZ : Hid ((w.alloc (.cells ((F.row o).map fun x => Value.int .i64 x).toArray 69)).heap.size = w.heap.size + 1) := by show _ = _; simp
  have HLEN := Lib.hid hlen
  have SLT := Lib.hid h.lt
  have HOK := Lib.hid h.hok
  have HX := Lib.hid hx
  have wx : wrap64 (x - 1) = (k : Int) := by rw [hx]; exact IntWalk.wrap64_in _ (by omega)
  have wx2 : IntKind.i64.wrap (x - 1) = (k : Int) := by rw [hx]; exact IntWalk.i64_in _ (by omega)
  have hix := fun w0 => idxAt8 w.heap.size k (k : Int) rfl hk w0
  have hid := h.hok.get_in o k
  have CD := fun w1 (hb1 : Below w.heap.size w w1) => tm_drop (h.below hb1) (by omega) hid
  obtain ⟨r0, r1, r2, r3, r4, r5, r6, r7, hrow⟩ := len8 hlen
  have e1 : ((F.row o).map fun x => Value.int .i64 x).toArray = #[.int .i64 r0, .int .i64 r1, .int .i64 r2, .int .i64 r3, .int .i64 r4, .int .i64 r5, .int .i64 r6, .int .i64 r7] := by rw [hrow]; rfl
  have e2 : hndV (F.row o) = .agg #[.int .i64 r0, .int .i64 r1, .int .i64 r2, .int .i64 r3, .int .i64 r4, .int .i64 r5, .int .i64 r6, .int .i64 r7] := by rw [hrow]; rfl
  rw [e2] at hlk
  rw [e1] at HW1 HA HSZ
  obtain ⟨W1, hW1⟩ : ∃ W1, w.alloc (.cells #[.int .i64 r0, .int .i64 r1, .int .i64 r2, .int .i64 r3, .int .i64 r4, .int .i64 r5, .int .i64 r6, .int .i64 r7] 69) = W1 := ⟨_, rfl⟩
  rw [hW1] at HW1 HA HSZ
  have k0 : W1.cell? ⟨fb, 0, none⟩ = some (.pointer (some ⟨t, 0, none⟩)) := (h.below HW1.out).fs.c0
  have ka : W1.cell? ⟨w.heap.size, k, none⟩ = some (.int .i64 ((F.row o).getD k 0)) := HA.out.cell (by omega)
  have CD1 := Lib.hid (CD W1.drew HW1.out.drew)
  generalize hidv : (F.row o).getD k 0 = id at *
  generalize F.T.step (aDrop id) = st at *
  have HC0 : Hid (∀ w2 F' N', FsP W1.drew fb t hb F' S N' w2 → w2.cell? ⟨fb, 0, none⟩ = some (.pointer (some ⟨t, 0, none⟩)) ∧ w2.cell? ⟨fb, 1, none⟩ = some (.map (some hb)) ∧ AB w2 w.heap.size (F.row o)) :=
    Lib.hid fun w2 F' N' hp => ⟨hp.at_.fs.c0, hp.at_.fs.c1, AB.ch (w := W1.drew) HA.out hp.ch (fun e => absurd (SLT.out _ e) (Nat.lt_irrefl _))⟩
  obtain ⟨H2, hH2⟩ : ∃ H2, H2 = (if (F.row o).set k 0 = z8 then adel o F.H else aput ltI o ((F.row o).set k 0) F.H) := ⟨_, rfl⟩
  rw [← hH2]
  have HH2 := Lib.hid hH2
  clear hH2
  clear e1 e2 hrow h hlen CD hidv hid hx
  go_enter Tryz.func31, Tryz.ntmps31
  go_wp2_with fail
  go_still_tail 8, (by kernel_rfl)
  change wpList _ _ _ _ _ W1.drew
  clear k0 ka
  go_wp2_with (first
    | (go_at_call 60; (with_reducible refine CD1.out.mono ?_); rintro e w4 ⟨rfl, hp⟩; have HP4 := Lib.hid hp; obtain ⟨c0, c1, ab⟩ := HC0.out _ _ _ hp; have hcl := ab.cell (i := k) (by rw [HLEN.out]; exact hk); have hfr := ab.fr k; have HAB := Lib.hid (ab.set k 0); have HP5 := Lib.hid (FsP.poke HW1.out.drew H.out hp (B := w.heap.size) (Nat.le_refl _) (by show w.heap.size < W1.heap.size; rw [HSZ.out]; exact Nat.lt_succ_self _) k (.int .i64 0)); obtain ⟨W5, hW5⟩ : ∃ W5, w4.setCell ⟨w.heap.size, k, none⟩ (.int .i64 0) = W5 := ⟨_, rfl⟩; rw [hW5] at HP5 HAB; clear hp ab; refine Hid.out ?_))
  refine Lib.hid ?_
  obtain ⟨s0, s1, s2, s3, s4, s5, s6, s7, hs⟩ := len8 (l := (F.row o).set k 0) (by rw [List.length_set]; exact HLEN.out)
  have e2 : hndV ((F.row o).set k 0) = .agg #[.int .i64 s0, .int .i64 s1, .int .i64 s2, .int .i64 s3, .int .i64 s4, .int .i64 s5, .int .i64 s6, .int .i64 s7] := by rw [hs]; rfl
  have ab := HAB.out
  rw [hs] at ab
  have d0 := ab.cell (i := 0) (by simp); have d1 := ab.cell (i := 1) (by simp); have d2 := ab.cell (i := 2) (by simp); have d3 := ab.cell (i := 3) (by simp)
  have d4 := ab.cell (i := 4) (by simp); have d5 := ab.cell (i := 5) (by simp); have d6 := ab.cell (i := 6) (by simp); have d7 := ab.cell (i := 7) (by simp)
  simp only [List.getD_cons_zero, List.getD_cons_succ] at d0 d1 d2 d3 d4 d5 d6 d7
  have f1 : W5.cell? ⟨fb, 1, none⟩ = some (.map (some hb)) := HP5.out.at_.fs.c1
  have hq8 := fun w0 => eqB8 s0 s1 s2 s3 s4 s5 s6 s7 w0
  have hg8 := fun (x y : Operand) (w0 : World) => run_eqGuard_agg (P := Tryz.prog) (w := w0) .eql 69 x y #[.int .i64 s0, .int .i64 s1, .int .i64 s2, .int .i64 s3, .int .i64 s4, .int .i64 s5, .int .i64 s6, .int .i64 s7] #[.int .i64 0, .int .i64 0, .int .i64 0, .int .i64 0, .int .i64 0, .int .i64 0, .int .i64 0, .int .i64 0] eqG8
  clear ab
  rw [← hs] at hq8
  by_cases hz : (F.row o).set k 0 = z8
  · obtain rfl : H2 = adel o F.H := by rw [HH2.out, if_pos hz]
    rw [decide_eq_true hz] at hq8
    obtain ⟨w6, hrun, hmp, htu⟩ := HP5.out.at_.mp.del ho 0
    have HF := Lib.hid (HP5.out.trans (FsP.of_map HP5.out.at_ htu hmp ((Hok.del HOK.out o).mono (show N ≤ N + 2 by omega)) (show N + 1 ≤ N + 2 by omega)) H.out.gl H.out.gm)
    clear hmp htu e2 hs HAB hix c0 c1 hz
    go_wp2_with fail
    refine bodyPost_ret (results_none rfl _ _ _) rfl ?_
    exact ⟨rfl, HF.out⟩
  · obtain rfl : H2 = aput ltI o ((F.row o).set k 0) F.H := by rw [HH2.out, if_neg hz]
    rw [decide_eq_false hz] at hq8
    have HQ := Lib.hid (HP5.out.over (Below.refl _ W5).drew H.out.gl H.out.gm)
    obtain ⟨w6, hrun, hmp, htu⟩ := HQ.out.at_.mp.put (show F.H.length < maxLen by have := HOK.out.n; unfold maxLen; omega) ho ((F.row o).set k 0)
    have HF := Lib.hid (HQ.out.trans (FsP.of_map HQ.out.at_ htu hmp ((Hok.put HOK.out (o := o) (k := k) (show InI 0 by unfold InI; omega)).mono (show N + 1 ≤ N + 2 by omega)) (show N + 1 ≤ N + 2 by omega)) H.out.gl H.out.gm)
    rw [e2] at hrun
    clear hmp htu e2 hs HQ HAB hix c0 c1 hz
    go_wp2_with fail
    go_still_tail 6, (by kernel_rfl)
    change wpList _ _ _ _ _ W5.drew
    clear d0 d1 d2 d3 d4 d5 d6 d7 f1
    go_wp2_with fail
    go_end0
    exact ⟨rfl, HF.out⟩
end
end Go.Proofs.YtagdhghjcibfbaaGreatDoor

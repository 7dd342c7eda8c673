/- Layer 7: the walk of the program's Clean. -/
import Derived.Test.YtagdhghjcibfbaaGreatDoorPaO
namespace Go.Proofs.YtagdhghjcibfbaaGreatDoor
open Go.RowKit Go.Shelf
attribute [local go_sem] Oper.semAt_some
set_option linter.unusedVariables false
set_option maxRecDepth 100000

theorem pre47 (l : List UInt8) : List.isPrefixOf [47] l = decide (l.head? = some 47) := by
  cases l with
  | nil => rfl
  | cons a r =>
    show ((47 : UInt8) == a && List.isPrefixOf [] r) = _
    rw [show List.isPrefixOf ([] : List UInt8) r = true by cases r <;> rfl, Bool.and_true, List.head?_cons]
    by_cases h : (47 : UInt8) = a
    · subst h; simp
    · rw [beq_eq_false_iff_ne.2 h, eq_comm, decide_eq_false_iff_not]; intro e; exact h (Option.some.inj e).symm

/-- What Join of the names hands back. -/
theorem joinNames_any (ls : List (List UInt8)) (a : Option Addr) (c : Nat) (w : World) (hS : SlAt w a ls) (hc : ls.length ≤ c) (hn : ls.length ≤ 1048576) (hj : (joinP ls).length ≤ 1099511627776) :
    Calls Tryz.prog 89 #[.slice a ls.length c, .string ⟨#[47]⟩] w fun e w' => e = .returned (.string (bs (joinP ls))) ∧ Below w.heap.size w w' := by
  have hjl : ∀ r : List (List UInt8), Lib.join r [47] = joinP r := by
    intro r
    induction r with
    | nil => rfl
    | cons p r ih =>
      cases r with
      | nil => exact Lib.join_one p [47]
      | cons q r =>
        rw [joinP_two _ _ (by simp), ← ih, Lib.join_cons, Lib.join_cons]
        simp [Lib.joinTail]
  rcases hS with h | ⟨b, o, rfl, hb, hcells⟩
  · subst h
    refine (Tryz.strings_Join_none a c ⟨#[47]⟩ w).mono ?_
    rintro e w' ⟨rfl, rfl⟩
    exact ⟨rfl, Below.refl _ _⟩
  · have e1 : (ls.map bs).map (·.data.toList) = ls := by
      rw [List.map_map]
      have : ((fun x : ByteArray => x.data.toList) ∘ bs) = id := by funext x; rfl
      rw [this]; simp
    have := Tryz.strings_Join b o c (ls.map bs) ⟨#[47]⟩ w (fun j x hx => by
      rw [List.getElem?_map] at hx
      have hj : j < ls.length := by
        cases h : ls[j]? with
        | none => rw [h] at hx; cases hx
        | some y => exact (List.getElem?_eq_some_iff.1 h).1
      rw [hcells j hj]
      rw [List.getElem?_eq_getElem hj] at hx
      cases hx; rfl) hb (by simp; omega) (by simp; exact hc) (by rw [e1]; show (Lib.join ls [47]).length ≤ _; rw [hjl]; omega)
    rw [List.length_map, e1] at this
    change Calls Tryz.prog 89 #[.slice (some ⟨b, o, none⟩) ls.length c, .string ⟨#[47]⟩] w fun e w' => e = .returned (.string (bs (Lib.join ls [47]))) ∧ Below w.heap.size w w' at this
    rw [hjl] at this
    exact this

/-- The blocks that lie when the loop begins. -/
theorem six (w w1 : World) (S : ByteArray) (B : Nat) (hB : w.heap.size = B)
    (h : w1 = (((((w.alloc (.cells #[.string ⟨#[]⟩] 9)).alloc (.cells #[.int .i64 0] 24)).alloc (.cells #[.slice none 0 0] 29)).alloc (.cells #[.string S] 9)).alloc (.cells #[.string ⟨#[47]⟩] 9)).alloc (.cells #[.int .i64 0] 3)) :
    CI B (B + 6) w [] w1 ∧ w1.heap.size = B + 6 ∧ Boxed w1 (B + 3) 9 (.string S) ∧ Boxed w1 (B + 4) 9 (.string ⟨#[47]⟩) ∧ Boxed w1 (B + 5) 3 (.int .i64 0) := by
  subst hB h
  have b0 := ((((Boxed.new w 9 (.string ⟨#[]⟩)).alloc (.cells #[.int .i64 0] 24)).alloc (.cells #[.slice none 0 0] 29)).alloc (.cells #[.string S] 9)).alloc (.cells #[.string ⟨#[47]⟩] 9) |>.alloc (.cells #[.int .i64 0] 3)
  have b1 := (((Boxed.new (w.alloc (.cells #[.string ⟨#[]⟩] 9)) 24 (.int .i64 0)).alloc (.cells #[.slice none 0 0] 29)).alloc (.cells #[.string S] 9)).alloc (.cells #[.string ⟨#[47]⟩] 9) |>.alloc (.cells #[.int .i64 0] 3)
  have b2 := ((Boxed.new ((w.alloc (.cells #[.string ⟨#[]⟩] 9)).alloc (.cells #[.int .i64 0] 24)) 29 (.slice none 0 0)).alloc (.cells #[.string S] 9)).alloc (.cells #[.string ⟨#[47]⟩] 9) |>.alloc (.cells #[.int .i64 0] 3)
  have b3 := ((Boxed.new (((w.alloc (.cells #[.string ⟨#[]⟩] 9)).alloc (.cells #[.int .i64 0] 24)).alloc (.cells #[.slice none 0 0] 29)) 9 (.string S)).alloc (.cells #[.string ⟨#[47]⟩] 9)).alloc (.cells #[.int .i64 0] 3)
  have b4 := (Boxed.new ((((w.alloc (.cells #[.string ⟨#[]⟩] 9)).alloc (.cells #[.int .i64 0] 24)).alloc (.cells #[.slice none 0 0] 29)).alloc (.cells #[.string S] 9)) 9 (.string ⟨#[47]⟩)).alloc (.cells #[.int .i64 0] 3)
  have b5 := Boxed.new (((((w.alloc (.cells #[.string ⟨#[]⟩] 9)).alloc (.cells #[.int .i64 0] 24)).alloc (.cells #[.slice none 0 0] 29)).alloc (.cells #[.string S] 9)).alloc (.cells #[.string ⟨#[47]⟩] 9)) 3 (.int .i64 0)
  simp only [World.size_alloc, Nat.add_assoc, Nat.reduceAdd] at b0 b1 b2 b3 b4 b5
  have hs : ∀ o0 o1 o2 o3 o4 o5, ((((((w.alloc o0).alloc o1).alloc o2).alloc o3).alloc o4).alloc o5).heap.size = w.heap.size + 6 := fun _ _ _ _ _ _ => by simp
  exact ⟨⟨b0, b1, ⟨_, b2, World.ownsRow_nil _ _ _ _⟩, ((((((Below.refl _ w).alloc (Nat.le_refl _) _).alloc (by simp) _).alloc (by simp; omega) _).alloc (by simp; omega) _).alloc (by simp; omega) _).alloc (by simp; omega) _, Nat.le_of_eq (hs _ _ _ _ _ _).symm⟩, hs _ _ _ _ _ _, b3, b4, b5⟩

/-- The two results are taken, behind the mark of the loop's deferred calls. -/
theorem leave7 {w X : World} {B D : Nat} {p : List UInt8} {z : Int} {tmps : Array Value} {O : Value} (hwB : w.heap.size = B) (h2 : tmps.getD 2 undef = .pointer (some ⟨B, 0, none⟩)) (h3 : tmps.getD 3 undef = .pointer (some ⟨B + 1, 0, none⟩))
    (r1 : Boxed X B 9 (.string (bs p))) (r2 : Boxed X (B + 1) 24 (.int .i64 z)) (hD : B + 6 ≤ D) (hK : X.heap[D]? = some (.deferred (some []))) (hb : Below B w X) (hO : O = .tuple #[.string (bs p), .int .i64 z]) :
    LeavesInM Fence.wide 9 Tryz.prog Tryz.f67 tmps (fun e w' => e = .returned O ∧ Below w.heap.size w w') [{ target := .collected D, args := #[] }] .returning X := by
  rw [hwB]
  refine ⟨by simp, .inl ⟨_, _, rfl, run_takeDeferred hK, ?_⟩⟩
  have q1 := (r1.kept (grownBy_putObj' X D (.deferred none)) (fun e => by cases e; omega)).cell
  have q2 := (r2.kept (grownBy_putObj' X D (.deferred none)) (fun e => by cases e; omega)).cell
  have hlt := (Array.getElem?_eq_some_iff.1 hK).1
  refine ⟨.tuple #[.string (bs p), .int .i64 z], ?_, by rw [hO], hb.grown (grownBy_putObj' X D (.deferred none)) (by omega) (fun k e => by cases e; omega)⟩
  have h2' : tmps[2]?.getD undef = .pointer (some ⟨B, 0, none⟩) := by simpa using h2
  have h3' : tmps[3]?.getD undef = .pointer (some ⟨B + 1, 0, none⟩) := by simpa using h3
  simp [results, Tryz.f67, go_sem, h2', h3', q1, q2]

set_option maxHeartbeats 8000000 in
theorem clean_any (l : List UInt8) (w : World) (hl : l.length ≤ 1048576) :
    Calls Tryz.prog 67 #[.string (bs l)] w fun e w' => e = .returned (pairC (cleanL l)) ∧ Below w.heap.size w w' := by
  refine (callsIn_wide (n := 9)).1 ?_
  have HP : Hid (∀ w0 k, CallsIn Fence.wide k Tryz.prog 86 #[.string (bs l), .string ⟨#[47]⟩] w0 fun e w' => e = .returned (.bool (decide (l.head? = some 47))) ∧ w0 = w') := fun w0 k =>
    callsIn_wide.2 ((Tryz.strings_HasPrefix (bs l) ⟨#[47]⟩ w0).mono fun e w' h => ⟨by rw [h.1]; exact ret_bool (pre47 l), h.2.symm⟩)
  by_cases h47 : l.head? = some 47
  · rw [decide_eq_true h47] at HP
    have HC : Hid (cleanL l = none) := by show _ = _; unfold cleanL; rw [if_pos h47]
    clear h47
    refine callsIn_of_wp_marks Tryz.func67 rfl trivial ?_ rfl
    simp only [Tryz.ntmps67, List.size_toArray, List.length_cons, List.length_nil, Nat.reduceAdd, Nat.reduceSub, Array.replicate_succ, Array.replicate_zero, List.push_toArray, List.append_toArray, List.nil_append, List.cons_append]
    gi_wp2_with (refine ⟨trivial, ?_⟩; gi_at_call 86; (with_reducible refine (HP.out _ _).mono ?_); rintro e w1 ⟨rfl, rfl⟩)
    have c1 := ((Boxed.new w 9 (.string ⟨#[]⟩)).alloc (.cells #[.int .i64 2] 24)).cell
    have c2 := (Boxed.new (w.alloc (.cells #[.string ⟨#[]⟩] 9)) 24 (.int .i64 2)).cell
    simp only [World.size_alloc] at c2
    refine ⟨.tuple #[.string (bs []), .int .i64 2], ?_, by rw [HC.out]; rfl, ((Below.refl _ w).alloc (Nat.le_refl _) _).alloc (by simp) _⟩
    simp [results, Tryz.f67, go_sem, c1, c2, bs]
  · rw [decide_eq_false h47] at HP
    have HC : Hid (cleanL l = if goodL (namesL l) then some (joinP (namesL l)) else none) := by show _ = _; unfold cleanL; rw [if_neg h47]
    clear h47
    have HQ : Hid (∀ w0 k, 1 ≤ k → CallsIn Fence.wide k Tryz.prog 87 #[.string (bs l), .string ⟨#[47]⟩] w0 fun e w' => e = .returned (.func (.func 132) #[] #[.pointer (some ⟨w0.heap.size + 1, 0, none⟩), .pointer (some ⟨w0.heap.size, 0, none⟩), .pointer (some ⟨w0.heap.size + 2, 0, none⟩)]) ∧
      w' = ((w0.alloc (.cells #[.string (bs l)] 9)).alloc (.cells #[.string ⟨#[47]⟩] 9)).alloc (.cells #[.int .i64 0] 3)) := fun w0 k hk => seq_in (bs l) k hk w0
    obtain ⟨S, hS⟩ : ∃ S, S = bs l := ⟨_, rfl⟩
    rw [← hS] at HP HQ ⊢
    have HS := Lib.hid hS
    clear hS
    refine callsIn_of_wp_marks Tryz.func67 rfl trivial ?_ rfl
    simp only [Tryz.ntmps67, List.size_toArray, List.length_cons, List.length_nil, Nat.reduceAdd, Nat.reduceSub, Array.replicate_succ, Array.replicate_zero, List.push_toArray, List.append_toArray, List.nil_append, List.cons_append]
    gi_wp2_with first
      | (refine ⟨trivial, ?_⟩; gi_at_call 86; (with_reducible refine (HP.out _ _).mono ?_); rintro e w1 ⟨rfl, rfl⟩)
      | (refine ⟨trivial, ?_⟩; gi_at_call 87; (with_reducible refine (HQ.out _ _ (by omega)).mono ?_); rintro e w1 ⟨rfl, hw1⟩)
    rw [← hw1]
    obtain ⟨B, hB⟩ : ∃ B, w.heap.size = B := ⟨_, rfl⟩
    obtain ⟨ci, hsz, x3, x4, x5⟩ := six w w1 S B hB hw1
    have hwB : w.heap.size = B := hB
    simp only [hB, Nat.add_assoc, Nat.reduceAdd]
    have CI0 := Lib.hid ci
    have HSZ := Lib.hid hsz
    clear hw1 ci HP HQ
    have mvb : ∀ {W : World} {k : Nat} {ty : TypeId} {v : Value}, Below w1.heap.size w1 W → Boxed w1 k ty v → Boxed W k ty v := @fun W k ty v hb hx => (hb.block k hx.lt).trans hx
    have hn0 : B + 6 = w1.heap.size := hsz.symm
    refine range_turns (α := List UInt8) rfl (by omega) (gf := 132) (lb := #[.pointer (some ⟨B + 4, 0, none⟩), .pointer (some ⟨B + 3, 0, none⟩), .pointer (some ⟨B + 5, 0, none⟩)]) rfl trivial (enters_of Tryz.func132 (by kernel_rfl) rfl)
      (en := fun x : List UInt8 => .string (bs x)) (Tn := TnS (B + 3)) (ks := [B + 4, B + 3, B + 5]) (S := fun xs => xs = splitP l) (Sp := fun pre => pre <+: splitP l) (N := (splitP l).length)
      (by intro k hk; simp at hk; omega)
      (fun pre W => okN (pre.filter keepB) = true ∧ CI B (B + 6) w (pre.filter keepB) W)
      (fun pre W => okN (pre.filter keepB) = false ∧ CX B w W)
      (fun s X Y row hs hg hr => ⟨hs.1, hs.2.grown (by omega) hg (fun r e => ⟨by have := (hr r e).1; omega, .inr (hr r e).2⟩)⟩)
      (fun s X Y row hs hg hr => ⟨hs.1, hs.2.grown hg (fun r e => by have := (hr r e).1; omega)⟩)
      (fun s X Y hs ht => by
        obtain ⟨v, rfl⟩ := ht
        exact ⟨hs.1, hs.2.grown (by omega) (grownBy_setCell' X (B + 3) _) (fun r e => by cases e; exact ⟨Nat.le_refl _, .inl (by omega)⟩)⟩)
      (fun s X Y hs ht => by
        obtain ⟨v, rfl⟩ := ht
        exact ⟨hs.1, hs.2.grown (grownBy_setCell' X (B + 3) _) (fun r e => by cases e; exact Nat.le_refl _)⟩)
      (fun X Y k ht hk => by
        obtain ⟨v, rfl⟩ := ht
        exact Below.heap_setCell _ _ _ k (by show k ≠ B + 3; omega))
      ⟨rfl, CI0.out⟩
      (fun W hb => seq_turns l (B + 4) (B + 3) (B + 5) (by omega) _ (by omega) W (by omega) (by omega) (mvb hb x4).cell (by rw [← HS.out]; exact (mvb hb x3).cell) (mvb hb x5).cell (mvb hb x3).frozen)
      (fun x => { tmps := #[.string S, undef, .pointer (some ⟨B, 0, none⟩), .pointer (some ⟨B + 1, 0, none⟩), .pointer (some ⟨B + 2, 0, none⟩), .string (bs x), undef, .string S, .bool false, .string S,
        .func (.func 132) #[] #[.pointer (some ⟨B + 4, 0, none⟩), .pointer (some ⟨B + 3, 0, none⟩), .pointer (some ⟨B + 5, 0, none⟩)], .string (bs x), undef, undef, undef, undef, undef, undef, undef, undef, undef, undef, undef, undef, undef, undef, undef, undef, undef, undef, undef, undef, undef, undef, undef, undef], defers := [] }) ?assign ?body ?done ?stop
    case assign =>
      intro lp x W K hK
      gi_wp2
      exact hK
    case body =>
      rintro lp pre x W ⟨hok, hci⟩ hlen
      have hfx : (pre ++ [x]).filter keepB = pre.filter keepB ++ if keepB x then [x] else [] := by rw [List.filter_append, List.filter_cons]; rfl
      have HFX := Lib.hid hfx
      clear hfx hlen
      generalize pre.filter keepB = acc at *
      have hal : acc.length ≤ 8 := by unfold okN at hok; simp only [Bool.and_eq_true, decide_eq_true_eq] at hok; exact hok.2
      have t1 : ((bs x).toList == [46]) = decide (x = [46]) := eq_lit x [46]
      by_cases h0 : x = []
      · have e0 : (bs x).toList.isEmpty = true := by rw [bs_toList, h0]; rfl
        have e1 : (bs x).toList = [] := by rw [bs_toList, h0]
        have HF2 : Hid ((pre ++ [x]).filter keepB = acc) := by show _ = _; rw [HFX.out, h0]; simp [keepB]
        have HOK := Lib.hid hok
        have HCI := Lib.hid hci
        clear h0 hok hci t1
        gi_wp2
        exact ⟨KeepsFrom.refl _ _, fun _ _ => rfl, by rw [HF2.out]; exact HOK.out, by rw [HF2.out]; exact HCI.out⟩
      have e0 : (bs x).toList.isEmpty = false := by rw [bs_toList]; cases x with | nil => exact absurd rfl h0 | cons => rfl
      by_cases h1 : x = [46]
      · rw [decide_eq_true h1] at t1
        have HF2 : Hid ((pre ++ [x]).filter keepB = acc) := by show _ = _; rw [HFX.out, h1]; simp [keepB]
        have HOK := Lib.hid hok
        have HCI := Lib.hid hci
        clear h0 h1 hok hci
        gi_wp2
        exact ⟨KeepsFrom.refl _ _, fun _ _ => rfl, by rw [HF2.out]; exact HOK.out, by rw [HF2.out]; exact HCI.out⟩
      rw [decide_eq_false h1] at t1
      have HF2 : Hid ((pre ++ [x]).filter keepB = acc ++ [x]) := by
        show _ = _
        rw [HFX.out]; unfold keepB; rw [decide_eq_false h0, decide_eq_false h1]; rfl
      have HOS := Lib.hid (okN_snoc acc x hok)
      clear h0 h1 hok
      obtain ⟨v, hv, hrow⟩ := hci.nm
      obtain ⟨a, c, rfl, q1, q2, hSl⟩ := Sl_own hrow
      have hszW : B + 6 ≤ W.heap.size := hci.sz
      have HCI := Lib.hid hci
      have HV := Lib.hid hv
      have HROW := Lib.hid hrow
      clear hci hv hrow hSl
      cases hnm : nameB x with
      | false =>
        have HNF : Hid (okN (acc ++ [x]) = false) := by show _ = _; rw [HOS.out, hnm]; rfl
        have CN : Hid (∀ k, CallsIn (Fence.wide.inRound lp) k Tryz.prog 88 #[.string (bs x)] W fun e w' => e = .returned (.bool false) ∧ Below W.heap.size W w') := fun k => by
          have := name_any x W
          rw [hnm] at this
          exact CallsIn.inRound lp (callsIn_wide.2 this)
        clear hnm HOS
        gi_wp2_with (refine ⟨trivial, ?_⟩; gi_at_call 88; (with_reducible refine (CN.out _).mono ?_); rintro e w3 ⟨rfl, hb3⟩; have HB3 := Lib.hid hb3; have g1 := (gbBelow hb3); have R1 := (HCI.out.r1.kept g1 (by simp)); have R2 := (HCI.out.r2.kept g1 (by simp)); have k1 := R1.cell; have k2 := R1.frozen; have k3 := R2.cell; have k4 := R2.frozen; clear hb3 g1)
        refine ⟨((kfBelow HB3.out).trans ((KeepsOthers.setCell _ _ _).from _)).trans ((KeepsOthers.setCell _ _ _).from _), by rw [HF2.out]; exact HNF.out, ?_⟩
        exact ⟨(R1.set (.string ⟨#[]⟩)).other (by omega) _, (R2.other (by omega) _).set _, ((HCI.out.bl.trans (HB3.out.mono (by omega))).setCell (p := ⟨B, 0, none⟩) (Nat.le_refl _) _).setCell (p := ⟨B + 1, 0, none⟩) (Nat.le_succ _) _, by have := HB3.out.size; simp; omega⟩
      | true =>
        have CN : Hid (∀ k, CallsIn (Fence.wide.inRound lp) k Tryz.prog 88 #[.string (bs x)] W fun e w' => e = .returned (.bool true) ∧ Below W.heap.size W w') := fun k => by
          have := name_any x W
          rw [hnm] at this
          exact CallsIn.inRound lp (callsIn_wide.2 this)
        have HOS2 : Hid (okN (acc ++ [x]) = !decide (acc.length = 8)) := by show _ = _; rw [HOS.out, hnm]; rfl
        have HRW : Hid (∀ W3, Below W.heap.size W W3 → W3.ownsRow (B + 6) 9 1 (.slice a acc.length c) acc.length (strs acc)) := fun W3 hb => HROW.out.kept (gbBelow hb) (by cases (Value.slice a acc.length c).ownBlock with | none => exact .inl rfl | some g => exact .inr (by simp))
        clear hnm HOS HROW
        by_cases h8 : acc.length = 8
        · have HNF : Hid (okN (acc ++ [x]) = false) := by show _ = _; rw [HOS2.out, decide_eq_true h8]; rfl
          have h8' : ((acc.length : Int) == 8) = true := by rw [h8]; rfl
          clear HOS2 HRW
          generalize acc.length = n at *
          gi_wp2_with (refine ⟨trivial, ?_⟩; gi_at_call 88; (with_reducible refine (CN.out _).mono ?_); rintro e w3 ⟨rfl, hb3⟩; have HB3 := Lib.hid hb3; have g1 := (gbBelow hb3); have R1 := (HCI.out.r1.kept g1 (by simp)); have R2 := (HCI.out.r2.kept g1 (by simp)); have k1 := R1.cell; have k2 := R1.frozen; have k3 := R2.cell; have k4 := R2.frozen; have k5 := (HV.out.kept g1 (by simp)).cell; clear hb3 g1)
          refine ⟨((kfBelow HB3.out).trans ((KeepsOthers.setCell _ _ _).from _)).trans ((KeepsOthers.setCell _ _ _).from _), by rw [HF2.out]; exact HNF.out, ?_⟩
          exact ⟨(R1.set (.string ⟨#[]⟩)).other (by omega) _, (R2.other (by omega) _).set _, ((HCI.out.bl.trans (HB3.out.mono (by omega))).setCell (p := ⟨B, 0, none⟩) (Nat.le_refl _) _).setCell (p := ⟨B + 1, 0, none⟩) (Nat.le_succ _) _, by have := HB3.out.size; simp; omega⟩
        · have HNF : Hid (okN (acc ++ [x]) = true) := by show _ = _; rw [HOS2.out, decide_eq_false h8]; rfl
          have h8' : ((acc.length : Int) == 8) = false := by rw [beq_eq_false_iff_ne]; omega
          have hal2 : acc.length ≤ 7 := by omega
          obtain ⟨i0, hi, hz0, hz1, hz2⟩ := info_parts infoS
          clear HOS2 h8
          gi_wp2_with first
            | (refine ⟨trivial, ?_⟩; gi_at_call 88; (with_reducible refine (CN.out _).mono ?_); rintro e w3 ⟨rfl, hb3⟩; have HB3 := Lib.hid hb3; have g1 := (gbBelow hb3); have hv3 := (HV.out.kept g1 (by simp)); have k5 := hv3.cell; have k6 := hv3.frozen; have hrow3 := HRW.out _ hb3; have HV3 := Lib.hid hv3; have HROW3 := Lib.hid hrow3; have hs3 : B + 6 ≤ w3.heap.size := Nat.le_trans hszW hb3.size; have CI3 := Lib.hid (HCI.out.grown (by omega) g1 (fun r e => by cases e)); clear hb3 g1 hv3 hrow3)
            | (gi_at_builtin; refine wpListIn_append_own _ rfl _ _ 29 rfl (B + 6) 9 i0 (.string ByteArray.empty) 1 16 Tryz.underlying29 hi hz0 hz1 hz2 rfl (by decide) _ _ _ rfl (HROW3.out.alloc _) ⟨w3.heap.size, 0, none⟩ 1 1 [.string (bs x)] rfl rfl (cell_one_new _ _ _) (by simp [Value.oneCell']) (by unfold maxLen; omega) (by omega) (by simp; omega) ?_; intro v' w4 hown' hgrow _; obtain ⟨g', cap', rfl⟩ := ownsRow_succ hown'; obtain ⟨p1, p2, p3⟩ := CI3.out.put (x := x) (by omega) HV3.out HROW3.out hown' hgrow; have P1 := Lib.hid p1; have P2 := Lib.hid p2; have P3 := Lib.hid p3; have hv4 : Boxed w4 (B + 2) 29 (.slice a acc.length c) := (HV3.out.alloc _).kept hgrow (fun e => by have := (HROW3.out.lt _ e.symm).1; omega); have k7 := hv4.cell; have k8 := hv4.frozen; clear p1 p2 p3 hown' hgrow hv4)
          refine ⟨(kfBelow HB3.out).trans (by rw [← hn0]; exact P2.out), fun k hk => (P3.out k hk).trans (HB3.out.block k (by simp at hk; omega)), by rw [HF2.out]; exact HNF.out, by rw [HF2.out]; exact P1.out⟩
    case done =>
      rintro D ys W hD rfl ⟨hok, hci⟩ hK
      obtain ⟨v, hv, hrow⟩ := hci.nm
      obtain ⟨a, c, rfl, q1, q2, hSl⟩ := Sl_own hrow
      have hal : ((splitP l).filter keepB).length ≤ 8 := by unfold okN at hok; simp only [Bool.and_eq_true, decide_eq_true_eq] at hok; exact hok.2
      have hjl : (joinP ((splitP l).filter keepB)).length ≤ l.length := by
        have := joinP_filter_le (splitP l) keepB
        rwa [join_split] at this
      have HJ : Hid (∀ k, CallsIn Fence.wide k Tryz.prog 89 #[.slice a ((splitP l).filter keepB).length c, .string ⟨#[47]⟩] W fun e w' => e = .returned (.string (bs (joinP ((splitP l).filter keepB)))) ∧ Below W.heap.size W w') := fun k =>
        callsIn_wide.2 (joinNames_any _ a c W hSl q1 (by omega) (by omega))
      have HC2 : Hid (cleanL l = if (joinP ((splitP l).filter keepB)).length ≤ 96 then some (joinP ((splitP l).filter keepB)) else none) := by
        show _ = _
        rw [HC.out, good_ok]
        unfold namesL
        rw [hok, Bool.true_and]
        by_cases h : (joinP ((splitP l).filter keepB)).length ≤ 96
        · rw [decide_eq_true h, if_pos h]; rfl
        · rw [decide_eq_false h, if_neg h]; rfl
      generalize joinP ((splitP l).filter keepB) = P at *
      generalize ((splitP l).filter keepB).length = n at *
      have hvc := hv.cell
      have hbz := bs_size P
      have hci1 := hci.r1
      have hci2 := hci.r2
      have HCI := Lib.hid hci
      have HK := Lib.hid hK
      have HR1 := Lib.hid hci1
      have HR2 := Lib.hid hci2
      have hszW : B + 6 ≤ W.heap.size := hci.sz
      clear hci hSl hrow hv hK HC hci1 hci2
      by_cases h96 : P.length ≤ 96
      · have HC3 : Hid (cleanL l = some P) := by show _ = _; rw [HC2.out, if_pos h96]
        have hs96 : ¬ (96 : Int) < ((bs P).size : Int) := by omega
        have hs97 : ((bs P).size : Int) ≤ 96 := by omega
        clear HC2 hbz h96
        generalize hPS : bs P = PS at *
        have HPS := Lib.hid hPS
        clear hPS
        gi_wp2_with (refine ⟨trivial, ?_⟩; gi_at_call 89; (with_reducible refine (HJ.out _).mono ?_); rintro e w3 ⟨rfl, hb3⟩; have HB3 := Lib.hid hb3; have g1 := (gbBelow hb3); have R1 := (HR1.out.kept g1 (by simp)); have R2 := (HR2.out.kept g1 (by simp)); have k1 := R1.cell; have k2 := R1.frozen; have k3 := R2.cell; have k4 := R2.frozen; clear hb3 g1)
        exact leave7 (p := P) (z := 0) hwB rfl rfl (by rw [HPS.out]; exact (R1.set (.string PS)).other (by omega) _) ((R2.other (by omega) _).set _) (by omega)
          ((Below.heap_setCell _ _ _ D (by show D ≠ B + 1; omega)).trans ((Below.heap_setCell _ _ _ D (by show D ≠ B; omega)).trans ((HB3.out.block D (Array.getElem?_eq_some_iff.1 HK.out).1).trans HK.out)))
          (((HCI.out.bl.trans (HB3.out.mono (by omega))).setCell (p := ⟨B, 0, none⟩) (Nat.le_refl _) _).setCell (p := ⟨B + 1, 0, none⟩) (Nat.le_succ _) _) (by rw [HC3.out]; rfl)
      · have HC3 : Hid (cleanL l = none) := by show _ = _; rw [HC2.out, if_neg h96]
        have hs96 : (96 : Int) < ((bs P).size : Int) := by omega
        clear HC2 hbz h96
        generalize hPS : bs P = PS at *
        clear hPS
        gi_wp2_with (refine ⟨trivial, ?_⟩; gi_at_call 89; (with_reducible refine (HJ.out _).mono ?_); rintro e w3 ⟨rfl, hb3⟩; have HB3 := Lib.hid hb3; have g1 := (gbBelow hb3); have R1 := (HR1.out.kept g1 (by simp)); have R2 := (HR2.out.kept g1 (by simp)); have k1 := R1.cell; have k2 := R1.frozen; have k3 := R2.cell; have k4 := R2.frozen; clear hb3 g1)
        exact leave7 (p := []) (z := 2) hwB rfl rfl ((R1.set (.string ⟨#[]⟩)).other (by omega) _) ((R2.other (by omega) _).set _) (by omega)
          ((Below.heap_setCell _ _ _ D (by show D ≠ B + 1; omega)).trans ((Below.heap_setCell _ _ _ D (by show D ≠ B; omega)).trans ((HB3.out.block D (Array.getElem?_eq_some_iff.1 HK.out).1).trans HK.out)))
          (((HCI.out.bl.trans (HB3.out.mono (by omega))).setCell (p := ⟨B, 0, none⟩) (Nat.le_refl _) _).setCell (p := ⟨B + 1, 0, none⟩) (Nat.le_succ _) _) (by rw [HC3.out]; rfl)
    case stop =>
      rintro D pre W hD hpre ⟨hok, hcx⟩ hK
      have HC3 : Hid (cleanL l = none) := by
        show _ = _
        have hno : okN (namesL l) = false := okN_pre (filter_pre hpre) hok
        rw [HC.out, good_ok, hno]; rfl
      have HCX := Lib.hid hcx
      have HK := Lib.hid hK
      clear hcx hK hok hpre HC
      gi_wp2
      exact leave7 (p := []) (z := 2) hwB rfl rfl HCX.out.r1 HCX.out.r2 (by omega) HK.out HCX.out.bl (by rw [HC3.out]; rfl)
end Go.Proofs.YtagdhghjcibfbaaGreatDoor

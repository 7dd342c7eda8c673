/- Layer 8: a directory's entries: the walk. -/
import Derived.Test.YtagdhghjcibfbaaGreatInEn
import Derived.LoopTactic
namespace Go.Proofs.YtagdhghjcibfbaaGreat
open Go.RowKit Go.Sort Go.Shelf
set_option linter.unusedVariables false
set_option linter.unusedSectionVars false
set_option maxRecDepth 100000

theorem filt_key {x : List UInt8} {c : Int} : ∀ {l : List (List UInt8 × Int)}, l.Pairwise (fun p q => p.1 ≠ q.1) → aget x l = some c → l.filter (fun p => decide (p.1 = x)) = [(x, c)]
  | [], _, h => by cases h
  | (k, v) :: r, hp, h => by
    rw [List.pairwise_cons] at hp
    by_cases e : k = x
    · subst e
      have hv : v = c := by
        have h2 : aget k ((k, v) :: r) = some v := by unfold aget; rw [if_pos rfl]
        rw [h2] at h; cases h; rfl
      subst hv
      rw [List.filter_cons_of_pos (by simp)]
      have : r.filter (fun p => decide (p.1 = k)) = [] := by
        rw [List.filter_eq_nil_iff]
        intro q hq hd
        exact hp.1 q hq (by simpa using hd : q.1 = k).symm
      rw [this]
    · rw [List.filter_cons_of_neg (by simpa using e)]
      refine filt_key hp.2 ?_
      unfold aget at h
      rw [if_neg e] at h
      exact h
theorem filt_or {α : Type} (p q : α → Bool) : ∀ {l : List α}, (∀ a ∈ l, ¬ (p a = true ∧ q a = true)) → (l.filter (fun a => p a || q a)).Perm (l.filter p ++ l.filter q)
  | [], _ => List.Perm.refl _
  | a :: r, h => by
    have ih := filt_or p q (l := r) (fun b hb => h b (List.mem_cons_of_mem _ hb))
    have ha := h a (List.mem_cons_self ..)
    cases hp : p a <;> cases hq : q a
    · simp only [List.filter_cons, hp, hq, Bool.or_self, Bool.false_eq_true, if_false]; exact ih
    · simp only [List.filter_cons, hp, hq, Bool.or_true, Bool.false_eq_true, if_false, if_true]
      exact (List.Perm.cons a ih).trans List.perm_middle.symm
    · simp only [List.filter_cons, hp, hq, Bool.or_false, Bool.false_eq_true, if_false, if_true, List.cons_append]
      exact List.Perm.cons a ih
    · exact absurd ⟨hp, hq⟩ ha
/-- The names that have come. -/
def came (l : List (List UInt8 × Int)) (left : Lit → Bool) : List (List UInt8) := (l.filter fun p => !left (klS p.1)).map (·.1)
theorem came_start (l : List (List UInt8 × Int)) : came l (Maps.has (mapD klS l)) = [] := by
  unfold came
  rw [List.map_eq_nil_iff, List.filter_eq_nil_iff]
  intro p hp h
  rw [mapD_has kl_S] at h
  have h2 : aget p.1 l = none := by simpa using h
  exact aget_none.1 h2 p hp rfl
theorem came_end (l : List (List UInt8 × Int)) {left : Lit → Bool} (h : ∀ k, left k = false) : came l left = l.map (·.1) := by
  unfold came
  rw [List.filter_eq_self.2 (fun p _ => by rw [h]; rfl)]
theorem came_step {l : List (List UInt8 × Int)} (hr : Ris bytesBefore l) {left : Lit → Bool} {x : List UInt8} {c : Int} (hx : left (klS x) = true) (hc : aget x l = some c) : (came l (fun z => left z && !z.sameKey (klS x))).Perm (came l left ++ [x]) := by
  have e : (fun p : List UInt8 × Int => !(left (klS p.1) && !(klS p.1).sameKey (klS x))) = fun p => (!left (klS p.1)) || decide (p.1 = x) := by
    funext p
    rw [kl_S.same]
    cases left (klS p.1) <;> simp
  unfold came
  rw [e]
  have h1 := filt_or (fun p : List UInt8 × Int => !left (klS p.1)) (fun p => decide (p.1 = x)) (l := l) (fun p hp ⟨h1, h2⟩ => by
    have : p.1 = x := by simpa using h2
    rw [this, hx] at h1
    cases h1)
  rw [filt_key (ris_ne ord_S hr) hc] at h1
  have := h1.map (·.1)
  simpa using this
theorem own_gb {w w' : World} {B k n : Nat} {te : TypeId} {v : Value} {xs : List Value} {row : Option Nat} (h : w.ownsRow B te k v n xs) (g : w.grownBy w' row) (hne : row = none ∨ v.ownBlock ≠ row) : w'.ownsRow B te k v n xs := by
  refine ⟨h.1, ?_⟩
  rcases h.2 with h' | ⟨b, cap, cur, rfl, hb, hgg, rest⟩
  · exact .inl h'
  · exact .inr ⟨b, cap, cur, rfl, hb, (g.block b (Array.getElem?_eq_some_iff.1 hgg).1 (fun e => by rcases hne with h | h; (rw [h] at e; cases e); exact h e)).trans hgg, rest⟩
theorem info_ent : (Tryz.prog.info? 74).map (fun i => (i.zero, i.size, i.bytes)) = some (some (.agg #[.string ⟨#[]⟩, .int .i64 0]), 2, 24) := by kernel_rfl
def entZ : Array Value := #[.string ⟨#[]⟩, .int .i64 0]
theorem make_ents (n : Nat) (hn : n ≤ 1099511627776) (w : World) :
    (Instr.makeSlice 61 (.int .i64 0) (.int .i64 (n : Int))).run Tryz.prog w = .ok (.slice (some ⟨w.heap.size, 0, none⟩) 0 n) (w.alloc (.cells (madeCells entZ (n * 2)) 74)) := by
  obtain ⟨i0, h1, h2, h3, h4⟩ := info_parts info_ent
  have := run_make (P := Tryz.prog) w 61 74 i0 _ Tryz.underlying61 h1 h2 .i64 .i64 0 n (by omega) (by omega) (by rw [h4]; omega) (by omega)
  rw [h3, show (Value.agg #[.string ⟨#[]⟩, .int .i64 0]).cells = entZ from rfl] at this
  simpa using this
theorem keyS_inv {key : Value} {kl : Lit} (h : keyOf Tryz.prog 9 key = some kl) : ∃ x : List UInt8, key = .string (bs x) ∧ kl = klS x := by
  have hu : Tryz.prog.underlying 9 = some .string := Tryz.underlying9
  cases key <;> simp [keyOf, hu, mapKey] at h
  obtain ⟨_, rfl⟩ := h
  exact ⟨_, by rw [of_bs], rfl⟩

set_option maxHeartbeats 4000000 in
theorem entries_dir (l : List (List UInt8 × Int)) (hr : Ris bytesBefore l) (hl : l.length ≤ 1099511627776) (nb kb : Nat) (w : World) (c4 : w.cell? ⟨nb, 4, none⟩ = some (.map (some kb))) (hm : MapS w kb l) :
    Calls Tryz.prog 45 #[.pointer (some ⟨nb, 0, none⟩)] w fun e w' => ∃ v, e = .returned v ∧ EnAt w' v l w.heap.size ∧ Below w.heap.size w w' := by
  have hln := fun ty => hm.len ty
  have hmk := make_ents l.length hl w
  obtain ⟨W1, hW1⟩ : ∃ W1, w.alloc (.cells (madeCells entZ (l.length * 2)) 74) = W1 := ⟨_, rfl⟩
  have hb1 : Below w.heap.size w W1 := by rw [← hW1]; exact (Below.refl _ w).alloc (Nat.le_refl _) _
  have own1 : W1.ownsRow w.heap.size 74 2 (.slice (some ⟨w.heap.size, 0, none⟩) 0 l.length) 0 [] := by rw [← hW1]; exact World.ownsRow_made w _ _ (Nat.le_refl _) (by unfold maxLen; omega) (size_madeCells _ _)
  rw [hW1] at hmk
  have hnl : nb < w.heap.size := World.block_lt_of_cell? w _ c4
  have c4' : W1.cell? ⟨nb, 4, none⟩ = some (.map (some kb)) := (hb1.cell hnl).trans c4
  have hkb : kb < w.heap.size := hm.lt
  have hm1 : MapS W1 kb l := map_ch hm (Ch.of_below (M := fun _ => False) hb1) (fun e => e)
  unfold MapS at hm1
  have HB1 := Lib.hid hb1
  have HOWN1 := Lib.hid own1
  have HR := Lib.hid hr
  have HM1 := Lib.hid hm1
  have HLL := Lib.hid hl
  have HKB := Lib.hid hkb
  clear hb1 own1 hr hW1 hm hm1 hl hkb
  go_enter Tryz.func45, Tryz.ntmps45
  go_wp2_with (first
    | (at_range; refine wpList_range_own _ rfl _ 65 rfl 9 3 keyed_S Tryz.underlying65 (plainElem Tryz.prog 3) kb l.length _ rfl HM1.out ?_; intro w0 hrg0 hg0 hs0)
    | go_in)
  go_frame
  have hbl := HB1.out
  go_loopw [3] (fun s3 wr => ∃ (left : Lit → Bool) (cnt : Nat) (ks : List (List UInt8)), Hid (wr.ranges (H := Unit) Tryz.prog 9 (plainElem Tryz.prog 3) kb W1.heap.size l.length (mapD klS l) left cnt) ∧ Hid (wr.ownsRow w.heap.size 74 2 s3 ks.length (ks.flatMap (encE l))) ∧ Hid (s3.ownBlock ≠ none) ∧ Hid (ks.Perm (came l left)) ∧ Hid (RowKit.Below w.heap.size w wr)) (fun _ wr => wr.rangeLeft kb W1.heap.size)
  case atStart => exact ⟨_, _, [], hrg0, own_gb HOWN1.out hg0 (.inl rfl), (by show (some w.heap.size) ≠ none; simp), by rw [came_start]; exact Lib.hid (List.Perm.refl _), HB1.out.grown hg0 HB1.out.size (fun j hj => by cases hj)⟩
  case round =>
    obtain ⟨left, cnt, ks, HRG, HOW, HNN, HPM, HBE⟩ := hrel
    have hrg := HRG.out
    have hkl : ks.length ≤ l.length := by
      rw [HPM.out.length_eq]; unfold came; rw [List.length_map]; exact List.length_filter_le _ _
    clear hln hmk hg0 hrg0 hs0 c4 c4' hbl
    go_wp2_with (first
      | (at_next; refine wpList_next_ranges _ rfl _ rfl 9 keyed_S (plainElem Tryz.prog 3) (fun x : List UInt8 => Value.string (bs x)) (Value.int .i64) (fun key kl h => by obtain ⟨x, hx, _⟩ := keyS_inv h; exact ⟨x, hx⟩) (fun v y hv => by obtain ⟨c, rfl, _⟩ := plainElem_int_inv Tryz.underlying3 hv; exact ⟨c, rfl⟩) kb W1.heap.size l.length _ _ _ rfl hrg ?_ ?_)
      | go_in)
    · intro hc0 hl0
      have HP : Hid (ks.Perm (l.map (·.1))) := Lib.hid (by rw [← came_end l hl0]; exact HPM.out)
      clear hrg hl0 hc0
      rcases HOW.out.2 with ⟨rfl, _⟩ | ⟨g, cap, cur, rfl, hbase, hgb, r1, r2, r3, r4⟩
      · exact absurd rfl HNN.out
      have HH := Lib.hid (holdsE hgb r4)
      have hg : g < wr.heap.size := (Array.getElem?_eq_some_iff.1 hgb).1
      have CS := Lib.hid (sortE_any l g cap ks wr HH.out hg (by have := HLL.out; omega))
      have HG := Lib.hid hg
      have HBS := Lib.hid hbase
      clear hgb r1 r2 r3 r4 hg hbase
      go_wp2_with (go_at_call 75; (with_reducible refine CS.out.mono ?_); rintro e w9 ⟨rfl, n9, os9, hw9⟩; have HW9 := Lib.hid hw9; clear hw9)
      go_ret
      refine ⟨_, rfl, ?_, ?_⟩
      · rw [HW9.out]; exact sortedE HR.out HP.out HH.out HG.out HBS.out
      · rw [HW9.out]; exact HBE.out.grown (grownBy_sortE _) HBE.out.size (fun j hj => by cases hj; exact HBS.out)
    · intro x c kl y yp w1 cnt1 hkey hlk hv hat hrg1 hlt hg1 hs1 hen
      obtain ⟨x', ex, rfl⟩ := keyS_inv hkey
      obtain rfl : x = x' := by
        have e1 := Value.string.inj ex
        have e2 := congrArg (fun z : ByteArray => z.data.toList) e1
        simp only [bs_list] at e2
        exact e2
      obtain ⟨c', ec, ey, hwc⟩ := plainElem_int_inv Tryz.underlying3 hv
      cases ec; cases ey
      have hag : aget x l = some c := by
        have h1 := hat (.nil)
        rw [mapD_at kl_S] at h1
        cases h2 : aget x l with
        | none => rw [h2] at h1; cases h1
        | some v => rw [h2] at h1; cases h1; rfl
      have how1 := own_gb HOW.out hg1 (.inr (row_ne_iter HOW.out hrg).symm)
      have HOW1 := Lib.hid how1
      have HRG1 := Lib.hid hrg1
      have HAG := Lib.hid hag
      have HPS := Lib.hid ((came_step HR.out hlk hag).trans (List.Perm.append_right [x] HPM.out.symm))
      have hbe1 := HBE.out.grown hg1 HBE.out.size (fun j hj => by cases hj; have := HB1.out.size; omega)
      have HBE1 := Lib.hid hbe1
      have HLT := Lib.hid hlt
      obtain ⟨i0, hi, hz0, hz1, hz2⟩ := info_parts info_ent
      have hm1 : ks.length + 1 ≤ maxLen := by have := HLL.out; unfold maxLen; omega
      have hb16 : (ks.length + 1) * 24 ≤ 140737488355328 := by have := HLL.out; omega
      have hbs : w.heap.size ≤ w1.heap.size := hbe1.size
      clear how1 hrg1 hag hat hkey hlk hv hg1 hs1 ex hwc hbe1 hrg hlt hkl
      go_wp2_with (first
        | (at_builtin; refine wpList_append_own_at _ rfl _ _ 61 rfl w.heap.size 74 i0 (.agg #[.string ⟨#[]⟩, .int .i64 0]) 2 24 Tryz.underlying61 hi hz0 hz1 hz2 rfl (by decide) _ _ _ rfl (HOW1.out.alloc _) ⟨w1.heap.size, 0, none⟩ 1 1 [.string (bs x), .int .i64 c] rfl rfl (World.news_of_block (cs := #[.string (bs x), .int .i64 c]) (t := 74) (fr := (0, 0)) (heap_alloc_new w1 _)) (by simp [Value.oneCell']) hm1 hb16 (by simp; omega) ?_; intro v' W6 hown' hgrow _ hat2; have HOWN := Lib.hid hown'; have HGROW := Lib.hid hgrow; have HAT := Lib.hid hat2; clear hown' hgrow hat2; go_frame)
        | go_in)
      have hrg2 := (HRG1.out.alloc (.cells #[.string (bs x), .int .i64 c] 74)).kept HGROW.out (fun e => by
        have := (World.ownsRow.lt (HOW1.out) kb e.symm).1
        have := HKB.out
        omega) (row_ne_iter HOW1.out HRG1.out)
      go_roundw
      case rel =>
        refine ⟨_, cnt1, ks ++ [x], Lib.hid hrg2, ?_, ?_, Lib.hid HPS.out.symm, ?_⟩
        · rw [List.length_append, List.flatMap_append]
          have e : [x].flatMap (encE l) = [.string (bs x), .int .i64 c] := by
            show encE l x ++ [] = _
            unfold encE; rw [HAG.out]; rfl
          rw [e]
          exact HOWN.out
        · refine Lib.hid ?_
          rcases HAT.out with h | h
          · rw [h]; exact HNN.out
          · rw [h]; simp
        · exact Lib.hid ((HBE1.out.alloc HBE1.out.size _).grown HGROW.out (HBE1.out.alloc HBE1.out.size _).size (fun j hj => by have := (World.ownsRow.lt (HOW1.out) j hj).1; omega))
      case measure => rw [hrg2.left_eq, HRG.out.left_eq]; exact HLT.out
end Go.Proofs.YtagdhghjcibfbaaGreat

/- Layer 8: what Nodes hands back, cell by cell; sums. -/
import Derived.Test.YtagdhghjcibfbaaGreatInNs
import Derived.Test.YtagdhghjcibfbaaGreatInU
import Derived.LoopTactic
import Derived.BigQuiet
namespace Go.Proofs.YtagdhghjcibfbaaGreat
open Go.RowKit Go.Sort Go.Shelf
set_option linter.unusedVariables false
set_option linter.unusedSectionVars false
set_option maxRecDepth 100000

structure NcAt (w : World) (g j : Nat) (p : Int × Nd) (eb ec : Nat) : Prop where
  c0 : w.cell? ⟨g, j * 6, none⟩ = some (.int .i64 p.1)
  c1 : w.cell? ⟨g, j * 6 + 1, none⟩ = some (.bool p.2.dir)
  c2 : w.cell? ⟨g, j * 6 + 2, none⟩ = some (.int .i64 p.2.links)
  c3 : w.cell? ⟨g, j * 6 + 3, none⟩ = some (.int .i64 p.2.holds)
  c4 : w.cell? ⟨g, j * 6 + 4, none⟩ = some (.string (bs p.2.data))
  c5 : w.cell? ⟨g, j * 6 + 5, none⟩ = some (.slice (some ⟨eb, 0, none⟩) p.2.names.length ec)
  lt : eb < w.heap.size
  en : ∀ i (h : i < p.2.names.length), w.cell? ⟨eb, i * 2, none⟩ = some (.string (bs p.2.names[i].1)) ∧ w.cell? ⟨eb, i * 2 + 1, none⟩ = some (.int .i64 p.2.names[i].2)
theorem NcAt.below {w w' : World} {g j : Nat} {p : Int × Nd} {eb ec : Nat} (h : NcAt w g j p eb ec) (hg : g < w.heap.size) (hb : Below w.heap.size w w') : NcAt w' g j p eb ec :=
  ⟨(hb.cell (show g < _ from hg)).trans h.c0, (hb.cell (show g < _ from hg)).trans h.c1, (hb.cell (show g < _ from hg)).trans h.c2, (hb.cell (show g < _ from hg)).trans h.c3, (hb.cell (show g < _ from hg)).trans h.c4, (hb.cell (show g < _ from hg)).trans h.c5,
   Nat.lt_of_lt_of_le h.lt hb.size, fun i hi => ⟨(hb.cell (show eb < _ from h.lt)).trans (h.en i hi).1, (hb.cell (show eb < _ from h.lt)).trans (h.en i hi).2⟩⟩
def NsC (w : World) (v : Value) (l : List (Int × Nd)) : Prop := ∃ g c, v = .slice (some ⟨g, 0, none⟩) l.length c ∧ g < w.heap.size ∧ ∀ j (h : j < l.length), ∃ eb ec, NcAt w g j l[j] eb ec
theorem NsC.below {w w' : World} {v : Value} {l : List (Int × Nd)} (h : NsC w v l) (hb : Below w.heap.size w w') : NsC w' v l := by
  obtain ⟨g, c, h1, h2, h3⟩ := h
  exact ⟨g, c, h1, Nat.lt_of_lt_of_le h2 hb.size, fun j hj => by obtain ⟨eb, ec, h4⟩ := h3 j hj; exact ⟨eb, ec, h4.below h2 hb⟩⟩
theorem NdsIn.get {w : World} {S : Nat → Prop} : ∀ (l : List (Int × Nd)) {cs : List Value} (j : Nat) (h : j < l.length), NdsIn w S l cs → ∃ ev, EnS w S ev l[j].2.names ∧ cs[j * 6]? = some (.int .i64 l[j].1) ∧ cs[j * 6 + 1]? = some (.bool l[j].2.dir) ∧ cs[j * 6 + 2]? = some (.int .i64 l[j].2.links) ∧ cs[j * 6 + 3]? = some (.int .i64 l[j].2.holds) ∧ cs[j * 6 + 4]? = some (.string (bs l[j].2.data)) ∧ cs[j * 6 + 5]? = some ev
  | [], _, j, h, _ => by simp at h
  | p :: r, cs, 0, h, hn => by
    obtain ⟨ev, cs', rfl, hv, hr⟩ := hn
    exact ⟨ev, hv, rfl, rfl, rfl, rfl, rfl, rfl⟩
  | p :: r, cs, j + 1, h, hn => by
    obtain ⟨ev, cs', rfl, hv, hr⟩ := hn
    obtain ⟨ev2, h1, h2⟩ := NdsIn.get r j (by simpa using h) hr
    have e : ∀ c, ([.int .i64 p.1, .bool p.2.dir, .int .i64 p.2.links, .int .i64 p.2.holds, .string (bs p.2.data), ev] ++ cs')[(j + 1) * 6 + c]? = cs'[j * 6 + c]? := fun c => by
      rw [List.getElem?_append_right (by simp; omega)]
      congr 1
      simp only [List.length_cons, List.length_nil]; omega
    have e0 := e 0
    simp only [Nat.add_zero] at e0
    rw [e0, e, e, e, e, e]
    exact ⟨ev2, h1, h2⟩
theorem NsAt.cells {w : World} {v : Value} {l : List (Int × Nd)} {lo : Nat} (h : NsAt w v l lo) : NsC w v l := by
  obtain ⟨g, c, cs, rfl, hown, hnd⟩ := h
  rcases hown.2 with ⟨h0, _⟩ | ⟨g', cap, cur, he, hlo, hgb, r1, r2, r3, r4⟩
  · cases h0
  obtain rfl : g' = g := by cases he; rfl
  have row : ∀ t u, cs[t]? = some u → w.cell? ⟨g', t, none⟩ = some u := fun t u hu => by
    rw [← r4, List.getElem?_take] at hu
    split at hu
    · have : cur[t]? = some u := by simpa using hu
      simp [World.cell?, hgb, this]
    · cases hu
  refine ⟨g', c, rfl, (Array.getElem?_eq_some_iff.1 hgb).1, fun j hj => ?_⟩
  obtain ⟨ev, ⟨eb, ec, rfl, hs, hlt, hen⟩, h0, h1, h2, h3, h4, h5⟩ := NdsIn.get l j hj hnd
  exact ⟨eb, ec, row _ _ h0, row _ _ h1, row _ _ h2, row _ _ h3, row _ _ h4, row _ _ h5, hlt, hen⟩

/-! ### Sums -/
theorem cost_succ (l : List (Int × Nd)) (k : Nat) (h : k < l.length) : costL (l.take (k + 1)) = costL (l.take k) + (64 + l[k].2.data.length) := by
  unfold costL; rw [List.take_succ_eq_append_getElem h, List.map_append, List.sum_append, List.map_cons, List.map_nil, List.sum_cons, List.sum_nil, Nat.add_zero]
theorem cost_le (l : List (Int × Nd)) (k : Nat) : costL (l.take k) ≤ costL l := by
  have : costL l = costL (l.take k) + costL (l.drop k) := by unfold costL; rw [← List.sum_append, ← List.map_append, List.take_append_drop]
  omega
theorem refs_succ (x : Int) (l : List (Int × Nd)) (k : Nat) (h : k < l.length) : refsL x (l.take (k + 1)) = refsL x (l.take k) + cntN x l[k].2.names := by
  unfold refsL; rw [List.take_succ_eq_append_getElem h, List.map_append, List.sum_append, List.map_cons, List.map_nil, List.sum_cons, List.sum_nil, Nat.add_zero]
theorem refs_le (x : Int) (l : List (Int × Nd)) (k : Nat) : refsL x (l.take k) ≤ refsL x l := by
  have : refsL x l = refsL x (l.take k) + refsL x (l.drop k) := by unfold refsL; rw [← List.sum_append, ← List.map_append, List.take_append_drop]
  omega
theorem cnt_succ (x : Int) (l : List (List UInt8 × Int)) (k : Nat) (h : k < l.length) : cntN x (l.take (k + 1)) = cntN x (l.take k) + (if l[k].2 = x then 1 else 0) := by
  unfold cntN; rw [List.take_succ_eq_append_getElem h, List.map_append, List.sum_append, List.map_cons, List.map_nil, List.sum_cons, List.sum_nil, Nat.add_zero]
theorem cnt_le (x : Int) (l : List (List UInt8 × Int)) (k : Nat) : cntN x (l.take k) ≤ cntN x l := by
  have : cntN x l = cntN x (l.take k) + cntN x (l.drop k) := by unfold cntN; rw [← List.sum_append, ← List.map_append, List.take_append_drop]
  omega

end Go.Proofs.YtagdhghjcibfbaaGreat

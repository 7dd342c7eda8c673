/- Maps keyed by pointers to cells: what they hold, look-up, store. -/
import Derived.Test.YtnjikipncgbjjaaGreatDoorJsU
import Derived.LaidEqlPtr
import Derived.Maps.OwnIn
namespace Go.Proofs.YtnjikipncgbjjaaGreatDoor
open Go.RowKit
set_option linter.unusedVariables false
set_option linter.unusedSectionVars false

/-- A pointer to a cell. -/
def pv (a : Nat × Nat) : Value := .pointer (some ⟨a.1, a.2, none⟩)
theorem pv_inj {a b : Nat × Nat} (h : pv a = pv b) : a = b := by
  unfold pv at h
  simp only [Value.pointer.injEq, Option.some.injEq, Addr.mk.injEq] at h
  exact Prod.ext h.1 h.2.1
/-- The map in block b holds f. -/
def PM (w : World) (b : Nat) (f : Nat × Nat → Option Value) : Prop :=
  ∃ es clock, w.heap[b]? = some (.map es clock) ∧ (∀ (i : Nat) e, es.toList[i]? = some e → ∃ a, e.key = pv a ∧ Clean w a.1 ∧ f a = some e.val) ∧
    (∀ a v, f a = some v → ∃ (i : Nat) (e : MapEntry), es.toList[i]? = some e ∧ e.key = pv a) ∧ (∀ (i j : Nat) (e e' : MapEntry), es.toList[i]? = some e → es.toList[j]? = some e' → e.key = e'.key → i = j)

section
variable {P : Program} (w : World) {tp te : TypeId} {j : TypeInfo} (hp : P.underlying tp = some (.pointer te)) (hte : P.info? te = some j) (hsz : j.size ≠ 0)
include hp hte hsz
theorem run_ptr_eq {a b : Nat × Nat} (ha : Clean w a.1) (hb : Clean w b.1) : (Op.equal tp (pv a) (pv b)).run P w = .ok (decide (a = b)) w := by
  by_cases h : a = b
  · subst h
    have h : ∀ d : Nat, (Op.equalIn (d + 1) tp (.pointer (some ⟨a.1, a.2, none⟩)) (.pointer (some ⟨a.1, a.2, none⟩))).run P w = .ok true w := fun d => by
      simp [Op.equalIn, run_underlying hp, sizeOf, typeInfo, hte, run_sameAddr_same]
    rw [decide_eq_true rfl]
    exact h 9999
  · obtain ⟨ca, ta, ha⟩ := ha
    obtain ⟨cb, tb, hb⟩ := hb
    have hne : (⟨a.1, a.2, none⟩ : Addr) ≠ ⟨b.1, b.2, none⟩ := fun e => h (by simp only [Addr.mk.injEq] at e; exact Prod.ext e.1 e.2.1)
    have h : ∀ d : Nat, (Op.equalIn (d + 1) tp (.pointer (some ⟨a.1, a.2, none⟩)) (.pointer (some ⟨b.1, b.2, none⟩))).run P w = .ok false w := fun d => by
      simp [Op.equalIn, run_underlying hp, sizeOf, typeInfo, hte, hsz, run_sameAddr_other w hne ha hb]
    rw [decide_eq_false (by assumption)]
    exact h 9999
theorem run_find {x : Nat × Nat} (hx : Clean w x.1) : ∀ (es : List MapEntry) (i : Nat), (∀ e ∈ es, ∃ a, e.key = pv a ∧ Clean w a.1) →
    ((Instr.findAsking tp (pv x) es i).run P w = .ok none w ∧ ∀ e ∈ es, e.key ≠ pv x) ∨
    ∃ (j : Nat) (e : MapEntry), (Instr.findAsking tp (pv x) es i).run P w = .ok (some (i + j, e.val)) w ∧ es[j]? = some e ∧ e.key = pv x
  | [], i, _ => Or.inl ⟨by simp [Instr.findAsking], by simp⟩
  | e :: es, i, hall => by
    obtain ⟨a, hk, hc⟩ := hall e (by simp)
    have hr := run_ptr_eq w hp hte hsz hx hc
    rw [← hk] at hr
    by_cases h : x = a
    · right
      subst h
      rw [decide_eq_true rfl] at hr
      exact ⟨0, e, by simp [Instr.findAsking, hr], rfl, hk⟩
    · rw [decide_eq_false h] at hr
      rcases run_find hx es (i + 1) (fun y hy => hall y (by simp [hy])) with ⟨h1, h2⟩ | ⟨j, e', h1, h2, h3⟩
      · left
        refine ⟨by simp [Instr.findAsking, hr, h1], fun y hy => ?_⟩
        rcases List.mem_cons.1 hy with rfl | hy
        · rw [hk]; exact fun e => h (pv_inj e).symm
        · exact h2 y hy
      · right
        exact ⟨j + 1, e', by simp [Instr.findAsking, hr, h1, Nat.add_assoc, Nat.add_comm 1 j], by simpa using h2, h3⟩
theorem run_findKey_ptr {x : Nat × Nat} (es : List MapEntry) : (Instr.findKey tp (pv x) es).run P w = (Instr.findAsking tp (pv x) es).run P w := by
  cases es with
  | nil => simp [Instr.findKey, run_underlying hp, Instr.findNow, Instr.findAsking]
  | cons e es => simp [Instr.findKey, run_underlying hp, Instr.findNow, Instr.sameNow]
theorem run_check_ptr {x : Nat × Nat} (c : Bool) : (Instr.checkKey c 10000 tp (pv x)).run P w = .ok () w := by
  have h : ∀ d : Nat, (Instr.checkKey c (d + 1) tp (.pointer (some ⟨x.1, x.2, none⟩))).run P w = .ok () w := fun d => by
    simp [Instr.checkKey, run_underlying hp]
  exact h 9999

/-- The look-up. -/
theorem PM.look {b : Nat} {f : Nat × Nat → Option Value} (h : PM w b f) {t e : TypeId} (ht : P.underlying t = some (.map tp e)) {z : Value} (hz : (zeroValue e).run P w = .ok z w) {x : Nat × Nat} (hx : Clean w x.1) (c : Bool) :
    (Instr.lookup t (.map (some b)) (pv x) c).run P w = .ok (if c then .tuple #[(f x).getD z, .bool (f x).isSome] else (f x).getD z) w := by
  obtain ⟨es, clock, hb, h1, h2, h3⟩ := h
  have hall : ∀ e ∈ es.toList, ∃ a, e.key = pv a ∧ Clean w a.1 := fun e he => by
    obtain ⟨i, hi⟩ := List.getElem?_of_mem he
    obtain ⟨a, ha, hc, _⟩ := h1 i e hi
    exact ⟨a, ha, hc⟩
  have hf := run_findKey_ptr w hp hte hsz (x := x) es.toList
  rcases run_find w hp hte hsz hx es.toList 0 hall with ⟨r, hn⟩ | ⟨jj, e0, r, hj, hk⟩
  · have hfx : f x = none := by
      cases hfx : f x with
      | none => rfl
      | some v =>
        obtain ⟨i, e, hi, hk⟩ := h2 x v hfx
        exact absurd hk (hn e (List.mem_of_getElem? hi))
    rw [r] at hf
    simp [Instr.lookup, run_underlying ht, MapKept.run_getObj_map hb, run_check_ptr w hp hte hsz, hf, hz, hfx, Result.andThen]
  · obtain ⟨a, ha, _, hfa⟩ := h1 jj e0 hj
    have hax : a = x := pv_inj (ha.symm.trans hk)
    subst hax
    rw [r] at hf
    simp [Instr.lookup, run_underlying ht, MapKept.run_getObj_map hb, run_check_ptr w hp hte hsz, hf, hfa, Result.andThen]

/-- The store. -/
theorem PM.store {b : Nat} {f : Nat × Nat → Option Value} (h : PM w b f) {t e : TypeId} (ht : P.underlying t = some (.map tp e)) {x : Nat × Nat} (hx : Clean w x.1) (v : Value) :
    ∃ w', (Instr.mapUpdate t (.map (some b)) (pv x) v).run P w = .ok () w' ∧ PM w' b (fun a => if a = x then some v else f a) ∧ w.grownBy w' (some b) ∧ w'.heap.size = w.heap.size := by
  obtain ⟨es, clock, hb, h1, h2, h3⟩ := h
  have hall : ∀ e ∈ es.toList, ∃ a, e.key = pv a ∧ Clean w a.1 := fun e he => by
    obtain ⟨i, hi⟩ := List.getElem?_of_mem he
    obtain ⟨a, ha, hc, _⟩ := h1 i e hi
    exact ⟨a, ha, hc⟩
  have hcl : ∀ (o : Obj) (k : Nat), Clean w k → Clean { w with heap := w.heap.setIfInBounds b o } k := fun o k ⟨c, t, hk⟩ => by
    have hne : b ≠ k := fun e => by subst e; rw [hb] at hk; cases hk
    exact ⟨c, t, by show (w.heap.setIfInBounds b o)[k]? = _; rw [Array.getElem?_setIfInBounds_ne hne]; exact hk⟩
  have hlt : b < w.heap.size := (Array.getElem?_eq_some_iff.1 hb).1
  have hg : ∀ o : Obj, w.grownBy { w with heap := w.heap.setIfInBounds b o } (some b) := fun o => ⟨rfl, rfl, rfl, by simp, fun k _ hk => by show (w.heap.setIfInBounds b o)[k]? = _; rw [Array.getElem?_setIfInBounds_ne (fun e => hk (by rw [e]))]⟩
  have hs : ∀ o : Obj, ({ w with heap := w.heap.setIfInBounds b o } : World).heap[b]? = some o := fun o => by show (w.heap.setIfInBounds b o)[b]? = _; simp [hlt]
  have hf := run_findKey_ptr w hp hte hsz (x := x) es.toList
  rcases run_find w hp hte hsz hx es.toList 0 hall with ⟨r, hn⟩ | ⟨jj, e0, r, hj, hk⟩
  · rw [r] at hf
    refine ⟨{ w with heap := w.heap.setIfInBounds b (.map (es.push { key := pv x, val := v, born := clock }) (clock + 1)) }, by simp [Instr.mapUpdate, run_underlying ht, MapKept.run_getObj_map hb, run_check_ptr w hp hte hsz, hf, MapKept.run_setObj_map _ hb, Result.andThen], ⟨_, _, hs _, ?_, ?_, ?_⟩, hg _, by simp⟩
    · intro i e hi
      rw [Array.toList_push, List.getElem?_append] at hi
      split at hi
      · obtain ⟨a, ha, hc, hfa⟩ := h1 i e hi
        refine ⟨a, ha, hcl _ _ hc, ?_⟩
        have hne : a ≠ x := fun e1 => hn e (List.mem_of_getElem? hi) (by rw [ha, e1])
        simpa [hne] using hfa
      · rename_i hge
        have : i - es.toList.length = 0 := by
          rcases Nat.lt_or_ge 0 (i - es.toList.length) with hq | hq
          · rw [List.getElem?_eq_none (by simp; simp at hq; omega)] at hi; cases hi
          · omega
        rw [this] at hi
        simp at hi
        subst hi
        exact ⟨x, rfl, hcl _ _ hx, by simp⟩
    · intro a v' ha
      by_cases hax : a = x
      · subst hax
        exact ⟨es.toList.length, _, by rw [Array.toList_push, List.getElem?_append_right (Nat.le_refl _)]; simp; rfl, rfl⟩
      · have ha : f a = some v' := by simpa [hax] using ha
        obtain ⟨i, e, hi, hk⟩ := h2 a v' ha
        exact ⟨i, e, by rw [Array.toList_push, List.getElem?_append_left (List.getElem?_eq_some_iff.1 hi).1]; exact hi, hk⟩
    · intro i j' e e' hi hj' hkk
      rw [Array.toList_push, List.getElem?_append] at hi hj'
      have last : ∀ (i : Nat) (e : MapEntry), ¬ i < es.toList.length → [({ key := pv x, val := v, born := clock } : MapEntry)][i - es.toList.length]? = some e → i = es.toList.length ∧ e.key = pv x := fun i e hl hi => by
        rcases Nat.lt_or_ge 0 (i - es.toList.length) with hq | hq
        · rw [List.getElem?_eq_none (by simp; simp at hq; omega)] at hi; cases hi
        · have h0 : i - es.toList.length = 0 := by omega
          rw [h0] at hi
          simp at hi
          subst hi
          exact ⟨by omega, rfl⟩
      split at hi <;> split at hj'
      · exact h3 i j' e e' hi hj' hkk
      · obtain ⟨_, hk'⟩ := last _ _ (by assumption) hj'
        exact absurd (hkk.trans hk') (hn e (List.mem_of_getElem? hi))
      · obtain ⟨_, hk'⟩ := last _ _ (by assumption) hi
        exact absurd (hkk.symm.trans hk') (hn e' (List.mem_of_getElem? hj'))
      · obtain ⟨q1, _⟩ := last _ _ (by assumption) hi
        obtain ⟨q2, _⟩ := last _ _ (by assumption) hj'
        omega
  · rw [r] at hf
    have hjA : es[jj]? = some e0 := by rw [← Array.getElem?_toList]; exact hj
    have hst : (Instr.keyThatStays (pv x) (pv x)).run P w = .ok (pv x) w := by
      have hsb : ∀ d, Instr.sameBits d (pv x) (pv x) = true := fun d => by cases d <;> simp [Instr.sameBits, pv]
      simp [Instr.keyThatStays, hsb]
    refine ⟨{ w with heap := w.heap.setIfInBounds b (.map (es.modify jj fun e => { key := pv x, val := v, born := e.born }) clock) }, by simp [Instr.mapUpdate, run_underlying ht, MapKept.run_getObj_map hb, run_check_ptr w hp hte hsz, hf, hjA, hk, hst, MapKept.run_setObj_map _ hb, Result.andThen], ⟨_, _, hs _, ?_, ?_, ?_⟩, hg _, by simp⟩
    · intro i e hi
      rw [Array.getElem?_toList, Array.getElem?_modify] at hi
      split at hi
      · rename_i hij
        subst hij
        rw [hjA] at hi
        simp at hi
        subst hi
        exact ⟨x, rfl, hcl _ _ hx, by simp⟩
      · rename_i hij
        rw [← Array.getElem?_toList] at hi
        obtain ⟨a, ha, hc, hfa⟩ := h1 i e hi
        have hne : a ≠ x := fun e1 => hij (h3 jj i e0 e hj hi (by rw [hk, ha, e1]))
        exact ⟨a, ha, hcl _ _ hc, by simpa [hne] using hfa⟩
    · intro a v' ha
      have key : ∀ (i : Nat) (e : MapEntry), es.toList[i]? = some e → ∃ e2 : MapEntry, (es.modify jj fun e => { key := pv x, val := v, born := e.born }).toList[i]? = some e2 ∧ (e.key = pv a → e2.key = pv a) := fun i e hi => by
        rw [Array.getElem?_toList, Array.getElem?_modify]
        rw [Array.getElem?_toList] at hi
        by_cases hij : jj = i
        · subst hij
          rw [if_pos rfl, hi]
          refine ⟨_, rfl, fun hh => ?_⟩
          rw [hjA] at hi
          cases hi
          exact hk.symm.trans hh
        · rw [if_neg hij, hi]
          exact ⟨_, rfl, id⟩
      by_cases hax : a = x
      · subst hax
        obtain ⟨e2, q1, q2⟩ := key jj e0 hj
        exact ⟨jj, e2, q1, q2 hk⟩
      · have ha : f a = some v' := by simpa [hax] using ha
        obtain ⟨i, e, hi, hk'⟩ := h2 a v' ha
        obtain ⟨e2, q1, q2⟩ := key i e hi
        exact ⟨i, e2, q1, q2 hk'⟩
    · intro i j' e e' hi hj' hkk
      have back : ∀ (i : Nat) (e : MapEntry), (es.modify jj fun e => { key := pv x, val := v, born := e.born }).toList[i]? = some e → ∃ e1 : MapEntry, es.toList[i]? = some e1 ∧ e1.key = e.key := fun i e hi => by
        rw [Array.getElem?_toList, Array.getElem?_modify] at hi
        rw [Array.getElem?_toList]
        by_cases hij : jj = i
        · subst hij
          rw [if_pos rfl, hjA] at hi
          simp at hi
          subst hi
          exact ⟨e0, hjA, hk⟩
        · rw [if_neg hij] at hi
          exact ⟨e, hi, rfl⟩
      obtain ⟨e1, q1, q2⟩ := back i e hi
      obtain ⟨e2, q3, q4⟩ := back j' e' hj'
      exact h3 i j' e1 e2 q1 q3 (by rw [q2, q4, hkk])
end
theorem PM.made (w : World) : PM (w.alloc (.map #[] 0)) w.heap.size (fun _ => none) :=
  ⟨#[], 0, (MapKept.heap_alloc w _).1, by simp, by simp, by simp⟩
theorem Clean.kept {w w' : World} {b : Nat} {row : Option Nat} (h : Clean w b) (hg : w.grownBy w' row) (hne : some b ≠ row) : Clean w' b := by
  obtain ⟨c, t, h⟩ := h
  exact ⟨c, t, (hg.block b (Array.getElem?_eq_some_iff.1 h).1 hne).trans h⟩
end Go.Proofs.YtnjikipncgbjjaaGreatDoor

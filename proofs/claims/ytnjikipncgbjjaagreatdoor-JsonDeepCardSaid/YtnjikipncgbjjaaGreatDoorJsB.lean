/- Values as trees in memory; the unfinished ones of a parser, each with a row of its own; what a step leaves as it was. -/
import Derived.Test.YtnjikipncgbjjaaGreatDoorJsA2
import Derived.Laws.OwnMore
import Derived.Deep.OwnRows
namespace Go.Proofs.YtnjikipncgbjjaaGreatDoor
open Go.RowKit
set_option linter.unusedVariables false
set_option maxRecDepth 100000

/-! ### What a step leaves as it was -/
theorem gb_refl (w : World) (r : Option Nat) : w.grownBy w r := ⟨rfl, rfl, rfl, Nat.le_refl _, fun _ _ _ => rfl⟩
theorem gb_trans {u v w : World} {r : Option Nat} (h : u.grownBy v r) (k : v.grownBy w r) : u.grownBy w r :=
  ⟨k.os.trans h.os, k.tape.trans h.tape, k.output.trans h.output, Nat.le_trans h.size k.size, fun j hj hn => (k.block j (Nat.lt_of_lt_of_le hj h.size) hn).trans (h.block j hj hn)⟩
theorem gb_below {w w' : World} (h : Below w.heap.size w w') (r : Option Nat) : w.grownBy w' r := ⟨h.os, h.tape, h.output, h.size, fun k hk _ => h.block k hk⟩
theorem gb_drewN (w : World) (n : Nat) (r : Option Nat) : w.grownBy (w.drewN n) r := ⟨rfl, rfl, rfl, Nat.le_refl _, fun _ _ _ => rfl⟩
theorem gb_alloc (w : World) (o : Obj) (r : Option Nat) : w.grownBy (w.alloc o) r := World.grownBy_alloc w o r
theorem gb_set (w : World) (a : Addr) (v : Value) : w.grownBy (w.setCell a v) (some a.block) :=
  ⟨rfl, rfl, rfl, by simp [World.setCell], fun k hk hn => Below.heap_setCell _ _ _ _ (fun e => hn (by rw [e]))⟩
theorem gb_none {u v : World} (h : u.grownBy v none) (r : Option Nat) : u.grownBy v r := ⟨h.os, h.tape, h.output, h.size, fun k hk _ => h.block k hk (by simp)⟩
theorem below_gb {B : Nat} {a w w' : World} {P : Nat} (h : Below B a w) (hB : B ≤ w.heap.size) (g : w.grownBy w' (some P)) (hP : B ≤ P) : Below B a w' := h.grown g hB (fun k e => by cases e; exact hP)
theorem below_of_gb {w w' : World} (h : w.grownBy w' none) : Below w.heap.size w w' := ⟨h.os, h.tape, h.output, h.size, fun k hk => h.block k hk (by simp)⟩
theorem gb_heap {u v : World} {r : Option Nat} (h : u.grownBy v r) {k : Nat} {o : Obj} (hk : u.heap[k]? = some o) (hn : some k ≠ r) : v.heap[k]? = some o :=
  (h.block k (Array.getElem?_eq_some_iff.1 hk).1 hn).trans hk

/-! ### A value in memory -/
/-- A block of cells that nothing has frozen. -/
def Clean (w : World) (b : Nat) : Prop := ∃ c t, w.heap[b]? = some (.cells c t (0, 0))
theorem Clean.eq {w w' : World} {b : Nat} (h : Clean w b) (e : w'.heap[b]? = w.heap[b]?) : Clean w' b := by
  obtain ⟨c, t, h⟩ := h
  exact ⟨c, t, e.trans h⟩
mutual
/-- The four cells of a value, and what they lead to: rows in blocks of S. -/
def LV (w : World) (S : Nat → Prop) : JV → Value → Value → Value → Value → Prop
  | ⟨k, t, l, f⟩, c0, c1, c2, c3 => c0 = .int .i64 k ∧ c1 = .string t ∧
      (∃ a cap, c2 = .slice a l.length cap ∧ (l = [] ∨ ∃ b o, a = some ⟨b, o, none⟩ ∧ (S b ∧ Clean w b) ∧ LVs w S b o l)) ∧
      (∃ a cap, c3 = .slice a f.length cap ∧ (f = [] ∨ ∃ b o, a = some ⟨b, o, none⟩ ∧ (S b ∧ Clean w b) ∧ LFs w S b o f))
def LVs (w : World) (S : Nat → Prop) (b : Nat) : Nat → List JV → Prop
  | _, [] => True
  | o, v :: r => (∃ c0 c1 c2 c3, w.cell? ⟨b, o, none⟩ = some c0 ∧ w.cell? ⟨b, o + 1, none⟩ = some c1 ∧ w.cell? ⟨b, o + 2, none⟩ = some c2 ∧ w.cell? ⟨b, o + 3, none⟩ = some c3 ∧ LV w S v c0 c1 c2 c3) ∧ LVs w S b (o + 4) r
def LFs (w : World) (S : Nat → Prop) (b : Nat) : Nat → List (ByteArray × JV) → Prop
  | _, [] => True
  | o, (n, v) :: r => w.cell? ⟨b, o, none⟩ = some (.string n) ∧ (∃ c0 c1 c2 c3, w.cell? ⟨b, o + 1, none⟩ = some c0 ∧ w.cell? ⟨b, o + 2, none⟩ = some c1 ∧ w.cell? ⟨b, o + 3, none⟩ = some c2 ∧ w.cell? ⟨b, o + 4, none⟩ = some c3 ∧ LV w S v c0 c1 c2 c3) ∧ LFs w S b (o + 5) r
end
/-- A value lies at an address. -/
def LAt (w : World) (S : Nat → Prop) (v : JV) (b o : Nat) : Prop :=
  ∃ c0 c1 c2 c3, w.cell? ⟨b, o, none⟩ = some c0 ∧ w.cell? ⟨b, o + 1, none⟩ = some c1 ∧ w.cell? ⟨b, o + 2, none⟩ = some c2 ∧ w.cell? ⟨b, o + 3, none⟩ = some c3 ∧ LV w S v c0 c1 c2 c3

section
variable {w w' : World} {S S' : Nat → Prop}
theorem cell_move (hk : ∀ b, b < w.heap.size → S b → w'.heap[b]? = w.heap[b]? ∧ S' b) {b o : Nat} {c : Value} (hS : S b) (h : w.cell? ⟨b, o, none⟩ = some c) : w'.cell? ⟨b, o, none⟩ = some c :=
  (World.cell?_of_block (hk b (World.block_lt_of_cell? w ⟨b, o, none⟩ h) hS).1).trans h
theorem LVs.lt {b o : Nat} : ∀ {l : List JV}, l ≠ [] → LVs w S b o l → b < w.heap.size
  | [], hn, _ => absurd rfl hn
  | v :: r, _, h => by
    simp only [LVs] at h
    obtain ⟨⟨c0, _, _, _, h0, _⟩, _⟩ := h
    exact World.block_lt_of_cell? w ⟨b, o, none⟩ h0
theorem LFs.lt {b o : Nat} : ∀ {l : List (ByteArray × JV)}, l ≠ [] → LFs w S b o l → b < w.heap.size
  | [], hn, _ => absurd rfl hn
  | (n, v) :: r, _, h => by
    simp only [LFs] at h
    exact World.block_lt_of_cell? w ⟨b, o, none⟩ h.1
mutual
/-- What lies in blocks that stay lies there still. -/
theorem LV.move (hk : ∀ b, b < w.heap.size → S b → w'.heap[b]? = w.heap[b]? ∧ S' b) : ∀ (v : JV) {c0 c1 c2 c3 : Value}, LV w S v c0 c1 c2 c3 → LV w' S' v c0 c1 c2 c3
  | ⟨k, t, l, f⟩, c0, c1, c2, c3, h => by
    simp only [LV] at h ⊢
    obtain ⟨h0, h1, ⟨a, cap, h2, h3⟩, ⟨a', cap', h4, h5⟩⟩ := h
    refine ⟨h0, h1, ⟨a, cap, h2, ?_⟩, ⟨a', cap', h4, ?_⟩⟩
    · by_cases hl : l = []
      · exact .inl hl
      · rcases h3 with h3 | ⟨b, o, ha, hs, hv⟩
        · exact .inl h3
        · exact .inr ⟨b, o, ha, ⟨(hk b (hv.lt hl) hs.1).2, hs.2.eq (hk b (hv.lt hl) hs.1).1⟩, LVs.move hk l hs.1 hv⟩
    · by_cases hf : f = []
      · exact .inl hf
      · rcases h5 with h5 | ⟨b, o, ha, hs, hv⟩
        · exact .inl h5
        · exact .inr ⟨b, o, ha, ⟨(hk b (hv.lt hf) hs.1).2, hs.2.eq (hk b (hv.lt hf) hs.1).1⟩, LFs.move hk f hs.1 hv⟩
theorem LVs.move (hk : ∀ b, b < w.heap.size → S b → w'.heap[b]? = w.heap[b]? ∧ S' b) : ∀ (l : List JV) {b o : Nat}, S b → LVs w S b o l → LVs w' S' b o l
  | [], b, o, _, _ => by simp only [LVs]
  | v :: r, b, o, hs, h => by
    simp only [LVs] at h ⊢
    obtain ⟨⟨c0, c1, c2, c3, h0, h1, h2, h3, hv⟩, hr⟩ := h
    exact ⟨⟨c0, c1, c2, c3, cell_move hk hs h0, cell_move hk hs h1, cell_move hk hs h2, cell_move hk hs h3, LV.move hk v hv⟩, LVs.move hk r hs hr⟩
theorem LFs.move (hk : ∀ b, b < w.heap.size → S b → w'.heap[b]? = w.heap[b]? ∧ S' b) : ∀ (l : List (ByteArray × JV)) {b o : Nat}, S b → LFs w S b o l → LFs w' S' b o l
  | [], b, o, _, _ => by simp only [LFs]
  | (n, v) :: r, b, o, hs, h => by
    simp only [LFs] at h ⊢
    obtain ⟨hn, ⟨c0, c1, c2, c3, h0, h1, h2, h3, hv⟩, hr⟩ := h
    exact ⟨cell_move hk hs hn, ⟨c0, c1, c2, c3, cell_move hk hs h0, cell_move hk hs h1, cell_move hk hs h2, cell_move hk hs h3, LV.move hk v hv⟩, LFs.move hk r hs hr⟩
end
theorem LAt.move (hk : ∀ b, b < w.heap.size → S b → w'.heap[b]? = w.heap[b]? ∧ S' b) {v : JV} {b o : Nat} (hs : S b) (h : LAt w S v b o) : LAt w' S' v b o := by
  obtain ⟨c0, c1, c2, c3, h0, h1, h2, h3, hv⟩ := h
  exact ⟨c0, c1, c2, c3, cell_move hk hs h0, cell_move hk hs h1, cell_move hk hs h2, cell_move hk hs h3, LV.move hk v hv⟩
theorem LVs.at {b : Nat} : ∀ (l : List JV) {o : Nat}, LVs w S b o l → ∀ (i : Nat) (v : JV), l[i]? = some v → LAt w S v b (o + 4 * i)
  | [], o, _, i, v, hi => by simp at hi
  | x :: r, o, h, i, v, hi => by
    simp only [LVs] at h
    obtain ⟨hx, hr⟩ := h
    cases i with
    | zero => simp at hi; subst hi; exact hx
    | succ i =>
      have := LVs.at r hr i v (by simpa using hi)
      rwa [show o + 4 + 4 * i = o + 4 * (i + 1) by omega] at this
theorem LFs.at {b : Nat} : ∀ (l : List (ByteArray × JV)) {o : Nat}, LFs w S b o l → ∀ (i : Nat) (p : ByteArray × JV), l[i]? = some p → w.cell? ⟨b, o + 5 * i, none⟩ = some (.string p.1) ∧ LAt w S p.2 b (o + 5 * i + 1)
  | [], o, _, i, v, hi => by simp at hi
  | (n, x) :: r, o, h, i, p, hi => by
    simp only [LFs] at h
    obtain ⟨hn, hx, hr⟩ := h
    cases i with
    | zero => simp at hi; subst hi; exact ⟨hn, hx⟩
    | succ i =>
      have := LFs.at r hr i p (by simpa using hi)
      rwa [show o + 5 + 5 * i = o + 5 * (i + 1) by omega] at this
end

/-! ### Elements in a row of their own -/
def nilS : Value := .slice none 0 0
/-- The cells of elements: of a list, of an object. -/
def ElsIn (w : World) (S : Nat → Prop) (obj : Bool) : List (ByteArray × JV) → List Value → Prop
  | [], cs => cs = []
  | (n, v) :: r, cs => ∃ c0 c1 c2 c3 cs', cs = (if obj then [.string n, c0, c1, c2, c3] else [c0, c1, c2, c3]) ++ cs' ∧ LV w S v c0 c1 c2 c3 ∧ ElsIn w S obj r cs'
theorem ElsIn.move {w w' : World} {S S' : Nat → Prop} {obj : Bool} (hk : ∀ b, b < w.heap.size → S b → w'.heap[b]? = w.heap[b]? ∧ S' b) : ∀ (l : List (ByteArray × JV)) {cs : List Value}, ElsIn w S obj l cs → ElsIn w' S' obj l cs
  | [], _, h => h
  | (n, v) :: r, cs, h => by
    obtain ⟨c0, c1, c2, c3, cs', e, hv, hr⟩ := h
    exact ⟨c0, c1, c2, c3, cs', e, LV.move hk v hv, ElsIn.move hk r hr⟩
theorem ElsIn.snoc {w : World} {S : Nat → Prop} {obj : Bool} {n : ByteArray} {v : JV} {c0 c1 c2 c3 : Value} (hv : LV w S v c0 c1 c2 c3) :
    ∀ (l : List (ByteArray × JV)) {cs : List Value}, ElsIn w S obj l cs → ElsIn w S obj (l ++ [(n, v)]) (cs ++ (if obj then [.string n, c0, c1, c2, c3] else [c0, c1, c2, c3]))
  | [], cs, h => by
    have : cs = [] := h
    subst this
    exact ⟨c0, c1, c2, c3, [], by simp, hv, rfl⟩
  | (m, u) :: r, cs, h => by
    obtain ⟨d0, d1, d2, d3, cs', e, hu, hr⟩ := h
    exact ⟨d0, d1, d2, d3, _, by rw [e, List.append_assoc], hu, ElsIn.snoc hv r hr⟩
theorem ElsIn.vals {w : World} {S : Nat → Prop} {b : Nat} : ∀ (l : List (ByteArray × JV)) {cs : List Value} {o : Nat}, ElsIn w S false l cs → (∀ j u, cs[j]? = some u → w.cell? ⟨b, o + j, none⟩ = some u) → LVs w S b o (l.map (·.2))
  | [], _, _, _, _ => by simp only [List.map_nil, LVs]
  | (n, v) :: r, cs, o, h, hc => by
    obtain ⟨c0, c1, c2, c3, cs', e, hv, hr⟩ := h
    subst e
    simp only [List.map_cons, LVs]
    refine ⟨⟨c0, c1, c2, c3, hc 0 c0 (by simp), hc 1 c1 (by simp), hc 2 c2 (by simp), hc 3 c3 (by simp), hv⟩, ElsIn.vals r hr (fun j u hu => ?_)⟩
    have := hc (j + 4) u (by simpa using hu)
    rwa [show o + (j + 4) = o + 4 + j by omega] at this
theorem ElsIn.flds {w : World} {S : Nat → Prop} {b : Nat} : ∀ (l : List (ByteArray × JV)) {cs : List Value} {o : Nat}, ElsIn w S true l cs → (∀ j u, cs[j]? = some u → w.cell? ⟨b, o + j, none⟩ = some u) → LFs w S b o l
  | [], _, _, _, _ => by simp only [LFs]
  | (n, v) :: r, cs, o, h, hc => by
    obtain ⟨c0, c1, c2, c3, cs', e, hv, hr⟩ := h
    subst e
    simp only [LFs]
    refine ⟨hc 0 _ (by simp), ⟨c0, c1, c2, c3, hc 1 c0 (by simp), hc 2 c1 (by simp), hc 3 c2 (by simp), hc 4 c3 (by simp), hv⟩, ElsIn.flds r hr (fun j u hu => ?_)⟩
    have := hc (j + 5) u (by simpa using hu)
    rwa [show o + (j + 5) = o + 5 + j by omega] at this
end Go.Proofs.YtnjikipncgbjjaaGreatDoor

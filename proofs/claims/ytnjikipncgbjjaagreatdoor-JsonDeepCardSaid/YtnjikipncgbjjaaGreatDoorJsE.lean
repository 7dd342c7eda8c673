/- The parser's stack of unfinished values in memory; the contract of takeName. -/
import Derived.Test.YtnjikipncgbjjaaGreatDoorJsD
namespace Go.Proofs.YtnjikipncgbjjaaGreatDoor
open Go.RowKit
set_option linter.unusedVariables false
set_option maxRecDepth 100000
variable {X : Nat → Prop}

def frKind (F : Fr) : Int := if F.obj then 7 else 6
def frList (F : Fr) (rv : Value) : Value := if F.obj then nilS else rv
def frFlds (F : Fr) (rv : Value) : Value := if F.obj then rv else nilS
/-- The six cells of an unfinished value. -/
def frCells (F : Fr) (rv : Value) : List Value := [.int .i64 (frKind F), .string ⟨#[]⟩, frList F rv, frFlds F rv, .int .u8 F.mark.toNat, .string F.name]
/-- The cells of the stack: the outermost first. -/
def stCells : List Fr → List Value → List Value
  | F :: K, rv :: R => stCells K R ++ frCells F rv
  | _, _ => []
theorem stCells_len : ∀ (K : List Fr) (R : List Value), R.length = K.length → (stCells K R).length = K.length * 6
  | [], [], _ => rfl
  | F :: K, rv :: R, h => by
    simp only [stCells, List.length_append, stCells_len K R (by simpa using h), frCells, List.length_cons, List.length_nil]; omega
/-- The block of a row, if it has one. -/
def ownB (v : Value) : List Nat := v.ownBlock.toList
def blks (P : Nat) (sv : Value) (R : List Value) : List Nat := P :: (ownB sv ++ R.flatMap ownB)
def elN (o : Bool) : Nat := if o then 5 else 4
def elT (o : Bool) : TypeId := if o then 52 else 26
/-- An unfinished value's row: what it has by now. -/
def RowOk (w : World) (B : Nat) (S : Nat → Prop) (F : Fr) (rv : Value) : Prop := ∃ cs, w.ownsRow B (elT F.obj) (elN F.obj) rv F.els.length cs ∧ ElsIn w S F.obj F.els cs
def Rows (w : World) (B : Nat) (S : Nat → Prop) : List Fr → List Value → Prop
  | F :: K, rv :: R => RowOk w B S F rv ∧ Rows w B S K R
  | [], [] => True
  | _, _ => False
/-- Only a list's fields have names; only an object's waits for one. -/
def FrOk (F : Fr) : Prop := F.obj = false → F.name = ⟨#[]⟩
/-- Neither one of these blocks, nor foreign. -/
def free (M : List Nat) (X : Nat → Prop) (b : Nat) : Prop := b ∉ M ∧ ¬ X b
/-- The parser in memory: its text, its stack, each unfinished value's row; what is finished lies in none of these blocks. -/
structure PS (X : Nat → Prop) (w0 w : World) (P : Nat) (l : List UInt8) (K : List Fr) (sv : Value) (R : List Value) : Prop where
  blk : PB w P (bs l) sv
  low : w0.heap.size ≤ P
  own : w.ownsRow w0.heap.size 109 6 sv K.length (stCells K R)
  rows : Rows w w0.heap.size (free (blks P sv R) X) K R
  nodup : (blks P sv R).Nodup
  below : Below w0.heap.size w0 w
  frok : ∀ F ∈ K, FrOk F
  out : ∀ b ∈ blks P sv R, ¬ X b
  xlt : ∀ b, X b → b < w.heap.size

theorem Rows.len {w : World} {B : Nat} {S : Nat → Prop} : ∀ {K : List Fr} {R : List Value}, Rows w B S K R → R.length = K.length
  | [], [], _ => rfl
  | F :: K, rv :: R, h => by simp only [Rows] at h; simp [Rows.len h.2]
  | [], _ :: _, h => by simp [Rows] at h
  | _ :: _, [], h => by simp [Rows] at h
/-- All but what lies in M is as it was. -/
structure Ch (M : Nat → Prop) (w w' : World) : Prop where
  os : w'.os = w.os
  tape : w'.tape = w.tape
  output : w'.output = w.output
  size : w.heap.size ≤ w'.heap.size
  block : ∀ k, k < w.heap.size → ¬ M k → w'.heap[k]? = w.heap[k]?
theorem Ch.refl (M : Nat → Prop) (w : World) : Ch M w w := ⟨rfl, rfl, rfl, Nat.le_refl _, fun _ _ _ => rfl⟩
theorem Ch.trans {M M' : Nat → Prop} {a b c : World} (h : Ch M a b) (k : Ch M' b c) (hM : ∀ x, x < a.heap.size → M' x → M x) : Ch M a c :=
  ⟨k.os.trans h.os, k.tape.trans h.tape, k.output.trans h.output, Nat.le_trans h.size k.size, fun x hx hn => (k.block x (Nat.lt_of_lt_of_le hx h.size) (fun e => hn (hM x hx e))).trans (h.block x hx hn)⟩
theorem Ch.of_gb {w w' : World} {r : Option Nat} (g : w.grownBy w' r) : Ch (fun k => some k = r) w w' := ⟨g.os, g.tape, g.output, g.size, fun k hk hn => g.block k hk hn⟩
theorem Ch.of_below {M : Nat → Prop} {w w' : World} (g : Below w.heap.size w w') : Ch M w w' := ⟨g.os, g.tape, g.output, g.size, fun k hk _ => g.block k hk⟩
theorem Ch.mono {M M' : Nat → Prop} {w w' : World} (h : Ch M w w') (hM : ∀ x, x < w.heap.size → M x → M' x) : Ch M' w w' := ⟨h.os, h.tape, h.output, h.size, fun k hk hn => h.block k hk (fun e => hn (hM k hk e))⟩
theorem Ch.heap {M : Nat → Prop} {w w' : World} (h : Ch M w w') {k : Nat} {o : Obj} (hk : w.heap[k]? = some o) (hn : ¬ M k) : w'.heap[k]? = some o := (h.block k (Array.getElem?_eq_some_iff.1 hk).1 hn).trans hk
theorem Ch.below {M : Nat → Prop} {B : Nat} {a w w' : World} (h : Ch M w w') (hb : Below B a w) (hB : B ≤ w.heap.size) (hM : ∀ x, x < B → ¬ M x) : Below B a w' :=
  ⟨h.os.trans hb.os, h.tape.trans hb.tape, h.output.trans hb.output, Nat.le_trans hb.size h.size, fun k hk => (h.block k (Nat.lt_of_lt_of_le hk hB) (hM k hk)).trans (hb.block k hk)⟩
theorem Ch.gb {M : Nat → Prop} {w w' : World} (h : Ch M w w') {r : Option Nat} (hM : ∀ x, x < w.heap.size → M x → some x = r) : w.grownBy w' r := ⟨h.os, h.tape, h.output, h.size, fun k hk hn => h.block k hk (fun e => hn (hM k hk e))⟩
theorem ownsRow_ch {M : Nat → Prop} {w w' : World} {base : Nat} {e : TypeId} {size : Nat} {v : Value} {n : Nat} {xs : List Value} (h : w.ownsRow base e size v n xs) (g : Ch M w w') (hn : ∀ b, v.ownBlock = some b → ¬ M b) : w'.ownsRow base e size v n xs := by
  refine ⟨h.1, ?_⟩
  rcases h.2 with h' | ⟨b, cap, cur, rfl, hb, hgg, rest⟩
  · exact .inl h'
  · exact .inr ⟨b, cap, cur, rfl, hb, g.heap hgg (hn b rfl), rest⟩
theorem RowOk.move {M : Nat → Prop} {w w' : World} {B : Nat} {S S' : Nat → Prop} {F : Fr} {rv : Value} (g : Ch M w w') (hS : ∀ b, b < w.heap.size → S b → ¬ M b ∧ S' b) (hn : ∀ b, rv.ownBlock = some b → ¬ M b) (h : RowOk w B S F rv) : RowOk w' B S' F rv := by
  obtain ⟨cs, ho, he⟩ := h
  exact ⟨cs, ownsRow_ch ho g hn, he.move (fun b hb hs => ⟨g.block b hb (hS b hb hs).1, (hS b hb hs).2⟩)⟩
theorem Rows.move {M : Nat → Prop} {w w' : World} {B : Nat} {S S' : Nat → Prop} (g : Ch M w w') (hS : ∀ b, b < w.heap.size → S b → ¬ M b ∧ S' b) : ∀ {K : List Fr} {R : List Value}, (∀ rv ∈ R, ∀ b, rv.ownBlock = some b → ¬ M b) → Rows w B S K R → Rows w' B S' K R
  | [], [], _, _ => trivial
  | F :: K, rv :: R, hn, h => by
    simp only [Rows] at h ⊢
    exact ⟨h.1.move g hS (hn rv (by simp)), Rows.move g hS (fun x hx => hn x (by simp [hx])) h.2⟩
  | [], _ :: _, _, h => by simp [Rows] at h
  | _ :: _, [], _, h => by simp [Rows] at h

theorem mem_ownB {v : Value} {b : Nat} : b ∈ ownB v ↔ v.ownBlock = some b := by unfold ownB; simp [eq_comm]
theorem Rows.lt {w : World} {B : Nat} {S : Nat → Prop} : ∀ {K : List Fr} {R : List Value}, Rows w B S K R → ∀ b ∈ R.flatMap ownB, b < w.heap.size ∧ B ≤ b
  | [], [], _, b, hb => by simp at hb
  | F :: K, rv :: R, h, b, hb => by
    simp only [Rows] at h
    rw [List.flatMap_cons, List.mem_append] at hb
    rcases hb with hb | hb
    · obtain ⟨cs, ho, _⟩ := h.1
      exact ⟨(ho.lt b (mem_ownB.1 hb)).2, (ho.lt b (mem_ownB.1 hb)).1⟩
    · exact Rows.lt h.2 b hb
  | [], _ :: _, h, _, _ => by simp [Rows] at h
  | _ :: _, [], h, _, _ => by simp [Rows] at h
/-- The parser's blocks are there. -/
theorem PS.lt {w0 w : World} {P : Nat} {l : List UInt8} {K : List Fr} {sv : Value} {R : List Value} (h : PS X w0 w P l K sv R) : ∀ b ∈ blks P sv R, b < w.heap.size ∧ w0.heap.size ≤ b := by
  intro b hb
  unfold blks at hb
  rcases List.mem_cons.1 hb with rfl | hb
  · exact ⟨h.blk.lt, h.low⟩
  · rcases List.mem_append.1 hb with hb | hb
    · exact ⟨(h.own.lt b (mem_ownB.1 hb)).2, (h.own.lt b (mem_ownB.1 hb)).1⟩
    · exact h.rows.lt b hb
/-- A step of the parser's that turns its own block's text alone, and what is new. -/
theorem PS.text {w0 w w' : World} {P : Nat} {l l' : List UInt8} {K : List Fr} {sv : Value} {R : List Value} (h : PS X w0 w P l K sv R) (g : w.grownBy w' (some P)) (hb : PB w' P (bs l') sv) : PS X w0 w' P l' K sv R := by
  have hd := h.nodup
  unfold blks at hd
  rw [List.nodup_cons] at hd
  have hne : ∀ v : Value, (∀ b ∈ ownB v, b ∈ ownB sv ++ R.flatMap ownB) → ∀ b, v.ownBlock = some b → ¬ some b = some P := fun v hv b hb e => by
    cases e
    exact hd.1 (hv P (mem_ownB.2 hb))
  exact ⟨hb, h.low, ownsRow_ch h.own (Ch.of_gb g) (hne sv (fun b hb => List.mem_append_left _ hb)),
    h.rows.move (Ch.of_gb g) (fun b hb hn => ⟨fun e => hn.1 (by cases e; simp [blks]), hn⟩) (fun rv hrv => hne rv (fun b hb => List.mem_append_right _ (List.mem_flatMap.2 ⟨rv, hrv, hb⟩))), h.nodup, below_gb h.below h.below.size g h.low, h.frok, h.out, fun b hb => Nat.lt_of_lt_of_le (h.xlt b hb) g.size⟩
/-- A step that turns none of the parser's blocks. -/
theorem PS.below' {w0 w w' : World} {P : Nat} {l : List UInt8} {K : List Fr} {sv : Value} {R : List Value} (h : PS X w0 w P l K sv R) (g : Below w.heap.size w w') : PS X w0 w' P l K sv R := h.text (gb_below g _) (h.blk.below g)

/-- The stack's top: where it lies, and its cells. -/
theorem PS.top {w0 w : World} {P : Nat} {l : List UInt8} {F : Fr} {K : List Fr} {sv : Value} {R : List Value} (h : PS X w0 w P l (F :: K) sv R) :
    ∃ g cap rv R', R = rv :: R' ∧ sv = .slice (some ⟨g, 0, none⟩) (K.length + 1) cap ∧ K.length + 1 ≤ cap ∧ cap ≤ 9223372036854775807 ∧ g ≠ P ∧ w0.heap.size ≤ g ∧ (∀ j u, (frCells F rv)[j]? = some u → w.cell? ⟨g, K.length * 6 + j, none⟩ = some u) ∧ (∀ j, w.frozen? ⟨g, j, none⟩ = false) := by
  have hl := h.rows.len
  cases R with
  | nil => simp at hl
  | cons rv R' =>
    obtain ⟨h1, h2⟩ := h.own
    have hd := h.nodup
    have ho := h.own
    rcases h2 with ⟨rfl, h2⟩ | ⟨g, cap, cur, rfl, hB, hg, hn, hcap, hsz, htake⟩
    · simp at h2
    · refine ⟨g, cap, rv, R', rfl, rfl, hn, hcap, ?_, hB, fun j u hu => ?_, fun j => ho.frozenAt j⟩
      · intro e; subst e
        unfold blks at hd
        rw [List.nodup_cons] at hd
        exact hd.1 (List.mem_append_left _ (mem_ownB.2 rfl))
      · have hj : j < 6 := by
          have := (List.getElem?_eq_some_iff.1 hu).1
          simpa [frCells] using this
        rw [ho.cellAt (K.length * 6 + j) (by simp only [List.length_cons]; omega)]
        have hlen := stCells_len K R' (by simpa using hl)
        rw [stCells, List.getElem?_append_right (by omega), hlen, show K.length * 6 + j - K.length * 6 = j by omega]
        exact hu

/-- A store into the top of the stack. -/
theorem PS.store {w0 w : World} {P : Nat} {l : List UInt8} {F F' : Fr} {K : List Fr} {g n cap : Nat} {rv : Value} {R : List Value} (h : PS X w0 w P l (F :: K) (.slice (some ⟨g, 0, none⟩) n cap) (rv :: R)) (j : Nat) (u : Value) (hj : j < 6)
    (hset : (frCells F rv).set j u = frCells F' rv) (ho : F'.obj = F.obj) (he : F'.els = F.els) (hf : FrOk F') :
    PS X w0 (w.setCell ⟨g, K.length * 6 + j, none⟩ u) P l (F' :: K) (.slice (some ⟨g, 0, none⟩) n cap) (rv :: R) := by
  have hd := h.nodup
  have hn : n = K.length + 1 := by
    obtain ⟨g', cap', rv', R', _, e, _⟩ := h.top
    simp at e; exact e.2.1
  subst hn
  have hown : w.ownsRow w0.heap.size 109 6 (.slice (some ⟨g, 0, none⟩) (K.length + 1) cap) (K.length + 1) (stCells (F :: K) (rv :: R)) := h.own
  obtain ⟨o1, o2⟩ := hown.stored (K.length * 6 + j) u
  have hlen := stCells_len K R (by simpa using h.rows.len)
  have hb : g ∈ blks P (.slice (some ⟨g, 0, none⟩) (K.length + 1) cap) (rv :: R) := by unfold blks; exact List.mem_cons_of_mem _ (List.mem_append_left _ (mem_ownB.2 rfl))
  unfold blks at hd
  rw [List.nodup_cons, List.nodup_append] at hd
  have hgP : P ≠ g := fun e => hd.1 (List.mem_append_left _ (mem_ownB.2 (by rw [e]; rfl)))
  have hR : ∀ x ∈ rv :: R, ∀ b, x.ownBlock = some b → ¬ some b = some g := fun x hx b hxb e => by
    cases e
    exact hd.2.2.2 g (mem_ownB.2 rfl) g (List.mem_flatMap.2 ⟨x, hx, mem_ownB.2 hxb⟩) rfl
  refine ⟨h.blk.gb o2 (by simpa using hgP), h.low, ?_, ?_, h.nodup, below_gb h.below h.below.size o2 (h.lt g hb).2, ?_, h.out, fun b hb => Nat.lt_of_lt_of_le (h.xlt b hb) o2.size⟩
  · have e : (stCells (F :: K) (rv :: R)).set (K.length * 6 + j) u = stCells (F' :: K) (rv :: R) := by
      simp only [stCells]
      rw [List.set_append_right _ _ (by omega), hlen, show K.length * 6 + j - K.length * 6 = j by omega, hset]
    rw [e] at o1
    exact o1
  · have hr := h.rows
    simp only [Rows] at hr ⊢
    have hS : ∀ b, b < w.heap.size → free (blks P (.slice (some ⟨g, 0, none⟩) (K.length + 1) cap) (rv :: R)) X b → ¬ some b = some g ∧ free (blks P (.slice (some ⟨g, 0, none⟩) (K.length + 1) cap) (rv :: R)) X b := fun b _ hn => ⟨fun e => hn.1 (by cases e; exact hb), hn⟩
    refine ⟨?_, hr.2.move (Ch.of_gb o2) hS (fun x hx => hR x (by simp [hx]))⟩
    have := hr.1.move (Ch.of_gb o2) hS (hR rv (by simp))
    unfold RowOk at this ⊢
    rw [ho, he]; exact this
  · intro G hG
    rcases List.mem_cons.1 hG with rfl | hG
    · exact hf
    · exact h.frok G (by simp [hG])

set_option maxHeartbeats 1000000 in
/-- Of a list, there is no name. -/
theorem name_list (l : List UInt8) (P : Nat) (F : Fr) (hF : F.obj = false) (K : List Fr) (sv : Value) (R : List Value) (w0 w : World) (h : PS X w0 w P l (F :: K) sv R) :
    Calls Tryz.prog 72 #[.pointer (some ⟨P, 0, none⟩)] w fun e w' => e = .returned (.bool true) ∧ ∃ n, w' = w.drewN n := by
  obtain ⟨g, cap, rv, R', rfl, rfl, hcap, hcm, hgP, hg0, hc, hf⟩ := h.top
  have c1 := h.blk.c1
  have k0 := hc 0 _ rfl
  have hk0 : frKind F = 6 := by unfold frKind; rw [hF]; rfl
  rw [hk0, Nat.add_zero] at k0
  generalize K.length = k at *
  clear hc hf h hk0
  go_enter Tryz.func72, Tryz.ntmps72
  go_wp2_with fail
  go_quiet (fail)
  go_wp2_with fail
  go_ret
  exact ⟨rfl, _, rfl⟩
end Go.Proofs.YtnjikipncgbjjaaGreatDoor

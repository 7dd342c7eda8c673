/- The parser's stack of unfinished values in memory; the contract of takeName. The contract of takeName. The parser's stack: an unfinished value more; a value put in one; one that ends. The contract of open: a list or an object begins. The contracts of open and begin. The contract of begin: a value up to the first one in it. The contract of put, its first part: a value is laid in the innermost unfinished one. -/
import Derived.Test.YtaniebkfgkhgoaaGreatDoorJ3
import Derived.Deep.AppendLies
import Derived.Deep.RegionHeld3
import Derived.Deep.DeepCutAuto
import Derived.Deep.CutBlock
namespace Go.Proofs.YtaniebkfgkhgoaaGreatDoor
open Go.RowKit
set_option linter.unusedVariables false
set_option maxRecDepth 100000
variable {X : Nat → Prop}

def frKind (F : Fr) : Int := if F.obj then 7 else 6
def frList (F : Fr) (rv : Value) : Value := if F.obj then nilS else rv
def frFlds (F : Fr) (rv : Value) : Value := if F.obj then rv else nilS
/-- The six cells of an unfinished value. -/
def frCells (F : Fr) (rv : Value) : List Value := [.int .i64 (frKind F), .string ⟨#[]⟩, frList F rv, frFlds F rv, .int .u8 F.mark.toNat, .string F.name]
/-- The cells of the stack: the outermost first. -/
def stCells : List Fr → List Value → List Value
  | F :: K, rv :: R => stCells K R ++ frCells F rv
  | _, _ => []
theorem stCells_len : ∀ (K : List Fr) (R : List Value), R.length = K.length → (stCells K R).length = K.length * 6
  | [], [], _ => rfl
  | F :: K, rv :: R, h => by
    simp only [stCells, List.length_append, stCells_len K R (by simpa using h), frCells, List.length_cons, List.length_nil]; omega
/-- The block of a row, if it has one. -/
def ownB (v : Value) : List Nat := v.ownBlock.toList
def blks (P : Nat) (sv : Value) (R : List Value) : List Nat := P :: (ownB sv ++ R.flatMap ownB)
def elN (o : Bool) : Nat := if o then 5 else 4
def elT (o : Bool) : TypeId := if o then 51 else 26
/-- An unfinished value's row: what it has by now. -/
def RowOk (w : World) (B : Nat) (S : Nat → Prop) (F : Fr) (rv : Value) : Prop := ∃ cs, w.ownsRow B (elT F.obj) (elN F.obj) rv F.els.length cs ∧ ElsIn w S F.obj F.els cs
def Rows (w : World) (B : Nat) (S : Nat → Prop) : List Fr → List Value → Prop
  | F :: K, rv :: R => RowOk w B S F rv ∧ Rows w B S K R
  | [], [] => True
  | _, _ => False
/-- Only a list's fields have names; only an object's waits for one. -/
def FrOk (F : Fr) : Prop := F.obj = false → F.name = ⟨#[]⟩
/-- Neither one of these blocks, nor foreign. -/
def free (M : List Nat) (X : Nat → Prop) (b : Nat) : Prop := b ∉ M ∧ ¬ X b
/-- The parser in memory: its text, its stack, each unfinished value's row; what is finished lies in none of these blocks. -/
structure PS (X : Nat → Prop) (w0 w : World) (P : Nat) (l : List UInt8) (K : List Fr) (sv : Value) (R : List Value) : Prop where
  blk : PB w P (bs l) sv
  low : w0.heap.size ≤ P
  own : w.ownsRow w0.heap.size 109 6 sv K.length (stCells K R)
  rows : Rows w w0.heap.size (free (blks P sv R) X) K R
  nodup : (blks P sv R).Nodup
  below : Below w0.heap.size w0 w
  frok : ∀ F ∈ K, FrOk F
  out : ∀ b ∈ blks P sv R, ¬ X b
  xlt : ∀ b, X b → b < w.heap.size

theorem Rows.len {w : World} {B : Nat} {S : Nat → Prop} : ∀ {K : List Fr} {R : List Value}, Rows w B S K R → R.length = K.length
  | [], [], _ => rfl
  | F :: K, rv :: R, h => by simp only [Rows] at h; simp [Rows.len h.2]
  | [], _ :: _, h => by simp [Rows] at h
  | _ :: _, [], h => by simp [Rows] at h
/-- All but what lies in M is as it was. -/
structure Ch (M : Nat → Prop) (w w' : World) : Prop where
  os : w'.os = w.os
  tape : w'.tape = w.tape
  output : w'.output = w.output
  size : w.heap.size ≤ w'.heap.size
  block : ∀ k, k < w.heap.size → ¬ M k → w'.heap[k]? = w.heap[k]?
theorem Ch.refl (M : Nat → Prop) (w : World) : Ch M w w := ⟨rfl, rfl, rfl, Nat.le_refl _, fun _ _ _ => rfl⟩
theorem Ch.trans {M M' : Nat → Prop} {a b c : World} (h : Ch M a b) (k : Ch M' b c) (hM : ∀ x, x < a.heap.size → M' x → M x) : Ch M a c :=
  ⟨k.os.trans h.os, k.tape.trans h.tape, k.output.trans h.output, Nat.le_trans h.size k.size, fun x hx hn => (k.block x (Nat.lt_of_lt_of_le hx h.size) (fun e => hn (hM x hx e))).trans (h.block x hx hn)⟩
theorem Ch.of_gb {w w' : World} {r : Option Nat} (g : w.grownBy w' r) : Ch (fun k => some k = r) w w' := ⟨g.os, g.tape, g.output, g.size, fun k hk hn => g.block k hk hn⟩
theorem Ch.of_below {M : Nat → Prop} {w w' : World} (g : Below w.heap.size w w') : Ch M w w' := ⟨g.os, g.tape, g.output, g.size, fun k hk _ => g.block k hk⟩
theorem Ch.mono {M M' : Nat → Prop} {w w' : World} (h : Ch M w w') (hM : ∀ x, x < w.heap.size → M x → M' x) : Ch M' w w' := ⟨h.os, h.tape, h.output, h.size, fun k hk hn => h.block k hk (fun e => hn (hM k hk e))⟩
theorem Ch.heap {M : Nat → Prop} {w w' : World} (h : Ch M w w') {k : Nat} {o : Obj} (hk : w.heap[k]? = some o) (hn : ¬ M k) : w'.heap[k]? = some o := (h.block k (Array.getElem?_eq_some_iff.1 hk).1 hn).trans hk
theorem Ch.below {M : Nat → Prop} {B : Nat} {a w w' : World} (h : Ch M w w') (hb : Below B a w) (hB : B ≤ w.heap.size) (hM : ∀ x, x < B → ¬ M x) : Below B a w' :=
  ⟨h.os.trans hb.os, h.tape.trans hb.tape, h.output.trans hb.output, Nat.le_trans hb.size h.size, fun k hk => (h.block k (Nat.lt_of_lt_of_le hk hB) (hM k hk)).trans (hb.block k hk)⟩
theorem Ch.gb {M : Nat → Prop} {w w' : World} (h : Ch M w w') {r : Option Nat} (hM : ∀ x, x < w.heap.size → M x → some x = r) : w.grownBy w' r := ⟨h.os, h.tape, h.output, h.size, fun k hk hn => h.block k hk (fun e => hn (hM k hk e))⟩
theorem ownsRow_ch {M : Nat → Prop} {w w' : World} {base : Nat} {e : TypeId} {size : Nat} {v : Value} {n : Nat} {xs : List Value} (h : w.ownsRow base e size v n xs) (g : Ch M w w') (hn : ∀ b, v.ownBlock = some b → ¬ M b) : w'.ownsRow base e size v n xs := by
  refine ⟨h.1, ?_⟩
  rcases h.2 with h' | ⟨b, cap, cur, rfl, hb, hgg, rest⟩
  · exact .inl h'
  · exact .inr ⟨b, cap, cur, rfl, hb, g.heap hgg (hn b rfl), rest⟩
theorem RowOk.move {M : Nat → Prop} {w w' : World} {B : Nat} {S S' : Nat → Prop} {F : Fr} {rv : Value} (g : Ch M w w') (hS : ∀ b, b < w.heap.size → S b → ¬ M b ∧ S' b) (hn : ∀ b, rv.ownBlock = some b → ¬ M b) (h : RowOk w B S F rv) : RowOk w' B S' F rv := by
  obtain ⟨cs, ho, he⟩ := h
  exact ⟨cs, ownsRow_ch ho g hn, he.move (fun b hb hs => ⟨g.block b hb (hS b hb hs).1, (hS b hb hs).2⟩)⟩
theorem Rows.move {M : Nat → Prop} {w w' : World} {B : Nat} {S S' : Nat → Prop} (g : Ch M w w') (hS : ∀ b, b < w.heap.size → S b → ¬ M b ∧ S' b) : ∀ {K : List Fr} {R : List Value}, (∀ rv ∈ R, ∀ b, rv.ownBlock = some b → ¬ M b) → Rows w B S K R → Rows w' B S' K R
  | [], [], _, _ => trivial
  | F :: K, rv :: R, hn, h => by
    simp only [Rows] at h ⊢
    exact ⟨h.1.move g hS (hn rv (by simp)), Rows.move g hS (fun x hx => hn x (by simp [hx])) h.2⟩
  | [], _ :: _, _, h => by simp [Rows] at h
  | _ :: _, [], _, h => by simp [Rows] at h

theorem mem_ownB {v : Value} {b : Nat} : b ∈ ownB v ↔ v.ownBlock = some b := by unfold ownB; simp [eq_comm]
theorem Rows.lt {w : World} {B : Nat} {S : Nat → Prop} : ∀ {K : List Fr} {R : List Value}, Rows w B S K R → ∀ b ∈ R.flatMap ownB, b < w.heap.size ∧ B ≤ b
  | [], [], _, b, hb => by simp at hb
  | F :: K, rv :: R, h, b, hb => by
    simp only [Rows] at h
    rw [List.flatMap_cons, List.mem_append] at hb
    rcases hb with hb | hb
    · obtain ⟨cs, ho, _⟩ := h.1
      exact ⟨(ho.lt b (mem_ownB.1 hb)).2, (ho.lt b (mem_ownB.1 hb)).1⟩
    · exact Rows.lt h.2 b hb
  | [], _ :: _, h, _, _ => by simp [Rows] at h
  | _ :: _, [], h, _, _ => by simp [Rows] at h
/-- The parser's blocks are there. -/
theorem PS.lt {w0 w : World} {P : Nat} {l : List UInt8} {K : List Fr} {sv : Value} {R : List Value} (h : PS X w0 w P l K sv R) : ∀ b ∈ blks P sv R, b < w.heap.size ∧ w0.heap.size ≤ b := by
  intro b hb
  unfold blks at hb
  rcases List.mem_cons.1 hb with rfl | hb
  · exact ⟨h.blk.lt, h.low⟩
  · rcases List.mem_append.1 hb with hb | hb
    · exact ⟨(h.own.lt b (mem_ownB.1 hb)).2, (h.own.lt b (mem_ownB.1 hb)).1⟩
    · exact h.rows.lt b hb
/-- A step of the parser's that turns its own block's text alone, and what is new. -/
theorem PS.text {w0 w w' : World} {P : Nat} {l l' : List UInt8} {K : List Fr} {sv : Value} {R : List Value} (h : PS X w0 w P l K sv R) (g : w.grownBy w' (some P)) (hb : PB w' P (bs l') sv) : PS X w0 w' P l' K sv R := by
  have hd := h.nodup
  unfold blks at hd
  rw [List.nodup_cons] at hd
  have hne : ∀ v : Value, (∀ b ∈ ownB v, b ∈ ownB sv ++ R.flatMap ownB) → ∀ b, v.ownBlock = some b → ¬ some b = some P := fun v hv b hb e => by
    cases e
    exact hd.1 (hv P (mem_ownB.2 hb))
  exact ⟨hb, h.low, ownsRow_ch h.own (Ch.of_gb g) (hne sv (fun b hb => List.mem_append_left _ hb)),
    h.rows.move (Ch.of_gb g) (fun b hb hn => ⟨fun e => hn.1 (by cases e; simp [blks]), hn⟩) (fun rv hrv => hne rv (fun b hb => List.mem_append_right _ (List.mem_flatMap.2 ⟨rv, hrv, hb⟩))), h.nodup, below_gb h.below h.below.size g h.low, h.frok, h.out, fun b hb => Nat.lt_of_lt_of_le (h.xlt b hb) g.size⟩
/-- A step that turns none of the parser's blocks. -/
theorem PS.below' {w0 w w' : World} {P : Nat} {l : List UInt8} {K : List Fr} {sv : Value} {R : List Value} (h : PS X w0 w P l K sv R) (g : Below w.heap.size w w') : PS X w0 w' P l K sv R := h.text (gb_below g _) (h.blk.below g)

/-- The stack's top: where it lies, and its cells. -/
theorem PS.top {w0 w : World} {P : Nat} {l : List UInt8} {F : Fr} {K : List Fr} {sv : Value} {R : List Value} (h : PS X w0 w P l (F :: K) sv R) :
    ∃ g cap rv R', R = rv :: R' ∧ sv = .slice (some ⟨g, 0, none⟩) (K.length + 1) cap ∧ K.length + 1 ≤ cap ∧ cap ≤ 9223372036854775807 ∧ g ≠ P ∧ w0.heap.size ≤ g ∧ (∀ j u, (frCells F rv)[j]? = some u → w.cell? ⟨g, K.length * 6 + j, none⟩ = some u) ∧ (∀ j, w.frozen? ⟨g, j, none⟩ = false) := by
  have hl := h.rows.len
  cases R with
  | nil => simp at hl
  | cons rv R' =>
    obtain ⟨h1, h2⟩ := h.own
    have hd := h.nodup
    have ho := h.own
    rcases h2 with ⟨rfl, h2⟩ | ⟨g, cap, cur, rfl, hB, hg, hn, hcap, hsz, htake⟩
    · simp at h2
    · refine ⟨g, cap, rv, R', rfl, rfl, hn, hcap, ?_, hB, fun j u hu => ?_, fun j => ho.frozenAt j⟩
      · intro e; subst e
        unfold blks at hd
        rw [List.nodup_cons] at hd
        exact hd.1 (List.mem_append_left _ (mem_ownB.2 rfl))
      · have hj : j < 6 := by
          have := (List.getElem?_eq_some_iff.1 hu).1
          simpa [frCells] using this
        rw [ho.cellAt (K.length * 6 + j) (by simp only [List.length_cons]; omega)]
        have hlen := stCells_len K R' (by simpa using hl)
        rw [stCells, List.getElem?_append_right (by omega), hlen, show K.length * 6 + j - K.length * 6 = j by omega]
        exact hu

/-- A store into the top of the stack. -/
theorem PS.store {w0 w : World} {P : Nat} {l : List UInt8} {F F' : Fr} {K : List Fr} {g n cap : Nat} {rv : Value} {R : List Value} (h : PS X w0 w P l (F :: K) (.slice (some ⟨g, 0, none⟩) n cap) (rv :: R)) (j : Nat) (u : Value) (hj : j < 6)
    (hset : (frCells F rv).set j u = frCells F' rv) (ho : F'.obj = F.obj) (he : F'.els = F.els) (hf : FrOk F') :
    PS X w0 (w.setCell ⟨g, K.length * 6 + j, none⟩ u) P l (F' :: K) (.slice (some ⟨g, 0, none⟩) n cap) (rv :: R) := by
  have hd := h.nodup
  have hn : n = K.length + 1 := by
    obtain ⟨g', cap', rv', R', _, e, _⟩ := h.top
    simp at e; exact e.2.1
  subst hn
  have hown : w.ownsRow w0.heap.size 109 6 (.slice (some ⟨g, 0, none⟩) (K.length + 1) cap) (K.length + 1) (stCells (F :: K) (rv :: R)) := h.own
  obtain ⟨o1, o2⟩ := hown.stored (K.length * 6 + j) u
  have hlen := stCells_len K R (by simpa using h.rows.len)
  have hb : g ∈ blks P (.slice (some ⟨g, 0, none⟩) (K.length + 1) cap) (rv :: R) := by unfold blks; exact List.mem_cons_of_mem _ (List.mem_append_left _ (mem_ownB.2 rfl))
  unfold blks at hd
  rw [List.nodup_cons, List.nodup_append] at hd
  have hgP : P ≠ g := fun e => hd.1 (List.mem_append_left _ (mem_ownB.2 (by rw [e]; rfl)))
  have hR : ∀ x ∈ rv :: R, ∀ b, x.ownBlock = some b → ¬ some b = some g := fun x hx b hxb e => by
    cases e
    exact hd.2.2.2 g (mem_ownB.2 rfl) g (List.mem_flatMap.2 ⟨x, hx, mem_ownB.2 hxb⟩) rfl
  refine ⟨h.blk.gb o2 (by simpa using hgP), h.low, ?_, ?_, h.nodup, below_gb h.below h.below.size o2 (h.lt g hb).2, ?_, h.out, fun b hb => Nat.lt_of_lt_of_le (h.xlt b hb) o2.size⟩
  · have e : (stCells (F :: K) (rv :: R)).set (K.length * 6 + j) u = stCells (F' :: K) (rv :: R) := by
      simp only [stCells]
      rw [List.set_append_right _ _ (by omega), hlen, show K.length * 6 + j - K.length * 6 = j by omega, hset]
    rw [e] at o1
    exact o1
  · have hr := h.rows
    simp only [Rows] at hr ⊢
    have hS : ∀ b, b < w.heap.size → free (blks P (.slice (some ⟨g, 0, none⟩) (K.length + 1) cap) (rv :: R)) X b → ¬ some b = some g ∧ free (blks P (.slice (some ⟨g, 0, none⟩) (K.length + 1) cap) (rv :: R)) X b := fun b _ hn => ⟨fun e => hn.1 (by cases e; exact hb), hn⟩
    refine ⟨?_, hr.2.move (Ch.of_gb o2) hS (fun x hx => hR x (by simp [hx]))⟩
    have := hr.1.move (Ch.of_gb o2) hS (hR rv (by simp))
    unfold RowOk at this ⊢
    rw [ho, he]; exact this
  · intro G hG
    rcases List.mem_cons.1 hG with rfl | hG
    · exact hf
    · exact h.frok G (by simp [hG])

set_option maxHeartbeats 1000000 in
/-- Of a list, there is no name. -/
theorem name_list (l : List UInt8) (P : Nat) (F : Fr) (hF : F.obj = false) (K : List Fr) (sv : Value) (R : List Value) (w0 w : World) (h : PS X w0 w P l (F :: K) sv R) :
    Calls Tryz.prog 71 #[.pointer (some ⟨P, 0, none⟩)] w fun e w' => e = .returned (.bool true) ∧ ∃ n, w' = w.drewN n := by
  obtain ⟨g, cap, rv, R', rfl, rfl, hcap, hcm, hgP, hg0, hc, hf⟩ := h.top
  have c1 := h.blk.c1
  have k0 := hc 0 _ rfl
  have hk0 : frKind F = 6 := by unfold frKind; rw [hF]; rfl
  rw [hk0, Nat.add_zero] at k0
  generalize K.length = k at *
  clear hc hf h hk0
  go_enter Tryz.func71, Tryz.ntmps71
  go_wp2_with fail
  go_quiet (fail)
  go_wp2_with fail
  go_ret
  exact ⟨rfl, _, rfl⟩
end Go.Proofs.YtaniebkfgkhgoaaGreatDoor

namespace Go.Proofs.YtaniebkfgkhgoaaGreatDoor
open Go.RowKit
set_option linter.unusedVariables false
set_option maxRecDepth 100000
variable {X : Nat → Prop}

/-- What takeName answers, and leaves. -/
def NamePost (w0 w : World) (P : Nat) (l : List UInt8) (F : Fr) (K : List Fr) (sv : Value) (R : List Value) (e : Ending) (w' : World) : Prop :=
  Ch (· ∈ blks P sv R) w w' ∧ ((e = .returned (.bool false) ∧ nameG F l = none) ∨ (e = .returned (.bool true) ∧ ∃ F' r, nameG F l = some (F', r) ∧ PS X w0 w' P r (F' :: K) sv R))

theorem PS.drewN {w0 w : World} {P : Nat} {l : List UInt8} {K : List Fr} {sv : Value} {R : List Value} (h : PS X w0 w P l K sv R) (n : Nat) : PS X w0 (w.drewN n) P l K sv R := h.text (gb_drewN w n _) h.blk
theorem PS.inP {w0 w : World} {P : Nat} {l : List UInt8} {K : List Fr} {sv : Value} {R : List Value} (h : PS X w0 w P l K sv R) {w' : World} (g : w.grownBy w' (some P)) : Ch (· ∈ blks P sv R) w w' :=
  (Ch.of_gb g).mono (fun x _ e => by cases e; simp [blks])
theorem PS.tab {w0 w : World} {P : Nat} {l : List UInt8} {K : List Fr} {sv : Value} {R : List Value} (h : PS X w0 w P l K sv R) (hT : Tab5 w0) : Tab5 w := hT.below h.below
def Fr.named (F : Fr) (n : ByteArray) : Fr := { F with name := n }
theorem fr_named (F : Fr) (rv : Value) (n : ByteArray) : (frCells F rv).set 5 (.string n) = frCells (F.named n) rv := rfl
theorem named_ok (F : Fr) (n : ByteArray) (h : F.obj = true) : FrOk (F.named n) := fun e => by
  have : F.obj = false := e
  rw [h] at this; cases this

theorem ch_set {M : Nat → Prop} {w w1 : World} (h : Ch M w w1) {g j : Nat} {u : Value} (hg : M g) : Ch M w (w1.setCell ⟨g, j, none⟩ u) :=
  h.trans (Ch.of_gb (gb_set w1 ⟨g, j, none⟩ u)) (fun x _ e => by cases e; exact hg)
theorem mem_sv {P g n cap : Nat} {R : List Value} : g ∈ blks P (.slice (some ⟨g, 0, none⟩) n cap) R := by unfold blks; exact List.mem_cons_of_mem _ (List.mem_append_left _ (mem_ownB.2 rfl))

set_option maxHeartbeats 2000000 in
theorem name_any (l : List UInt8) (hl : l.length ≤ 500000) (P : Nat) (F : Fr) (K : List Fr) (sv : Value) (R : List Value) (w0 w : World) (hT : Tab5 w0) (h : PS X w0 w P l (F :: K) sv R) :
    Calls Tryz.prog 71 #[.pointer (some ⟨P, 0, none⟩)] w (NamePost (X := X) w0 w P l F K sv R) := by
  by_cases hF : F.obj = false
  · refine (name_list l P F hF K sv R w0 w h).mono ?_
    rintro e w' ⟨rfl, n, rfl⟩
    exact ⟨h.inP (gb_drewN w n _), .inr ⟨rfl, F, l, by unfold nameG; rw [hF]; rfl, h.drewN n⟩⟩
  · have hF : F.obj = true := by simpa using hF
    obtain ⟨g, cap, rv, R', rfl, rfl, hcap, hcm, hgP, hg0, hc, hf⟩ := h.top
    have c1 := h.blk.c1
    have k0 := hc 0 _ rfl
    have hk0 : frKind F = 7 := by unfold frKind; rw [hF]; rfl
    rw [hk0, Nat.add_zero] at k0
    have H := Lib.hid h
    have HT : Hid (∀ n, TabsW (w.drewN n)) := fun n => ((h.drewN n).tab hT).tabs
    cases hu : unqG l with
    | none =>
      have HN : Hid (nameG F l = none) := by show nameG F l = none; unfold nameG; rw [if_pos hF, hu]
      have CQ := Lib.hid (fun n => takeQ_no l hu hl P _ (w.drewN n) (HT.out n) ((H.out.drewN n).blk))
      have HST : Hid (∀ w1, PS X w0 w1 P (sk l) (F :: K) (.slice (some ⟨g, 0, none⟩) (K.length + 1) cap) (rv :: R') → PS X w0 (w1.setCell ⟨g, K.length * 6 + 5, none⟩ (.string ⟨#[]⟩)) P (sk l) (F.named ⟨#[]⟩ :: K) (.slice (some ⟨g, 0, none⟩) (K.length + 1) cap) (rv :: R')) :=
        fun w1 h1 => h1.store 5 _ (by omega) (fr_named F rv _) rfl rfl (named_ok F _ hF)
      have HC : Hid (∀ w1, PS X w0 w1 P (sk l) (F :: K) (.slice (some ⟨g, 0, none⟩) (K.length + 1) cap) (rv :: R') → w1.cell? ⟨g, K.length * 6 + 5, none⟩ = some (.string F.name) ∧ w1.frozen? ⟨g, K.length * 6 + 5, none⟩ = false) := fun w1 h1 => by
        obtain ⟨g', cap', rv2, R2, e1, e2, _, _, _, _, hc', hf'⟩ := h1.top
        cases e1; cases e2
        exact ⟨hc' 5 _ rfl, hf' _⟩
      generalize hk : K.length = k at *
      have HK := Lib.hid hk
      clear hk hc hf h hk0 hT hu HT
      go_enter Tryz.func71, Tryz.ntmps71
      go_wp2_with fail
      go_quiet (fail)
      go_wp2_with (go_at_call 95; (with_reducible refine (CQ.out _).mono ?_); rintro e w1 ⟨rfl, h1, hg1⟩; have H1 := Lib.hid ((H.out.drewN nq).text hg1 h1); have HG := Lib.hid (gb_trans (gb_drewN w nq _) hg1); have n5 := (HC.out _ H1.out).1; have f5 := (HC.out _ H1.out).2; clear h1 hg1)
      go_ret
      exact ⟨ch_set (H.out.inP HG.out) mem_sv, .inl ⟨rfl, HN.out⟩⟩
    | some x =>
      obtain ⟨t, m⟩ := x
      have CQ := Lib.hid (fun n => takeQ_yes l t m hu hl P _ (w.drewN n) (HT.out n) ((H.out.drewN n).blk))
      have hml : (sk (l.drop m)).length ≤ 500000 := Nat.le_trans (sk_len _) (by rw [List.length_drop]; omega)
      have HN : Hid (nameG F l = (takeG 58 (sk (l.drop m))).map fun r => (F.named (bs t), r)) := by show nameG F l = _; unfold nameG; rw [if_pos hF, hu]; rfl
      generalize sk (l.drop m) = l1 at CQ hml HN
      have HST : Hid (∀ w1, PS X w0 w1 P l1 (F :: K) (.slice (some ⟨g, 0, none⟩) (K.length + 1) cap) (rv :: R') → PS X w0 (w1.setCell ⟨g, K.length * 6 + 5, none⟩ (.string (bs t))) P l1 (F.named (bs t) :: K) (.slice (some ⟨g, 0, none⟩) (K.length + 1) cap) (rv :: R')) :=
        fun w1 h1 => h1.store 5 _ (by omega) (fr_named F rv _) rfl rfl (named_ok F _ hF)
      have HC : Hid (∀ w1, PS X w0 w1 P l1 (F :: K) (.slice (some ⟨g, 0, none⟩) (K.length + 1) cap) (rv :: R') → w1.cell? ⟨g, K.length * 6 + 5, none⟩ = some (.string F.name) ∧ w1.frozen? ⟨g, K.length * 6 + 5, none⟩ = false) := fun w1 h1 => by
        obtain ⟨g', cap', rv2, R2, e1, e2, _, _, _, _, hc', hf'⟩ := h1.top
        cases e1; cases e2
        exact ⟨hc' 5 _ rfl, hf' _⟩
      generalize hk : K.length = k at *
      have HK := Lib.hid hk
      clear hk hc hf h hk0 hT hu HT
      cases ht : takeG 58 l1 with
      | none =>
        have CT : Hid (∀ wx, PB wx P (bs l1) (.slice (some ⟨g, 0, none⟩) (k + 1) cap) → Calls Tryz.prog 68 #[.pointer (some ⟨P, 0, none⟩), .int .u8 58] wx fun e w' => e = .returned (.bool false) ∧ wx = w') := fun wx hx => take_no 58 l1 ht P _ wx hx
        rw [ht] at HN
        clear ht hml
        generalize bs t = T at *
        go_enter Tryz.func71, Tryz.ntmps71
        go_wp2_with fail
        go_quiet (fail)
        go_wp2_with (first
          | (go_at_call 95; (with_reducible refine (CQ.out _).mono ?_); rintro e w1 ⟨rfl, h1, hg1⟩; have H1 := Lib.hid ((H.out.drewN nq).text hg1 h1); have HG := Lib.hid (gb_trans (gb_drewN w nq _) hg1); have n5 := (HC.out _ H1.out).1; have f5 := (HC.out _ H1.out).2; have H2 := Lib.hid (HST.out _ H1.out); clear h1 hg1)
          | (go_at_call 68; (with_reducible refine (CT.out _ H2.out.blk).mono ?_); rintro e w2 ⟨rfl, rfl⟩))
        go_ret
        exact ⟨ch_set (H.out.inP HG.out) mem_sv, .inl ⟨rfl, HN.out⟩⟩
      | some r =>
        have CT : Hid (∀ wx, PB wx P (bs l1) (.slice (some ⟨g, 0, none⟩) (k + 1) cap) → Calls Tryz.prog 68 #[.pointer (some ⟨P, 0, none⟩), .int .u8 58] wx fun e w' => e = .returned (.bool true) ∧ PB w' P (bs r) (.slice (some ⟨g, 0, none⟩) (k + 1) cap) ∧ wx.grownBy w' (some P)) := fun wx hx => take_yes 58 l1 r ht (by omega) P _ wx hx
        rw [ht] at HN
        clear ht hml
        generalize bs t = T at *
        go_enter Tryz.func71, Tryz.ntmps71
        go_wp2_with fail
        go_quiet (fail)
        go_wp2_with (first
          | (go_at_call 95; (with_reducible refine (CQ.out _).mono ?_); rintro e w1 ⟨rfl, h1, hg1⟩; have H1 := Lib.hid ((H.out.drewN nq).text hg1 h1); have HG := Lib.hid (gb_trans (gb_drewN w nq _) hg1); have n5 := (HC.out _ H1.out).1; have f5 := (HC.out _ H1.out).2; have H2 := Lib.hid (HST.out _ H1.out); clear h1 hg1)
          | (go_at_call 68; (with_reducible refine (CT.out _ H2.out.blk).mono ?_); rintro e w2 ⟨rfl, h3, hg3⟩))
        go_ret
        exact ⟨(ch_set (H.out.inP HG.out) mem_sv).trans (H2.out.inP hg3) (fun x _ hx => hx), .inr ⟨rfl, _, r, HN.out, H2.out.text hg3 h3⟩⟩
end Go.Proofs.YtaniebkfgkhgoaaGreatDoor

namespace Go.Proofs.YtaniebkfgkhgoaaGreatDoor
open Go.RowKit
set_option linter.unusedVariables false
set_option maxRecDepth 100000
variable {X : Nat → Prop}

theorem nodup_repl {L1 X L2 : List Nat} {g : Nat} (h : (L1 ++ (X ++ L2)).Nodup) (hg : X = [g] ∨ ∀ b ∈ L1 ++ (X ++ L2), b < g) : (L1 ++ (g :: L2)).Nodup := by
  rcases hg with rfl | hg
  · exact h
  · rw [List.nodup_append] at h ⊢
    obtain ⟨h1, h2, h3⟩ := h
    rw [List.nodup_append] at h2
    refine ⟨h1, List.nodup_cons.2 ⟨fun e => ?_, h2.2.1⟩, fun a ha b hb => ?_⟩
    · exact absurd (hg g (by simp [e])) (Nat.lt_irrefl _)
    · rcases List.mem_cons.1 hb with rfl | hb
      · exact Nat.ne_of_lt (hg a (by simp [ha]))
      · exact h3 a ha b (by simp [hb])
theorem ownB_some {g n cap : Nat} : ownB (.slice (some ⟨g, 0, none⟩) n cap) = [g] := rfl
theorem ownB_eq {v : Value} {g : Nat} (h : v.ownBlock = some g) : ownB v = [g] := by unfold ownB; rw [h]; rfl
theorem ownB_nil : ownB nilS = [] := rfl

section
variable {w0 w wa w1 w2 : World} {P : Nat} {l : List UInt8} {F : Fr} {K : List Fr} {sv rv : Value} {R : List Value}
/-- The blocks: all differ. -/
theorem PS.apart (h : PS X w0 w P l K sv R) : (∀ b, sv.ownBlock = some b → b ≠ P) ∧ (∀ x ∈ R, ∀ b, x.ownBlock = some b → b ≠ P) ∧ (∀ x ∈ R, ∀ b, x.ownBlock = some b → sv.ownBlock ≠ some b) := by
  have hd := h.nodup
  unfold blks at hd
  rw [List.nodup_cons, List.nodup_append] at hd
  refine ⟨fun b hb e => ?_, fun x hx b hb e => ?_, fun x hx b hb e => ?_⟩
  · subst e; exact hd.1 (List.mem_append_left _ (mem_ownB.2 hb))
  · subst e; exact hd.1 (List.mem_append_right _ (List.mem_flatMap.2 ⟨x, hx, mem_ownB.2 hb⟩))
  · exact hd.2.2.2 b (mem_ownB.2 e) b (List.mem_flatMap.2 ⟨x, hx, mem_ownB.2 hb⟩) rfl
theorem PS.apart1 (h : PS X w0 w P l (F :: K) sv (rv :: R)) : ∀ x ∈ R, ∀ b, x.ownBlock = some b → rv.ownBlock ≠ some b := by
  have hd := h.nodup
  unfold blks at hd
  rw [List.nodup_cons, List.nodup_append, List.flatMap_cons, List.nodup_append] at hd
  exact fun x hx b hb e => hd.2.2.1.2.2 b (mem_ownB.2 e) b (List.mem_flatMap.2 ⟨x, hx, mem_ownB.2 hb⟩) rfl

/-- One more unfinished value. -/
theorem PS.pushed {o : Bool} {g n cap : Nat} (h : PS X w0 w P l K sv R) (ha : Below w.heap.size w wa) (hn : n = K.length + 1)
    (hown : w1.ownsRow w0.heap.size 109 6 (.slice (some ⟨g, 0, none⟩) n cap) n (stCells K R ++ frCells (Fr.new o) nilS)) (hg : wa.grownBy w1 sv.ownBlock) (hgg : sv.ownBlock = some g ∨ g = wa.heap.size) :
    PS X w0 (w1.setCell ⟨P, 1, none⟩ (.slice (some ⟨g, 0, none⟩) n cap)) P l (Fr.new o :: K) (.slice (some ⟨g, 0, none⟩) n cap) (nilS :: R) ∧
      Ch (· ∈ blks P sv R) w (w1.setCell ⟨P, 1, none⟩ (.slice (some ⟨g, 0, none⟩) n cap)) ∧ ∀ b ∈ blks P (.slice (some ⟨g, 0, none⟩) n cap) (nilS :: R), b ∈ blks P sv R ∨ w.heap.size ≤ b := by
  subst hn
  obtain ⟨a1, a2, a3⟩ := h.apart
  have hlt := h.lt
  have c1 : Ch (fun k => some k = sv.ownBlock) w w1 := (Ch.of_below (M := fun k => some k = sv.ownBlock) ha).trans (Ch.of_gb hg) (fun x _ e => e)
  have c3 : Ch (fun k => some k = sv.ownBlock ∨ k = P) w (w1.setCell ⟨P, 1, none⟩ (.slice (some ⟨g, 0, none⟩) (K.length + 1) cap)) :=
    (c1.mono (fun x _ e => Or.inl e)).trans (Ch.of_gb (gb_set w1 ⟨P, 1, none⟩ _)) (fun x _ e => by cases e; exact Or.inr rfl)
  have hsub : ∀ b ∈ blks P (.slice (some ⟨g, 0, none⟩) (K.length + 1) cap) (nilS :: R), b ∈ blks P sv R ∨ w.heap.size ≤ b := by
    intro b hb
    unfold blks at hb ⊢
    rw [ownB_some, List.flatMap_cons, ownB_nil, List.nil_append, List.mem_cons, List.mem_append, List.mem_singleton] at hb
    rcases hb with rfl | rfl | hb
    · exact .inl (by simp)
    · rcases hgg with e | e
      · exact .inl (List.mem_cons_of_mem _ (List.mem_append_left _ (mem_ownB.2 e)))
      · exact .inr (by rw [e]; exact ha.size)
    · exact .inl (List.mem_cons_of_mem _ (List.mem_append_right _ hb))
  have hPg : P ≠ g := by
    rcases hgg with e | e
    · exact fun e' => a1 g e e'.symm
    · have := h.blk.lt; have := ha.size; omega
  have hout : ∀ b ∈ blks P (.slice (some ⟨g, 0, none⟩) (K.length + 1) cap) (nilS :: R), ¬ X b := fun b hb hx => by
    rcases hsub b hb with e | e
    · exact h.out b e hx
    · have := h.xlt b hx; omega
  refine ⟨⟨?_, h.low, ?_, ?_, ?_, ?_, ?_, hout, fun b hb => Nat.lt_of_lt_of_le (h.xlt b hb) c3.size⟩, c3.mono (fun x _ e => ?_), hsub⟩
  · exact ((h.blk.below ha).gb hg (fun e => a1 P e.symm rfl)).set1 _
  · have := ownsRow_ch hown (Ch.of_gb (gb_set w1 ⟨P, 1, none⟩ (.slice (some ⟨g, 0, none⟩) (K.length + 1) cap))) (fun b hb e => by cases e; cases hb; exact hPg rfl)
    exact this
  · simp only [Rows]
    refine ⟨⟨[], World.ownsRow_nil _ _ _ _, rfl⟩, h.rows.move c3 (fun b hb hs => ?_) (fun x hx b hb e => ?_)⟩
    · refine ⟨fun e => ?_, fun e => ?_, hs.2⟩
      · rcases e with e | e
        · exact hs.1 (List.mem_cons_of_mem _ (List.mem_append_left _ (mem_ownB.2 e.symm)))
        · exact hs.1 (by rw [e]; simp [blks])
      · rcases hsub b e with e | e
        · exact hs.1 e
        · omega
    · rcases e with e | e
      · exact a3 x hx b hb e.symm
      · exact a2 x hx b hb e
  · have hd := h.nodup
    have := nodup_repl (L1 := [P]) (X := ownB sv) (L2 := R.flatMap ownB) (g := g) hd (by
      rcases hgg with e | e
      · exact .inl (ownB_eq e)
      · exact .inr (fun b hb => by have := (hlt b hb).1; have := ha.size; omega))
    exact this
  · exact c3.below h.below h.below.size (fun x hx e => by
      rcases e with e | e
      · exact absurd (h.own.lt x e.symm).1 (by omega)
      · have := h.low; omega)
  · intro G hG
    rcases List.mem_cons.1 hG with rfl | hG
    · exact fun _ => rfl
    · exact h.frok G hG
  · rcases e with e | e
    · exact List.mem_cons_of_mem _ (List.mem_append_left _ (mem_ownB.2 e.symm))
    · rw [e]; simp [blks]

/-- The cells of an element. -/
def elCells (F : Fr) (c0 c1 c2 c3 : Value) : List Value := if F.obj then [.string F.name, c0, c1, c2, c3] else [c0, c1, c2, c3]
def rowAt (F : Fr) : Nat := if F.obj then 3 else 2
theorem fr_added (F : Fr) (v : JV) (rv x : Value) : (frCells F rv).set (rowAt F) x = frCells (F.add v) x := by
  obtain ⟨o, els, nm⟩ := F
  cases o <;> rfl

/-- A value put in the innermost unfinished one. -/
theorem PS.added {v : JV} {x0 x1 x2 x3 : Value} {gs ns caps g n cap : Nat} {cs : List Value} (h : PS X w0 w P l (F :: K) (.slice (some ⟨gs, 0, none⟩) ns caps) (rv :: R)) (ha : Below w.heap.size w wa)
    (he : ElsIn w (free (blks P (.slice (some ⟨gs, 0, none⟩) ns caps) (rv :: R)) X) F.obj F.els cs) (hv : LV w (free (blks P (.slice (some ⟨gs, 0, none⟩) ns caps) (rv :: R)) X) v x0 x1 x2 x3) (hn : n = F.els.length + 1)
    (hown : w2.ownsRow w0.heap.size (elT F.obj) (elN F.obj) (.slice (some ⟨g, 0, none⟩) n cap) n (cs ++ elCells F x0 x1 x2 x3)) (hg : wa.grownBy w1 rv.ownBlock) (hgg : rv.ownBlock = some g ∨ g = wa.heap.size) (hg2 : w1.grownBy w2 (some g)) :
    PS X w0 (w2.setCell ⟨gs, K.length * 6 + rowAt F, none⟩ (.slice (some ⟨g, 0, none⟩) n cap)) P l (F.add v :: K) (.slice (some ⟨gs, 0, none⟩) ns caps) (.slice (some ⟨g, 0, none⟩) n cap :: R) ∧
      Ch (· ∈ blks P (.slice (some ⟨gs, 0, none⟩) ns caps) (rv :: R)) w (w2.setCell ⟨gs, K.length * 6 + rowAt F, none⟩ (.slice (some ⟨g, 0, none⟩) n cap)) ∧
      ∀ b ∈ blks P (.slice (some ⟨gs, 0, none⟩) ns caps) (.slice (some ⟨g, 0, none⟩) n cap :: R), b ∈ blks P (.slice (some ⟨gs, 0, none⟩) ns caps) (rv :: R) ∨ w.heap.size ≤ b := by
  subst hn
  obtain ⟨a1, a2, a3⟩ := h.apart
  have a4 := h.apart1
  have hlt := h.lt
  have hns : ns = K.length + 1 := by
    obtain ⟨g', cap', rv', R', _, e, _⟩ := h.top
    simp at e; exact e.2.1
  subst hns
  have hgsl : gs < w.heap.size := (h.lt gs mem_sv).1
  have hgsg : gs ≠ g := by
    rcases hgg with e | e
    · exact fun e' => a3 rv (by simp) g e (by rw [e']; rfl)
    · have := ha.size; omega
  have c1 : Ch (fun k => some k = rv.ownBlock) w w1 := (Ch.of_below (M := fun k => some k = rv.ownBlock) ha).trans (Ch.of_gb hg) (fun x _ e => e)
  have c2 : Ch (fun k => some k = rv.ownBlock) w w2 := c1.trans (Ch.of_gb hg2) (fun x hx e => by
    cases e
    rcases hgg with e | e
    · exact e.symm
    · have := ha.size; omega)
  have c3 : Ch (fun k => some k = rv.ownBlock ∨ k = gs) w (w2.setCell ⟨gs, K.length * 6 + rowAt F, none⟩ (.slice (some ⟨g, 0, none⟩) (F.els.length + 1) cap)) :=
    (c2.mono (fun x _ e => Or.inl e)).trans (Ch.of_gb (gb_set w2 ⟨gs, K.length * 6 + rowAt F, none⟩ _)) (fun x _ e => by cases e; exact Or.inr rfl)
  have hsub : ∀ b ∈ blks P (.slice (some ⟨gs, 0, none⟩) (K.length + 1) caps) (.slice (some ⟨g, 0, none⟩) (F.els.length + 1) cap :: R), b ∈ blks P (.slice (some ⟨gs, 0, none⟩) (K.length + 1) caps) (rv :: R) ∨ w.heap.size ≤ b := by
    intro b hb
    unfold blks at hb ⊢
    rw [List.flatMap_cons, ownB_some (g := g)] at hb
    rw [List.flatMap_cons]
    simp only [List.mem_cons, List.mem_append] at hb ⊢
    rcases hb with rfl | hb | ⟨rfl | hb⟩ | hb
    · exact .inl (.inl rfl)
    · exact .inl (.inr (.inl hb))
    · rcases hgg with e | e
      · exact .inl (.inr (.inr (.inl (mem_ownB.2 e))))
      · exact .inr (by rw [e]; exact ha.size)
    · cases hb
    · exact .inl (.inr (.inr (.inr hb)))
  have hS : ∀ b, b < w.heap.size → free (blks P (.slice (some ⟨gs, 0, none⟩) (K.length + 1) caps) (rv :: R)) X b → ¬ (some b = rv.ownBlock ∨ b = gs) ∧ free (blks P (.slice (some ⟨gs, 0, none⟩) (K.length + 1) caps) (.slice (some ⟨g, 0, none⟩) (F.els.length + 1) cap :: R)) X b := by
    intro b hb hs
    refine ⟨fun e => ?_, fun e => ?_, hs.2⟩
    · rcases e with e | e
      · exact hs.1 (List.mem_cons_of_mem _ (List.mem_append_right _ (by rw [List.flatMap_cons]; exact List.mem_append_left _ (mem_ownB.2 e.symm))))
      · exact hs.1 (by rw [e]; exact mem_sv)
    · rcases hsub b e with e | e
      · exact hs.1 e
      · omega
  have hout : ∀ b ∈ blks P (.slice (some ⟨gs, 0, none⟩) (K.length + 1) caps) (.slice (some ⟨g, 0, none⟩) (F.els.length + 1) cap :: R), ¬ X b := fun b hb hx => by
    rcases hsub b hb with e | e
    · exact h.out b e hx
    · have := h.xlt b hx; omega
  have hPP : ∀ x, some x = rv.ownBlock ∨ x = gs → x ≠ P := fun x e => by
    rcases e with e | e
    · exact a2 rv (by simp) x e.symm
    · rw [e]; exact a1 gs rfl
  have hr := h.rows
  simp only [Rows] at hr
  refine ⟨⟨?_, h.low, ?_, ?_, ?_, ?_, ?_, hout, fun b hb => Nat.lt_of_lt_of_le (h.xlt b hb) c3.size⟩, c3.mono (fun x _ e => ?_), hsub⟩
  · exact c3.heap h.blk (fun e => hPP P e rfl)
  · have ho : w2.ownsRow w0.heap.size 109 6 (.slice (some ⟨gs, 0, none⟩) (K.length + 1) caps) (K.length + 1) (stCells (F :: K) (rv :: R)) :=
      ownsRow_ch h.own c2 (fun b hb e => a3 rv (by simp) b e.symm hb)
    have o1 := (ho.stored (K.length * 6 + rowAt F) (.slice (some ⟨g, 0, none⟩) (F.els.length + 1) cap)).1
    have hlen := stCells_len K R (by simpa using h.rows.len)
    have e : (stCells (F :: K) (rv :: R)).set (K.length * 6 + rowAt F) (.slice (some ⟨g, 0, none⟩) (F.els.length + 1) cap) = stCells (F.add v :: K) (.slice (some ⟨g, 0, none⟩) (F.els.length + 1) cap :: R) := by
      simp only [stCells]
      rw [List.set_append_right _ _ (by omega), hlen, show K.length * 6 + rowAt F - K.length * 6 = rowAt F by omega, fr_added F v]
    rw [e] at o1
    exact o1
  · simp only [Rows]
    refine ⟨⟨cs ++ elCells F x0 x1 x2 x3, ?_, ?_⟩, hr.2.move c3 hS (fun x hx b hb e => ?_)⟩
    · have := ownsRow_ch hown (Ch.of_gb (gb_set w2 ⟨gs, K.length * 6 + rowAt F, none⟩ (.slice (some ⟨g, 0, none⟩) (F.els.length + 1) cap))) (fun b hb e => by cases e; cases hb; exact hgsg rfl)
      have e : (F.add v).els.length = F.els.length + 1 := by unfold Fr.add; simp
      rw [e]; exact this
    · have h1 := ElsIn.snoc (n := F.name) hv F.els he
      exact ElsIn.move (fun b hb hs => ⟨c3.block b hb (hS b hb hs).1, (hS b hb hs).2⟩) _ h1
    · rcases e with e | e
      · exact a4 x hx b hb e.symm
      · subst e; exact a3 x (by simp [hx]) b hb rfl
  · have hd := h.nodup
    unfold blks at hd ⊢
    rw [List.flatMap_cons] at hd ⊢
    rw [ownB_some (g := g)]
    have := nodup_repl (L1 := P :: ownB (.slice (some ⟨gs, 0, none⟩) (K.length + 1) caps)) (X := ownB rv) (L2 := R.flatMap ownB) (g := g) (by simpa using hd) (by
      rcases hgg with e | e
      · exact .inl (ownB_eq e)
      · exact .inr (fun b hb => by
          have := (hlt b (by unfold blks; rw [List.flatMap_cons]; simpa using hb)).1; have := ha.size; omega))
    simpa using this
  · exact c3.below h.below h.below.size (fun x hx e => by
      have : x ∈ blks P (.slice (some ⟨gs, 0, none⟩) (K.length + 1) caps) (rv :: R) := by
        rcases e with e | e
        · exact List.mem_cons_of_mem _ (List.mem_append_right _ (by rw [List.flatMap_cons]; exact List.mem_append_left _ (mem_ownB.2 e.symm)))
        · rw [e]; exact mem_sv
      have := (hlt x this).2; omega)
  · intro G hG
    rcases List.mem_cons.1 hG with rfl | hG
    · exact fun e => h.frok F (by simp) e
    · exact h.frok G (by simp [hG])
  · rcases e with e | e
    · exact List.mem_cons_of_mem _ (List.mem_append_right _ (by rw [List.flatMap_cons]; exact List.mem_append_left _ (mem_ownB.2 e.symm)))
    · rw [e]; exact mem_sv

theorem ownsRow_take {base : Nat} {e : TypeId} {size g n cap m : Nat} {xs : List Value} (h : w.ownsRow base e size (.slice (some ⟨g, 0, none⟩) n cap) n xs) (hm : m ≤ n) : w.ownsRow base e size (.slice (some ⟨g, 0, none⟩) m cap) m (xs.take (m * size)) := by
  obtain ⟨h1, h2⟩ := h
  rcases h2 with ⟨h2, _⟩ | ⟨g', cap', cur, h2, hb, hg, hn, hc, hs, ht⟩
  · cases h2
  · simp only [Value.slice.injEq, Option.some.injEq, Addr.mk.injEq, and_true, true_and] at h2
    obtain ⟨rfl, rfl⟩ := h2
    have hle : m * size ≤ n * size := Nat.mul_le_mul_right _ hm
    refine ⟨by rw [List.length_take, h1]; omega, .inr ⟨g, cap, cur, rfl, hb, hg, by omega, hc, hs, ?_⟩⟩
    rw [← ht, List.take_take]; congr 1; omega

/-- The innermost unfinished value ends. -/
theorem PS.closed {gs cap : Nat} (h : PS X w0 w P l (F :: K) (.slice (some ⟨gs, 0, none⟩) (K.length + 1) cap) (rv :: R)) :
    PS X w0 (w.setCell ⟨P, 1, none⟩ (.slice (some ⟨gs, 0, none⟩) K.length cap)) P l K (.slice (some ⟨gs, 0, none⟩) K.length cap) R ∧
      LV (w.setCell ⟨P, 1, none⟩ (.slice (some ⟨gs, 0, none⟩) K.length cap)) (free (blks P (.slice (some ⟨gs, 0, none⟩) K.length cap) R) X) F.close (.int .i64 (frKind F)) (.string ⟨#[]⟩) (frList F rv) (frFlds F rv) ∧
      Ch (· = P) w (w.setCell ⟨P, 1, none⟩ (.slice (some ⟨gs, 0, none⟩) K.length cap)) ∧ (∀ b ∈ blks P (.slice (some ⟨gs, 0, none⟩) K.length cap) R, b ∈ blks P (.slice (some ⟨gs, 0, none⟩) (K.length + 1) cap) (rv :: R)) := by
  obtain ⟨a1, a2, a3⟩ := h.apart
  have a4 := h.apart1
  have c : Ch (· = P) w (w.setCell ⟨P, 1, none⟩ (.slice (some ⟨gs, 0, none⟩) K.length cap)) := (Ch.of_gb (gb_set w ⟨P, 1, none⟩ _)).mono (fun x _ e => by cases e; rfl)
  have hsub : ∀ b ∈ blks P (.slice (some ⟨gs, 0, none⟩) K.length cap) R, b ∈ blks P (.slice (some ⟨gs, 0, none⟩) (K.length + 1) cap) (rv :: R) := by
    intro b hb
    unfold blks at hb ⊢
    rw [List.flatMap_cons]
    simp only [List.mem_cons, List.mem_append, ownB_some] at hb ⊢
    rcases hb with hb | hb | hb
    · exact .inl hb
    · exact .inr (.inl hb)
    · exact .inr (.inr (.inr hb))
  have hS : ∀ b, b < w.heap.size → free (blks P (.slice (some ⟨gs, 0, none⟩) (K.length + 1) cap) (rv :: R)) X b → ¬ b = P ∧ free (blks P (.slice (some ⟨gs, 0, none⟩) K.length cap) R) X b :=
    fun b _ hs => ⟨fun e => hs.1 (by rw [e]; simp [blks]), fun e => hs.1 (hsub b e), hs.2⟩
  have hr := h.rows
  simp only [Rows] at hr
  have hlen := stCells_len K R (by simpa using h.rows.len)
  refine ⟨⟨h.blk.set1 _, h.low, ?_, hr.2.move c hS (fun x hx b hb e => a2 x (by simp [hx]) b hb e), ?_, ?_, fun G hG => h.frok G (by simp [hG]), fun b hb => h.out b (hsub b hb), fun b hb => Nat.lt_of_lt_of_le (h.xlt b hb) c.size⟩, ?_, c, hsub⟩
  · have ho : w.ownsRow w0.heap.size 109 6 (.slice (some ⟨gs, 0, none⟩) (K.length + 1) cap) (K.length + 1) (stCells (F :: K) (rv :: R)) := h.own
    have o1 := ownsRow_take ho (m := K.length) (by omega)
    simp only [stCells] at o1
    rw [List.take_append_of_le_length (by omega), List.take_of_length_le (by omega)] at o1
    exact ownsRow_ch o1 c (fun b hb e => by cases hb; exact a1 gs rfl e)
  · have hd := h.nodup
    unfold blks at hd ⊢
    rw [List.flatMap_cons] at hd
    refine hd.sublist ?_
    simp only [ownB_some]
    refine List.Sublist.cons_cons _ (List.Sublist.append (List.Sublist.refl _) (List.sublist_append_right _ _))
  · exact c.below h.below h.below.size (fun x hx e => by have := h.low; omega)
  · obtain ⟨cs, ho, he⟩ := hr.1
    have he' := ElsIn.move (w' := w.setCell ⟨P, 1, none⟩ (.slice (some ⟨gs, 0, none⟩) K.length cap)) (S' := (free (blks P (.slice (some ⟨gs, 0, none⟩) K.length cap) R) X)) (fun b hb hs => ⟨c.block b hb (hS b hb hs).1, (hS b hb hs).2⟩) _ he
    have ho' := ownsRow_ch ho c (fun b hb e => a2 rv (by simp) b hb e)
    have key : ∀ b, rv.ownBlock = some b → free (blks P (.slice (some ⟨gs, 0, none⟩) K.length cap) R) X b := fun b hb => ⟨fun hm => by
      unfold blks at hm
      simp only [List.mem_cons, List.mem_append, ownB_some, List.mem_nil_iff, or_false] at hm
      rcases hm with hm | hm | hm
      · exact a2 rv (by simp) b hb hm
      · exact a3 rv (by simp) b hb (by rw [hm]; rfl)
      · obtain ⟨x, hx, hxb⟩ := List.mem_flatMap.1 hm
        exact a4 x hx b (mem_ownB.1 hxb) hb, h.out b (by unfold blks; rw [List.flatMap_cons]; exact List.mem_cons_of_mem _ (List.mem_append_right _ (List.mem_append_left _ (mem_ownB.2 hb))))⟩
    obtain ⟨o, els, nm⟩ := F
    rcases ho'.2 with ⟨rfl, hn⟩ | ⟨g, cap', cur, rfl, hB, hg, hn, hcm, hsz, htk⟩
    · have hnil : els = [] := List.length_eq_zero_iff.1 hn
      subst hnil
      cases o
      · simp only [Fr.close]; exact ⟨rfl, rfl, ⟨none, 0, rfl, .inl rfl⟩, ⟨none, 0, rfl, .inl rfl⟩⟩
      · simp only [Fr.close]; exact ⟨rfl, rfl, ⟨none, 0, rfl, .inl rfl⟩, ⟨none, 0, rfl, .inl rfl⟩⟩
    · have hcell : ∀ j u, cs[j]? = some u → (w.setCell ⟨P, 1, none⟩ (.slice (some ⟨gs, 0, none⟩) K.length cap)).cell? ⟨g, 0 + j, none⟩ = some u := fun j u hu => by
        rw [Nat.zero_add, ho'.cellAt j (by rw [← ho'.1]; exact (List.getElem?_eq_some_iff.1 hu).1)]; exact hu
      have hkg := key g rfl
      cases o
      · have hv := he'.vals els hcell
        simp only [Fr.close]
        exact ⟨rfl, rfl, ⟨some ⟨g, 0, none⟩, cap', by simp [frList], .inr ⟨g, 0, rfl, ⟨hkg, _, _, hg⟩, hv⟩⟩, ⟨none, 0, rfl, .inl rfl⟩⟩
      · have hv := he'.flds els hcell
        simp only [Fr.close]
        exact ⟨rfl, rfl, ⟨none, 0, rfl, .inl rfl⟩, ⟨some ⟨g, 0, none⟩, cap', by simp [frFlds], .inr ⟨g, 0, rfl, ⟨hkg, _, _, hg⟩, hv⟩⟩⟩
end
end Go.Proofs.YtaniebkfgkhgoaaGreatDoor

namespace Go.Proofs.YtaniebkfgkhgoaaGreatDoor
open Go.RowKit
set_option linter.unusedVariables false
set_option maxRecDepth 100000
variable {X : Nat → Prop}

/-- How a step of the parser ends: it fails; a value has ended; another one has to follow. -/
def OutPost (w0 w : World) (P : Nat) (M : List Nat) (o : Out) (e : Ending) (w' : World) : Prop :=
  Ch (· ∈ M) w w' ∧ match o with
    | .fail => ∃ (k : Int) (t : ByteArray) (a : Option Addr) (n c : Nat) (a2 : Option Addr) (n2 c2 : Nat), e = .returned (.tuple #[.agg #[.int .i64 k, .string t, .slice a n c, .slice a2 n2 c2], .bool false])
    | .val v r K => ∃ x0 x1 x2 x3 sv R, e = .returned (.tuple #[.agg #[x0, x1, x2, x3], .bool true]) ∧ PS X w0 w' P r K sv R ∧ LV w' (free (blks P sv R) X) v x0 x1 x2 x3 ∧ ∀ b ∈ blks P sv R, b ∈ M ∨ w.heap.size ≤ b
    | .more r K => ∃ sv R, e = .returned (.tuple #[.agg #[.int .i64 0, .string ⟨#[]⟩, .slice none 0 0, .slice none 0 0], .bool true]) ∧ PS X w0 w' P r K sv R ∧ ∀ b ∈ blks P sv R, b ∈ M ∨ w.heap.size ≤ b

section
variable {w0 w W w3 w4 : World} {P : Nat} {l : List UInt8} {F : Fr} {K : List Fr} {sv sv' : Value} {R R' : List Value}
/-- takeName's answer, in one form. -/
theorem name_one (l : List UInt8) (hl : l.length ≤ 500000) (P : Nat) (F : Fr) (K : List Fr) (sv : Value) (R : List Value) (w0 w : World) (hT : Tab5 w0) (h : PS X w0 w P l (F :: K) sv R) :
    Calls Tryz.prog 71 #[.pointer (some ⟨P, 0, none⟩)] w fun e w' => e = .returned (.bool (nameG F l).isSome) ∧ Ch (· ∈ blks P sv R) w w' ∧ ∀ F' r, nameG F l = some (F', r) → PS X w0 w' P r (F' :: K) sv R := by
  refine (name_any l hl P F K sv R w0 w hT h).mono ?_
  rintro e w' ⟨hc, ⟨rfl, hn⟩ | ⟨rfl, F', r, hn, hp⟩⟩
  · exact ⟨by rw [hn]; rfl, hc, fun F' r e => by rw [hn] at e; cases e⟩
  · exact ⟨by rw [hn]; rfl, hc, fun F2 r2 e => by rw [hn] at e; cases e; exact hp⟩
/-- A change of foreign blocks. -/
theorem PS.other {M : Nat → Prop} (h : PS X w0 w P l K sv R) (c : Ch M w W) (hM : ∀ b, M b → X b) (hL : ∀ b, b < w0.heap.size → ¬ M b) : PS X w0 W P l K sv R :=
  ⟨c.heap h.blk (fun e => h.out P (by simp [blks]) (hM P e)), h.low, ownsRow_ch h.own c (fun b hb e => h.out b (List.mem_cons_of_mem _ (List.mem_append_left _ (mem_ownB.2 hb))) (hM b e)),
    h.rows.move c (fun b hb hs => ⟨fun e => hs.2 (hM b e), hs⟩) (fun x hx b hb e => h.out b (List.mem_cons_of_mem _ (List.mem_append_right _ (List.mem_flatMap.2 ⟨x, hx, mem_ownB.2 hb⟩))) (hM b e)), h.nodup, c.below h.below h.below.size hL, h.frok, h.out, fun b hb => Nat.lt_of_lt_of_le (h.xlt b hb) c.size⟩
/-- The blocks that were made since. -/
def newer (X : Nat → Prop) (w W : World) (b : Nat) : Prop := X b ∨ (w.heap.size ≤ b ∧ b < W.heap.size)
theorem free_newer {M : List Nat} {b : Nat} (hb : b < w.heap.size) (h : free M X b) : free M (newer X w W) b := ⟨h.1, fun e => by rcases e with e | e; exact h.2 e; omega⟩
theorem free_less {M : List Nat} {b : Nat} (h : free M (newer X w W) b) : free M X b := ⟨h.1, fun e => h.2 (.inl e)⟩
theorem PS.enter (h : PS X w0 w P l K sv R) (g : Below w.heap.size w W) : PS (newer X w W) w0 W P l K sv R := by
  have hP := h.blk.lt
  have c : Ch (fun _ => False) w W := Ch.of_below g
  exact ⟨h.blk.below g, h.low, ownsRow_ch h.own c (fun _ _ e => e), h.rows.move c (fun b hb hs => ⟨fun e => e, free_newer hb hs⟩) (fun _ _ _ _ e => e), h.nodup, c.below h.below h.below.size (fun _ _ e => e), h.frok,
    fun b hb e => by
      rcases e with e | e
      · exact h.out b hb e
      · have := (h.lt b hb).1; omega,
    fun b hb => by
      rcases hb with hb | hb
      · exact Nat.lt_of_lt_of_le (h.xlt b hb) g.size
      · exact hb.2⟩
theorem PS.leave {w1 : World} (h : PS (newer X w1 W) w0 w P l K sv R) : PS X w0 w P l K sv R :=
  ⟨h.blk, h.low, h.own, h.rows.move (Ch.refl (fun _ => False) w) (fun b _ hs => ⟨fun e => e, free_less hs⟩) (fun _ _ _ _ e => e), h.nodup, h.below, h.frok, fun b hb e => h.out b hb (.inl e), fun b hb => h.xlt b (.inl hb)⟩
/-- The end of a step behind which a name is taken. -/
theorem more_end {fn : Func} {p u : Tmp} {a : Act} {b : Nat} {M : List Nat} {y0 y1 y2 y3 : Value} (hres : fn.results = #[.cell p 26, .tmp u]) (hWb : Below w.heap.size w W) (hw0 : w0.heap.size ≤ w.heap.size) (hb0 : w.heap.size ≤ b) (hb1 : b < W.heap.size)
    (c3 : Ch (· ∈ M) W w3) (hsub : ∀ x ∈ blks P sv' R', x ∈ M ∨ W.heap.size ≤ x) (c4 : Ch (· ∈ blks P sv' R') w3 w4)
    (h4 : ∀ F' r, nameG F l = some (F', r) → PS (newer X w W) w0 w4 P r (F' :: K) sv' R')
    (hz : RB w4 b y0 y1 y2 y3) (hp : a.tmps.getD p undef = .pointer (some ⟨b, 0, none⟩)) (hu : a.tmps.getD u undef = .bool (nameG F l).isSome) (hd : a.defers = []) :
    bodyPost Tryz.prog fn (OutPost (X := X) w0 w P M (moreG F K l)) .ret a ((((w4.setCell ⟨b, 0, none⟩ (.int .i64 0)).setCell ⟨b, 1, none⟩ (.string ⟨#[]⟩)).setCell ⟨b, 2, none⟩ (.slice none 0 0)).setCell ⟨b, 3, none⟩ (.slice none 0 0)) := by
  have hW := hWb.size
  have c5 := (Ch.of_gb (gb_set4 w4 b (.int .i64 0) (.string ⟨#[]⟩) (.slice none 0 0) (.slice none 0 0))).mono (M' := (· = b)) (fun x _ e => by cases e; rfl)
  have hin : ∀ x, x < w.heap.size → x ∈ blks P sv' R' → x ∈ M := fun x hx e => by
    rcases hsub x e with e | e
    · exact e
    · omega
  refine ret_val hres hp hu hd (hz.set4 _ _ _ _) ⟨(((Ch.of_below (M := (· ∈ M)) hWb).trans c3 (fun x _ e => e)).trans c4 hin).trans c5 (fun x hx e => by subst e; omega), ?_⟩
  unfold moreG
  cases hn : nameG F l with
  | none => exact ⟨_, _, _, _, _, _, _, _, rfl⟩
  | some x =>
    obtain ⟨F', r⟩ := x
    refine ⟨sv', R', rfl, ((h4 F' r hn).other c5 (fun x e => by subst e; exact .inr ⟨hb0, hb1⟩) (fun x hx e => by subst e; omega)).leave, fun x hx => ?_⟩
    rcases hsub x hx with e | e
    · exact .inl e
    · exact .inr (by omega)
end
theorem info_unf : (Tryz.prog.info? 109).map (fun i => (i.zero, i.size, i.bytes)) = some (some (.agg #[.int .i64 0, .string ⟨#[]⟩, .slice none 0 0, .slice none 0 0, .int .u8 0, .string ⟨#[]⟩]), 6, 96) := by kernel_rfl

def kindOf (o : Bool) : Int := if o then 7 else 6

set_option maxHeartbeats 4000000 in
theorem open_no (o : Bool) (l : List UInt8) (hl : l.length ≤ 500000) (P : Nat) (K : List Fr) (hK : K.length ≤ 500000) (sv : Value) (R : List Value) (w0 w : World) (hT : Tab5 w0) (h : PS X w0 w P l K sv R) (ht : takeG (Fr.new o).mark l = none) :
    Calls Tryz.prog 69 #[.pointer (some ⟨P, 0, none⟩), .int .i64 (kindOf o), .int .u8 (Fr.new o).mark.toNat] w (OutPost (X := X) w0 w P (blks P sv R) (openG o K l)) := by
  obtain ⟨i0, hi, hz0, hz1, hz2⟩ := info_parts info_unf
  have CT : Hid (∀ wx, PB wx P (bs l) sv → Calls Tryz.prog 68 #[.pointer (some ⟨P, 0, none⟩), .int .u8 (Fr.new o).mark.toNat] wx fun e w' => e = .returned (.bool false) ∧ wx = w') := fun wx hx => take_no _ l ht P _ wx hx
  obtain ⟨W, hW⟩ : ∃ W, W = (w.alloc (.cells #[.int .i64 0, .string ⟨#[]⟩, .slice none 0 0, .slice none 0 0] 26)).alloc (.cells #[.int .i64 (kindOf o), .string ⟨#[]⟩, .slice none 0 0, .slice none 0 0] 26) := ⟨_, rfl⟩
  have hWb : Below w.heap.size w W := by rw [hW]; exact ((Below.refl _ _).alloc (Nat.le_refl _) _).alloc (by simp) _
  have hWz : W.heap.size = w.heap.size + 2 := by rw [hW]; simp
  have HA : Hid (RB W w.heap.size (.int .i64 0) (.string ⟨#[]⟩) (.slice none 0 0) (.slice none 0 0)) := by
    show RB W _ _ _ _ _
    rw [hW]; exact RB.below (RB.new w) ((Below.refl _ _).alloc (Nat.le_refl _) _)
  have HB : Hid (RB W (w.heap.size + 1) (.int .i64 (kindOf o)) (.string ⟨#[]⟩) (.slice none 0 0) (.slice none 0 0)) := by
    show RB W _ _ _ _ _
    rw [hW, show w.heap.size + 1 = (w.alloc (.cells #[.int .i64 0, .string ⟨#[]⟩, .slice none 0 0, .slice none 0 0] 26)).heap.size by simp]; exact RB.new _
  have H := Lib.hid h
  have HOG : Hid (openG o K l = moreG (Fr.new o) K l) := by show openG o K l = _; unfold openG; rw [ht]
  have HW := Lib.hid (h.enter hWb)
  have HWB := Lib.hid hWb
  generalize hm : ((Fr.new o).mark.toNat : Int) = mk at *
  generalize hkd : kindOf o = kd at *
  have HMK := Lib.hid hm
  have HKD := Lib.hid hkd
  clear hm hkd ht h
  go_enter Tryz.func69, Tryz.ntmps69
  go_wp2_with fail
  rw [← hW]
  clear hW
  go_wp2_with (go_at_call 68; (with_reducible refine (CT.out _ HW.out.blk).mono ?_); rintro e w1 ⟨rfl, rfl⟩)
  have c1 := HW.out.blk.c1
  have fP := HW.out.blk.fr 1
  have b0 := HB.out.c0
  have b1 := HB.out.c1
  have b2 := HB.out.c2
  have b3 := HB.out.c3
  have hlt := HW.out.blk.lt
  have HO := Lib.hid HW.out.own
  have HWZ := Lib.hid hWz
  clear hWz
  have hca : ∀ o, (W.alloc o).cell? ⟨P, 1, none⟩ = some sv := fun o => (World.cell?_alloc_lt W o ⟨P, 1, none⟩ hlt).trans c1
  have HKP : Hid (∀ (o : Obj) (wz : World), ((W.alloc o).drew).grownBy wz sv.ownBlock → wz.frozen? ⟨P, 1, none⟩ = false ∧ wz.cell? ⟨P, 1, none⟩ = some sv) := fun o wz hg => by
    have := ((HW.out.blk.below ((Below.refl _ _).alloc (Nat.le_refl _) o)).gb (w := (W.alloc o).drew) hg (fun e => HW.out.apart.1 P e.symm rfl))
    exact ⟨this.fr 1, this.c1⟩
  go_region_law (refine step_append_lies _ (by rfl) _ _ _ (by rfl) w0.heap.size 109 i0 _ 6 96 Tryz.underlying40 hi hz0 hz1 hz2 rfl (by omega) sv K.length (stCells K R) (by rfl) ((HO.out.alloc _).drew) ⟨W.heap.size, 0, none⟩ 1 1 [.int .i64 kd, .string ⟨#[]⟩, .slice none 0 0, .slice none 0 0, .int .u8 mk, .string ⟨#[]⟩] (by rfl) (by rfl) (World.news_of_block (cs := #[.int .i64 kd, .string ⟨#[]⟩, .slice none 0 0, .slice none 0 0, .int .u8 mk, .string ⟨#[]⟩]) (t := 109) (fr := (0, 0)) (heap_alloc_new W _)) (by simp [Value.oneCell']) (by omega) (by unfold maxLen; omega) (by omega) (by have := HW.out.below.size; simp; omega) (W.heap.size + 1) (by simp) ?_; intro gg cap w1 hown1 hgrow hat hltt; have fw := (HKP.out _ _ hgrow).1; have cw := (HKP.out _ _ hgrow).2)
  all_goals
    have HP := Lib.hid (HW.out.pushed (o := o) (g := gg) (cap := cap) ((Below.refl _ _).alloc (Nat.le_refl _) _).drew rfl (by
      have e : frCells (Fr.new o) nilS = [.int .i64 kd, .string ⟨#[]⟩, .slice none 0 0, .slice none 0 0, .int .u8 mk, .string ⟨#[]⟩] := by
        rw [← HKD.out, ← HMK.out]; cases o <;> rfl
      rw [e]; exact hown1) hgrow (by simpa using hat))
    clear hown1 hgrow hat hltt fw cw hca c1 fP b0 b1 b2 b3 HO HKP hlt
    have HZ : Hid (RB (w1.setCell ⟨P, 1, none⟩ (.slice (some ⟨gg, 0, none⟩) (K.length + 1) cap)) w.heap.size (.int .i64 0) (.string ⟨#[]⟩) (.slice none 0 0) (.slice none 0 0)) :=
      HP.out.2.1.heap HA.out (fun e => by have := (H.out.lt w.heap.size e).1; omega)
    generalize w1.setCell ⟨P, 1, none⟩ (.slice (some ⟨gg, 0, none⟩) (K.length + 1) cap) = w3 at *
    have CN := Lib.hid (name_one l hl P (Fr.new o) K (.slice (some ⟨gg, 0, none⟩) (K.length + 1) cap) (nilS :: R) w0 w3 hT HP.out.1)
    have HNB : Hid (w.heap.size ∉ blks P (.slice (some ⟨gg, 0, none⟩) (K.length + 1) cap) (nilS :: R)) := fun e => by
      rcases HP.out.2.2 _ e with e | e
      · have := (H.out.lt w.heap.size e).1; omega
      · have := HWZ.out; omega
    have HOP : Hid (openG o K l = moreG (Fr.new o) K l) := HOG.out
    generalize hbb : (nameG (Fr.new o) l).isSome = bb at CN
    have HBB := Lib.hid hbb
    clear hbb hT
    go_wp2_with (go_at_call 71; (with_reducible refine CN.out.mono ?_); rintro e w4 ⟨rfl, hc4, h4⟩; have HZ4 := Lib.hid (hc4.heap HZ.out HNB.out); have HC4 := Lib.hid hc4; have H4 := Lib.hid h4; have z0 := RB.c0 HZ4.out; have z1 := RB.c1 HZ4.out; have z2 := RB.c2 HZ4.out; have z3 := RB.c3 HZ4.out; have f0 := RB.fr HZ4.out 0; have f1 := RB.fr HZ4.out 1; have f2 := RB.fr HZ4.out 2; have f3 := RB.fr HZ4.out 3; clear hc4 h4)
    rw [HOP.out]
    refine more_end (p := 6) (u := 7) rfl HWB.out H.out.below.size (Nat.le_refl _) (by have := HWZ.out; omega) HP.out.2.1 HP.out.2.2 HC4.out H4.out HZ4.out rfl (by rw [HBB.out]; rfl) rfl
end Go.Proofs.YtaniebkfgkhgoaaGreatDoor

namespace Go.Proofs.YtaniebkfgkhgoaaGreatDoor
open Go.RowKit
set_option linter.unusedVariables false
set_option maxRecDepth 100000
variable {X : Nat → Prop}

theorem close_new {w : World} {S : Nat → Prop} (o : Bool) : LV w S (Fr.new o).close (.int .i64 (kindOf o)) (.string ⟨#[]⟩) (.slice none 0 0) (.slice none 0 0) := by
  cases o
  · exact ⟨rfl, rfl, ⟨none, 0, rfl, .inl rfl⟩, ⟨none, 0, rfl, .inl rfl⟩⟩
  · exact ⟨rfl, rfl, ⟨none, 0, rfl, .inl rfl⟩, ⟨none, 0, rfl, .inl rfl⟩⟩

section
variable {w0 w W w4 : World} {P : Nat} {l r : List UInt8} {F : Fr} {K : List Fr} {sv sv' : Value} {R R' : List Value} {v : JV}
/-- The end of a step that answers a value. -/
theorem val_end {fn : Func} {p u : Tmp} {a : Act} {b : Nat} {M : List Nat} {x0 x1 x2 x3 y0 y1 y2 y3 : Value} (hres : fn.results = #[.cell p 26, .tmp u]) (hWb : Below w.heap.size w W) (hw0 : w0.heap.size ≤ w.heap.size) (hb0 : w.heap.size ≤ b) (hb1 : b < W.heap.size)
    (c4 : Ch (· ∈ M) W w4) (hsub : ∀ x ∈ blks P sv' R', x ∈ M ∨ W.heap.size ≤ x)
    (h4 : PS (newer X w W) w0 w4 P r K sv' R') (hv : LV w4 (free (blks P sv' R') (newer X w W)) v x0 x1 x2 x3)
    (hz : RB w4 b y0 y1 y2 y3) (hp : a.tmps.getD p undef = .pointer (some ⟨b, 0, none⟩)) (hu : a.tmps.getD u undef = .bool true) (hd : a.defers = []) :
    bodyPost Tryz.prog fn (OutPost (X := X) w0 w P M (.val v r K)) .ret a ((((w4.setCell ⟨b, 0, none⟩ x0).setCell ⟨b, 1, none⟩ x1).setCell ⟨b, 2, none⟩ x2).setCell ⟨b, 3, none⟩ x3) := by
  have hW := hWb.size
  have c5 := (Ch.of_gb (gb_set4 w4 b x0 x1 x2 x3)).mono (M' := (· = b)) (fun x _ e => by cases e; rfl)
  refine ret_val hres hp hu hd (hz.set4 _ _ _ _) ⟨((Ch.of_below (M := (· ∈ M)) hWb).trans c4 (fun x _ e => e)).trans c5 (fun x hx e => by subst e; omega), ?_⟩
  refine ⟨x0, x1, x2, x3, sv', R', rfl, (h4.other c5 (fun x e => by subst e; exact .inr ⟨hb0, hb1⟩) (fun x hx e => by subst e; omega)).leave, ?_, fun x hx => ?_⟩
  · exact LV.move (fun x hx hs => ⟨c5.block x hx (fun e => by subst e; exact hs.2 (.inr ⟨hb0, hb1⟩)), free_less hs⟩) v hv
  · rcases hsub x hx with e | e
    · exact .inl e
    · exact .inr (by omega)
end

set_option maxHeartbeats 2000000 in
theorem open_yes (o : Bool) (l r : List UInt8) (hl : l.length ≤ 500000) (P : Nat) (K : List Fr) (sv : Value) (R : List Value) (w0 w : World) (h : PS X w0 w P l K sv R) (ht : takeG (Fr.new o).mark l = some r) :
    Calls Tryz.prog 69 #[.pointer (some ⟨P, 0, none⟩), .int .i64 (kindOf o), .int .u8 (Fr.new o).mark.toNat] w (OutPost (X := X) w0 w P (blks P sv R) (openG o K l)) := by
  have CT : Hid (∀ wx, PB wx P (bs l) sv → Calls Tryz.prog 68 #[.pointer (some ⟨P, 0, none⟩), .int .u8 (Fr.new o).mark.toNat] wx fun e w' => e = .returned (.bool true) ∧ PB w' P (bs r) sv ∧ wx.grownBy w' (some P)) := fun wx hx => take_yes _ l r ht (by omega) P _ wx hx
  obtain ⟨W, hW⟩ : ∃ W, W = (w.alloc (.cells #[.int .i64 0, .string ⟨#[]⟩, .slice none 0 0, .slice none 0 0] 26)).alloc (.cells #[.int .i64 (kindOf o), .string ⟨#[]⟩, .slice none 0 0, .slice none 0 0] 26) := ⟨_, rfl⟩
  have hWb : Below w.heap.size w W := by rw [hW]; exact ((Below.refl _ _).alloc (Nat.le_refl _) _).alloc (by simp) _
  have HWZ : Hid (W.heap.size = w.heap.size + 2) := by show W.heap.size = _; rw [hW]; simp
  have HA : Hid (RB W w.heap.size (.int .i64 0) (.string ⟨#[]⟩) (.slice none 0 0) (.slice none 0 0)) := by
    show RB W _ _ _ _ _
    rw [hW]; exact RB.below (RB.new w) ((Below.refl _ _).alloc (Nat.le_refl _) _)
  have HB : Hid (RB W (w.heap.size + 1) (.int .i64 (kindOf o)) (.string ⟨#[]⟩) (.slice none 0 0) (.slice none 0 0)) := by
    show RB W _ _ _ _ _
    rw [hW, show w.heap.size + 1 = (w.alloc (.cells #[.int .i64 0, .string ⟨#[]⟩, .slice none 0 0, .slice none 0 0] 26)).heap.size by simp]; exact RB.new _
  have H := Lib.hid h
  have HOG : Hid (openG o K l = .val (Fr.new o).close r K) := by show openG o K l = _; unfold openG; rw [ht]
  have HW := Lib.hid (h.enter hWb)
  have HWB := Lib.hid hWb
  have HCN : Hid (∀ (w : World) (S : Nat → Prop), LV w S (Fr.new o).close (.int .i64 (kindOf o)) (.string ⟨#[]⟩) (.slice none 0 0) (.slice none 0 0)) := fun w S => close_new o
  generalize hm : ((Fr.new o).mark.toNat : Int) = mk at *
  generalize hkd : kindOf o = kd at *
  clear hm hkd ht h hWb
  go_enter Tryz.func69, Tryz.ntmps69
  go_wp2_with fail
  rw [← hW]
  clear hW
  have hwl : w.heap.size < W.heap.size := by have := HWZ.out; omega
  have hwn : w.heap.size ≠ P := by have := H.out.blk.lt; omega
  have hwn1 : w.heap.size + 1 ≠ P := by have := H.out.blk.lt; omega
  have HZ : Hid (∀ w4 : World, W.grownBy w4 (some P) → RB w4 w.heap.size (.int .i64 0) (.string ⟨#[]⟩) (.slice none 0 0) (.slice none 0 0) ∧ RB w4 (w.heap.size + 1) (.int .i64 kd) (.string ⟨#[]⟩) (.slice none 0 0) (.slice none 0 0)) :=
    fun w4 g => ⟨HA.out.gb g (by simpa using hwn), HB.out.gb g (by simpa using hwn1)⟩
  clear hwn hwn1
  go_wp2_with (go_at_call 68; (with_reducible refine (CT.out _ HW.out.blk).mono ?_); rintro e w4 ⟨rfl, hp4, hg4⟩; have HZ4 := Lib.hid (HZ.out w4 hg4); have H4 := Lib.hid (HW.out.text hg4 hp4); have HG4 := Lib.hid (HW.out.inP hg4); have z0 := RB.c0 HZ4.out.1; have z1 := RB.c1 HZ4.out.1; have z2 := RB.c2 HZ4.out.1; have z3 := RB.c3 HZ4.out.1; have f0 := RB.fr HZ4.out.1 0; have f1 := RB.fr HZ4.out.1 1; have f2 := RB.fr HZ4.out.1 2; have f3 := RB.fr HZ4.out.1 3; have y0 := RB.c0 HZ4.out.2; have y1 := RB.c1 HZ4.out.2; have y2 := RB.c2 HZ4.out.2; have y3 := RB.c3 HZ4.out.2; clear hp4 hg4)
  rw [HOG.out]
  exact val_end (p := 6) (u := 7) rfl HWB.out H.out.below.size (Nat.le_refl _) hwl HG4.out (fun x hx => .inl hx) H4.out (HCN.out _ _) HZ4.out.1 rfl rfl rfl

theorem open_any (o : Bool) (l : List UInt8) (hl : l.length ≤ 500000) (P : Nat) (K : List Fr) (hK : K.length ≤ 500000) (sv : Value) (R : List Value) (w0 w : World) (hT : Tab5 w0) (h : PS X w0 w P l K sv R) :
    Calls Tryz.prog 69 #[.pointer (some ⟨P, 0, none⟩), .int .i64 (kindOf o), .int .u8 (Fr.new o).mark.toNat] w (OutPost (X := X) w0 w P (blks P sv R) (openG o K l)) := by
  cases ht : takeG (Fr.new o).mark l with
  | none => exact open_no o l hl P K hK sv R w0 w hT h ht
  | some r => exact open_yes o l r hl P K sv R w0 w h ht
end Go.Proofs.YtaniebkfgkhgoaaGreatDoor

namespace Go.Proofs.YtaniebkfgkhgoaaGreatDoor
open Go.RowKit
set_option linter.unusedVariables false
set_option maxRecDepth 100000
variable {X : Nat → Prop}

/-- How a step ends, its answer's parts at hand. -/
def OutSt (w0 w : World) (P : Nat) (M : List Nat) (o : Out) (x0 x1 x2 x3 : Value) (b : Bool) (w' : World) : Prop :=
  Ch (· ∈ M) w w' ∧ match o with
    | .fail => b = false
    | .val v r K => b = true ∧ ∃ sv R, PS X w0 w' P r K sv R ∧ LV w' (free (blks P sv R) X) v x0 x1 x2 x3 ∧ ∀ b ∈ blks P sv R, b ∈ M ∨ w.heap.size ≤ b
    | .more r K => b = true ∧ (x0 = .int .i64 0 ∧ x1 = .string ⟨#[]⟩ ∧ x2 = .slice none 0 0 ∧ x3 = .slice none 0 0) ∧ ∃ sv R, PS X w0 w' P r K sv R ∧ ∀ b ∈ blks P sv R, b ∈ M ∨ w.heap.size ≤ b
theorem OutPost.form {w0 w w' : World} {P : Nat} {M : List Nat} {o : Out} {e : Ending} (h : OutPost (X := X) w0 w P M o e w') :
    ∃ (k : Int) (t : ByteArray) (a : Option Addr) (n c : Nat) (a2 : Option Addr) (n2 c2 : Nat) (b : Bool), e = .returned (.tuple #[.agg #[.int .i64 k, .string t, .slice a n c, .slice a2 n2 c2], .bool b]) ∧ OutSt (X := X) w0 w P M o (.int .i64 k) (.string t) (.slice a n c) (.slice a2 n2 c2) b w' := by
  obtain ⟨c, h⟩ := h
  cases o with
  | fail => obtain ⟨k, t, a, n, c0, a2, n2, c2, rfl⟩ := h; exact ⟨k, t, a, n, c0, a2, n2, c2, false, rfl, c, rfl⟩
  | val v r K =>
    obtain ⟨x0, x1, x2, x3, sv, R, rfl, h1, h2, h3⟩ := h
    obtain ⟨k, t, l, f⟩ := v
    have h2' := h2
    simp only [LV] at h2'
    obtain ⟨rfl, rfl, ⟨a, c0, rfl, _⟩, ⟨a2, c2, rfl, _⟩⟩ := h2'
    exact ⟨k, t, a, _, c0, a2, _, c2, true, rfl, c, rfl, sv, R, h1, h2, h3⟩
  | more r K => obtain ⟨sv, R, rfl, h1, h2⟩ := h; exact ⟨_, _, _, _, _, _, _, _, true, rfl, c, rfl, ⟨rfl, rfl, rfl, rfl⟩, sv, R, h1, h2⟩
theorem OutSt.post {w0 w w' : World} {P : Nat} {M : List Nat} {o : Out} {k : Int} {t : ByteArray} {a : Option Addr} {n c : Nat} {a2 : Option Addr} {n2 c2 : Nat} {b : Bool} (h : OutSt (X := X) w0 w P M o (.int .i64 k) (.string t) (.slice a n c) (.slice a2 n2 c2) b w') :
    OutPost (X := X) w0 w P M o (.returned (.tuple #[.agg #[.int .i64 k, .string t, .slice a n c, .slice a2 n2 c2], .bool b])) w' := by
  obtain ⟨c, h⟩ := h
  refine ⟨c, ?_⟩
  cases o with
  | fail => subst h; exact ⟨_, _, _, _, _, _, _, _, rfl⟩
  | val v r K => obtain ⟨rfl, sv, R, h1, h2, h3⟩ := h; exact ⟨_, _, _, _, sv, R, rfl, h1, h2, h3⟩
  | more r K => obtain ⟨rfl, ⟨e0, e1, e2, e3⟩, sv, R, h1, h2⟩ := h; exact ⟨sv, R, by rw [e0, e1, e2, e3], h1, h2⟩
/-- A step that was done by a callee, behind some changes, its answer laid in a block of one's own. -/
theorem OutSt.pass {w0 w W w1 w4 w5 : World} {P blk : Nat} {M : List Nat} {o : Out} {x0 x1 x2 x3 : Value} {b : Bool} (hWb : Below w.heap.size w W) (hw0 : w0.heap.size ≤ w.heap.size) (hb0 : w.heap.size ≤ blk) (hb1 : blk < W.heap.size)
    (c1 : Ch (· ∈ M) W w1) (hs : OutSt (X := newer X w W) w0 w1 P M o x0 x1 x2 x3 b w4) (c5 : Ch (· = blk) w4 w5) : OutSt (X := X) w0 w P M o x0 x1 x2 x3 b w5 := by
  have hW := hWb.size
  have hw1 := c1.size
  obtain ⟨c4, h⟩ := hs
  refine ⟨(((Ch.of_below (M := (· ∈ M)) hWb).trans c1 (fun x _ e => e)).trans c4 (fun x _ e => e)).trans c5 (fun x hx e => by subst e; omega), ?_⟩
  have ho : ∀ {r K sv R}, PS (newer X w W) w0 w4 P r K sv R → PS X w0 w5 P r K sv R := fun hp => (hp.other c5 (fun x e => by subst e; exact .inr ⟨hb0, hb1⟩) (fun x hx e => by subst e; omega)).leave
  have hm : ∀ {sv R}, (∀ b ∈ blks P sv R, b ∈ M ∨ w1.heap.size ≤ b) → ∀ b ∈ blks P sv R, b ∈ M ∨ w.heap.size ≤ b := fun hx b hb => by
    rcases hx b hb with e | e
    · exact .inl e
    · exact .inr (by omega)
  cases o with
  | fail => exact h
  | val v r K =>
    obtain ⟨rfl, sv, R, h1, h2, h3⟩ := h
    exact ⟨rfl, sv, R, ho h1, LV.move (fun x hx hs => ⟨c5.block x hx (fun e => by subst e; exact hs.2 (.inr ⟨hb0, hb1⟩)), free_less hs⟩) v h2, hm h3⟩
  | more r K =>
    obtain ⟨rfl, h0, sv, R, h1, h2⟩ := h
    exact ⟨rfl, h0, sv, R, ho h1, hm h2⟩
theorem pass_end {w0 w W w1 w4 : World} {P blk : Nat} {M : List Nat} {o : Out} {k : Int} {t : ByteArray} {aa : Option Addr} {n c : Nat} {a2 : Option Addr} {n2 c2 : Nat} {y0 y1 y2 y3 : Value} {bo : Bool} {fn : Func} {p u : Tmp} {a : Act} (hres : fn.results = #[.cell p 26, .tmp u]) (hWb : Below w.heap.size w W) (hw0 : w0.heap.size ≤ w.heap.size) (hb0 : w.heap.size ≤ blk) (hb1 : blk < W.heap.size)
    (c1 : Ch (· ∈ M) W w1) (hs : OutSt (X := newer X w W) w0 w1 P M o (.int .i64 k) (.string t) (.slice aa n c) (.slice a2 n2 c2) bo w4) (hz : RB w4 blk y0 y1 y2 y3) (hp : a.tmps.getD p undef = .pointer (some ⟨blk, 0, none⟩)) (hu : a.tmps.getD u undef = .bool bo) (hd : a.defers = []) :
    bodyPost Tryz.prog fn (OutPost (X := X) w0 w P M o) .ret a ((((w4.setCell ⟨blk, 0, none⟩ (.int .i64 k)).setCell ⟨blk, 1, none⟩ (.string t)).setCell ⟨blk, 2, none⟩ (.slice aa n c)).setCell ⟨blk, 3, none⟩ (.slice a2 n2 c2)) :=
  ret_val hres hp hu hd (hz.set4 _ _ _ _) (hs.pass hWb hw0 hb0 hb1 c1 ((Ch.of_gb (gb_set4 w4 blk _ _ _ _)).mono (fun x _ e => by cases e; rfl))).post

def singleOut (K : List Fr) (l : List UInt8) : Out := match singleG l with | some (v, r) => .val v r K | none => .fail
/-- What single answers is a step's end. -/
theorem SinglePost.st {w0 w w' : World} {P : Nat} {l : List UInt8} {K : List Fr} {sv : Value} {R : List Value} {e : Ending} (h : PS X w0 w P l K sv R) (hs : SinglePost l P sv w e w') :
    ∃ (k : Int) (t : ByteArray) (a : Option Addr) (n c : Nat) (a2 : Option Addr) (n2 c2 : Nat) (b : Bool), e = .returned (.tuple #[.agg #[.int .i64 k, .string t, .slice a n c, .slice a2 n2 c2], .bool b]) ∧ OutSt (X := X) w0 w P (blks P sv R) (singleOut K l) (.int .i64 k) (.string t) (.slice a n c) (.slice a2 n2 c2) b w' := by
  obtain ⟨⟨k, t, b, s', rfl, hp, hv⟩, hg⟩ := hs
  refine ⟨k, t, _, _, _, _, _, _, b, rfl, h.inP hg, ?_⟩
  unfold singleOut
  rcases hv with ⟨rfl, hn⟩ | ⟨rfl, r, rfl, hy⟩
  · rw [hn]
  · rw [hy]
    exact ⟨rfl, sv, R, h.text hg hp, ⟨rfl, rfl, ⟨none, 0, rfl, .inl rfl⟩, ⟨none, 0, rfl, .inl rfl⟩⟩, fun b hb => .inl hb⟩

set_option maxHeartbeats 4000000 in
theorem begin_any (l : List UInt8) (hl : l.length ≤ 500000) (P : Nat) (K : List Fr) (hK : K.length ≤ 500000) (sv : Value) (R : List Value) (w0 w : World) (hT : Tab5 w0) (h : PS X w0 w P l K sv R) :
    Calls Tryz.prog 43 #[.pointer (some ⟨P, 0, none⟩)] w (OutPost (X := X) w0 w P (blks P sv R) (beginG K l)) := by
  obtain ⟨W, hW⟩ : ∃ W, W = w.alloc (.cells #[.int .i64 0, .string ⟨#[]⟩, .slice none 0 0, .slice none 0 0] 26) := ⟨_, rfl⟩
  have hWb : Below w.heap.size w W := by rw [hW]; exact (Below.refl _ _).alloc (Nat.le_refl _) _
  have HWZ : Hid (W.heap.size = w.heap.size + 1) := by show W.heap.size = _; rw [hW]; simp
  have HA : Hid (RB W w.heap.size (.int .i64 0) (.string ⟨#[]⟩) (.slice none 0 0) (.slice none 0 0)) := by
    show RB W _ _ _ _ _
    rw [hW]; exact RB.new w
  have H := Lib.hid h
  have HW := Lib.hid (h.enter hWb)
  have HWB := Lib.hid hWb
  have hwl : w.heap.size < W.heap.size := by have := HWZ.out; omega
  have HNM : Hid (w.heap.size ∉ blks P sv R) := fun e => by have := (H.out.lt w.heap.size e).1; omega
  have HZ : Hid (∀ w4 : World, Ch (· ∈ blks P sv R) W w4 → RB w4 w.heap.size (.int .i64 0) (.string ⟨#[]⟩) (.slice none 0 0) (.slice none 0 0)) := fun w4 g => g.heap HA.out HNM.out
  clear h hWb
  cases h1 : takeG 91 l with
  | some r =>
    have CT : Hid (∀ wx, PB wx P (bs l) sv → Calls Tryz.prog 68 #[.pointer (some ⟨P, 0, none⟩), .int .u8 91] wx fun e w' => e = .returned (.bool true) ∧ PB w' P (bs r) sv ∧ wx.grownBy w' (some P)) := fun wx hx => take_yes 91 l r h1 (by omega) P _ wx hx
    have hrl : r.length ≤ 500000 := by
      unfold takeG at h1; split at h1
      · cases h1; exact Nat.le_trans (sk_len _) (by rw [List.length_drop]; omega)
      · cases h1
    have HOG : Hid (beginG K l = openG false K r) := by show beginG K l = _; unfold beginG; rw [h1]
    have CO : Hid (∀ w1, PS (newer X w W) w0 w1 P r K sv R → Calls Tryz.prog 69 #[.pointer (some ⟨P, 0, none⟩), .int .i64 6, .int .u8 93] w1 (OutPost (X := newer X w W) w0 w1 P (blks P sv R) (openG false K r))) := fun w1 hp => open_any false r hrl P K hK sv R w0 w1 hT hp
    clear h1 hT
    rw [HOG.out]
    go_enter Tryz.func43, Tryz.ntmps43
    go_wp2_with fail
    rw [← hW]
    clear hW
    go_wp2_with (first
      | (go_at_call 68; (with_reducible refine (CT.out _ HW.out.blk).mono ?_); rintro e w1 ⟨rfl, hp1, hg1⟩; have H1 := Lib.hid (HW.out.text hg1 hp1); have C1 := Lib.hid (HW.out.inP hg1); clear hp1 hg1)
      | (go_at_call 69; (with_reducible refine (CO.out _ H1.out).mono ?_); rintro e w4 h4; obtain ⟨k0, t0, a0, n0, c0, a2, n2, c2, bo, rfl, hs4⟩ := h4.form; have HS4 := Lib.hid hs4; have HZ4 := Lib.hid (HZ.out w4 (C1.out.trans HS4.out.1 (fun x _ e => e))); have z0 := RB.c0 HZ4.out; have z1 := RB.c1 HZ4.out; have z2 := RB.c2 HZ4.out; have z3 := RB.c3 HZ4.out; have f0 := RB.fr HZ4.out 0; have f1 := RB.fr HZ4.out 1; have f2 := RB.fr HZ4.out 2; have f3 := RB.fr HZ4.out 3; clear hs4 h4))
    exact pass_end (p := 2) (u := 3) rfl HWB.out H.out.below.size (Nat.le_refl _) hwl C1.out HS4.out HZ4.out rfl rfl rfl
  | none =>
    have CN1 : Hid (∀ wx, PB wx P (bs l) sv → Calls Tryz.prog 68 #[.pointer (some ⟨P, 0, none⟩), .int .u8 91] wx fun e w' => e = .returned (.bool false) ∧ wx = w') := fun wx hx => take_no 91 l h1 P _ wx hx
    cases h2 : takeG 123 l with
    | some r =>
      have CT : Hid (∀ wx, PB wx P (bs l) sv → Calls Tryz.prog 68 #[.pointer (some ⟨P, 0, none⟩), .int .u8 123] wx fun e w' => e = .returned (.bool true) ∧ PB w' P (bs r) sv ∧ wx.grownBy w' (some P)) := fun wx hx => take_yes 123 l r h2 (by omega) P _ wx hx
      have hrl : r.length ≤ 500000 := by
        unfold takeG at h2; split at h2
        · cases h2; exact Nat.le_trans (sk_len _) (by rw [List.length_drop]; omega)
        · cases h2
      have HOG : Hid (beginG K l = openG true K r) := by show beginG K l = _; unfold beginG; rw [h1, h2]
      have CO : Hid (∀ w1, PS (newer X w W) w0 w1 P r K sv R → Calls Tryz.prog 69 #[.pointer (some ⟨P, 0, none⟩), .int .i64 7, .int .u8 125] w1 (OutPost (X := newer X w W) w0 w1 P (blks P sv R) (openG true K r))) := fun w1 hp => open_any true r hrl P K hK sv R w0 w1 hT hp
      clear h1 h2 hT
      rw [HOG.out]
      go_enter Tryz.func43, Tryz.ntmps43
      go_wp2_with fail
      rw [← hW]
      clear hW
      go_wp2_with (first
        | (go_at_call_of 68 (91 : Int); (with_reducible refine (CN1.out _ HW.out.blk).mono ?_); rintro e w1 ⟨rfl, rfl⟩)
        | (go_at_call 68; (with_reducible refine (CT.out _ HW.out.blk).mono ?_); rintro e w1 ⟨rfl, hp1, hg1⟩; have H1 := Lib.hid (HW.out.text hg1 hp1); have C1 := Lib.hid (HW.out.inP hg1); clear hp1 hg1)
        | (go_at_call 69; (with_reducible refine (CO.out _ H1.out).mono ?_); rintro e w4 h4; obtain ⟨k0, t0, a0, n0, c0, a2, n2, c2, bo, rfl, hs4⟩ := h4.form; have HS4 := Lib.hid hs4; have HZ4 := Lib.hid (HZ.out w4 (C1.out.trans HS4.out.1 (fun x _ e => e))); have z0 := RB.c0 HZ4.out; have z1 := RB.c1 HZ4.out; have z2 := RB.c2 HZ4.out; have z3 := RB.c3 HZ4.out; have f0 := RB.fr HZ4.out 0; have f1 := RB.fr HZ4.out 1; have f2 := RB.fr HZ4.out 2; have f3 := RB.fr HZ4.out 3; clear hs4 h4))
      exact pass_end (p := 2) (u := 3) rfl HWB.out H.out.below.size (Nat.le_refl _) hwl C1.out HS4.out HZ4.out rfl rfl rfl
    | none =>
      have CN2 : Hid (∀ wx, PB wx P (bs l) sv → Calls Tryz.prog 68 #[.pointer (some ⟨P, 0, none⟩), .int .u8 123] wx fun e w' => e = .returned (.bool false) ∧ wx = w') := fun wx hx => take_no 123 l h2 P _ wx hx
      have HOG : Hid (beginG K l = singleOut K l) := by show beginG K l = _; unfold beginG singleOut; rw [h1, h2]; rfl
      have CO := Lib.hid (single_any l hl P sv w0 W hT HW.out.below HW.out.low HW.out.blk)
      have C1 : Hid (Ch (· ∈ blks P sv R) W W) := Ch.refl _ _
      clear h1 h2 hT
      rw [HOG.out]
      go_enter Tryz.func43, Tryz.ntmps43
      go_wp2_with fail
      rw [← hW]
      clear hW
      go_wp2_with (first
        | (go_at_call_of 68 (91 : Int); (with_reducible refine (CN1.out _ HW.out.blk).mono ?_); rintro e w1 ⟨rfl, rfl⟩)
        | (go_at_call 68; (with_reducible refine (CN2.out _ HW.out.blk).mono ?_); rintro e w1 ⟨rfl, rfl⟩)
        | (go_at_call 70; (with_reducible refine CO.out.mono ?_); rintro e w4 h4; obtain ⟨k0, t0, a0, n0, c0, a2, n2, c2, bo, rfl, hs4⟩ := SinglePost.st HW.out h4; have HS4 := Lib.hid hs4; have HZ4 := Lib.hid (HZ.out w4 (C1.out.trans HS4.out.1 (fun x _ e => e))); have z0 := RB.c0 HZ4.out; have z1 := RB.c1 HZ4.out; have z2 := RB.c2 HZ4.out; have z3 := RB.c3 HZ4.out; have f0 := RB.fr HZ4.out 0; have f1 := RB.fr HZ4.out 1; have f2 := RB.fr HZ4.out 2; have f3 := RB.fr HZ4.out 3; clear hs4 h4))
      exact pass_end (p := 2) (u := 3) rfl HWB.out H.out.below.size (Nat.le_refl _) hwl C1.out HS4.out HZ4.out rfl rfl rfl
end Go.Proofs.YtaniebkfgkhgoaaGreatDoor

namespace Go.Proofs.YtaniebkfgkhgoaaGreatDoor
open Go.RowKit
set_option linter.unusedVariables false
set_option maxRecDepth 100000
variable {X : Nat → Prop}

theorem info_val : (Tryz.prog.info? 26).map (fun i => (i.zero, i.size, i.bytes)) = some (some (.agg #[.int .i64 0, .string ⟨#[]⟩, .slice none 0 0, .slice none 0 0]), 4, 72) := by kernel_rfl
theorem info_fld : (Tryz.prog.info? 51).map (fun i => (i.zero, i.size, i.bytes)) = some (some (.agg #[.string ⟨#[]⟩, .int .i64 0, .string ⟨#[]⟩, .slice none 0 0, .slice none 0 0]), 5, 88) := by kernel_rfl

theorem own_shape {w : World} {base : Nat} {e : TypeId} {size : Nat} {v : Value} {n : Nat} {xs : List Value} (h : w.ownsRow base e size v n xs) : ∃ a c, v = .slice a n c := by
  rcases h.2 with ⟨rfl, rfl⟩ | ⟨g, cap, cur, rfl, _⟩
  · exact ⟨none, 0, rfl⟩
  · exact ⟨_, _, rfl⟩

theorem new_cell {w : World} {b gg cap n s : Nat} {e : TypeId} {cs zs : List Value} (h : w.ownsRow b e s (.slice (some ⟨gg, 0, none⟩) (n + 1) cap) (n + 1) (cs ++ zs)) (hc : cs.length = n * s) (j : Nat) (hj : j < s) (z : Value) (hz : zs[j]? = some z) : w.cell? ⟨gg, n * s + j, none⟩ = some z := by
  rw [h.cellAt (n * s + j) (by rw [Nat.add_mul]; omega), List.getElem?_append_right (by omega), hc, show n * s + j - n * s = j by omega, hz]
theorem cell_past {w : World} {g j gg : Nat} {z : Value} (h : w.cell? ⟨g, j, none⟩ = some z) (hn : g ≠ gg) (i : Nat) (x : Value) : (w.setCell ⟨gg, i, none⟩ x).cell? ⟨g, j, none⟩ = some z :=
  (World.cell?_setCell_other w ⟨gg, i, none⟩ ⟨g, j, none⟩ x (fun e => hn (by cases e; rfl))).trans h
theorem set_new {cs zs : List Value} {m : Nat} (hc : cs.length = m) (j : Nat) (u : Value) : (cs ++ zs).set (m + j) u = cs ++ zs.set j u := by
  rw [List.set_append_right _ _ (by omega), show m + j - cs.length = j by omega]
theorem stored4 {w : World} {b gg cap n : Nat} {e : TypeId} {cs : List Value} {z0 z1 z2 z3 : Value} (h : w.ownsRow b e 4 (.slice (some ⟨gg, 0, none⟩) (n + 1) cap) (n + 1) (cs ++ [z0, z1, z2, z3])) (hc : cs.length = n * 4) (x0 x1 x2 x3 : Value) :
    ((((w.setCell ⟨gg, n * 4, none⟩ x0).setCell ⟨gg, n * 4 + 1, none⟩ x1).setCell ⟨gg, n * 4 + 2, none⟩ x2).setCell ⟨gg, n * 4 + 3, none⟩ x3).ownsRow b e 4 (.slice (some ⟨gg, 0, none⟩) (n + 1) cap) (n + 1) (cs ++ [x0, x1, x2, x3]) ∧
      w.grownBy ((((w.setCell ⟨gg, n * 4, none⟩ x0).setCell ⟨gg, n * 4 + 1, none⟩ x1).setCell ⟨gg, n * 4 + 2, none⟩ x2).setCell ⟨gg, n * 4 + 3, none⟩ x3) (some gg) := by
  obtain ⟨h1, g1⟩ := h.stored (n * 4) x0
  obtain ⟨h2, g2⟩ := h1.stored (n * 4 + 1) x1
  obtain ⟨h3, g3⟩ := h2.stored (n * 4 + 2) x2
  obtain ⟨h4, g4⟩ := h3.stored (n * 4 + 3) x3
  refine ⟨?_, gb_trans (gb_trans (gb_trans g1 g2) g3) g4⟩
  have e0 := set_new (zs := [z0, z1, z2, z3]) hc 0 x0
  rw [Nat.add_zero] at e0
  rw [e0, set_new hc, set_new hc, set_new hc] at h4
  exact h4
theorem stored5 {w : World} {b gg cap n : Nat} {e : TypeId} {cs : List Value} {z0 z1 z2 z3 z4 : Value} (h : w.ownsRow b e 5 (.slice (some ⟨gg, 0, none⟩) (n + 1) cap) (n + 1) (cs ++ [z0, z1, z2, z3, z4])) (hc : cs.length = n * 5) (x0 x1 x2 x3 x4 : Value) :
    (((((w.setCell ⟨gg, n * 5, none⟩ x0).setCell ⟨gg, n * 5 + 1, none⟩ x1).setCell ⟨gg, n * 5 + 2, none⟩ x2).setCell ⟨gg, n * 5 + 3, none⟩ x3).setCell ⟨gg, n * 5 + 4, none⟩ x4).ownsRow b e 5 (.slice (some ⟨gg, 0, none⟩) (n + 1) cap) (n + 1) (cs ++ [x0, x1, x2, x3, x4]) ∧
      w.grownBy (((((w.setCell ⟨gg, n * 5, none⟩ x0).setCell ⟨gg, n * 5 + 1, none⟩ x1).setCell ⟨gg, n * 5 + 2, none⟩ x2).setCell ⟨gg, n * 5 + 3, none⟩ x3).setCell ⟨gg, n * 5 + 4, none⟩ x4) (some gg) := by
  obtain ⟨h1, g1⟩ := h.stored (n * 5) x0
  obtain ⟨h2, g2⟩ := h1.stored (n * 5 + 1) x1
  obtain ⟨h3, g3⟩ := h2.stored (n * 5 + 2) x2
  obtain ⟨h4, g4⟩ := h3.stored (n * 5 + 3) x3
  obtain ⟨h5, g5⟩ := h4.stored (n * 5 + 4) x4
  refine ⟨?_, gb_trans (gb_trans (gb_trans (gb_trans g1 g2) g3) g4) g5⟩
  have e0 := set_new (zs := [z0, z1, z2, z3, z4]) hc 0 x0
  rw [Nat.add_zero] at e0
  rw [e0, set_new hc, set_new hc, set_new hc, set_new hc] at h5
  exact h5

/-- A value has been put in the innermost unfinished one. -/
def AddedR (w0 W : World) (P : Nat) (l : List UInt8) (F : Fr) (v : JV) (K : List Fr) (sv rv : Value) (R : List Value) (wx : World) : Prop :=
  ∃ gg n cap, PS X w0 wx P l (F.add v :: K) sv (.slice (some ⟨gg, 0, none⟩) n cap :: R) ∧ Ch (· ∈ blks P sv (rv :: R)) W wx ∧ ∀ b ∈ blks P sv (.slice (some ⟨gg, 0, none⟩) n cap :: R), b ∈ blks P sv (rv :: R) ∨ W.heap.size ≤ b

theorem AddedR.of {w0 W wa w1 w2 : World} {P : Nat} {l : List UInt8} {F : Fr} {v : JV} {K : List Fr} {g nn cap n k gg cap' j : Nat} {rv : Value} {R' : List Value} {cs : List Value} {x0 x1 x2 x3 : Value}
    (h : PS X w0 W P l (F :: K) (.slice (some ⟨g, 0, none⟩) nn cap) (rv :: R')) (he : ElsIn W (free (blks P (.slice (some ⟨g, 0, none⟩) nn cap) (rv :: R')) X) F.obj F.els cs) (hv : LV W (free (blks P (.slice (some ⟨g, 0, none⟩) nn cap) (rv :: R')) X) v x0 x1 x2 x3)
    (hk : K.length = k) (hn : F.els.length = n) (ha : Below W.heap.size W wa) (hown : w2.ownsRow w0.heap.size (elT F.obj) (elN F.obj) (.slice (some ⟨gg, 0, none⟩) (n + 1) cap') (n + 1) (cs ++ elCells F x0 x1 x2 x3))
    (hg : wa.grownBy w1 rv.ownBlock) (hgg : rv.ownBlock = some gg ∨ gg = wa.heap.size) (hg2 : w1.grownBy w2 (some gg)) (hj : rowAt F = j) :
    AddedR (X := X) w0 W P l F v K (.slice (some ⟨g, 0, none⟩) nn cap) rv R' (w2.setCell ⟨g, k * 6 + j, none⟩ (.slice (some ⟨gg, 0, none⟩) (n + 1) cap')) := by
  subst hk; subst hn; subst hj
  exact ⟨gg, _, cap', h.added ha he hv rfl hown hg hgg hg2⟩
theorem AddedR.of4 {w0 W w1 : World} {P : Nat} {l : List UInt8} {F : Fr} {v : JV} {K : List Fr} {g nn cap n k gg cap' : Nat} {rv : Value} {R' : List Value} {cs : List Value} {x0 x1 x2 x3 z0 z1 z2 z3 : Value} {o : Obj} (hF : F.obj = false)
    (h : PS X w0 W P l (F :: K) (.slice (some ⟨g, 0, none⟩) nn cap) (rv :: R')) (he : ElsIn W (free (blks P (.slice (some ⟨g, 0, none⟩) nn cap) (rv :: R')) X) F.obj F.els cs) (hv : LV W (free (blks P (.slice (some ⟨g, 0, none⟩) nn cap) (rv :: R')) X) v x0 x1 x2 x3)
    (hk : K.length = k) (hn : F.els.length = n) (hc : cs.length = n * 4) (hown : w1.ownsRow w0.heap.size 26 4 (.slice (some ⟨gg, 0, none⟩) (n + 1) cap') (n + 1) (cs ++ [z0, z1, z2, z3]))
    (hg : ((W.alloc o).drew).grownBy w1 rv.ownBlock) (hgg : rv.ownBlock = some gg ∨ gg = W.heap.size + 1) :
    AddedR (X := X) w0 W P l F v K (.slice (some ⟨g, 0, none⟩) nn cap) rv R' (((((w1.setCell ⟨gg, n * 4, none⟩ x0).setCell ⟨gg, n * 4 + 1, none⟩ x1).setCell ⟨gg, n * 4 + 2, none⟩ x2).setCell ⟨gg, n * 4 + 3, none⟩ x3).setCell ⟨g, k * 6 + 2, none⟩ (.slice (some ⟨gg, 0, none⟩) (n + 1) cap')) := by
  have st := stored4 hown hc x0 x1 x2 x3
  refine AddedR.of h he hv hk hn ((Below.refl W.heap.size W).alloc (Nat.le_refl _) o).drew ?_ hg (by simpa using hgg) st.2 (by unfold rowAt; rw [hF]; rfl)
  have e : elCells F x0 x1 x2 x3 = [x0, x1, x2, x3] := by unfold elCells; rw [hF]; rfl
  rw [e, hF]
  exact st.1
theorem AddedR.of5 {w0 W w1 : World} {P : Nat} {l : List UInt8} {F : Fr} {v : JV} {K : List Fr} {g nn cap n k gg cap' : Nat} {rv : Value} {R' : List Value} {cs : List Value} {x0 x1 x2 x3 z0 z1 z2 z3 z4 : Value} {o : Obj} (hF : F.obj = true)
    (h : PS X w0 W P l (F :: K) (.slice (some ⟨g, 0, none⟩) nn cap) (rv :: R')) (he : ElsIn W (free (blks P (.slice (some ⟨g, 0, none⟩) nn cap) (rv :: R')) X) F.obj F.els cs) (hv : LV W (free (blks P (.slice (some ⟨g, 0, none⟩) nn cap) (rv :: R')) X) v x0 x1 x2 x3)
    (hk : K.length = k) (hn : F.els.length = n) (hc : cs.length = n * 5) (hown : w1.ownsRow w0.heap.size 51 5 (.slice (some ⟨gg, 0, none⟩) (n + 1) cap') (n + 1) (cs ++ [z0, z1, z2, z3, z4]))
    (hg : ((W.alloc o).drew).grownBy w1 rv.ownBlock) (hgg : rv.ownBlock = some gg ∨ gg = W.heap.size + 1) :
    AddedR (X := X) w0 W P l F v K (.slice (some ⟨g, 0, none⟩) nn cap) rv R' ((((((w1.setCell ⟨gg, n * 5, none⟩ (.string F.name)).setCell ⟨gg, n * 5 + 1, none⟩ x0).setCell ⟨gg, n * 5 + 2, none⟩ x1).setCell ⟨gg, n * 5 + 3, none⟩ x2).setCell ⟨gg, n * 5 + 4, none⟩ x3).setCell ⟨g, k * 6 + 3, none⟩ (.slice (some ⟨gg, 0, none⟩) (n + 1) cap')) := by
  have st := stored5 hown hc (.string F.name) x0 x1 x2 x3
  refine AddedR.of h he hv hk hn ((Below.refl W.heap.size W).alloc (Nat.le_refl _) o).drew ?_ hg (by simpa using hgg) st.2 (by unfold rowAt; rw [hF]; rfl)
  have e : elCells F x0 x1 x2 x3 = [.string F.name, x0, x1, x2, x3] := by unfold elCells; rw [hF]; rfl
  rw [e, hF]
  exact st.1
theorem set_swap (w : World) {g gg i j : Nat} {x y : Value} (hn : g ≠ gg) : (w.setCell ⟨g, i, none⟩ x).setCell ⟨gg, j, none⟩ y = (w.setCell ⟨gg, j, none⟩ y).setCell ⟨g, i, none⟩ x := by
  have : ∀ (h : Array Obj) (f f' : Obj → Obj), (h.modify g f).modify gg f' = (h.modify gg f').modify g f := fun h f f' => by
    apply Array.ext_getElem?
    intro k
    simp only [Array.getElem?_modify]
    by_cases e1 : gg = k
    · subst e1; rw [if_pos rfl, if_neg hn, if_pos rfl, if_neg hn]
    · rw [if_neg e1, if_neg e1]
  simp only [World.setCell, this]
theorem AddedR.of4b {w0 W w1 : World} {P : Nat} {l : List UInt8} {F : Fr} {v : JV} {K : List Fr} {g nn cap n k gg cap' : Nat} {rv : Value} {R' : List Value} {cs : List Value} {x0 x1 x2 x3 z0 z1 z2 z3 : Value} {o : Obj} (hne : g ≠ gg) (hF : F.obj = false)
    (h : PS X w0 W P l (F :: K) (.slice (some ⟨g, 0, none⟩) nn cap) (rv :: R')) (he : ElsIn W (free (blks P (.slice (some ⟨g, 0, none⟩) nn cap) (rv :: R')) X) F.obj F.els cs) (hv : LV W (free (blks P (.slice (some ⟨g, 0, none⟩) nn cap) (rv :: R')) X) v x0 x1 x2 x3)
    (hk : K.length = k) (hn : F.els.length = n) (hc : cs.length = n * 4) (hown : w1.ownsRow w0.heap.size 26 4 (.slice (some ⟨gg, 0, none⟩) (n + 1) cap') (n + 1) (cs ++ [z0, z1, z2, z3]))
    (hg : ((W.alloc o).drew).grownBy w1 rv.ownBlock) (hgg : rv.ownBlock = some gg ∨ gg = W.heap.size + 1) :
    AddedR (X := X) w0 W P l F v K (.slice (some ⟨g, 0, none⟩) nn cap) rv R' (((((w1.setCell ⟨g, k * 6 + 2, none⟩ (.slice (some ⟨gg, 0, none⟩) (n + 1) cap')).setCell ⟨gg, n * 4, none⟩ x0).setCell ⟨gg, n * 4 + 1, none⟩ x1).setCell ⟨gg, n * 4 + 2, none⟩ x2).setCell ⟨gg, n * 4 + 3, none⟩ x3) := by
  rw [set_swap _ hne, set_swap _ hne, set_swap _ hne, set_swap _ hne]
  exact AddedR.of4 hF h he hv hk hn hc hown hg hgg
theorem AddedR.of5b {w0 W w1 : World} {P : Nat} {l : List UInt8} {F : Fr} {v : JV} {K : List Fr} {g nn cap n k gg cap' : Nat} {rv : Value} {R' : List Value} {cs : List Value} {x0 x1 x2 x3 z0 z1 z2 z3 z4 : Value} {o : Obj} (hne : g ≠ gg) (hF : F.obj = true)
    (h : PS X w0 W P l (F :: K) (.slice (some ⟨g, 0, none⟩) nn cap) (rv :: R')) (he : ElsIn W (free (blks P (.slice (some ⟨g, 0, none⟩) nn cap) (rv :: R')) X) F.obj F.els cs) (hv : LV W (free (blks P (.slice (some ⟨g, 0, none⟩) nn cap) (rv :: R')) X) v x0 x1 x2 x3)
    (hk : K.length = k) (hn : F.els.length = n) (hc : cs.length = n * 5) (hown : w1.ownsRow w0.heap.size 51 5 (.slice (some ⟨gg, 0, none⟩) (n + 1) cap') (n + 1) (cs ++ [z0, z1, z2, z3, z4]))
    (hg : ((W.alloc o).drew).grownBy w1 rv.ownBlock) (hgg : rv.ownBlock = some gg ∨ gg = W.heap.size + 1) :
    AddedR (X := X) w0 W P l F v K (.slice (some ⟨g, 0, none⟩) nn cap) rv R' ((((((w1.setCell ⟨g, k * 6 + 3, none⟩ (.slice (some ⟨gg, 0, none⟩) (n + 1) cap')).setCell ⟨gg, n * 5, none⟩ (.string F.name)).setCell ⟨gg, n * 5 + 1, none⟩ x0).setCell ⟨gg, n * 5 + 2, none⟩ x1).setCell ⟨gg, n * 5 + 3, none⟩ x2).setCell ⟨gg, n * 5 + 4, none⟩ x3) := by
  rw [set_swap _ hne, set_swap _ hne, set_swap _ hne, set_swap _ hne, set_swap _ hne]
  exact AddedR.of5 hF h he hv hk hn hc hown hg hgg
/-- What the walk of put knows, ahead of the append. -/
theorem put_keep {w W : World} {l : List UInt8} {P : Nat} {F : Fr} {K : List Fr} {g n cap rn rc j : Nat} {ra : Option Addr} {R' : List Value} {w0 : World} {x0 x1 x2 x3 z : Value} (H : PS X w0 w P l (F :: K) (.slice (some ⟨g, 0, none⟩) n cap) (.slice ra rn rc :: R')) (HW : PS (newer X w W) w0 W P l (F :: K) (.slice (some ⟨g, 0, none⟩) n cap) (.slice ra rn rc :: R'))
    (HA : RB W w.heap.size x0 x1 x2 x3) (hgl : g < W.heap.size) (hf : W.frozen? ⟨g, j, none⟩ = false) (q2 : W.cell? ⟨g, j, none⟩ = some z) (o : Obj) (wz : World) (hg : ((W.alloc o).drew).grownBy wz (Value.slice ra rn rc).ownBlock) :
    wz.frozen? ⟨g, j, none⟩ = false ∧ wz.cell? ⟨g, j, none⟩ = some z ∧ RB wz w.heap.size x0 x1 x2 x3 := by
  have hne : some g ≠ (Value.slice ra rn rc).ownBlock := fun e => HW.apart.2.2 _ (by simp) g e.symm rfl
  have hb1 : ((W.alloc o).drew).heap[g]? = W.heap[g]? := Below.heap_alloc W o g hgl
  have hb2 : wz.heap[g]? = W.heap[g]? := (hg.block g (by simp; omega) hne).trans hb1
  refine ⟨(World.frozen?_of_block hb2).trans hf, (World.cell?_of_block (a := ⟨g, j, none⟩) hb2).trans q2, RB.gb (w := (W.alloc o).drew) (HA.below ((Below.refl _ _).alloc (Nat.le_refl _) o).drew) hg (fun e => ?_)⟩
  have := H.lt w.heap.size (by unfold blks; rw [List.flatMap_cons]; exact List.mem_cons_of_mem _ (List.mem_append_right _ (List.mem_append_left _ (mem_ownB.2 e.symm))))
  omega

theorem PS.cells {w0 w : World} {P : Nat} {l : List UInt8} {F : Fr} {K : List Fr} {g n cap k : Nat} {rv : Value} {R : List Value} (h : PS X w0 w P l (F :: K) (.slice (some ⟨g, 0, none⟩) n cap) (rv :: R)) (hk : K.length = k) (j : Nat) (u : Value) (hu : (frCells F rv)[j]? = some u) : w.cell? ⟨g, k * 6 + j, none⟩ = some u := by
  obtain ⟨g2, cap2, rv2, R2, e1, e2, _, _, _, _, hc2, _⟩ := h.top
  cases e1
  simp only [Value.slice.injEq, Option.some.injEq, Addr.mk.injEq, and_true] at e2
  obtain ⟨rfl, _, _⟩ := e2
  rw [← hk]; exact hc2 j u hu
theorem fr_shape (F : Fr) (a : Option Addr) (n c : Nat) : (∃ la ln lc, frList F (.slice a n c) = .slice la ln lc) ∧ ∃ fa fn fc, frFlds F (.slice a n c) = .slice fa fn fc := by
  obtain ⟨o, els, nm⟩ := F
  cases o
  · exact ⟨⟨a, n, c, rfl⟩, ⟨none, 0, 0, rfl⟩⟩
  · exact ⟨⟨none, 0, 0, rfl⟩, ⟨a, n, c, rfl⟩⟩
/-- The end of a step that answers a value, behind a new block. -/
theorem val_end2 {w0 w W w4 : World} {P : Nat} {r : List UInt8} {K : List Fr} {sv' : Value} {R' : List Value} {v : JV} {fn : Func} {p u : Tmp} {a : Act} {b : Nat} {M : List Nat} {o : Obj} {x0 x1 x2 x3 y0 y1 y2 y3 : Value} (hres : fn.results = #[.cell p 26, .tmp u]) (hWb : Below w.heap.size w W) (hw0 : w0.heap.size ≤ w.heap.size) (hb0 : w.heap.size ≤ b) (hb1 : b < W.heap.size)
    (c4 : Ch (· ∈ M) W w4) (hsub : ∀ x ∈ blks P sv' R', x ∈ M ∨ W.heap.size ≤ x)
    (h4 : PS (newer X w W) w0 w4 P r K sv' R') (hv : LV w4 (free (blks P sv' R') (newer X w W)) v x0 x1 x2 x3)
    (hz : RB w4 b y0 y1 y2 y3) (hp : a.tmps.getD p undef = .pointer (some ⟨b, 0, none⟩)) (hu : a.tmps.getD u undef = .bool true) (hd : a.defers = []) :
    bodyPost Tryz.prog fn (OutPost (X := X) w0 w P M (.val v r K)) .ret a (((((w4.setCell ⟨b, 0, none⟩ x0).setCell ⟨b, 1, none⟩ x1).setCell ⟨b, 2, none⟩ x2).setCell ⟨b, 3, none⟩ x3).alloc o) := by
  have hW := hWb.size
  have hb4 : b < w4.heap.size := hz.lt
  have c5 : Ch (· = b) w4 (((((w4.setCell ⟨b, 0, none⟩ x0).setCell ⟨b, 1, none⟩ x1).setCell ⟨b, 2, none⟩ x2).setCell ⟨b, 3, none⟩ x3).alloc o) :=
    ((Ch.of_gb (gb_set4 w4 b x0 x1 x2 x3)).mono (M' := (· = b)) (fun x _ e => by cases e; rfl)).trans (Ch.of_gb (gb_alloc _ o (some b))) (fun x _ e => by cases e; rfl)
  refine ret_val hres hp hu hd ((hz.set4 x0 x1 x2 x3).below ((Below.refl _ _).alloc (Nat.le_refl _) o)) ⟨((Ch.of_below (M := (· ∈ M)) hWb).trans c4 (fun x _ e => e)).trans c5 (fun x hx e => by subst e; omega), ?_⟩
  refine ⟨x0, x1, x2, x3, sv', R', rfl, (h4.other c5 (fun x e => by subst e; exact .inr ⟨hb0, hb1⟩) (fun x hx e => by subst e; omega)).leave, ?_, fun x hx => ?_⟩
  · exact LV.move (fun x hx hs => ⟨c5.block x hx (fun e => by subst e; exact hs.2 (.inr ⟨hb0, hb1⟩)), free_less hs⟩) v hv
  · rcases hsub x hx with e | e
    · exact .inl e
    · exact .inr (by omega)
theorem fail_end {w0 w W w4 : World} {P : Nat} {fn : Func} {p u : Tmp} {a : Act} {b : Nat} {M : List Nat} {y0 y1 y2 y3 : Value} (hres : fn.results = #[.cell p 26, .tmp u]) (hWb : Below w.heap.size w W) (hb0 : w.heap.size ≤ b)
    (c4 : Ch (· ∈ M) W w4) (hz : RB w4 b y0 y1 y2 y3) (hp : a.tmps.getD p undef = .pointer (some ⟨b, 0, none⟩)) (hu : a.tmps.getD u undef = .bool false) (hd : a.defers = []) :
    bodyPost Tryz.prog fn (OutPost (X := X) w0 w P M .fail) .ret a ((((w4.setCell ⟨b, 0, none⟩ (.int .i64 0)).setCell ⟨b, 1, none⟩ (.string ⟨#[]⟩)).setCell ⟨b, 2, none⟩ (.slice none 0 0)).setCell ⟨b, 3, none⟩ (.slice none 0 0)) := by
  have c5 := (Ch.of_gb (gb_set4 w4 b (.int .i64 0) (.string ⟨#[]⟩) (.slice none 0 0) (.slice none 0 0))).mono (M' := (· = b)) (fun x _ e => by cases e; rfl)
  exact ret_val hres hp hu hd (hz.set4 _ _ _ _) ⟨((Ch.of_below (M := (· ∈ M)) hWb).trans c4 (fun x _ e => e)).trans c5 (fun x hx e => by subst e; omega), _, _, _, _, _, _, _, _, rfl⟩
end Go.Proofs.YtaniebkfgkhgoaaGreatDoor

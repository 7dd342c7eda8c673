/- Layer 8: the table of inodes, and how it lies in memory. -/
import Derived.Test.YtagdhghjcibfbaaGreatInM
import Derived.Test.YtagdhghjcibfbaaGreatPaB
import Derived.Maps.OwnSet
namespace Go.Proofs.YtagdhghjcibfbaaGreat
open Go.RowKit
set_option linter.unusedVariables false
set_option maxRecDepth 100000

structure Nd where
  dir : Bool
  links : Int
  holds : Int
  data : List UInt8
  names : List (List UInt8 × Int)
structure Tb where
  quota : Int
  used : Int
  last : Int
  nodes : List (Int × Nd)

/-! ### All but what lies in M is as it was -/
structure Ch (M : Nat → Prop) (w w' : World) : Prop where
  os : w'.os = w.os
  tape : w'.tape = w.tape
  output : w'.output = w.output
  size : w.heap.size ≤ w'.heap.size
  block : ∀ k, k < w.heap.size → ¬ M k → w'.heap[k]? = w.heap[k]?
theorem Ch.refl (M : Nat → Prop) (w : World) : Ch M w w := ⟨rfl, rfl, rfl, Nat.le_refl _, fun _ _ _ => rfl⟩
theorem Ch.trans {M M' : Nat → Prop} {a b c : World} (h : Ch M a b) (k : Ch M' b c) (hM : ∀ x, x < a.heap.size → M' x → M x) : Ch M a c :=
  ⟨k.os.trans h.os, k.tape.trans h.tape, k.output.trans h.output, Nat.le_trans h.size k.size, fun x hx hn => (k.block x (Nat.lt_of_lt_of_le hx h.size) (fun e => hn (hM x hx e))).trans (h.block x hx hn)⟩
theorem Ch.of_gb {w w' : World} {r : Option Nat} (g : w.grownBy w' r) : Ch (fun k => some k = r) w w' := ⟨g.os, g.tape, g.output, g.size, fun k hk hn => g.block k hk hn⟩
theorem Ch.of_below {M : Nat → Prop} {w w' : World} (g : Below w.heap.size w w') : Ch M w w' := ⟨g.os, g.tape, g.output, g.size, fun k hk _ => g.block k hk⟩
theorem Ch.mono {M M' : Nat → Prop} {w w' : World} (h : Ch M w w') (hM : ∀ x, x < w.heap.size → M x → M' x) : Ch M' w w' := ⟨h.os, h.tape, h.output, h.size, fun k hk hn => h.block k hk (fun e => hn (hM k hk e))⟩
theorem Ch.heap {M : Nat → Prop} {w w' : World} (h : Ch M w w') {k : Nat} {o : Obj} (hk : w.heap[k]? = some o) (hn : ¬ M k) : w'.heap[k]? = some o := (h.block k (Array.getElem?_eq_some_iff.1 hk).1 hn).trans hk
theorem Ch.below {M : Nat → Prop} {B : Nat} {a w w' : World} (h : Ch M w w') (hb : Below B a w) (hB : B ≤ w.heap.size) (hM : ∀ x, x < B → ¬ M x) : Below B a w' :=
  ⟨h.os.trans hb.os, h.tape.trans hb.tape, h.output.trans hb.output, Nat.le_trans hb.size h.size, fun k hk => (h.block k (Nat.lt_of_lt_of_le hk hB) (hM k hk)).trans (hb.block k hk)⟩
theorem Ch.set {M : Nat → Prop} (w : World) (a : Addr) (v : Value) (h : M a.block) : Ch M w (w.setCell a v) :=
  ⟨rfl, rfl, rfl, by simp [World.setCell], fun k hk hn => Below.heap_setCell _ _ _ _ (fun e => hn (e ▸ h))⟩
theorem Ch.alloc {M : Nat → Prop} (w : World) (o : Obj) : Ch M w (w.alloc o) := ⟨rfl, rfl, rfl, by simp, fun k hk _ => Below.heap_alloc w o k hk⟩
theorem Ch.turned {M : Nat → Prop} {w w' : World} {b : Nat} (h : w.mapTurned w' b) (hb : M b) : Ch M w w' := (Ch.of_gb h.grown).mono (fun x _ e => by cases e; exact hb)

/-! ### The blocks -/
section
variable {w w' : World} {b : Nat} {x0 x1 x2 x3 x4 y : Value}
def NB (w : World) (b : Nat) (x0 x1 x2 x3 x4 : Value) : Prop := w.heap[b]? = some (.cells #[x0, x1, x2, x3, x4] 67 (0, 0))
def QB (w : World) (b : Nat) (x0 x1 x2 x3 : Value) : Prop := w.heap[b]? = some (.cells #[x0, x1, x2, x3] 59 (0, 0))
theorem NB.c0 (h : NB w b x0 x1 x2 x3 x4) : w.cell? ⟨b, 0, none⟩ = some x0 := by unfold NB at h; simp [World.cell?, h]
theorem NB.c1 (h : NB w b x0 x1 x2 x3 x4) : w.cell? ⟨b, 1, none⟩ = some x1 := by unfold NB at h; simp [World.cell?, h]
theorem NB.c2 (h : NB w b x0 x1 x2 x3 x4) : w.cell? ⟨b, 2, none⟩ = some x2 := by unfold NB at h; simp [World.cell?, h]
theorem NB.c3 (h : NB w b x0 x1 x2 x3 x4) : w.cell? ⟨b, 3, none⟩ = some x3 := by unfold NB at h; simp [World.cell?, h]
theorem NB.c4 (h : NB w b x0 x1 x2 x3 x4) : w.cell? ⟨b, 4, none⟩ = some x4 := by unfold NB at h; simp [World.cell?, h]
theorem NB.fr (h : NB w b x0 x1 x2 x3 x4) (i : Nat) : w.frozen? ⟨b, i, none⟩ = false := by unfold NB at h; simp [World.frozen?, h]
theorem NB.lt (h : NB w b x0 x1 x2 x3 x4) : b < w.heap.size := (Array.getElem?_eq_some_iff.1 h).1
theorem NB.ch {M : Nat → Prop} (h : NB w b x0 x1 x2 x3 x4) (g : Ch M w w') (hn : ¬ M b) : NB w' b x0 x1 x2 x3 x4 := g.heap h hn
theorem NB.new (w : World) : NB (w.alloc (.cells #[x0, x1, x2, x3, x4] 67)) w.heap.size x0 x1 x2 x3 x4 := (MapKept.heap_alloc w _).1
theorem NB.s1 (h : NB w b x0 x1 x2 x3 x4) : NB (w.setCell ⟨b, 1, none⟩ y) b x0 y x2 x3 x4 := by unfold NB at h ⊢; simp [World.setCell, Array.getElem?_modify, h]
theorem NB.s2 (h : NB w b x0 x1 x2 x3 x4) : NB (w.setCell ⟨b, 2, none⟩ y) b x0 x1 y x3 x4 := by unfold NB at h ⊢; simp [World.setCell, Array.getElem?_modify, h]
theorem NB.s3 (h : NB w b x0 x1 x2 x3 x4) : NB (w.setCell ⟨b, 3, none⟩ y) b x0 x1 x2 y x4 := by unfold NB at h ⊢; simp [World.setCell, Array.getElem?_modify, h]
theorem NB.s4 (h : NB w b x0 x1 x2 x3 x4) : NB (w.setCell ⟨b, 4, none⟩ y) b x0 x1 x2 x3 y := by unfold NB at h ⊢; simp [World.setCell, Array.getElem?_modify, h]
theorem QB.c0 (h : QB w b x0 x1 x2 x3) : w.cell? ⟨b, 0, none⟩ = some x0 := by unfold QB at h; simp [World.cell?, h]
theorem QB.c1 (h : QB w b x0 x1 x2 x3) : w.cell? ⟨b, 1, none⟩ = some x1 := by unfold QB at h; simp [World.cell?, h]
theorem QB.c2 (h : QB w b x0 x1 x2 x3) : w.cell? ⟨b, 2, none⟩ = some x2 := by unfold QB at h; simp [World.cell?, h]
theorem QB.c3 (h : QB w b x0 x1 x2 x3) : w.cell? ⟨b, 3, none⟩ = some x3 := by unfold QB at h; simp [World.cell?, h]
theorem QB.fr (h : QB w b x0 x1 x2 x3) (i : Nat) : w.frozen? ⟨b, i, none⟩ = false := by unfold QB at h; simp [World.frozen?, h]
theorem QB.lt (h : QB w b x0 x1 x2 x3) : b < w.heap.size := (Array.getElem?_eq_some_iff.1 h).1
theorem QB.ch {M : Nat → Prop} (h : QB w b x0 x1 x2 x3) (g : Ch M w w') (hn : ¬ M b) : QB w' b x0 x1 x2 x3 := g.heap h hn
theorem QB.new (w : World) : QB (w.alloc (.cells #[x0, x1, x2, x3] 59)) w.heap.size x0 x1 x2 x3 := (MapKept.heap_alloc w _).1
theorem QB.s0 (h : QB w b x0 x1 x2 x3) : QB (w.setCell ⟨b, 0, none⟩ y) b y x1 x2 x3 := by unfold QB at h ⊢; simp [World.setCell, Array.getElem?_modify, h]
theorem QB.s1 (h : QB w b x0 x1 x2 x3) : QB (w.setCell ⟨b, 1, none⟩ y) b x0 y x2 x3 := by unfold QB at h ⊢; simp [World.setCell, Array.getElem?_modify, h]
theorem QB.s2 (h : QB w b x0 x1 x2 x3) : QB (w.setCell ⟨b, 2, none⟩ y) b x0 x1 y x3 := by unfold QB at h ⊢; simp [World.setCell, Array.getElem?_modify, h]
end

/-! ### The maps -/
def ptrE : Value → Option (DataW Unit × List MemPlace)
  | .pointer (some ⟨b, 0, none⟩) => some (.lit (.int .i64 b), [])
  | .pointer none => some (.lit (.int .i64 (-1)), [])
  | _ => none
abbrev ptrB (b : Nat) : Value := .pointer (some ⟨b, 0, none⟩)
theorem ptrE_mk (b : Nat) : ptrE (ptrB b) = some (.lit (.int .i64 b), []) := rfl
theorem ptrE_inv {v : Value} {z : Int} {ps : List MemPlace} (h : ptrE v = some (.lit (.int .i64 z), ps)) : (z = -1 ∧ v = .pointer none) ∨ ∃ b : Nat, z = b ∧ v = ptrB b := by
  unfold ptrE at h
  split at h
  · cases h; exact .inr ⟨_, rfl, rfl⟩
  · cases h; exact .inl ⟨rfl, rfl⟩
  · cases h
def InI (x : Int) : Prop := -9223372036854775808 ≤ x ∧ x ≤ 9223372036854775807
theorem wfI {x : Int} (h : InI x) : (Lit.int .i64 x).wf = true := WalkArith.wf_i64 (by unfold InI at h; omega)
theorem keyed_I : Maps.Keyed Tryz.prog 3 := Maps.int_keyed Tryz.underlying3
theorem keyed_S : Maps.Keyed Tryz.prog 9 := Maps.string_keyed Tryz.underlying9
def MapI (w : World) (mb : Nat) (l : List (Int × Int)) : Prop := w.ownsMap (H := Unit) Tryz.prog 3 ptrE mb l.length (mapD klI l)
def MapS (w : World) (kb : Nat) (l : List (List UInt8 × Int)) : Prop := w.ownsMap (H := Unit) Tryz.prog 9 (plainElem Tryz.prog 3) kb l.length (mapD klS l)
theorem tight {P : Program} {k : TypeId} {R : Value → Option (DataW Unit × List MemPlace)} {w : World} {b n : Nat} {D : DataW Unit} (h : w.ownsMap P k R b n D) : w.ownsMap P k R b (Maps.size D) D := by
  obtain ⟨es, clock, hb, F, _, rfl⟩ := h
  refine ⟨es, clock, hb, F, ?_, rfl⟩
  simp [Maps.size, length_sorted]
theorem map_ch {P : Program} {k : TypeId} {R : Value → Option (DataW Unit × List MemPlace)} {M : Nat → Prop} {w w' : World} {b n : Nat} {D : DataW Unit} (h : w.ownsMap P k R b n D) (g : Ch M w w') (hn : ¬ M b) : w'.ownsMap P k R b n D := by
  obtain ⟨es, clock, hb, r⟩ := h
  exact ⟨es, clock, g.heap hb hn, r⟩
theorem map_nb {P : Program} {k : TypeId} {R : Value → Option (DataW Unit × List MemPlace)} {w : World} {b n : Nat} {D : DataW Unit} (h : w.ownsMap P k R b n D) {cs : Array Value} {ty : TypeId} {fr : Nat × Nat} {b' : Nat} (hc : w.heap[b']? = some (.cells cs ty fr)) : b' ≠ b := by
  obtain ⟨es, clock, hb, r⟩ := h
  intro e; subst e; rw [hb] at hc; cases hc
theorem nb_qb {w : World} {b b' : Nat} {x0 x1 x2 x3 x4 y0 y1 y2 y3 : Value} (h : NB w b x0 x1 x2 x3 x4) (k : QB w b' y0 y1 y2 y3) : b ≠ b' := by
  intro e; subst e
  unfold NB at h; unfold QB at k
  rw [h] at k; cases k

theorem keyI {x : Int} (h : InI x) : keyOf Tryz.prog 3 (.int .i64 x) = some (klI x) := Maps.keyOf_int_mk Tryz.underlying3 (wfI h)
theorem keyS {s : List UInt8} (h : s.length ≤ maxLen) : keyOf Tryz.prog 9 (.string (bs s)) = some (klS s) := by
  have hu : Tryz.prog.underlying 9 = some .string := Tryz.underlying9
  unfold keyOf mapKey
  rw [hu]
  simp only
  rw [if_pos (by rw [bs_size]; exact h)]
  rfl
theorem MapI.look {w : World} {mb : Nat} {l : List (Int × Int)} (h : MapI w mb l) {id : Int} (hid : InI id) (hl : ∀ p ∈ l, 0 ≤ p.2) :
    (Instr.lookup 57 (.map (some mb)) (.int .i64 id) false).run Tryz.prog w = .ok (match aget id l with | some b => ptrB b.toNat | none => .pointer none) w := by
  obtain ⟨v, ps, hrun, hv⟩ := World.ownsMap.lookup (zd := .lit (.int .i64 (-1))) (zp := []) h keyed_I Tryz.underlying57 (Tryz.zeroValue64 w) rfl (keyI hid)
  rw [mapD_at kl_I] at hv
  rw [hrun]
  cases hg : aget id l with
  | none =>
    rw [hg] at hv
    rcases ptrE_inv hv with ⟨_, rfl⟩ | ⟨b, hb, _⟩
    · rfl
    · omega
  | some z =>
    rw [hg] at hv
    have := hl _ (aget_mem hg)
    rcases ptrE_inv hv with ⟨hb, _⟩ | ⟨b, rfl, rfl⟩
    · simp only at this; omega
    · rfl
theorem plainI_inv {v : Value} {z : Int} {ps : List MemPlace} (h : plainElem (H := Unit) Tryz.prog 3 v = some (.lit (.int .i64 z), ps)) : v = .int .i64 z := by
  obtain ⟨a, rfl, he, hw⟩ := plainElem_int_inv Tryz.underlying3 h
  cases he
  rfl
theorem MapS.look {w : World} {kb : Nat} {l : List (List UInt8 × Int)} (h : MapS w kb l) {s : List UInt8} (hs : s.length ≤ maxLen) :
    (Instr.lookup 65 (.map (some kb)) (.string (bs s)) true).run Tryz.prog w = .ok (.tuple #[.int .i64 ((aget s l).getD 0), .bool (aget s l).isSome]) w := by
  obtain ⟨v, ps, hrun, hv⟩ := World.ownsMap.look_ok (zd := .lit (.int .i64 0)) (zp := []) h keyed_S Tryz.underlying65 (Tryz.zeroValue3 w) (plainElem_int Tryz.underlying3 (by decide)) (keyS hs)
  rw [mapD_at kl_S] at hv
  rw [hrun, mapD_has kl_S]
  cases hg : aget s l with
  | none =>
    rw [hg] at hv
    rw [plainI_inv hv]; rfl
  | some z =>
    rw [hg] at hv
    rw [plainI_inv hv]; rfl
theorem MapI.len {w : World} {mb : Nat} {l : List (Int × Int)} (h : MapI w mb l) (ty : TypeId) : (Builtin.len_ #[57] ty #[.map (some mb)]).run Tryz.prog w = .ok (.int .i64 l.length) w := by
  rw [World.ownsMap.len h Tryz.underlying57 ty, mapD_size]
theorem MapS.len {w : World} {kb : Nat} {l : List (List UInt8 × Int)} (h : MapS w kb l) (ty : TypeId) : (Builtin.len_ #[65] ty #[.map (some kb)]).run Tryz.prog w = .ok (.int .i64 l.length) w := by
  rw [World.ownsMap.len h Tryz.underlying65 ty, mapD_size]
theorem MapI.put {w : World} {mb : Nat} {l : List (Int × Int)} (h : MapI w mb l) (hl : l.length < maxLen) {id : Int} (hid : InI id) (b : Nat) :
    ∃ w', (Instr.mapUpdate 57 (.map (some mb)) (.int .i64 id) (ptrB b)).run Tryz.prog w = .ok () w' ∧ MapI w' mb (aput ltI id b l) ∧ w.mapTurned w' mb := by
  obtain ⟨w', hrun, ho, ht⟩ := World.ownsMap.store h keyed_I Tryz.underlying57 hl (keyI hid) (ptrE_mk b)
  refine ⟨w', hrun, ?_, ht⟩
  rw [mapD_put kl_I] at ho
  have := tight ho
  rw [mapD_size] at this
  exact this
theorem MapI.del {w : World} {mb : Nat} {l : List (Int × Int)} (h : MapI w mb l) {id : Int} (hid : InI id) (ty : TypeId) :
    ∃ w', (Builtin.delete_ #[57, 3] ty #[.map (some mb), .int .i64 id]).run Tryz.prog w = .ok (.tuple #[]) w' ∧ MapI w' mb (adel id l) ∧ w.mapTurned w' mb := by
  obtain ⟨w', hrun, ho, ht⟩ := World.ownsMap.drop h keyed_I Tryz.underlying57 (keyI hid) ty
  refine ⟨w', hrun, ?_, ht⟩
  rw [mapD_del kl_I] at ho
  have := tight ho
  rw [mapD_size] at this
  exact this
theorem MapS.put {w : World} {kb : Nat} {l : List (List UInt8 × Int)} (h : MapS w kb l) (hl : l.length < maxLen) {s : List UInt8} (hs : s.length ≤ maxLen) {v : Int} (hv : InI v) :
    ∃ w', (Instr.mapUpdate 65 (.map (some kb)) (.string (bs s)) (.int .i64 v)).run Tryz.prog w = .ok () w' ∧ MapS w' kb (aput bytesBefore s v l) ∧ w.mapTurned w' kb := by
  obtain ⟨w', hrun, ho, ht⟩ := World.ownsMap.store h keyed_S Tryz.underlying65 hl (keyS hs) (plainElem_int Tryz.underlying3 (wfI hv))
  refine ⟨w', hrun, ?_, ht⟩
  rw [mapD_put kl_S] at ho
  have := tight ho
  rw [mapD_size] at this
  exact this
theorem MapS.del {w : World} {kb : Nat} {l : List (List UInt8 × Int)} (h : MapS w kb l) {s : List UInt8} (hs : s.length ≤ maxLen) (ty : TypeId) :
    ∃ w', (Builtin.delete_ #[65, 9] ty #[.map (some kb), .string (bs s)]).run Tryz.prog w = .ok (.tuple #[]) w' ∧ MapS w' kb (adel s l) ∧ w.mapTurned w' kb := by
  obtain ⟨w', hrun, ho, ht⟩ := World.ownsMap.drop h keyed_S Tryz.underlying65 (keyS hs) ty
  refine ⟨w', hrun, ?_, ht⟩
  rw [mapD_del kl_S] at ho
  have := tight ho
  rw [mapD_size] at this
  exact this
theorem MapI.made (w : World) : MapI (w.alloc (.map #[] 0)) w.heap.size [] := World.ownsMap_made w _ _ _
theorem MapS.made (w : World) : MapS (w.alloc (.map #[] 0)) w.heap.size [] := World.ownsMap_made w _ _ _

/-! ### The table -/
def nodePairs (A : Int → Nat × Nat) (l : List (Int × Nd)) : List (Int × Int) := l.map fun p => (p.1, ((A p.1).1 : Int))
structure TbAt (w : World) (t : Nat) (T : Tb) (A : Int → Nat × Nat) (mb : Nat) : Prop where
  tb : QB w t (.int .i64 T.quota) (.int .i64 T.used) (.int .i64 T.last) (.map (some mb))
  mp : MapI w mb (nodePairs A T.nodes)
  nd : ∀ id n, aget id T.nodes = some n → NB w (A id).1 (.bool n.dir) (.int .i64 n.links) (.int .i64 n.holds) (.string (bs n.data)) (.map (if n.dir then some (A id).2 else none))
  nm : ∀ id n, aget id T.nodes = some n → n.dir = true → MapS w (A id).2 n.names
  sep1 : ∀ id id' n n', aget id T.nodes = some n → aget id' T.nodes = some n' → id ≠ id' → (A id).1 ≠ (A id').1
  sep2 : ∀ id id' n n', aget id T.nodes = some n → aget id' T.nodes = some n' → n.dir = true → n'.dir = true → id ≠ id' → (A id).2 ≠ (A id').2
  sep3 : ∀ id n, aget id T.nodes = some n → n.dir = true → (A id).2 ≠ mb
theorem aget_pairs (A : Int → Nat × Nat) (id : Int) : ∀ l : List (Int × Nd), aget id (nodePairs A l) = (aget id l).map fun _ => ((A id).1 : Int)
  | [] => rfl
  | y :: r => by
    show (if y.1 = id then some ((A y.1).1 : Int) else aget id (nodePairs A r)) = Option.map _ (if y.1 = id then some y.2 else aget id r)
    rw [aget_pairs A id r]
    by_cases h : y.1 = id
    · rw [if_pos h, if_pos h, h]; rfl
    · rw [if_neg h, if_neg h]
def nodeP (T : Tb) (A : Int → Nat × Nat) (id : Int) : Value := match aget id T.nodes with | some _ => ptrB (A id).1 | none => .pointer none
theorem TbAt.look {w : World} {t : Nat} {T : Tb} {A : Int → Nat × Nat} {mb : Nat} (h : TbAt w t T A mb) {id : Int} (hid : InI id) :
    (Instr.lookup 57 (.map (some mb)) (.int .i64 id) false).run Tryz.prog w = .ok (nodeP T A id) w := by
  rw [h.mp.look hid (fun p hp => by unfold nodePairs at hp; rw [List.mem_map] at hp; obtain ⟨q, _, rfl⟩ := hp; exact Int.natCast_nonneg _), aget_pairs]
  unfold nodeP
  cases aget id T.nodes <;> rfl
/-- The blocks of a table. -/
def Own (t mb : Nat) (A : Int → Nat × Nat) (l : List (Int × Nd)) (k : Nat) : Prop := k = t ∨ k = mb ∨ ∃ id n, aget id l = some n ∧ (k = (A id).1 ∨ (n.dir = true ∧ k = (A id).2))
/-- A table lies at t, in the blocks S. -/
def Tab (w : World) (t : Nat) (T : Tb) (S : Nat → Prop) : Prop := ∃ A mb, TbAt w t T A mb ∧ ∀ k, Own t mb A T.nodes k → S k
theorem TbAt.ch {w w' : World} {t : Nat} {T : Tb} {A : Int → Nat × Nat} {mb : Nat} (h : TbAt w t T A mb) {M : Nat → Prop} (g : Ch M w w') (hM : ∀ k, Own t mb A T.nodes k → ¬ M k) : TbAt w' t T A mb :=
  ⟨h.tb.ch g (hM _ (.inl rfl)), map_ch h.mp g (hM _ (.inr (.inl rfl))), fun id n hn => (h.nd id n hn).ch g (hM _ (.inr (.inr ⟨id, n, hn, .inl rfl⟩))),
    fun id n hn hd => map_ch (h.nm id n hn hd) g (hM _ (.inr (.inr ⟨id, n, hn, .inr ⟨hd, rfl⟩⟩))), h.sep1, h.sep2, h.sep3⟩
theorem Tab.ch {w w' : World} {t : Nat} {T : Tb} {S M : Nat → Prop} (h : Tab w t T S) (g : Ch M w w') (hM : ∀ k, S k → ¬ M k) : Tab w' t T S := by
  obtain ⟨A, mb, h1, h2⟩ := h
  exact ⟨A, mb, h1.ch g (fun k hk => hM k (h2 k hk)), h2⟩
theorem Tab.mono {w : World} {t : Nat} {T : Tb} {S S' : Nat → Prop} (h : Tab w t T S) (hS : ∀ k, S k → S' k) : Tab w t T S' := by
  obtain ⟨A, mb, h1, h2⟩ := h
  exact ⟨A, mb, h1, fun k hk => hS k (h2 k hk)⟩
/-- Blocks that are new between two worlds. -/
def New (w w' : World) (k : Nat) : Prop := w.heap.size ≤ k ∧ k < w'.heap.size
end Go.Proofs.YtagdhghjcibfbaaGreat

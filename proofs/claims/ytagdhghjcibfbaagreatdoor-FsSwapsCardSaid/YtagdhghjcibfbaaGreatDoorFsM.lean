/- Layer 9: a file system as a table and rows of handles; what an operation leaves and answers. -/
import Derived.Test.YtagdhghjcibfbaaGreatDoorInDp
import Derived.Test.YtagdhghjcibfbaaGreatDoorPaJ
import Derived.Maps.OwnSet
namespace Go.Proofs.YtagdhghjcibfbaaGreatDoor
open Go.RowKit
set_option linter.unusedVariables false
set_option linter.unusedSectionVars false
set_option maxRecDepth 100000

/-! ### Maps whose elements are read by a function -/
section
variable {α β : Type} [DecidableEq α] {lt : α → α → Bool} {kl : α → Lit} {f : β → DataW Unit}
def mapG (kl : α → Lit) (f : β → DataW Unit) (l : List (α × β)) : DataW Unit := .map (l.map fun p => (kl p.1, f p.2))
theorem mapG_size (l : List (α × β)) : Maps.size (mapG kl f l) = l.length := by
  show (l.map _).length = _
  rw [List.length_map]
variable (K : KL lt kl)
include K
theorem mapG_ins (x : α × β) : ∀ l : List (α × β), DataW.insert (kl x.1, f x.2) (l.map fun p => (kl p.1, f p.2)) = (ains lt x l).map fun p => (kl p.1, f p.2)
  | [] => rfl
  | y :: r => by
    rw [List.map_cons]
    unfold DataW.insert ains
    rw [K.bef]
    split
    · rfl
    · rw [List.map_cons, mapG_ins x r]
theorem mapG_flt (k : α) (l : List (α × β)) : ((l.map fun p => (kl p.1, f p.2)).filter fun p => !p.1.sameKey (kl k)) = (adel k l).map fun p => (kl p.1, f p.2) := by
  unfold adel
  rw [List.filter_map]
  congr 1
  refine List.filter_congr fun p _ => ?_
  show (!(kl p.1).sameKey (kl k)) = _
  rw [K.same]
theorem mapG_put (k : α) (v : β) (l : List (α × β)) : (mapG kl f l).put (kl k) (f v) = mapG kl f (aput lt k v l) := by
  show DataW.map (DataW.insert _ _) = _
  rw [mapG_flt K, mapG_ins K (k, v)]; rfl
theorem mapG_del (k : α) (l : List (α × β)) : (mapG kl f l).del (kl k) = mapG kl f (adel k l) := by
  show DataW.map _ = _
  rw [mapG_flt K]; rfl
theorem mapG_at (k : α) (z : DataW Unit) : ∀ l : List (α × β), (mapG kl f l).atKey (kl k) z = match aget k l with | some v => f v | none => z
  | [] => rfl
  | y :: r => by
    have ih := mapG_at k z r
    unfold DataW.atKey mapG at ih ⊢
    simp only [List.map_cons, List.find?_cons, K.same]
    simp only at ih
    by_cases e : y.1 = k
    · simp [aget, e]
    · simp only [aget, if_neg e, decide_eq_false e]; exact ih
end

/-! ### Rows of handles -/
def z8 : List Int := [0, 0, 0, 0, 0, 0, 0, 0]
def hndV (z : List Int) : Value := .agg (z.map fun x => Value.int .i64 x).toArray
theorem hndV_inj {a b : List Int} (h : hndV a = hndV b) : a = b := by
  unfold hndV at h
  injection h with h
  have h2 : a.map (fun x => Value.int .i64 x) = b.map (fun x => Value.int .i64 x) := by simpa using congrArg Array.toList h
  exact (List.map_inj_right (fun x y e => by injection e)).1 h2
def hndD (z : List Int) : DataW Unit := .agg (z.map fun x => .lit (.int .i64 x))
theorem hndD_inj {a b : List Int} (h : hndD a = hndD b) : a = b := by
  unfold hndD at h
  injection h with h
  exact (List.map_inj_right (fun x y e => by injection e with e; injection e)).1 h
open Classical in
noncomputable def hndE (v : Value) : Option (DataW Unit × List MemPlace) := if h : ∃ z, v = hndV z then some (hndD h.choose, []) else none
theorem hndE_mk (z : List Int) : hndE (hndV z) = some (hndD z, []) := by
  have h : ∃ z', hndV z = hndV z' := ⟨z, rfl⟩
  unfold hndE
  rw [dif_pos h, ← hndV_inj h.choose_spec]
theorem hndE_inv {v : Value} {z : List Int} {ps : List MemPlace} (h : hndE v = some (hndD z, ps)) : v = hndV z := by
  unfold hndE at h
  split at h
  · next hh =>
    injection h with h
    have h1 := congrArg Prod.fst h
    rw [← hndD_inj h1]; exact hh.choose_spec
  · cases h
def MapH (w : World) (hb : Nat) (l : List (Int × List Int)) : Prop := w.ownsMap (H := Unit) Tryz.prog 3 hndE hb l.length (mapG klI hndD l)
theorem zeroH (w : World) : (zeroValue 69).run Tryz.prog w = .ok (hndV z8) w := Tryz.zeroValue69 w
theorem MapH.look {w : World} {hb : Nat} {l : List (Int × List Int)} (h : MapH w hb l) {o : Int} (ho : InI o) :
    (Instr.lookup 42 (.map (some hb)) (.int .i64 o) false).run Tryz.prog w = .ok (hndV ((aget o l).getD z8)) w := by
  obtain ⟨v, ps, hrun, hv⟩ := World.ownsMap.lookup (zd := hndD z8) (zp := []) h keyed_I Tryz.underlying42 (zeroH w) (hndE_mk z8) (keyI ho)
  rw [mapG_at kl_I] at hv
  rw [hrun]
  cases hg : aget o l with
  | none => rw [hg] at hv; rw [hndE_inv hv]; rfl
  | some z => rw [hg] at hv; rw [hndE_inv hv]; rfl
theorem MapH.put {w : World} {hb : Nat} {l : List (Int × List Int)} (h : MapH w hb l) (hl : l.length < maxLen) {o : Int} (ho : InI o) (z : List Int) :
    ∃ w', (Instr.mapUpdate 42 (.map (some hb)) (.int .i64 o) (hndV z)).run Tryz.prog w = .ok () w' ∧ MapH w' hb (aput ltI o z l) ∧ w.mapTurned w' hb := by
  obtain ⟨w', hrun, ho, ht⟩ := World.ownsMap.store h keyed_I Tryz.underlying42 hl (keyI ho) (hndE_mk z)
  refine ⟨w', hrun, ?_, ht⟩
  rw [mapG_put kl_I] at ho
  have := tight ho
  rw [mapG_size] at this
  exact this
theorem MapH.del {w : World} {hb : Nat} {l : List (Int × List Int)} (h : MapH w hb l) {o : Int} (ho : InI o) (ty : TypeId) :
    ∃ w', (Builtin.delete_ #[42, 3] ty #[.map (some hb), .int .i64 o]).run Tryz.prog w = .ok (.tuple #[]) w' ∧ MapH w' hb (adel o l) ∧ w.mapTurned w' hb := by
  obtain ⟨w', hrun, ho, ht⟩ := World.ownsMap.drop h keyed_I Tryz.underlying42 (keyI ho) ty
  refine ⟨w', hrun, ?_, ht⟩
  rw [mapG_del kl_I] at ho
  have := tight ho
  rw [mapG_size] at this
  exact this
theorem MapH.made (w : World) : MapH (w.alloc (.map #[] 0)) w.heap.size [] := World.ownsMap_made w _ _ _

/-! ### Operations -/
structure OpT where
  kind : Int
  path : List UInt8
  dst : List UInt8
  h : Int
  at_ : Int
  n : Int
  data : List UInt8
  pid : Int
  birth : Int
structure ResT where
  err : Int
  n : Int
  data : List UInt8
  names : List (List UInt8)
structure Fs where
  T : Tb
  H : List (Int × List Int)
def errR (e : Int) : ResT := ⟨e, 0, [], []⟩
def aMake (d : Int) (s : List UInt8) (b : Bool) : AcT := ⟨1, 0, d, 0, 0, s, [], b⟩
def aLink (i d : Int) (s : List UInt8) : AcT := ⟨3, i, d, 0, 0, s, [], false⟩
def aUnlink (d : Int) (s : List UInt8) : AcT := ⟨4, 0, d, 0, 0, s, [], false⟩
def aRemove (d : Int) (s : List UInt8) : AcT := ⟨5, 0, d, 0, 0, s, [], false⟩
def aRen (d : Int) (s : List UInt8) (d2 : Int) (s2 : List UInt8) : AcT := ⟨6, 0, d, 0, d2, s, s2, false⟩
def aRead (i a n : Int) : AcT := ⟨7, i, 0, a, n, [], [], false⟩
def aWrite (i a : Int) (s : List UInt8) : AcT := ⟨8, i, 0, a, 0, [], s, false⟩
def aTrunc (i n : Int) : AcT := ⟨9, i, 0, 0, n, [], [], false⟩
def aHold (i : Int) : AcT := ⟨10, i, 0, 0, 0, [], [], false⟩
def aDrop (i : Int) : AcT := ⟨11, i, 0, 0, 0, [], [], false⟩
/-- What names lead to. -/
def Tb.walk (T : Tb) : Int → List (List UInt8) → Int × Int
  | id, [] => (id, 0)
  | id, s :: r => if T.entE id s = 0 then T.walk (T.tgt id s) r else (0, T.entE id s)
def Tb.find (T : Tb) (p : List UInt8) : Int × Int := T.walk 1 (partsL p)
def Tb.create (T : Tb) (p : List UInt8) (flag : Bool) : Tb × Int × Int :=
  if (T.find (dirL p)).2 = 0 then ((T.step (aMake (T.find (dirL p)).1 (nameL p) flag)).1, (T.step (aMake (T.find (dirL p)).1 (nameL p) flag)).2.1, (T.step (aMake (T.find (dirL p)).1 (nameL p) flag)).2.2.2) else (T, 0, (T.find (dirL p)).2)
def Tb.change (T : Tb) (p : List UInt8) (f : Int → List UInt8 → AcT) : Tb × Int :=
  if (T.find (dirL p)).2 = 0 then ((T.step (f (T.find (dirL p)).1 (nameL p))).1, (T.step (f (T.find (dirL p)).1 (nameL p))).2.2.2) else (T, (T.find (dirL p)).2)
def Tb.linkP (T : Tb) (p q : List UInt8) : Tb × Int := if (T.find p).2 = 0 then T.change q (aLink (T.find p).1) else (T, (T.find p).2)
def Tb.renP (T : Tb) (p q : List UInt8) : Tb × Int := if (T.find (dirL p)).2 = 0 then T.change q (aRen (T.find (dirL p)).1 (nameL p)) else (T, (T.find (dirL p)).2)
def Tb.listP (T : Tb) (p : List UInt8) : Int × List (List UInt8) :=
  if (T.find p).2 = 0 then (T.kindE (T.find p).1 true, if T.kindE (T.find p).1 true = 0 then (T.nd (T.find p).1).names.map (·.1) else []) else ((T.find p).2, [])
def Fs.row (F : Fs) (o : Int) : List Int := (aget o F.H).getD z8
def idx0 (l : List Int) : Nat := l.findIdx (fun x => decide (x = 0))
/-- A handle of a file: the table behind finding it, the file, the error. -/
def Fs.open_ (F : Fs) (o : Int) (r : Tb × Int × Int) : Fs × Int × Int :=
  if idx0 (F.row o) < 8 then
    (if r.2.2 = 0 then
      (if (r.1.step (aHold r.2.1)).2.2.2 = 0 then (⟨(r.1.step (aHold r.2.1)).1, aput ltI o ((F.row o).set (idx0 (F.row o)) r.2.1) F.H⟩, (idx0 (F.row o) : Int) + 1, 0)
      else (⟨(r.1.step (aHold r.2.1)).1, F.H⟩, 0, (r.1.step (aHold r.2.1)).2.2.2))
    else (⟨r.1, F.H⟩, 0, r.2.2))
  else (F, 0, 5)
def Fs.shut (F : Fs) (o : Int) (k : Nat) : Fs :=
  ⟨(F.T.step (aDrop ((F.row o).getD k 0))).1, if (F.row o).set k 0 = z8 then adel o F.H else aput ltI o ((F.row o).set k 0) F.H⟩
def Fs.file (F : Fs) (o h : Int) : Int := if h < 1 ∨ 8 < h then 0 else (F.row o).getD (h - 1).toNat 0
def Fs.use (F : Fs) (o : Int) (op : OpT) : Fs × ResT :=
  if F.file o op.h = 0 then (F, errR 13)
  else if op.kind = 5 then (F.shut o (op.h - 1).toNat, errR 0)
  else if op.kind = 6 then (F, ⟨(F.T.step (aRead (F.file o op.h) op.at_ op.n)).2.2.2, 0, (F.T.step (aRead (F.file o op.h) op.at_ op.n)).2.2.1, []⟩)
  else if op.kind = 7 then (⟨(F.T.step (aWrite (F.file o op.h) op.at_ op.data)).1, F.H⟩, errR (F.T.step (aWrite (F.file o op.h) op.at_ op.data)).2.2.2)
  else if op.kind = 8 then (⟨(F.T.step (aTrunc (F.file o op.h) op.n)).1, F.H⟩, errR (F.T.step (aTrunc (F.file o op.h) op.n)).2.2.2)
  else if op.kind = 9 then (F, ⟨(F.T.step (aRead (F.file o op.h) 0 1048576)).2.2.2, (F.T.step (aRead (F.file o op.h) 0 1048576)).2.2.1.length, [], []⟩)
  else (F, errR 0)
def canon (p : List UInt8) : Bool := decide (cleanL p = some p)
def insd (p : List UInt8) : Bool := !decide (p = []) && canon p
def mayB (op : OpT) : Bool :=
  if op.kind = 1 ∨ op.kind = 2 ∨ op.kind = 3 ∨ op.kind = 4 ∨ op.kind = 11 then insd op.path
  else if op.kind = 10 ∨ op.kind = 12 then insd op.path && insd op.dst
  else if op.kind = 13 then canon op.path
  else decide (op.kind = 5 ∨ op.kind = 6 ∨ op.kind = 7 ∨ op.kind = 8 ∨ op.kind = 9)
def Fs.step (F : Fs) (o : Int) (op : OpT) : Fs × ResT :=
  if mayB op = false then (F, errR 1)
  else if op.kind = 1 then (⟨(F.T.create op.path true).1, F.H⟩, errR (F.T.create op.path true).2.2)
  else if op.kind = 2 then (⟨(F.T.change op.path aRemove).1, F.H⟩, errR (F.T.change op.path aRemove).2)
  else if op.kind = 3 then ((F.open_ o (F.T.create op.path false)).1, ⟨(F.open_ o (F.T.create op.path false)).2.2, (F.open_ o (F.T.create op.path false)).2.1, [], []⟩)
  else if op.kind = 4 then ((F.open_ o (F.T, F.T.find op.path)).1, ⟨(F.open_ o (F.T, F.T.find op.path)).2.2, (F.open_ o (F.T, F.T.find op.path)).2.1, [], []⟩)
  else if op.kind = 10 then (⟨(F.T.linkP op.path op.dst).1, F.H⟩, errR (F.T.linkP op.path op.dst).2)
  else if op.kind = 11 then (⟨(F.T.change op.path aUnlink).1, F.H⟩, errR (F.T.change op.path aUnlink).2)
  else if op.kind = 12 then (⟨(F.T.renP op.path op.dst).1, F.H⟩, errR (F.T.renP op.path op.dst).2)
  else if op.kind = 13 then (F, ⟨(F.T.listP op.path).1, 0, [], (F.T.listP op.path).2⟩)
  else F.use o op

/-! ### What holds -/
structure Hok (H : List (Int × List Int)) (N : Nat) : Prop where
  len : ∀ o r, aget o H = some r → r.length = 8
  inI : ∀ o r x, aget o H = some r → x ∈ r → InI x
  n : H.length ≤ N
theorem Hok.mono {H : List (Int × List Int)} {N M : Nat} (h : Hok H N) (hM : N ≤ M) : Hok H M := ⟨h.len, h.inI, Nat.le_trans h.n hM⟩
theorem z8_in {x : Int} (h : x ∈ z8) : InI x := by
  have : x = 0 := by simpa [z8] using h
  subst this; unfold InI; omega
section
variable {F : Fs} {N : Nat} (h : Hok F.H N)
include h
theorem Hok.row_len (o : Int) : (F.row o).length = 8 := by
  unfold Fs.row
  cases hg : aget o F.H with
  | none => rfl
  | some r => exact h.len _ _ hg
theorem Hok.row_in (o : Int) {x : Int} (hx : x ∈ F.row o) : InI x := by
  unfold Fs.row at hx
  cases hg : aget o F.H with
  | none => rw [hg] at hx; exact z8_in hx
  | some r => rw [hg] at hx; exact h.inI _ _ _ hg hx
theorem Hok.get_in (o : Int) (k : Nat) : InI ((F.row o).getD k 0) := by
  by_cases hk : k < (F.row o).length
  · rw [List.getD_eq_getElem?_getD, List.getElem?_eq_getElem hk]; exact h.row_in o (List.getElem_mem hk)
  · rw [List.getD_eq_getElem?_getD, List.getElem?_eq_none (by omega)]; show InI 0; unfold InI; omega
theorem Hok.put {o : Int} {k : Nat} {x : Int} (hx : InI x) : Hok (aput ltI o ((F.row o).set k x) F.H) (N + 1) := by
  have get : ∀ o' r, aget o' (aput ltI o ((F.row o).set k x) F.H) = some r → r = (F.row o).set k x ∨ aget o' F.H = some r := fun o' r hr => by
    rw [aget_put] at hr
    split at hr
    · cases hr; exact .inl rfl
    · exact .inr hr
  refine ⟨fun o' r hr => ?_, fun o' r y hr hy => ?_, ?_⟩
  · rcases get _ _ hr with rfl | hr
    · rw [List.length_set]; exact h.row_len o
    · exact h.len _ _ hr
  · rcases get _ _ hr with rfl | hr
    · rcases List.mem_or_eq_of_mem_set hy with hy | rfl
      · exact h.row_in o hy
      · exact hx
    · exact h.inI _ _ _ hr hy
  · have := length_put_le (lt := ltI) o ((F.row o).set k x) F.H; have := h.n; omega
theorem Hok.del (o : Int) : Hok (adel o F.H) N := by
  have get : ∀ o' r, aget o' (adel o F.H) = some r → aget o' F.H = some r := fun o' r hr => by
    rw [aget_del] at hr
    split at hr
    · cases hr
    · exact hr
  exact ⟨fun o' r hr => h.len _ _ (get _ _ hr), fun o' r y hr hy => h.inI _ _ _ (get _ _ hr) hy, by have := length_del_le o F.H; have := h.n; omega⟩
end

/-! ### A file system in memory -/
def FB (w : World) (fb t hb : Nat) : Prop := w.heap[fb]? = some (.cells #[ptrB t, .map (some hb)] 44 (0, 0))
theorem FB.c0 {w : World} {fb t hb : Nat} (h : FB w fb t hb) : w.cell? ⟨fb, 0, none⟩ = some (ptrB t) := by unfold FB at h; simp [World.cell?, h]
theorem FB.c1 {w : World} {fb t hb : Nat} (h : FB w fb t hb) : w.cell? ⟨fb, 1, none⟩ = some (.map (some hb)) := by unfold FB at h; simp [World.cell?, h]
theorem FB.lt {w : World} {fb t hb : Nat} (h : FB w fb t hb) : fb < w.heap.size := (Array.getElem?_eq_some_iff.1 h).1
theorem FB.ch {w w' : World} {fb t hb : Nat} {M : Nat → Prop} (h : FB w fb t hb) (g : Ch M w w') (hn : ¬ M fb) : FB w' fb t hb := g.heap h hn
abbrev gmx : Nat := 0
theorem MaxOK.ch {w w' : World} (h : MaxOK w) {M : Nat → Prop} (g : Ch M w w') (hn : ¬ M gmx) : MaxOK w' := by
  obtain ⟨m, hm⟩ := h
  have hlt : gmx < w.heap.size := World.block_lt_of_cell? w _ hm
  refine ⟨m, ?_⟩
  have hb := g.block gmx hlt hn
  unfold World.cell? at hm ⊢
  simp only at hm ⊢
  rw [hb]; exact hm
structure FsAt (w : World) (fb t hb : Nat) (F : Fs) (S : Nat → Prop) (N : Nat) : Prop where
  tab : Tab w t F.T (fun k => S k ∧ k ≠ fb ∧ k ≠ hb)
  fs : FB w fb t hb
  mp : MapH w hb F.H
  sf : S fb
  sh : S hb
  lt : ∀ k, S k → k < w.heap.size
  gl : ¬ S gmx
  mx : MaxOK w
  wf : Wf F.T
  bd : Bd F.T N
  hok : Hok F.H N
theorem bd_mono {T : Tb} {N M : Nat} (b : Bd T N) (hM : N ≤ M) : Bd T M := by
  induction M with
  | zero => obtain rfl : N = 0 := by omega
            exact b
  | succ M ih =>
    by_cases e : N = M + 1
    · subst e; exact b
    · exact (ih (by omega)).up
section
variable {w w' : World} {fb t hb : Nat} {F : Fs} {S : Nat → Prop} {N : Nat} (h : FsAt w fb t hb F S N)
include h
theorem FsAt.up {M : Nat} (hM : N ≤ M) : FsAt w fb t hb F S M := ⟨h.tab, h.fs, h.mp, h.sf, h.sh, h.lt, h.gl, h.mx, h.wf, bd_mono h.bd hM, h.hok.mono hM⟩
theorem FsAt.gm : gmx < w.heap.size := by obtain ⟨m, hm⟩ := h.mx; exact World.block_lt_of_cell? w _ hm
theorem FsAt.grow {S' : Nat → Prop} (h1 : ∀ k, S k → S' k) (h2 : ∀ k, S' k → k < w.heap.size) (h3 : ¬ S' gmx) : FsAt w fb t hb F S' N :=
  ⟨h.tab.mono (fun k hk => ⟨h1 k hk.1, hk.2⟩), h.fs, h.mp, h1 _ h.sf, h1 _ h.sh, h2, h3, h.mx, h.wf, h.bd, h.hok⟩
/-- What is done elsewhere. -/
theorem FsAt.ch {M : Nat → Prop} (g : Ch M w w') (hM : ∀ k, S k → ¬ M k) (hg : ¬ M gmx) : FsAt w' fb t hb F S N :=
  ⟨h.tab.ch g (fun k hk => hM k hk.1), h.fs.ch g (hM _ h.sf), map_ch h.mp g (hM _ h.sh), h.sf, h.sh, fun k hk => Nat.lt_of_lt_of_le (h.lt k hk) g.size, h.gl, h.mx.ch g hg, h.wf, h.bd, h.hok⟩
theorem FsAt.below (g : Below w.heap.size w w') : FsAt w' fb t hb F S N :=
  ⟨(h.tab.ch ⟨g.os, g.tape, g.output, g.size, fun k hk _ => g.block k hk⟩ (M := fun _ => False) (fun _ _ => id)), h.fs.ch (M := fun _ => False) ⟨g.os, g.tape, g.output, g.size, fun k hk _ => g.block k hk⟩ id, map_ch (M := fun _ => False) h.mp ⟨g.os, g.tape, g.output, g.size, fun k hk _ => g.block k hk⟩ id, h.sf, h.sh, fun k hk => Nat.lt_of_lt_of_le (h.lt k hk) g.size, h.gl, h.mx.below g, h.wf, h.bd, h.hok⟩
end
/-- What a call on a file system leaves. -/
structure FsP (w : World) (fb t hb : Nat) (F' : Fs) (S : Nat → Prop) (N' : Nat) (w' : World) : Prop where
  at_ : FsAt w' fb t hb F' (fun k => S k ∨ New w w' k) N'
  ch : Ch S w w'
section
variable {w w1 w' : World} {fb t hb : Nat} {F F1 F' : Fs} {S : Nat → Prop} {N N1 N' : Nat}
theorem FsP.of_below (h : FsAt w fb t hb F S N) (g : Below w.heap.size w w') : FsP w fb t hb F S N w' :=
  ⟨(h.below g).grow (fun k hk => .inl hk) (fun k hk => by
      rcases hk with hk | hk
      · have := h.lt k hk; have := g.size; omega
      · exact hk.2) (fun e => by
      rcases e with e | e
      · exact h.gl e
      · have := h.gm; unfold New at e; omega), Ch.of_below g⟩
theorem FsP.refl (h : FsAt w fb t hb F S N) : FsP w fb t hb F S N w := FsP.of_below h (Below.refl _ _)
theorem FsP.trans (h : FsP w fb t hb F1 S N1 w1) (k : FsP w1 fb t hb F' (fun k => S k ∨ New w w1 k) N' w') (hg : ¬ S gmx) (hm : gmx < w.heap.size) : FsP w fb t hb F' S N' w' := by
  have s1 := h.ch.size
  have s2 := k.ch.size
  refine ⟨k.at_.grow (fun x hx => ?_) (fun x hx => ?_) (fun e => ?_), h.ch.trans k.ch (fun x hx hs => ?_)⟩
  · rcases hx with (hx | hx) | hx
    · exact .inl hx
    · right; unfold New at *; omega
    · right; unfold New at *; omega
  · rcases hx with hx | hx
    · exact Nat.lt_of_lt_of_le (h.at_.lt x (.inl hx)) s2
    · exact hx.2
  · rcases e with e | e
    · exact hg e
    · unfold New at e; omega
  · rcases hs with hs | hs
    · exact hs
    · unfold New at hs; omega
theorem FsP.up (h : FsP w fb t hb F S N w') (hM : N ≤ N') : FsP w fb t hb F S N' w' := ⟨h.at_.up hM, h.ch⟩
/-- New blocks first, then a call. -/
theorem FsP.under (b : Below w.heap.size w w1) (h : FsAt w fb t hb F S N) (k : FsP w1 fb t hb F' S N' w') : FsP w fb t hb F' S N' w' := by
  have s2 := k.ch.size
  have s1 := b.size
  refine ⟨k.at_.grow (fun x hx => ?_) (fun x hx => ?_) (fun e => ?_), (Ch.of_below b).trans k.ch (fun x hx hs => hs)⟩
  · rcases hx with hx | hx
    · exact .inl hx
    · right; unfold New at *; omega
  · rcases hx with hx | hx
    · have := h.lt x hx; omega
    · exact hx.2
  · rcases e with e | e
    · exact h.gl e
    · have := h.gm; unfold New at e; omega
/-- A call, then new blocks. -/
theorem FsP.over (h : FsP w fb t hb F S N w1) (b : Below w1.heap.size w1 w') (hg : ¬ S gmx) (hm : gmx < w.heap.size) : FsP w fb t hb F S N w' :=
  h.trans (FsP.of_below h.at_ b) hg hm
theorem FsP.of_doP {T' : Tb} (h : FsAt w fb t hb F S N) (d : DoP w t T' (fun k => S k ∧ k ≠ fb ∧ k ≠ hb) w') (hw : Wf T') (hb' : Bd T' N') (hN : N ≤ N') : FsP w fb t hb ⟨T', F.H⟩ S N' w' := by
  have hfb := h.fs.lt
  have hhb := h.lt _ h.sh
  have hS : ∀ k, ¬ S k → ¬ (S k ∧ k ≠ fb ∧ k ≠ hb) := fun k hk e => hk e.1
  refine ⟨⟨d.tab.mono (fun k hk => ?_), h.fs.ch d.ch (fun e => e.2.1 rfl), map_ch h.mp d.ch (fun e => e.2.2 rfl), .inl h.sf, .inl h.sh, fun k hk => ?_, fun e => ?_, h.mx.ch d.ch (hS _ h.gl), hw, hb', h.hok.mono hN⟩, d.ch.mono (fun x _ hx => hx.1)⟩
  · rcases hk with hk | hk
    · exact ⟨.inl hk.1, hk.2⟩
    · refine ⟨.inr hk, ?_, ?_⟩ <;> (unfold New at hk; omega)
  · rcases hk with hk | hk
    · have := h.lt k hk; have := d.ch.size; omega
    · exact hk.2
  · rcases e with e | e
    · exact h.gl e
    · have := h.gm; unfold New at e; omega
theorem FsP.of_map {H' : List (Int × List Int)} (h : FsAt w fb t hb F S N) (g : w.mapTurned w' hb) (m : MapH w' hb H') (hk : Hok H' N') (hN : N ≤ N') : FsP w fb t hb ⟨F.T, H'⟩ S N' w' := by
  have hc : Ch (fun k => k = hb) w w' := Ch.turned g rfl
  have hne : fb ≠ hb := map_nb h.mp h.fs
  refine ⟨⟨(h.tab.ch hc (fun k hk => hk.2.2)).mono (fun k hk => ⟨.inl hk.1, hk.2⟩), h.fs.ch hc hne, m, .inl h.sf, .inl h.sh, fun k hk => ?_, fun e => ?_, h.mx.ch hc (fun e => h.gl (e ▸ h.sh)), h.wf, bd_mono h.bd hN, hk⟩, hc.mono (fun x _ hx => hx ▸ h.sh)⟩
  · rcases hk with hk | hk
    · have := h.lt k hk; have := hc.size; omega
    · exact hk.2
  · rcases e with e | e
    · exact h.gl e
    · have := h.gm; unfold New at e; omega
end
end Go.Proofs.YtagdhghjcibfbaaGreatDoor

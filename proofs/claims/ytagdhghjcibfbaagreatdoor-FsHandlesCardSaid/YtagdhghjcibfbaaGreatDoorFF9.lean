/- Layer 9: what a handle holds stays: the mathematics of the law FsHandles. Layer 9: what a handle holds stays, act by act; the first acts and the last of the law FsHandles. Layer 9: the law FsHandles: its walk. -/
import Derived.Test.YtagdhghjcibfbaaGreatDoorFF6
import Derived.Test.YtagdhghjcibfbaaGreatDoorFF8
namespace Go.Proofs.YtagdhghjcibfbaaGreatDoor
open Go.RowKit
set_option linter.unusedVariables false
set_option linter.unusedSectionVars false
set_option maxRecDepth 100000

/-- File 2 is there, has these bytes, and is held c times at least. -/
def Kc (T : Tb) (s : List UInt8) (c : Int) : Prop := ∃ n, aget 2 T.nodes = some n ∧ n.dir = false ∧ n.data = s ∧ c ≤ n.holds
section
variable {T : Tb} {s : List UInt8} {c : Int} (h : Kc T s c)
include h
theorem kc_upd (id : Int) (f : Nd → Nd) (hf : ∀ n, (f n).dir = n.dir ∧ (f n).data = n.data ∧ n.holds ≤ (f n).holds) : Kc (T.upd id f) s c := by
  obtain ⟨n, h1, h2, h3, h4⟩ := h
  unfold Kc
  rw [upd_get]
  split
  · next e =>
    subst e
    obtain ⟨f1, f2, f3⟩ := hf n
    exact ⟨f n, by rw [h1]; rfl, f1.trans h2, f2.trans h3, by omega⟩
  · exact ⟨n, h1, h2, h3, h4⟩
theorem kc_other {id : Int} (hne : id ≠ 2) (f : Nd → Nd) : Kc (T.upd id f) s c := by
  obtain ⟨n, h1, h2⟩ := h
  unfold Kc
  rw [upd_get, if_neg (fun e => hne e.symm)]
  exact ⟨n, h1, h2⟩
theorem kc_rmv {id : Int} (hne : id ≠ 2) : Kc (T.rmv id) s c := by
  obtain ⟨n, h1, h2⟩ := h
  refine ⟨n, ?_, h2⟩
  show aget 2 (adel id T.nodes) = some n
  rw [aget_del, if_neg (fun e => hne e.symm)]; exact h1
theorem kc_rel (hc : 1 ≤ c) (id : Int) : Kc (T.rel id) s c := by
  unfold Tb.rel
  split
  · next e =>
    refine kc_rmv h fun e2 => ?_
    subst e2
    obtain ⟨n, h1, h2, h3, h4⟩ := h
    rw [nd_of h1] at e
    omega
  · exact h
theorem kc_lose (hc : 1 ≤ c) (id : Int) : Kc (T.lose id) s c := kc_rel (kc_upd h id (Nd.addLinks (-1)) (fun n => ⟨rfl, rfl, Int.le_refl _⟩)) hc id
theorem kc_put (id : Int) (x : List UInt8) (v : Int) : Kc (T.upd id (Nd.putName x v)) s c := kc_upd h id _ (fun n => ⟨rfl, rfl, Int.le_refl _⟩)
theorem kc_del (id : Int) (x : List UInt8) : Kc (T.upd id (Nd.delName x)) s c := kc_upd h id _ (fun n => ⟨rfl, rfl, Int.le_refl _⟩)
/-- What makes, names, renames, takes names away. -/
theorem kc_step (hc : 1 ≤ c) (wf : Wf T) (ok : Ok T) (a : AcT) (ha : a.kind = 1 ∨ a.kind = 3 ∨ a.kind = 4 ∨ a.kind = 5 ∨ a.kind = 6) : Kc (T.step a).1 s c := by
  have c1 : Kc (if T.mkE a.dir a.name = 0 then T.make a.dir a.name a.flag else T) s c := by
    split
    · have hfr := wf.fresh
      have hne : T.last + 1 ≠ 2 := fun e => by
        obtain ⟨n, h1, _⟩ := h
        rw [e, h1] at hfr; cases hfr
      have h1 : Kc (T.add a.flag) s c := by
        obtain ⟨n, h1, h2⟩ := h
        refine ⟨n, ?_, h2⟩
        show aget 2 (aput ltI (T.last + 1) _ T.nodes) = some n
        rw [aget_put, if_neg (fun e => hne e.symm)]; exact h1
      exact kc_put h1 _ _ _
    · exact h
  have c3 : Kc (if T.linkE a.id a.dir a.name = 0 then T.link a.id a.dir a.name else T) s c := by
    split
    · exact kc_upd (kc_put h _ _ _) _ (Nd.addLinks 1) (fun n => ⟨rfl, rfl, Int.le_refl _⟩)
    · exact h
  have c4 : Kc (if T.ofE a.dir a.name false = 0 then T.unlink a.dir a.name else T) s c := by
    split
    · exact kc_lose (kc_del h _ _) hc _
    · exact h
  have c5 : Kc (if T.removeE a.dir a.name = 0 then T.remove a.dir a.name else T) s c := by
    split
    · next hE =>
      unfold Tb.removeE at hE
      split at hE
      · next hk =>
        obtain ⟨n, m, hn, hd, hnm, hL, hm, hmd⟩ := of_parts ok hk
        refine kc_rmv (kc_del h _ _) fun e => ?_
        obtain ⟨x, h1, h2, _⟩ := h
        rw [e, h1] at hm; cases hm
        rw [h2] at hmd; cases hmd
      · next hk => exact absurd hE hk
    · exact h
  have c6 : Kc (if T.renE a.dir a.name a.n a.nm = 0 then T.rename a.dir a.name a.n a.nm else T) s c := by
    split
    · have hm : Kc (T.moved a.dir a.name a.n a.nm) s c := kc_del (kc_put h _ _ _) _ _
      unfold Tb.rename
      split
      · split
        · exact h
        · exact kc_lose hm hc _
      · exact hm
    · exact h
  unfold Tb.step
  rcases ha with h1 | h1 | h1 | h1 | h1
  · rw [if_pos h1]; exact c1
  · rw [if_neg (by omega), if_neg (by omega), if_pos h1]; exact c3
  · rw [if_neg (by omega), if_neg (by omega), if_neg (by omega), if_pos h1]; exact c4
  · rw [if_neg (by omega), if_neg (by omega), if_neg (by omega), if_neg (by omega), if_pos h1]; exact c5
  · rw [if_neg (by omega), if_neg (by omega), if_neg (by omega), if_neg (by omega), if_neg (by omega), if_pos h1]; exact c6
theorem kc_create (hc : 1 ≤ c) (wf : Wf T) (ok : Ok T) (p : List UInt8) (flag : Bool) : Kc (T.create p flag).1 s c := by
  unfold Tb.create
  split
  · exact kc_step h hc wf ok _ (.inl rfl)
  · exact h
theorem kc_change (hc : 1 ≤ c) (wf : Wf T) (ok : Ok T) (p : List UInt8) (f : Int → List UInt8 → AcT) (hf : ∀ d n, (f d n).kind = 1 ∨ (f d n).kind = 3 ∨ (f d n).kind = 4 ∨ (f d n).kind = 5 ∨ (f d n).kind = 6) : Kc (T.change p f).1 s c := by
  unfold Tb.change
  split
  · exact kc_step h hc wf ok _ (hf _ _)
  · exact h
end

/-! ### How many handles a file has -/
def cntH (x : Int) (H : List (Int × List Int)) : Nat := (H.map fun p => p.2.count x).sum
section
variable {H : List (Int × List Int)} (hr : Ris ltI H)
include hr
theorem cntH_del (x o : Int) (hx : x ≠ 0) : cntH x (adel o H) + ((aget o H).getD z8).count x = cntH x H := by
  cases hg : aget o H with
  | none =>
    rw [adel_fresh hg]
    show cntH x H + z8.count x = _
    rw [List.count_eq_zero.2 (fun hm => hx (by simpa [z8] using hm))]; rfl
  | some r => exact sum_del (fun p : Int × List Int => p.2.count x) (ris_ne ord_I hr) hg
theorem cntH_put (x o : Int) (hx : x ≠ 0) (r : List Int) : cntH x (aput ltI o r H) + ((aget o H).getD z8).count x = cntH x H + r.count x := by
  have h1 := cntH_del hr x o hx
  have h2 : cntH x (aput ltI o r H) = r.count x + cntH x (adel o H) := sum_ains _ _ _
  omega
theorem cntH_two {o : Int} (ho : o ≠ -1) (h1 : aget (-1) H = some (r8 2)) : ((aget o H).getD z8).count 2 + 1 ≤ cntH 2 H := by
  have e := cntH_del hr 2 (-1) (by decide)
  rw [h1] at e
  have e1 : (r8 2).count 2 = 1 := by decide
  have e2 : ((some (r8 2)).getD z8).count 2 = 1 := e1
  rw [e2] at e
  cases hg : aget o H with
  | none =>
    have : (z8.count 2 : Nat) = 0 := by decide
    show z8.count 2 + 1 ≤ _
    omega
  | some r =>
    have h2 : aget o (adel (-1) H) = some r := by rw [aget_del, if_neg ho]; exact hg
    have h3 : r.count 2 ≤ cntH 2 (adel (-1) H) := sum_ge (fun p : Int × List Int => p.2.count 2) (aget_mem h2)
    show r.count 2 + 1 ≤ _
    omega
end
theorem count_set (l : List Int) (k : Nat) (hk : k < l.length) (y x : Int) : (l.set k y).count x + (if l.getD k 0 = x then 1 else 0) = l.count x + (if y = x then 1 else 0) := by
  induction l generalizing k with
  | nil => simp at hk
  | cons a r ih =>
    cases k with
    | zero =>
      simp only [List.set_cons_zero, List.count_cons, List.getD_cons_zero, beq_iff_eq]
      omega
    | succ k =>
      have := ih k (by simpa using hk)
      simp only [List.set_cons_succ, List.count_cons, List.getD_cons_succ]
      omega

/-! ### What holds all through -/
structure Kq (F : Fs) (s : List UInt8) : Prop where
  row : aget (-1) F.H = some (r8 2)
  ris : Ris ltI F.H
  len : ∀ o r, aget o F.H = some r → r.length = 8
  kc : Kc F.T s (cntH 2 F.H)
theorem Kq.one {F : Fs} {s : List UInt8} (h : Kq F s) : (1 : Int) ≤ cntH 2 F.H := by
  have := cntH_two h.ris (o := -2) (by decide) h.row
  omega
theorem Kq.rowlen {F : Fs} {s : List UInt8} (h : Kq F s) (o : Int) : (F.row o).length = 8 := by
  unfold Fs.row
  cases hg : aget o F.H with
  | none => rfl
  | some r => exact h.len _ _ hg
section
variable {F : Fs} {s : List UInt8} (h : Kq F s)
include h
theorem kq_T {T' : Tb} (hk : Kc T' s (cntH 2 F.H)) : Kq ⟨T', F.H⟩ s := ⟨h.row, h.ris, h.len, hk⟩
theorem kq_open {o : Int} (ho : o ≠ -1) (r : Tb × Int × Int) (hk : Kc r.1 s (cntH 2 F.H)) : Kq (F.open_ o r).1 s := by
  unfold Fs.open_
  split
  · next hi =>
    split
    · next he =>
      have hst : (r.1.step (aHold r.2.1)).2.2.2 = r.1.holdE r.2.1 := rfl
      have hT : (r.1.step (aHold r.2.1)).1 = if r.1.holdE r.2.1 = 0 then r.1.upd r.2.1 (Nd.addHolds 1) else r.1 := rfl
      rw [hst, hT]
      split
      · next hz =>
        have hlen := h.rowlen o
        have hk0 : (F.row o).getD (idx0 (F.row o)) 0 = 0 := by
          have := List.findIdx_getElem (xs := F.row o) (p := fun x => decide (x = 0)) (w := by show idx0 (F.row o) < _; omega)
          rw [List.getD_eq_getElem?_getD, List.getElem?_eq_getElem (by omega)]
          exact of_decide_eq_true this
        have hc := cntH_put h.ris 2 o (by decide) ((F.row o).set (idx0 (F.row o)) r.2.1)
        have hs := count_set (F.row o) (idx0 (F.row o)) (by omega) r.2.1 2
        rw [hk0] at hs
        change _ + (F.row o).count 2 = _ at hc
        refine ⟨?_, ris_put ord_I h.ris, fun o' r' hr' => ?_, ?_⟩
        · show aget (-1) (aput ltI o _ F.H) = _
          rw [aget_put, if_neg (fun e => ho e.symm)]; exact h.row
        · change aget o' (aput ltI o _ F.H) = _ at hr'
          rw [aget_put] at hr'
          split at hr'
          · cases hr'; rw [List.length_set]; exact hlen
          · exact h.len _ _ hr'
        · show Kc (r.1.upd r.2.1 (Nd.addHolds 1)) s (cntH 2 (aput ltI o _ F.H) : Nat)
          by_cases h2 : r.2.1 = 2
          · rw [h2] at hs hc ⊢
            obtain ⟨n, k1, k2, k3, k4⟩ := hk
            refine ⟨Nd.addHolds 1 n, by rw [upd_get, if_pos rfl, k1]; rfl, k2, k3, ?_⟩
            show (_ : Int) ≤ n.holds + 1
            simp at hs
            omega
          · have e : (cntH 2 (aput ltI o ((F.row o).set (idx0 (F.row o)) r.2.1) F.H) : Int) = cntH 2 F.H := by
              rw [if_neg (show ¬ (0 : Int) = 2 by decide), if_neg h2] at hs
              omega
            rw [e]
            exact kc_other hk h2 _
      · exact kq_T h hk
    · exact kq_T h hk
  · exact h
theorem kq_shut {o : Int} (ho : o ≠ -1) (k : Nat) (hk8 : k < 8) : Kq (F.shut o k) s := by
  have hlen := h.rowlen o
  obtain ⟨id, hid⟩ : ∃ id, id = (F.row o).getD k 0 := ⟨_, rfl⟩
  have hs := count_set (F.row o) k (by omega) 0 2
  rw [if_neg (show ¬ (0 : Int) = 2 by decide), ← hid] at hs
  have hT : (F.T.step (aDrop id)).1 = if F.T.dropE id = 0 then F.T.drop id else F.T := rfl
  -- how many handles there are behind it
  have hcnt : ∀ H', H' = (if (F.row o).set k 0 = z8 then adel o F.H else aput ltI o ((F.row o).set k 0) F.H) → cntH 2 H' + (if id = 2 then 1 else 0) = cntH 2 F.H := by
    intro H' hH'
    rw [hH']
    split
    · next hz =>
      have h1 := cntH_del h.ris 2 o (by decide)
      change _ + (F.row o).count 2 = _ at h1
      rw [hz] at hs
      have : (z8.count 2 : Nat) = 0 := by decide
      omega
    · have h1 := cntH_put h.ris 2 o (by decide) ((F.row o).set k 0)
      change _ + (F.row o).count 2 = _ at h1
      omega
  have hrow : ∀ H', H' = (if (F.row o).set k 0 = z8 then adel o F.H else aput ltI o ((F.row o).set k 0) F.H) → aget (-1) H' = some (r8 2) ∧ Ris ltI H' ∧ ∀ o' r', aget o' H' = some r' → r'.length = 8 := by
    intro H' hH'
    rw [hH']
    split
    · refine ⟨by rw [aget_del, if_neg (fun e => ho e.symm)]; exact h.row, ris_del h.ris, fun o' r' hr' => ?_⟩
      rw [aget_del] at hr'
      split at hr'
      · cases hr'
      · exact h.len _ _ hr'
    · refine ⟨by rw [aget_put, if_neg (fun e => ho e.symm)]; exact h.row, ris_put ord_I h.ris, fun o' r' hr' => ?_⟩
      rw [aget_put] at hr'
      split at hr'
      · cases hr'; rw [List.length_set]; exact hlen
      · exact h.len _ _ hr'
  obtain ⟨H', hH'⟩ : ∃ H', H' = (if (F.row o).set k 0 = z8 then adel o F.H else aput ltI o ((F.row o).set k 0) F.H) := ⟨_, rfl⟩
  have c1 := hcnt H' hH'
  obtain ⟨c2, c3, c4⟩ := hrow H' hH'
  have c5 := cntH_two h.ris ho h.row
  change (F.row o).count 2 + 1 ≤ _ at c5
  have e : F.shut o k = ⟨(F.T.step (aDrop id)).1, H'⟩ := by rw [hH', hid]; rfl
  rw [e, hT]
  refine ⟨c2, c3, c4, ?_⟩
  show Kc (if F.T.dropE id = 0 then F.T.drop id else F.T) s (cntH 2 H' : Nat)
  by_cases h2 : id = 2
  · rw [if_pos h2] at c1 hs
    rw [h2]
    obtain ⟨n, k1, k2, k3, k4⟩ := h.kc
    have hd : F.T.dropE 2 = 0 := by unfold Tb.dropE; rw [k1]; simp only; rw [if_neg (by omega)]
    rw [if_pos hd]
    unfold Tb.drop
    refine kc_rel ⟨Nd.addHolds (-1) n, by rw [upd_get, if_pos rfl, k1]; rfl, k2, k3, ?_⟩ (by omega) 2
    show (_ : Int) ≤ n.holds + -1
    omega
  · rw [if_neg h2] at c1
    have hone := h.one
    have ec : (cntH 2 H' : Int) = cntH 2 F.H := by omega
    rw [ec]
    split
    · unfold Tb.drop
      exact kc_rel (kc_other h.kc h2 _) hone id
    · exact h.kc
end
end Go.Proofs.YtagdhghjcibfbaaGreatDoor

namespace Go.Proofs.YtagdhghjcibfbaaGreatDoor
open Go.RowKit
set_option linter.unusedVariables false
set_option linter.unusedSectionVars false
set_option maxRecDepth 100000

section
variable {F : Fs} {s : List UInt8} (h : Kq F s)
include h
theorem kq_use {o : Int} (ho : o ≠ -1) (op : OpT) (h7 : op.kind ≠ 7) (h8 : op.kind ≠ 8) : Kq (F.use o op).1 s := by
  unfold Fs.use
  split
  · exact h
  · next hf =>
    have hh : 1 ≤ op.h ∧ op.h ≤ 8 := by
      unfold Fs.file at hf
      split at hf
      · exact absurd rfl hf
      · omega
    by_cases h5 : op.kind = 5
    · rw [if_pos h5]; exact kq_shut h ho _ (by omega)
    rw [if_neg h5]
    by_cases h6 : op.kind = 6
    · rw [if_pos h6]; exact h
    rw [if_neg h6]
    split
    · exact h
    · exact h
theorem kq_step (wf : Wf F.T) (ok : Ok F.T) {o : Int} (ho : o ≠ -1) (op : OpT) (h7 : op.kind ≠ 7) (h8 : op.kind ≠ 8) : Kq (F.step o op).1 s := by
  have hc := h.one
  unfold Fs.step
  split
  · exact h
  split
  · exact kq_T h (kc_create h.kc hc wf ok _ _)
  split
  · exact kq_T h (kc_change h.kc hc wf ok _ _ (fun d n => .inr (.inr (.inr (.inl rfl)))))
  split
  · exact kq_open h ho _ (kc_create h.kc hc wf ok _ _)
  split
  · exact kq_open h ho _ h.kc
  split
  · refine kq_T h ?_
    unfold Tb.linkP
    split
    · exact kc_change h.kc hc wf ok _ _ (fun d n => .inr (.inl rfl))
    · exact h.kc
  split
  · exact kq_T h (kc_change h.kc hc wf ok _ _ (fun d n => .inr (.inr (.inl rfl))))
  split
  · refine kq_T h ?_
    unfold Tb.renP
    split
    · exact kc_change h.kc hc wf ok _ _ (fun d n => .inr (.inr (.inr (.inr rfl))))
    · exact h.kc
  split
  · exact h
  · exact kq_use h ho op h7 h8
theorem kq_exit {o : Int} (ho : o ≠ -1) : Kq (F.exit o) s := by
  have : ∀ k, k ≤ 8 → Kq (F.exitN o (F.row o) k) s := fun k => by
    induction k with
    | zero => intro _; exact h
    | succ k ih =>
      intro hk
      have h1 := ih (by omega)
      show Kq (if (F.row o).getD k 0 = 0 then F.exitN o (F.row o) k else (F.exitN o (F.row o) k).shut o k) s
      split
      · exact h1
      · exact kq_shut h1 ho k (by omega)
  exact this 8 (Nat.le_refl _)
theorem kq_row : F.row (-1) = r8 2 := by unfold Fs.row; rw [h.row]; rfl
theorem kq_file : F.file (-1) 1 = 2 := by
  unfold Fs.file
  rw [if_neg (by decide), kq_row h]; rfl
theorem kq_rd (n : Int) (h0 : 0 ≤ n) (hn : (s.length : Int) ≤ n) : (F.T.step (aRead 2 0 n)).2.2 = (s, 0) := by
  obtain ⟨m, h1, h2, h3, _⟩ := h.kc
  have e0 : F.T.fileE 2 (min 0 n) = 0 := by
    unfold Tb.fileE
    rw [kindE_some h1, if_pos h2, if_pos rfl]
    first | rfl | (rw [if_neg (by omega)])
  show ((if F.T.fileE 2 (min 0 n) = 0 then readL (F.T.nd 2).data 0 n else []), F.T.fileE 2 (min 0 n)) = _
  rw [e0, if_pos rfl, nd_of h1, h3]
  congr 1
  unfold readL
  rw [show (min (0 : Int) (s.length : Int)).toNat = 0 by omega, List.drop_zero, List.take_of_length_le (by omega)]
theorem kq_read (hs : s.length ≤ 256) : F.step (-1) (oRd 1024) = (F, ⟨0, 0, s, []⟩) := by
  have e : F.step (-1) (oRd 1024) = if F.file (-1) 1 = 0 then (F, errR 13) else (F, ⟨(F.T.step (aRead (F.file (-1) 1) 0 1024)).2.2.2, 0, (F.T.step (aRead (F.file (-1) 1) 0 1024)).2.2.1, []⟩) := rfl
  rw [e, kq_file h, if_neg (by decide), kq_rd h 1024 (by decide) (by omega)]
end
def oSz : OpT := ⟨9, [], [], 1, 0, 0, [], 0, 0⟩
theorem ok_sz : OpOk oSz := ⟨by show InI 9; unfold InI; omega, by show 0 ≤ 1048576; omega, by show 0 ≤ 1048576; omega, by show InI 1; unfold InI; omega, by show InI 0; unfold InI; omega, by show InI 0; unfold InI; omega, by show 0 ≤ 140737488355328; omega⟩
section
variable {F : Fs} {s : List UInt8} (h : Kq F s)
include h
theorem kq_size (hs : s.length ≤ 256) : F.step (-1) oSz = (F, ⟨0, s.length, [], []⟩) := by
  have e : F.step (-1) oSz = if F.file (-1) 1 = 0 then (F, errR 13) else (F, ⟨(F.T.step (aRead (F.file (-1) 1) 0 1048576)).2.2.2, (F.T.step (aRead (F.file (-1) 1) 0 1048576)).2.2.1.length, [], []⟩) := rfl
  rw [e, kq_file h, if_neg (by decide), kq_rd h 1048576 (by decide) (by omega)]
theorem kq_end : ((F.exit (-1)).step (-1) (oRd 1)).2 = errR 13 := by
  have e1 : F.exit (-1) = F.shut (-1) 0 := by
    unfold Fs.exit
    rw [kq_row h]; rfl
  have e2 : (F.shut (-1) 0).H = adel (-1) F.H := by
    show (if (F.row (-1)).set 0 0 = z8 then adel (-1) F.H else _) = _
    rw [kq_row h, if_pos (by decide)]
  have e3 : (F.exit (-1)).row (-1) = z8 := by
    unfold Fs.row
    rw [e1, e2, aget_del, if_pos rfl]; rfl
  generalize F.exit (-1) = G at *
  have e : G.step (-1) (oRd 1) = if G.file (-1) 1 = 0 then (G, errR 13) else (G, ⟨(G.T.step (aRead (G.file (-1) 1) 0 1)).2.2.2, 0, (G.T.step (aRead (G.file (-1) 1) 0 1)).2.2.1, []⟩) := rfl
  have e4 : G.file (-1) 1 = 0 := by
    unfold Fs.file
    rw [if_neg (by decide), e3]; rfl
  rw [e, e4, if_pos rfl]
end
/-- The file of owner -1. -/
def xH (u : Int) (s : List UInt8) : Fs := ⟨⟨1048576, u, 2, [(1, ⟨true, 1, 0, [], [([97], 2)]⟩), (2, ⟨false, 1, 1, s, []⟩)]⟩, [(-1, r8 2)]⟩
theorem hs1 : x0.step (-1) (oCr [97]) = (xH 128 [], ⟨0, 1, [], []⟩) := by kernel_rfl
theorem hs2 (a : List UInt8) (ha : a.length ≤ 256) : (xH 128 []).step (-1) (oWr a) = (xH (128 + a.length) a, ⟨0, 0, [], []⟩) := by
  have e1 : (xH 128 []).T.writeE 2 0 a = 0 := by
    unfold Tb.writeE
    rw [if_pos (show (xH 128 []).T.fileE 2 0 = 0 from rfl), if_neg (by omega)]
    split
    · rfl
    · have : (xH 128 []).T.fitsB 2 (0 + a.length) = true := by
        show decide ((0 + (a.length : Int)) - ((0 : Nat) : Int) ≤ 1048576 - 128) = true
        exact decide_eq_true (by omega)
      rw [if_pos this]
  have e2 : (xH 128 []).T.step (aWrite 2 0 a) = ((xH (128 + a.length) a).T, 0, [], 0) := by
    show ((if (xH 128 []).T.writeE 2 0 a = 0 then (xH 128 []).T.write 2 0 a else (xH 128 []).T), (0 : Int), ([] : List UInt8), (xH 128 []).T.writeE 2 0 a) = _
    rw [e1, if_pos rfl]
    congr 1
    unfold Tb.write
    by_cases h : a = []
    · rw [if_pos h, h]; rfl
    · rw [if_neg h]
      have e2 : firstL ((xH 128 []).T.nd 2).data (0 : Int).toNat ++ a ++ ((xH 128 []).T.nd 2).data.drop ((0 : Int).toNat + a.length) = a := data_first a
      rw [e2]
      show (⟨1048576, 128 + ((a.length : Int) - ((0 : Nat) : Int)), 2, _⟩ : Tb) = ⟨1048576, 128 + a.length, 2, _⟩
      rw [show (128 : Int) + ((a.length : Int) - ((0 : Nat) : Int)) = 128 + a.length by omega]
      rfl
  have e3 : (xH 128 []).step (-1) (oWr a) = (⟨((xH 128 []).T.step (aWrite 2 0 a)).1, [(-1, r8 2)]⟩, errR ((xH 128 []).T.step (aWrite 2 0 a)).2.2.2) := rfl
  rw [e3, e2]
  rfl
theorem xh_kq (u : Int) (s : List UInt8) : Kq (xH u s) s := by
  refine ⟨rfl, ?_, fun o r hr => ?_, ⟨⟨false, 1, 1, s, []⟩, rfl, rfl, rfl, ?_⟩⟩
  · first | exact ⟨fun _ h => (by cases h), trivial⟩ | simp [Ris, xH] | (unfold Ris; simp [xH])
  · change (if (-1 : Int) = o then some (r8 2) else none) = some r at hr
    split at hr
    · cases hr; rfl
    · cases hr
  · show ((cntH 2 [(-1, r8 2)] : Nat) : Int) ≤ 1
    decide
end Go.Proofs.YtagdhghjcibfbaaGreatDoor

namespace Go.Proofs.YtagdhghjcibfbaaGreatDoor
open Go.RowKit
set_option linter.unusedVariables false
set_option linter.unusedSectionVars false
set_option maxRecDepth 100000

set_option maxHeartbeats 8000000 in
theorem lawHandles_any (s : ByteArray) (a : Option Addr) (l : List FAct) (c : Nat) (w : World) (hm : MaxOK w) (hA : FActsAt w a l) (hl : l.length ≤ 9223372036854775807) (hai : ∀ x ∈ l, FActIn x) :
    Calls Tryz.prog 3 #[.string s, .slice a l.length c] w fun e w' => e = .returned (.bool true) ∧ Below w.heap.size w w' := by
  have hi : ∀ x : Int, -1 ≤ x → x ≤ 2000 → InI x := fun x h1 h2 => by unfold InI; omega
  have CN := Lib.hid (ls_new 1048576 (by decide) (by decide) w hm)
  have CA : Hid (∀ w', Below w.heap.size w w' → Calls Tryz.prog 8 #[] w' fun e w'' => e = .returned (.bool true) ∧ Below w'.heap.size w' w'') := Lib.hid fun w' hb' => awake9_any w' (hm.below hb')
  by_cases h1 : 256 < s.size
  · have d1 : decide (256 < (s.size : Int)) = true := decide_eq_true (by omega)
    clear h1 hA hl hai hi hm
    go_enter Tryz.func3, Tryz.ntmps3
    go_wp2_with (first
      | (go_at_call 6; (with_reducible refine CN.out.mono ?_); rintro e w0 ⟨fb, t, hb, rfl, h⟩; have H0 := Lib.hid h; clear h)
      | (go_at_call 8; (with_reducible refine (CA.out _ H0.out.st.bel).mono ?_); rintro e w16 ⟨rfl, hb2⟩; have HB2 := Lib.hid hb2; clear hb2))
    go_ret
    exact ⟨rfl, H0.out.st.bel.trans (HB2.out.mono H0.out.st.bel.size)⟩
  have d1 : decide (256 < (s.size : Int)) = false := decide_eq_false (by omega)
  have CS : Hid (∀ w1 : World, Below w.heap.size w w1 → Calls Tryz.prog 7 #[.slice a l.length c, .int .i64 30] w1 fun e w' => e = .returned (.bool (fSmall l 30)) ∧ Below w1.heap.size w1 w') := Lib.hid (fun (w1 : World) (hb : Below w.heap.size w w1) => fsmall_any a l c w1 (hA.below hb) hl 30 (by decide))
  by_cases h2 : fSmall l 30 = true
  case neg =>
    rw [show fSmall l 30 = false by simpa using h2] at CS
    clear h1 h2 hA hai hi hm
    generalize l.length = n at *
    go_enter Tryz.func3, Tryz.ntmps3
    go_wp2_with (first
      | (go_at_call 6; (with_reducible refine CN.out.mono ?_); rintro e w0 ⟨fb, t, hb, rfl, h⟩; have H0 := Lib.hid h; clear h)
      | (go_at_call 7; (with_reducible refine (CS.out _ H0.out.st.bel).mono ?_); rintro e w2 ⟨rfl, hb2⟩; have H2 := Lib.hid (H0.out.below hb2); clear hb2)
      | (go_at_call 8; (with_reducible refine (CA.out _ H2.out.st.bel).mono ?_); rintro e w16 ⟨rfl, hb2⟩; have HB2 := Lib.hid hb2; clear hb2))
    go_ret
    exact ⟨rfl, H2.out.st.bel.trans (HB2.out.mono H2.out.st.bel.size)⟩
  rw [h2] at CS
  have hao : ∀ x ∈ l, OpOk x.op := fun x hx => (hai x hx).ok (fsmall_fine h2 x hx)
  have how : ∀ x ∈ l, InI x.owner := fun x hx => (hai x hx).owner
  have hl30 : l.length ≤ 30 := by
    unfold fSmall at h2
    simp only [Bool.and_eq_true, decide_eq_true_eq] at h2
    exact h2.2
  obtain ⟨sl, hse⟩ : ∃ sl, s = bs sl := ⟨s.data.toList, (of_bs s).symm⟩
  subst hse
  have hslen : sl.length ≤ 256 := by rw [← bs_size]; omega
  obtain ⟨Y1, hY1⟩ : ∃ Y1, Y1 = xH 128 [] := ⟨_, rfl⟩
  obtain ⟨Y2, hY2⟩ : ∃ Y2, Y2 = xH (128 + sl.length) sl := ⟨_, rfl⟩
  have C1 : Hid (∀ fb t hb L w1, LS w fb t hb ⟨Tb.fresh 1048576, []⟩ 0 L w1 → Calls Tryz.prog 9 #[.pointer (some ⟨fb, 0, none⟩), .int .i64 (-1), .agg #[.int .i64 3, .string ⟨#[97]⟩, .string ⟨#[]⟩, .int .i64 0, .int .i64 0, .int .i64 0, .string ⟨#[]⟩, .int .i64 0, .int .i64 0]] w1 fun e w' => ∃ aa nn cc, e = .returned (.agg #[.int .i64 0, .int .i64 1, .string ⟨#[]⟩, .slice aa nn cc]) ∧ LS w fb t hb Y1 3 L w') := Lib.hid fun fb t hb L w1 h => by
    have e : (⟨Tb.fresh 1048576, []⟩ : Fs).step (-1) (oCr [97]) = (Y1, ⟨0, 1, [], []⟩) := by rw [hY1]; exact hs1
    have := ls_do h (by decide) (hi (-1) (by decide) (by decide)) (oCr [97]) (ok_cr _ (by decide))
    rw [e] at this
    exact this
  have C2 : Hid (∀ fb t hb L w1, LS w fb t hb Y1 3 L w1 → Calls Tryz.prog 9 #[.pointer (some ⟨fb, 0, none⟩), .int .i64 (-1), .agg #[.int .i64 7, .string ⟨#[]⟩, .string ⟨#[]⟩, .int .i64 1, .int .i64 0, .int .i64 0, .string (bs sl), .int .i64 0, .int .i64 0]] w1 fun e w' => ∃ aa nn cc, e = .returned (.agg #[.int .i64 0, .int .i64 0, .string ⟨#[]⟩, .slice aa nn cc]) ∧ LS w fb t hb Y2 6 L w') := Lib.hid fun fb t hb L w1 h => by
    have e : Y1.step (-1) (oWr sl) = (Y2, ⟨0, 0, [], []⟩) := by rw [hY1, hY2]; exact hs2 sl hslen
    have := ls_do h (by decide) (hi (-1) (by decide) (by decide)) (oWr sl) (ok_wr sl hslen)
    rw [e] at this
    exact this
  have CD : Hid (∀ fb t hb L w1 F N x, LS w fb t hb F N L w1 → N < 2000 → Kq F sl → x ∈ l → x.owner ≠ -1 → x.op.kind ≠ 7 → x.op.kind ≠ 8 → Calls Tryz.prog 9 #[.pointer (some ⟨fb, 0, none⟩), .int .i64 x.owner, .agg #[.int .i64 x.op.kind, .string (bs x.op.path), .string (bs x.op.dst), .int .i64 x.op.h, .int .i64 x.op.at_, .int .i64 x.op.n, .string (bs x.op.data), .int .i64 x.op.pid, .int .i64 x.op.birth]] w1 fun e w' => (∃ v0 v1 v2 v3, e = .returned (.agg #[v0, v1, v2, v3])) ∧ ∃ F', LS w fb t hb F' (N + 3) L w' ∧ Kq F' sl) := Lib.hid fun fb t hb L w1 F N x h hN hk hx ho h7 h8 => by
    obtain ⟨S, g, _, _⟩ := h.st.ex
    exact (ls_do h (by omega) (how x hx) x.op (hao x hx)).mono fun e w' ⟨aa, nn, cc, he, hp⟩ => ⟨⟨_, _, _, _, he⟩, _, hp, kq_step hk g.wf (g.bd.ok g.wf (by omega)) ho x.op h7 h8⟩
  have CX : Hid (∀ fb t hb L w1 F N x, LS w fb t hb F N L w1 → N < 2000 → Kq F sl → x ∈ l → x.owner ≠ -1 → Calls Tryz.prog 10 #[.pointer (some ⟨fb, 0, none⟩), .int .i64 x.owner] w1 fun e w' => e = .returned (.tuple #[]) ∧ ∃ F', LS w fb t hb F' (N + 16) L w' ∧ Kq F' sl) := Lib.hid fun fb t hb L w1 F N x h hN hk hx ho =>
    (ls_exit h (by omega) (how x hx)).mono fun e w' ⟨he, hp⟩ => ⟨he, _, hp, kq_exit hk ho⟩
  have CR : Hid (∀ fb t hb L w1 F N, LS w fb t hb F N L w1 → N < 2000 → Kq F sl → Calls Tryz.prog 9 #[.pointer (some ⟨fb, 0, none⟩), .int .i64 (-1), .agg #[.int .i64 6, .string ⟨#[]⟩, .string ⟨#[]⟩, .int .i64 1, .int .i64 0, .int .i64 1024, .string ⟨#[]⟩, .int .i64 0, .int .i64 0]] w1 fun e w' => ∃ aa nn cc, e = .returned (.agg #[.int .i64 0, .int .i64 0, .string (bs sl), .slice aa nn cc]) ∧ LS w fb t hb F (N + 3) L w') := Lib.hid fun fb t hb L w1 F N h hN hk => by
    have e := kq_read hk hslen
    have := ls_do h (by omega) (hi (-1) (by decide) (by decide)) (oRd 1024) (ok_rd _ (by unfold InI; omega))
    rw [e] at this
    exact this
  have CZ : Hid (∀ fb t hb L w1 F N, LS w fb t hb F N L w1 → N < 2000 → Kq F sl → Calls Tryz.prog 9 #[.pointer (some ⟨fb, 0, none⟩), .int .i64 (-1), .agg #[.int .i64 9, .string ⟨#[]⟩, .string ⟨#[]⟩, .int .i64 1, .int .i64 0, .int .i64 0, .string ⟨#[]⟩, .int .i64 0, .int .i64 0]] w1 fun e w' => ∃ aa nn cc, e = .returned (.agg #[.int .i64 0, .int .i64 sl.length, .string ⟨#[]⟩, .slice aa nn cc]) ∧ LS w fb t hb F (N + 3) L w') := Lib.hid fun fb t hb L w1 F N h hN hk => by
    have e := kq_size hk hslen
    have := ls_do h (by omega) (hi (-1) (by decide) (by decide)) oSz ok_sz
    rw [e] at this
    exact this
  have CXE : Hid (∀ fb t hb L w1 F N, LS w fb t hb F N L w1 → N < 2000 → Calls Tryz.prog 10 #[.pointer (some ⟨fb, 0, none⟩), .int .i64 (-1)] w1 fun e w' => e = .returned (.tuple #[]) ∧ LS w fb t hb (F.exit (-1)) (N + 16) L w') := Lib.hid fun fb t hb L w1 F N h hN =>
    ls_exit h (by omega) (hi (-1) (by decide) (by decide))
  have CE : Hid (∀ fb t hb L w1 F N, LS w fb t hb (F.exit (-1)) N L w1 → N < 2000 → Kq F sl → Calls Tryz.prog 9 #[.pointer (some ⟨fb, 0, none⟩), .int .i64 (-1), .agg #[.int .i64 6, .string ⟨#[]⟩, .string ⟨#[]⟩, .int .i64 1, .int .i64 0, .int .i64 1, .string ⟨#[]⟩, .int .i64 0, .int .i64 0]] w1 fun e w' => ∃ aa nn cc, e = .returned (.agg #[.int .i64 13, .int .i64 0, .string ⟨#[]⟩, .slice aa nn cc]) ∧ ∃ G, LS w fb t hb G (N + 3) L w') := Lib.hid fun fb t hb L w1 F N h hN hk => by
    have e := kq_end hk
    have := ls_do h (by omega) (hi (-1) (by decide) (by decide)) (oRd 1) (ok_rd _ (by unfold InI; omega))
    rw [e] at this
    exact this.mono fun e w' ⟨aa, nn, cc, he, hp⟩ => ⟨aa, nn, cc, he, _, hp⟩
  have HK0 : Hid (Kq Y2 sl) := by rw [hY2]; exact Lib.hid (xh_kq _ _)
  have HA := Lib.hid hA
  have HN : Hid (l.length ≤ 30) := Lib.hid hl30
  have hss : ((bs sl).toList != (bs sl).toList) = false := by simp
  have hzz : ((sl.length : Int) != ((bs sl).size : Int)) = false := by simp [bs_size]
  clear h1 h2 hA hl hl30 hi hm hai hao how hslen hY1 hY2
  obtain ⟨n, hnn⟩ : ∃ n, n = l.length := ⟨_, rfl⟩
  rw [← hnn] at CS HN ⊢
  have HNN := Lib.hid hnn
  clear hnn
  have hfld := field0
  go_enter Tryz.func3, Tryz.ntmps3
  go_wp2_with (first
    | (go_at_call 6; (with_reducible refine CN.out.mono ?_); rintro e w0 ⟨fb, t, hb, rfl, h⟩; have H0 := Lib.hid h; clear h)
    | (go_at_call 7; (with_reducible refine (CS.out _ H0.out.st.bel).mono ?_); rintro e w2 ⟨rfl, hb2⟩; have HS := Lib.hid (H0.out.below hb2); clear hb2)
    | (go_at_call 9; (with_reducible refine (C1.out _ _ _ _ _ HS.out).mono ?_); rintro e w3 ⟨a1, n1, c1, rfl, h⟩; obtain ⟨W1, hW1, hl1⟩ := h.new (.int .i64 0) (.int .i64 1) (.string ⟨#[]⟩) (.slice a1 n1 c1); have H1 := Lib.hid hl1; have x1 := (hl1.rs _ (List.mem_cons_self ..)).c1; clear h hl1)
    | (go_at_call 9; (with_reducible refine (C2.out _ _ _ _ _ H1.out).mono ?_); rintro e w4 ⟨a2, n2, c2, rfl, h⟩; obtain ⟨W2, hW2, hl2⟩ := h.new (.int .i64 0) (.int .i64 0) (.string ⟨#[]⟩) (.slice a2 n2 c2); have H2 := Lib.hid hl2; have y0 := (hl2.rs _ (List.mem_cons_self ..)).c0; have y1 := (hl2.rs _ (List.mem_cons_of_mem _ (List.mem_cons_self ..))).c0; clear h hl2))
  have H3 : Hid (LS w fb t hb Y2 6 [⟨w3.heap.size, .int .i64 0, .int .i64 1, .string ⟨#[]⟩, .slice a1 n1 c1⟩] W2) := Lib.hid (H2.out.sub (fun r hr => List.mem_cons_of_mem _ hr))
  clear hW1 hW2 x1 y0 y1
  generalize w3.heap.size = bh at *
  go_loopw [9] (fun i wr => ∃ (k : Nat) (F : Fs) (N : Nat), i = .int .i64 k ∧ k ≤ n ∧ Hid (LS w fb t hb F N [⟨bh, .int .i64 0, .int .i64 1, .string ⟨#[]⟩, .slice a1 n1 c1⟩] wr) ∧ N ≤ 10 + 30 * k ∧ Hid (Kq F sl)) (fun i _ => n - (intOf i).toNat)
  case atStart => exact ⟨0, Y2, 6, rfl, Nat.zero_le _, H3, by omega, HK0⟩
  case round =>
    obtain ⟨k, F, N, rfl, hk, HT, hN, HK⟩ := hrel
    have HN30 := HN.out
    by_cases hlt : k < n
    · rcases HA.out with e0 | ⟨b, o, rfl, hw, hc⟩
      · exact absurd hlt (by rw [HNN.out, e0]; simp)
      have hk' : k < l.length := by rw [← HNN.out]; exact hlt
      have hx := (hc k hk').below HT.out.st.bel hw
      have HMEM : Hid (l[k] ∈ l) := Lib.hid (List.getElem_mem hk')
      generalize l[k] = x at *
      obtain ⟨W5, hW5⟩ : ∃ W5, wr.alloc (.cells #[.int .i64 x.owner, .bool x.out, .int .i64 x.op.kind, .string (bs x.op.path), .string (bs x.op.dst), .int .i64 x.op.h, .int .i64 x.op.at_, .int .i64 x.op.n, .string (bs x.op.data), .int .i64 x.op.pid, .int .i64 x.op.birth] 36) = W5 := ⟨_, rfl⟩
      have f0 := hx.c0; have f1 := hx.c1; have f2 := hx.c2; have f3 := hx.c3; have f4 := hx.c4; have f5 := hx.c5; have f6 := hx.c6; have f7 := hx.c7; have f8 := hx.c8; have f9 := hx.c9; have f10 := hx.c10
      have bx : FBX W5 wr.heap.size x := by rw [← hW5]; exact (MapKept.heap_alloc wr _).1
      have hb0 : Below wr.heap.size wr W5 := by rw [← hW5]; exact (Below.refl _ wr).alloc (Nat.le_refl _) _
      have H5 := Lib.hid (HT.out.below hb0)
      have fx := fact_bx bx
      have b0 := fx.c0; have b1 := fx.c1; have b2 := fx.c2; have b3 := fx.c3; have b4 := fx.c4; have b5 := fx.c5; have b6 := fx.c6; have b7 := fx.c7; have b8 := fx.c8; have b9 := fx.c9; have b10 := fx.c10
      simp only [Nat.zero_add] at b0 b1 b2 b3 b4 b5 b6 b7 b8 b9 b10
      clear hc hx bx hb0 fx
      by_cases i1 : x.owner = -1
      · have i1' : (x.owner == -1) = true := by simpa using i1
        clear i1
        go_wp2_with fail
        go_roundw
        case rel => exact ⟨k + 1, F, N, by go_num, by omega, H5, by omega, HK⟩
        case measure => simp [intOf]; omega
      have i1' : (x.owner == -1) = false := by simpa using i1
      by_cases k7 : x.op.kind = 7
      · have k7' : (x.op.kind == 7) = true := by simpa using k7
        clear i1 k7
        go_wp2_with fail
        go_roundw
        case rel => exact ⟨k + 1, F, N, by go_num, by omega, H5, by omega, HK⟩
        case measure => simp [intOf]; omega
      have k7' : (x.op.kind == 7) = false := by simpa using k7
      by_cases k8 : x.op.kind = 8
      · have k8' : (x.op.kind == 8) = true := by simpa using k8
        clear i1 k7 k8
        go_wp2_with fail
        go_roundw
        case rel => exact ⟨k + 1, F, N, by go_num, by omega, H5, by omega, HK⟩
        case measure => simp [intOf]; omega
      have k8' : (x.op.kind == 8) = false := by simpa using k8
      have CD1 := Lib.hid (CD.out fb t hb _ W5 F N x H5.out (by omega) HK.out HMEM.out i1 k7 k8)
      have CX1 := Lib.hid (CX.out fb t hb _ W5 F N x H5.out (by omega) HK.out HMEM.out i1)
      clear i1 k7 k8 CD CX C1 C2
      cases hout : x.out
      case true =>
        rw [hout] at b1 f1 hW5
        go_wp2_with (first
          | (go_at_call 10; (with_reducible refine CX1.out.mono ?_); rintro e w6 ⟨rfl, F6, h, hk6⟩; have H6 := Lib.hid h; have HK6 := Lib.hid hk6; have x1 := (h.rs _ (List.mem_cons_self ..)).c1; clear h hk6)
          | (go_at_call 9; (with_reducible refine (CR.out _ _ _ _ _ _ _ H6.out (by omega) HK6.out).mono ?_); rintro e w7 ⟨a7, n7, c7, rfl, h⟩; obtain ⟨W7, hW7, hl7⟩ := h.new (.int .i64 0) (.int .i64 0) (.string (bs sl)) (.slice a7 n7 c7); have H7 := Lib.hid hl7; have x1' := (hl7.rs _ (List.mem_cons_of_mem _ (List.mem_cons_self ..))).c1; clear h hl7)
          | (go_at_call 9; (with_reducible refine (CZ.out _ _ _ _ _ _ _ H7.out (by omega) HK6.out).mono ?_); rintro e w8 ⟨a8, n8, c8, rfl, h⟩; obtain ⟨W8, hW8, hl8⟩ := h.new (.int .i64 0) (.int .i64 sl.length) (.string ⟨#[]⟩) (.slice a8 n8 c8); have H8 := Lib.hid hl8; have z1 := (hl8.rs _ (List.mem_cons_self ..)).c1; have z2 := (hl8.rs _ (List.mem_cons_of_mem _ (List.mem_cons_self ..))).c0; have z3 := (hl8.rs _ (List.mem_cons_of_mem _ (List.mem_cons_self ..))).c2; clear h hl8))
        go_roundw
        case rel => exact ⟨k + 1, F6, N + 16 + 3 + 3, by go_num, by omega, Lib.hid (H8.out.sub (fun r hr => List.mem_cons_of_mem _ (List.mem_cons_of_mem _ hr))), by omega, HK6⟩
        case measure => simp [intOf]; omega
      case false =>
        rw [hout] at b1 f1 hW5
        go_wp2_with (first
          | (go_at_call 9; (with_reducible refine CD1.out.mono ?_); rintro e w6 ⟨⟨v0, v1, v2, v3, rfl⟩, F6, h, hk6⟩; have H6 := Lib.hid h; have HK6 := Lib.hid hk6; have x1 := (h.rs _ (List.mem_cons_self ..)).c1; clear h hk6)
          | (go_at_call 9; (with_reducible refine (CR.out _ _ _ _ _ _ _ H6.out (by omega) HK6.out).mono ?_); rintro e w7 ⟨a7, n7, c7, rfl, h⟩; obtain ⟨W7, hW7, hl7⟩ := h.new (.int .i64 0) (.int .i64 0) (.string (bs sl)) (.slice a7 n7 c7); have H7 := Lib.hid hl7; have x1' := (hl7.rs _ (List.mem_cons_of_mem _ (List.mem_cons_self ..))).c1; clear h hl7)
          | (go_at_call 9; (with_reducible refine (CZ.out _ _ _ _ _ _ _ H7.out (by omega) HK6.out).mono ?_); rintro e w8 ⟨a8, n8, c8, rfl, h⟩; obtain ⟨W8, hW8, hl8⟩ := h.new (.int .i64 0) (.int .i64 sl.length) (.string ⟨#[]⟩) (.slice a8 n8 c8); have H8 := Lib.hid hl8; have z1 := (hl8.rs _ (List.mem_cons_self ..)).c1; have z2 := (hl8.rs _ (List.mem_cons_of_mem _ (List.mem_cons_self ..))).c0; have z3 := (hl8.rs _ (List.mem_cons_of_mem _ (List.mem_cons_self ..))).c2; clear h hl8))
        go_roundw
        case rel => exact ⟨k + 1, F6, N + 3 + 3 + 3, by go_num, by omega, Lib.hid (H8.out.sub (fun r hr => List.mem_cons_of_mem _ (List.mem_cons_of_mem _ hr))), by omega, HK6⟩
        case measure => simp [intOf]; omega
    · obtain rfl : k = n := by omega
      clear HA
      have x1 := (HT.out.rs _ (List.mem_cons_self ..)).c1
      go_wp2_with (first
        | (go_at_call 10; (with_reducible refine (CXE.out _ _ _ _ _ _ _ HT.out (by omega)).mono ?_); rintro e w6 ⟨rfl, h⟩; have H6 := Lib.hid h; have x1' := (h.rs _ (List.mem_cons_self ..)).c1; clear h)
        | (go_at_call 9; (with_reducible refine (CE.out _ _ _ _ _ _ _ H6.out (by omega) HK.out).mono ?_); rintro e w7 ⟨a7, n7, c7, rfl, G, h⟩; obtain ⟨W7, hW7, hl7⟩ := h.new (.int .i64 13) (.int .i64 0) (.string ⟨#[]⟩) (.slice a7 n7 c7); have H7 := Lib.hid hl7; have z0 := (hl7.rs _ (List.mem_cons_self ..)).c0; clear h hl7)
        | (go_at_call 8; (with_reducible refine (CA.out _ H7.out.st.bel).mono ?_); rintro e w16 ⟨rfl, hb2⟩; have HB2 := Lib.hid hb2; clear hb2))
      go_ret
      exact ⟨rfl, H7.out.st.bel.trans (HB2.out.mono H7.out.st.bel.size)⟩
end Go.Proofs.YtagdhghjcibfbaaGreatDoor

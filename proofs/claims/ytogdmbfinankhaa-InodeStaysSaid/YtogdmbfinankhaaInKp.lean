/- Layer 8: what a held file has stays; the law InodeStays' walk. -/
import Derived.Test.YtogdmbfinankhaaInY
import Derived.Test.YtogdmbfinankhaaInZ
namespace Go.Proofs.Ytogdmbfinankhaa
open Go.RowKit
set_option linter.unusedVariables false
set_option linter.unusedSectionVars false
set_option maxRecDepth 100000

/-- File 2 is there, is held, and has these bytes. -/
def Kp (T : Tb) (s : List UInt8) : Prop := ∃ n, aget 2 T.nodes = some n ∧ n.dir = false ∧ n.data = s ∧ 1 ≤ n.holds
section
variable {T : Tb} {s : List UInt8} (h : Kp T s)
include h
theorem kp_upd (id : Int) (f : Nd → Nd) (hf : ∀ n, (f n).dir = n.dir ∧ (f n).data = n.data ∧ n.holds ≤ (f n).holds) : Kp (T.upd id f) s := by
  obtain ⟨n, h1, h2, h3, h4⟩ := h
  unfold Kp
  rw [upd_get]
  split
  · next e =>
    subst e
    obtain ⟨f1, f2, f3⟩ := hf n
    exact ⟨f n, by rw [h1]; rfl, f1.trans h2, f2.trans h3, by omega⟩
  · exact ⟨n, h1, h2, h3, h4⟩
theorem kp_other {id : Int} (hne : id ≠ 2) (f : Nd → Nd) : Kp (T.upd id f) s := by
  obtain ⟨n, h1, h2⟩ := h
  unfold Kp
  rw [upd_get, if_neg (fun e => hne e.symm)]
  exact ⟨n, h1, h2⟩
theorem kp_rmv {id : Int} (hne : id ≠ 2) : Kp (T.rmv id) s := by
  obtain ⟨n, h1, h2⟩ := h
  refine ⟨n, ?_, h2⟩
  show aget 2 (adel id T.nodes) = some n
  rw [aget_del, if_neg (fun e => hne e.symm)]; exact h1
theorem kp_rel (id : Int) : Kp (T.rel id) s := by
  unfold Tb.rel
  split
  · next e =>
    refine kp_rmv h fun e2 => ?_
    subst e2
    obtain ⟨n, h1, h2, h3, h4⟩ := h
    rw [nd_of h1] at e
    omega
  · exact h
theorem kp_lose (id : Int) : Kp (T.lose id) s := kp_rel (kp_upd h id (Nd.addLinks (-1)) (fun n => ⟨rfl, rfl, Int.le_refl _⟩)) id
theorem kp_put (id : Int) (x : List UInt8) (v : Int) : Kp (T.upd id (Nd.putName x v)) s := kp_upd h id _ (fun n => ⟨rfl, rfl, Int.le_refl _⟩)
theorem kp_del (id : Int) (x : List UInt8) : Kp (T.upd id (Nd.delName x)) s := kp_upd h id _ (fun n => ⟨rfl, rfl, Int.le_refl _⟩)
theorem kp_data {id : Int} (hne : id ≠ 2) (x : List UInt8) : Kp (T.setData id x) s := by
  obtain ⟨n, h1, h2⟩ := kp_other h hne (Nd.setData x)
  exact ⟨n, h1, h2⟩
theorem step_kp (wf : Wf T) (ok : Ok T) (a : AcT) (ha : ¬ (a.id = 2 ∧ (a.kind = 8 ∨ a.kind = 9 ∨ a.kind = 11))) : Kp (T.step a).1 s := by
  have c1 : Kp (if T.mkE a.dir a.name = 0 then T.make a.dir a.name a.flag else T) s := by
    split
    · have hfr := wf.fresh
      have hne : T.last + 1 ≠ 2 := fun e => by
        obtain ⟨n, h1, _⟩ := h
        rw [e, h1] at hfr; cases hfr
      have h1 : Kp (T.add a.flag) s := by
        obtain ⟨n, h1, h2⟩ := h
        refine ⟨n, ?_, h2⟩
        show aget 2 (aput ltI (T.last + 1) _ T.nodes) = some n
        rw [aget_put, if_neg (fun e => hne e.symm)]; exact h1
      exact kp_put h1 _ _ _
    · exact h
  have c3 : Kp (if T.linkE a.id a.dir a.name = 0 then T.link a.id a.dir a.name else T) s := by
    split
    · exact kp_upd (kp_put h _ _ _) _ (Nd.addLinks 1) (fun n => ⟨rfl, rfl, Int.le_refl _⟩)
    · exact h
  have c4 : Kp (if T.ofE a.dir a.name false = 0 then T.unlink a.dir a.name else T) s := by
    split
    · exact kp_lose (kp_del h _ _) _
    · exact h
  have c5 : Kp (if T.removeE a.dir a.name = 0 then T.remove a.dir a.name else T) s := by
    split
    · next hE =>
      unfold Tb.removeE at hE
      split at hE
      · next hk =>
        obtain ⟨n, m, hn, hd, hnm, hL, hm, hmd⟩ := of_parts ok hk
        refine kp_rmv (kp_del h _ _) fun e => ?_
        obtain ⟨x, h1, h2, _⟩ := h
        rw [e, h1] at hm; cases hm
        rw [h2] at hmd; cases hmd
      · next hk => exact absurd hE hk
    · exact h
  have c6 : Kp (if T.renE a.dir a.name a.n a.nm = 0 then T.rename a.dir a.name a.n a.nm else T) s := by
    split
    · have hm : Kp (T.moved a.dir a.name a.n a.nm) s := kp_del (kp_put h _ _ _) _ _
      unfold Tb.rename
      split
      · split
        · exact h
        · exact kp_lose hm _
      · exact hm
    · exact h
  have c8 : a.kind = 8 → Kp (if T.writeE a.id a.at_ a.nm = 0 then T.write a.id a.at_ a.nm else T) s := fun hk => by
    have hne : a.id ≠ 2 := fun e => ha ⟨e, .inl hk⟩
    split
    · unfold Tb.write
      split
      · exact h
      · exact kp_data h hne _
    · exact h
  have c9 : a.kind = 9 → Kp (if T.truncE a.id a.n = 0 then T.trunc a.id a.n else T) s := fun hk => by
    have hne : a.id ≠ 2 := fun e => ha ⟨e, .inr (.inl hk)⟩
    split
    · exact kp_data h hne _
    · exact h
  have c10 : Kp (if T.holdE a.id = 0 then T.upd a.id (Nd.addHolds 1) else T) s := by
    split
    · exact kp_upd h _ (Nd.addHolds 1) (fun n => ⟨rfl, rfl, by show n.holds ≤ n.holds + 1; omega⟩)
    · exact h
  have c11 : a.kind = 11 → Kp (if T.dropE a.id = 0 then T.drop a.id else T) s := fun hk => by
    have hne : a.id ≠ 2 := fun e => ha ⟨e, .inr (.inr hk)⟩
    split
    · exact kp_rel (kp_other h hne _) _
    · exact h
  unfold Tb.step
  by_cases h1 : a.kind = 1; · rw [if_pos h1]; exact c1
  rw [if_neg h1]
  by_cases h2 : a.kind = 2; · rw [if_pos h2]; exact h
  rw [if_neg h2]
  by_cases h3 : a.kind = 3; · rw [if_pos h3]; exact c3
  rw [if_neg h3]
  by_cases h4 : a.kind = 4; · rw [if_pos h4]; exact c4
  rw [if_neg h4]
  by_cases h5 : a.kind = 5; · rw [if_pos h5]; exact c5
  rw [if_neg h5]
  by_cases h6 : a.kind = 6; · rw [if_pos h6]; exact c6
  rw [if_neg h6]
  by_cases h7 : a.kind = 7; · rw [if_pos h7]; exact h
  rw [if_neg h7]
  by_cases h8 : a.kind = 8; · rw [if_pos h8]; exact c8 h8
  rw [if_neg h8]
  by_cases h9 : a.kind = 9; · rw [if_pos h9]; exact c9 h9
  rw [if_neg h9]
  by_cases h10 : a.kind = 10; · rw [if_pos h10]; exact c10
  rw [if_neg h10]
  by_cases h11 : a.kind = 11; · rw [if_pos h11]; exact c11 h11
  rw [if_neg h11]
  exact h
end
/-! ### The first acts -/
def sT1 : Tb := ⟨1048576, 128, 2, [(1, ⟨true, 1, 0, [], [([110], 2)]⟩), (2, ⟨false, 1, 0, [], []⟩)]⟩
def sT2 (s : List UInt8) : Tb := ⟨1048576, 128 + s.length, 2, [(1, ⟨true, 1, 0, [], [([110], 2)]⟩), (2, ⟨false, 1, 0, s, []⟩)]⟩
def sT3 (s : List UInt8) : Tb := ⟨1048576, 128 + s.length, 2, [(1, ⟨true, 1, 0, [], [([110], 2)]⟩), (2, ⟨false, 1, 1, s, []⟩)]⟩
def sT4 (s : List UInt8) : Tb := ⟨1048576, 128 + s.length, 2, [(1, ⟨true, 1, 0, [], []⟩), (2, ⟨false, 0, 1, s, []⟩)]⟩
theorem sF1 : (Tb.fresh 1048576).step ⟨1, 0, 1, 0, 0, [110], [], false⟩ = (sT1, 2, [], 0) := rfl
theorem sF2 (s : List UInt8) (hs : s.length ≤ 256) : sT1.step ⟨8, 2, 0, 0, 0, [], s, false⟩ = (sT2 s, 0, [], 0) := by
  have e1 : sT1.writeE 2 0 s = 0 := by
    unfold Tb.writeE
    rw [if_pos (show sT1.fileE 2 0 = 0 from rfl), if_neg (by omega)]
    split
    · rfl
    · have : sT1.fitsB 2 (0 + s.length) = true := by
        show decide ((0 + (s.length : Int)) - ((0 : Nat) : Int) ≤ 1048576 - 128) = true
        exact decide_eq_true (by omega)
      rw [if_pos this]
  show ((if sT1.writeE 2 0 s = 0 then sT1.write 2 0 s else sT1), (0 : Int), ([] : List UInt8), sT1.writeE 2 0 s) = _
  rw [e1, if_pos rfl]
  congr 1
  unfold Tb.write
  by_cases h : s = []
  · rw [if_pos h, h]; rfl
  · rw [if_neg h]
    have e2 : firstL (sT1.nd 2).data (0 : Int).toNat ++ s ++ (sT1.nd 2).data.drop ((0 : Int).toNat + s.length) = s := by
      have : (sT1.nd 2).data = [] := rfl
      rw [this]
      simp [firstL]
    rw [e2]
    show (⟨1048576, 128 + ((s.length : Int) - ((0 : Nat) : Int)), 2, _⟩ : Tb) = ⟨1048576, 128 + s.length, 2, _⟩
    rw [show (128 : Int) + ((s.length : Int) - ((0 : Nat) : Int)) = 128 + s.length by omega]
    rfl
theorem sF3 (s : List UInt8) : (sT2 s).step ⟨10, 2, 0, 0, 0, [], [], false⟩ = (sT3 s, 0, [], 0) := rfl
theorem sF4 (s : List UInt8) : (sT3 s).step ⟨4, 0, 1, 0, 0, [110], [], false⟩ = (sT4 s, 0, [], 0) := rfl
theorem sKp (s : List UInt8) : Kp (sT4 s) s := ⟨⟨false, 0, 1, s, []⟩, rfl, rfl, rfl, by show (1 : Int) ≤ 1; decide⟩
theorem kp_read {T : Tb} {s : List UInt8} (h : Kp T s) (hs : s.length ≤ 256) : (T.step ⟨7, 2, 0, 0, 1024, [], [], false⟩).2 = (0, s, 0) := by
  obtain ⟨n, h1, h2, h3, _⟩ := h
  have e0 : T.fileE 2 (min 0 1024) = 0 := by
    unfold Tb.fileE
    rw [kindE_some h1, if_pos h2, if_pos rfl]; rfl
  show ((0 : Int), (if T.fileE 2 (min 0 1024) = 0 then readL (T.nd 2).data 0 1024 else []), T.fileE 2 (min 0 1024)) = _
  rw [e0, if_pos rfl, nd_of h1, h3]
  congr 2
  unfold readL
  rw [show (min (0 : Int) (s.length : Int)).toNat = 0 by omega, List.drop_zero, List.take_of_length_le (by show s.length ≤ 1024; omega)]
end Go.Proofs.Ytogdmbfinankhaa

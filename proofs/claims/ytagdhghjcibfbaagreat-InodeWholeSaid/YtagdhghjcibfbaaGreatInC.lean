/- Layer 8: the acts on a table, and what a step in memory makes of it. -/
import Derived.Test.YtagdhghjcibfbaaGreatInB
namespace Go.Proofs.YtagdhghjcibfbaaGreat
open Go.RowKit
set_option linter.unusedVariables false
set_option maxRecDepth 100000

/-! ### The acts -/
def noNd : Nd := ⟨false, 0, 0, [], []⟩
def Tb.nd (T : Tb) (id : Int) : Nd := (aget id T.nodes).getD noNd
def Tb.kindE (T : Tb) (id : Int) (isDir : Bool) : Int := match aget id T.nodes with | none => 3 | some n => if n.dir = isDir then 0 else 12
def isNm (s : List UInt8) : Bool := s != [] && s != [46] && s != [46, 46] && decide (s.length ≤ 32) && s.all fun c => c != 0 && c != 47
def Tb.placeE (T : Tb) (dir : Int) (name : List UInt8) : Int := if T.kindE dir true = 0 then (if isNm name = true then 0 else 1) else T.kindE dir true
def Tb.led (T : Tb) (dir : Int) (name : List UInt8) : Option Int := aget name (T.nd dir).names
def Tb.newE (T : Tb) (dir : Int) (name : List UInt8) : Int := if T.placeE dir name = 0 then (match T.led dir name with | some _ => 4 | none => 0) else T.placeE dir name
def Tb.entE (T : Tb) (dir : Int) (name : List UInt8) : Int := if T.placeE dir name = 0 then (match T.led dir name with | some _ => 0 | none => 3) else T.placeE dir name
def Tb.tgt (T : Tb) (dir : Int) (name : List UInt8) : Int := (T.led dir name).getD 0
def Tb.ofE (T : Tb) (dir : Int) (name : List UInt8) (isDir : Bool) : Int := if T.entE dir name = 0 then (if (T.nd (T.tgt dir name)).dir = isDir then 0 else 12) else T.entE dir name
def Tb.upd (T : Tb) (id : Int) (f : Nd → Nd) : Tb := { T with nodes := amod id f T.nodes }
def Tb.rmv (T : Tb) (id : Int) : Tb := { T with nodes := adel id T.nodes, used := T.used - (64 + ((T.nd id).data.length : Int)) }
def Tb.rel (T : Tb) (id : Int) : Tb := if (T.nd id).links = 0 ∧ (T.nd id).holds = 0 then T.rmv id else T
def Nd.addLinks (d : Int) (n : Nd) : Nd := { n with links := n.links + d }
def Nd.addHolds (d : Int) (n : Nd) : Nd := { n with holds := n.holds + d }
def Nd.putName (s : List UInt8) (id : Int) (n : Nd) : Nd := { n with names := aput bytesBefore s id n.names }
def Nd.delName (s : List UInt8) (n : Nd) : Nd := { n with names := adel s n.names }
def Nd.setData (d : List UInt8) (n : Nd) : Nd := { n with data := d }
def Tb.lose (T : Tb) (id : Int) : Tb := (T.upd id (Nd.addLinks (-1))).rel id
def Tb.add (T : Tb) (isDir : Bool) : Tb := { T with last := T.last + 1, used := T.used + 64, nodes := aput ltI (T.last + 1) ⟨isDir, 1, 0, [], []⟩ T.nodes }
def Tb.mkE (T : Tb) (dir : Int) (name : List UInt8) : Int := if T.newE dir name = 0 then (if (4096 : Int) ≤ T.nodes.length then 5 else if 64 > T.quota - T.used then 6 else 0) else T.newE dir name
def Tb.make (T : Tb) (dir : Int) (name : List UInt8) (isDir : Bool) : Tb := (T.add isDir).upd dir (Nd.putName name (T.last + 1))
def Tb.linkE (T : Tb) (id dir : Int) (name : List UInt8) : Int := if T.kindE id false = 0 then T.newE dir name else T.kindE id false
def Tb.link (T : Tb) (id dir : Int) (name : List UInt8) : Tb := (T.upd dir (Nd.putName name id)).upd id (Nd.addLinks 1)
def Tb.unlink (T : Tb) (dir : Int) (name : List UInt8) : Tb := (T.upd dir (Nd.delName name)).lose (T.tgt dir name)
def Tb.removeE (T : Tb) (dir : Int) (name : List UInt8) : Int := if T.ofE dir name true = 0 then (if 0 < (T.nd (T.tgt dir name)).names.length then 7 else 0) else T.ofE dir name true
def Tb.remove (T : Tb) (dir : Int) (name : List UInt8) : Tb := (T.upd dir (Nd.delName name)).rmv (T.tgt dir name)
def Tb.renE (T : Tb) (dir : Int) (name : List UInt8) (to : Int) (nm : List UInt8) : Int :=
  if T.ofE dir name false = 0 then (if T.placeE to nm = 0 then (match T.led to nm with | some old => if (T.nd old).dir = true then 12 else 0 | none => 0) else T.placeE to nm) else T.ofE dir name false
def Tb.moved (T : Tb) (dir : Int) (name : List UInt8) (to : Int) (nm : List UInt8) : Tb := (T.upd to (Nd.putName nm (T.tgt dir name))).upd dir (Nd.delName name)
def Tb.rename (T : Tb) (dir : Int) (name : List UInt8) (to : Int) (nm : List UInt8) : Tb :=
  match T.led to nm with
  | some old => if old = T.tgt dir name then T else (T.moved dir name to nm).lose old
  | none => T.moved dir name to nm
def Tb.fileE (T : Tb) (id at_ : Int) : Int := if T.kindE id false = 0 then (if at_ < 0 then 1 else 0) else T.kindE id false
def readL (d : List UInt8) (at_ n : Int) : List UInt8 := (d.drop (min at_ d.length).toNat).take n.toNat
def firstL (d : List UInt8) (k : Nat) : List UInt8 := if k ≤ d.length then d.take k else d ++ List.replicate (k - d.length) 0
def Tb.fitsB (T : Tb) (id len : Int) : Bool := decide (len - (T.nd id).data.length ≤ T.quota - T.used)
def Tb.writeE (T : Tb) (id at_ : Int) (s : List UInt8) : Int :=
  if T.fileE id at_ = 0 then (if at_ > 1048576 - s.length then 5 else if s = [] then 0 else if T.fitsB id (at_ + s.length) = true then 0 else 6) else T.fileE id at_
def Tb.setData (T : Tb) (id : Int) (d : List UInt8) : Tb := { (T.upd id (Nd.setData d)) with used := T.used + (d.length - (T.nd id).data.length) }
def Tb.write (T : Tb) (id at_ : Int) (s : List UInt8) : Tb := if s = [] then T else T.setData id (firstL (T.nd id).data at_.toNat ++ s ++ (T.nd id).data.drop (at_.toNat + s.length))
def Tb.truncE (T : Tb) (id n : Int) : Int := if T.fileE id n = 0 then (if n > 1048576 then 5 else if T.fitsB id n = true then 0 else 6) else T.fileE id n
def Tb.trunc (T : Tb) (id n : Int) : Tb := T.setData id (firstL (T.nd id).data n.toNat)
def Tb.holdE (T : Tb) (id : Int) : Int := if T.kindE id false = 0 then (if (T.nd id).holds = 1048576 then 5 else 0) else T.kindE id false
def Tb.dropE (T : Tb) (id : Int) : Int := match aget id T.nodes with | none => 3 | some n => if n.holds = 0 then 1 else 0
def Tb.drop (T : Tb) (id : Int) : Tb := (T.upd id (Nd.addHolds (-1))).rel id

theorem upd_get (T : Tb) (id id' : Int) (f : Nd → Nd) : aget id' (T.upd id f).nodes = if id' = id then (aget id T.nodes).map f else aget id' T.nodes := aget_mod id id' f T.nodes
theorem pairs_mod (A : Int → Nat × Nat) (id : Int) (f : Nd → Nd) (l : List (Int × Nd)) : nodePairs A (amod id f l) = nodePairs A l := by
  unfold nodePairs amod
  rw [List.map_map]
  refine List.map_congr_left fun p _ => ?_
  show ((if p.1 = id then (p.1, f p.2) else p).1, ((A (if p.1 = id then (p.1, f p.2) else p).1).1 : Int)) = _
  split <;> rfl

section
variable {w w' : World} {t : Nat} {T : Tb} {A : Int → Nat × Nat} {mb : Nat} (h : TbAt w t T A mb) {id : Int} {n : Nd} (hn : aget id T.nodes = some n)
include h
theorem TbAt.lt {k : Nat} (hk : Own t mb A T.nodes k) : k < w.heap.size := by
  rcases hk with rfl | rfl | ⟨id, n, hn, rfl | ⟨hd, rfl⟩⟩
  · exact h.tb.lt
  · exact h.mp.lt
  · exact (h.nd id n hn).lt
  · exact (h.nm id n hn hd).lt
theorem TbAt.t_mb : t ≠ mb := map_nb h.mp h.tb
/-- The table's own cells. -/
theorem TbAt.upd_q {q u l : Int} (g : Ch (fun k => k = t) w w') (hq : QB w' t (.int .i64 q) (.int .i64 u) (.int .i64 l) (.map (some mb))) : TbAt w' t ⟨q, u, l, T.nodes⟩ A mb :=
  ⟨hq, map_ch h.mp g (fun e => h.t_mb e.symm), fun id n hn => (h.nd id n hn).ch g (nb_qb (h.nd id n hn) h.tb),
    fun id n hn hd => map_ch (h.nm id n hn hd) g (fun e => map_nb (h.nm id n hn hd) h.tb e.symm), h.sep1, h.sep2, h.sep3⟩
include hn
/-- A node's cells. -/
theorem TbAt.upd_nd (f : Nd → Nd) (hd : (f n).dir = n.dir) (hm : (f n).names = n.names) (g : Ch (fun k => k = (A id).1) w w')
    (hb : NB w' (A id).1 (.bool n.dir) (.int .i64 (f n).links) (.int .i64 (f n).holds) (.string (bs (f n).data)) (.map (if n.dir then some (A id).2 else none))) : TbAt w' t (T.upd id f) A mb := by
  have hnb := h.nd id n hn
  refine ⟨h.tb.ch g (fun e => nb_qb hnb h.tb e.symm), ?_, fun id' n' hn' => ?_, fun id' n' hn' hd' => ?_, fun i j ni nj hi hj hne => ?_, fun i j ni nj hi hj di dj hne => ?_, fun i ni hi di => ?_⟩
  · show MapI w' mb (nodePairs A (amod id f T.nodes))
    rw [pairs_mod]
    exact map_ch h.mp g (fun e => map_nb h.mp hnb e.symm)
  · rw [upd_get] at hn'
    by_cases e : id' = id
    · subst e
      rw [if_pos rfl, hn] at hn'
      cases hn'
      rw [hd]; exact hb
    · rw [if_neg e] at hn'
      exact (h.nd id' n' hn').ch g (h.sep1 _ _ _ _ hn' hn e)
  · rw [upd_get] at hn'
    by_cases e : id' = id
    · subst e
      rw [if_pos rfl, hn] at hn'
      cases hn'
      rw [hm]; rw [hd] at hd'
      exact map_ch (h.nm _ _ hn hd') g (fun e => map_nb (h.nm _ _ hn hd') hnb e.symm)
    · rw [if_neg e] at hn'
      exact map_ch (h.nm _ _ hn' hd') g (fun e => map_nb (h.nm _ _ hn' hd') hnb e.symm)
  all_goals (try rw [upd_get] at hi) <;> (try rw [upd_get] at hj)
  · have hi' : ∃ x, aget i T.nodes = some x := by split at hi <;> first | (next e => subst e; exact ⟨n, hn⟩) | exact ⟨_, hi⟩
    have hj' : ∃ x, aget j T.nodes = some x := by split at hj <;> first | (next e => subst e; exact ⟨n, hn⟩) | exact ⟨_, hj⟩
    obtain ⟨x, hx⟩ := hi'; obtain ⟨y, hy⟩ := hj'
    exact h.sep1 _ _ _ _ hx hy hne
  · have hi' : ∃ x, aget i T.nodes = some x ∧ x.dir = true := by
      split at hi
      · next e => subst e; rw [hn] at hi; cases hi; exact ⟨n, hn, by rw [← hd]; exact di⟩
      · exact ⟨_, hi, di⟩
    have hj' : ∃ x, aget j T.nodes = some x ∧ x.dir = true := by
      split at hj
      · next e => subst e; rw [hn] at hj; cases hj; exact ⟨n, hn, by rw [← hd]; exact dj⟩
      · exact ⟨_, hj, dj⟩
    obtain ⟨x, hx, dx⟩ := hi'; obtain ⟨y, hy, dy⟩ := hj'
    exact h.sep2 _ _ _ _ hx hy dx dy hne
  · have hi' : ∃ x, aget i T.nodes = some x ∧ x.dir = true := by
      split at hi
      · next e => subst e; rw [hn] at hi; cases hi; exact ⟨n, hn, by rw [← hd]; exact di⟩
      · exact ⟨_, hi, di⟩
    obtain ⟨x, hx, dx⟩ := hi'
    exact h.sep3 _ _ hx dx
/-- A directory's names. -/
theorem TbAt.upd_nm (f : Nd → Nd) (hdir : n.dir = true) (hd : (f n).dir = n.dir) (h1 : (f n).links = n.links) (h2 : (f n).holds = n.holds) (h3 : (f n).data = n.data) (g : Ch (fun k => k = (A id).2) w w')
    (hb : MapS w' (A id).2 (f n).names) : TbAt w' t (T.upd id f) A mb := by
  have hnb := h.nm id n hn hdir
  refine ⟨h.tb.ch g (map_nb hnb h.tb), ?_, fun id' n' hn' => ?_, fun id' n' hn' hd' => ?_, fun i j ni nj hi hj hne => ?_, fun i j ni nj hi hj di dj hne => ?_, fun i ni hi di => ?_⟩
  · show MapI w' mb (nodePairs A (amod id f T.nodes))
    rw [pairs_mod]
    exact map_ch h.mp g (fun e => h.sep3 _ _ hn hdir e.symm)
  · rw [upd_get] at hn'
    by_cases e : id' = id
    · subst e
      rw [if_pos rfl, hn] at hn'
      cases hn'
      rw [hd, h1, h2, h3]
      exact (h.nd _ _ hn).ch g (map_nb hnb (h.nd _ _ hn))
    · rw [if_neg e] at hn'
      exact (h.nd id' n' hn').ch g (map_nb hnb (h.nd _ _ hn'))
  · rw [upd_get] at hn'
    by_cases e : id' = id
    · subst e
      rw [if_pos rfl, hn] at hn'
      cases hn'
      exact hb
    · rw [if_neg e] at hn'
      exact map_ch (h.nm _ _ hn' hd') g (h.sep2 _ _ _ _ hn' hn hd' hdir e)
  all_goals (try rw [upd_get] at hi) <;> (try rw [upd_get] at hj)
  · have hi' : ∃ x, aget i T.nodes = some x := by split at hi <;> first | (next e => subst e; exact ⟨n, hn⟩) | exact ⟨_, hi⟩
    have hj' : ∃ x, aget j T.nodes = some x := by split at hj <;> first | (next e => subst e; exact ⟨n, hn⟩) | exact ⟨_, hj⟩
    obtain ⟨x, hx⟩ := hi'; obtain ⟨y, hy⟩ := hj'
    exact h.sep1 _ _ _ _ hx hy hne
  · have hi' : ∃ x, aget i T.nodes = some x ∧ x.dir = true := by
      split at hi
      · next e => subst e; exact ⟨n, hn, hdir⟩
      · exact ⟨_, hi, di⟩
    have hj' : ∃ x, aget j T.nodes = some x ∧ x.dir = true := by
      split at hj
      · next e => subst e; exact ⟨n, hn, hdir⟩
      · exact ⟨_, hj, dj⟩
    obtain ⟨x, hx, dx⟩ := hi'; obtain ⟨y, hy, dy⟩ := hj'
    exact h.sep2 _ _ _ _ hx hy dx dy hne
  · have hi' : ∃ x, aget i T.nodes = some x ∧ x.dir = true := by
      split at hi
      · next e => subst e; exact ⟨n, hn, hdir⟩
      · exact ⟨_, hi, di⟩
    obtain ⟨x, hx, dx⟩ := hi'
    exact h.sep3 _ _ hx dx
omit hn
/-- An inode goes. -/
theorem TbAt.rm (id : Int) (g : Ch (fun k => k = mb) w w') (hb : MapI w' mb (adel id (nodePairs A T.nodes))) : TbAt w' t { T with nodes := adel id T.nodes } A mb := by
  have sub : ∀ i x, aget i (adel id T.nodes) = some x → aget i T.nodes = some x := fun i x hx => by rw [aget_del] at hx; split at hx <;> first | exact hx | cases hx
  refine ⟨h.tb.ch g h.t_mb, ?_, fun i x hx => ?_, fun i x hx hd => ?_, fun i j x y hx hy => h.sep1 i j x y (sub _ _ hx) (sub _ _ hy), fun i j x y hx hy => h.sep2 i j x y (sub _ _ hx) (sub _ _ hy), fun i x hx => h.sep3 i x (sub _ _ hx)⟩
  · show MapI w' mb (nodePairs A (adel id T.nodes))
    have := adel_map (fun p : Int × Nd => ((A p.1).1 : Int)) id T.nodes
    unfold nodePairs at *
    rw [this]; exact hb
  · exact (h.nd i x (sub _ _ hx)).ch g (map_nb h.mp (h.nd i x (sub _ _ hx)))
  · exact map_ch (h.nm i x (sub _ _ hx) hd) g (h.sep3 i x (sub _ _ hx) hd)
/-- An inode comes: its number is fresh, its blocks are new. -/
theorem TbAt.come (id : Int) (n : Nd) (nb kb : Nat) (hf : aget id T.nodes = none) (g : Ch (fun k => k = mb) w w') (h1 : w.heap.size ≤ nb) (h2 : n.dir = true → w.heap.size ≤ kb)
    (hnb : NB w' nb (.bool n.dir) (.int .i64 n.links) (.int .i64 n.holds) (.string (bs n.data)) (.map (if n.dir then some kb else none))) (hkb : n.dir = true → MapS w' kb n.names)
    (hb : MapI w' mb (aput ltI id nb (nodePairs A T.nodes))) : TbAt w' t { T with nodes := aput ltI id n T.nodes } (fun x => if x = id then (nb, kb) else A x) mb := by
  have get : ∀ i x, aget i (aput ltI id n T.nodes) = some x → (i = id ∧ x = n) ∨ (i ≠ id ∧ aget i T.nodes = some x) := fun i x hx => by
    rw [aget_put] at hx
    split at hx
    · next e => cases hx; exact .inl ⟨e, rfl⟩
    · next e => exact .inr ⟨e, hx⟩
  refine ⟨h.tb.ch g h.t_mb, ?_, fun i x hx => ?_, fun i x hx hd => ?_, fun i j x y hx hy hne => ?_, fun i j x y hx hy dx dy hne => ?_, fun i x hx dx => ?_⟩
  · show MapI w' mb (nodePairs _ (aput ltI id n T.nodes))
    have e : nodePairs (fun x => if x = id then (nb, kb) else A x) (aput ltI id n T.nodes) = aput ltI id (nb : Int) (nodePairs A T.nodes) := by
      unfold aput nodePairs
      rw [ains_map (fun p : Int × Nd => (((if p.1 = id then (nb, kb) else A p.1).1 : Nat) : Int)), adel_map (fun p : Int × Nd => (((if p.1 = id then (nb, kb) else A p.1).1 : Nat) : Int))]
      simp only [if_true]
      have e2 : (T.nodes.map fun p => (p.1, (((if p.1 = id then (nb, kb) else A p.1).1 : Nat) : Int))) = T.nodes.map fun p => (p.1, ((A p.1).1 : Int)) :=
        List.map_congr_left fun p hp => by rw [if_neg (aget_none.1 hf p hp)]
      rw [e2]
    rw [e]; exact hb
  · rcases get i x hx with ⟨rfl, rfl⟩ | ⟨hne, gx⟩
    · simp only [if_true]; exact hnb
    · simp only [if_neg hne]; exact (h.nd i x gx).ch g (map_nb h.mp (h.nd i x gx))
  · rcases get i x hx with ⟨rfl, rfl⟩ | ⟨hne, gx⟩
    · simp only [if_true]; exact hkb hd
    · simp only [if_neg hne]; exact map_ch (h.nm i x gx hd) g (h.sep3 i x gx hd)
  · rcases get i x hx with ⟨rfl, rfl⟩ | ⟨hi, gx⟩ <;> rcases get j y hy with ⟨rfl, rfl⟩ | ⟨hj, gy⟩
    · exact absurd rfl hne
    · simp only [if_true, if_neg hj]; have := (h.nd j y gy).lt; omega
    · simp only [if_true, if_neg hi]; have := (h.nd i x gx).lt; omega
    · simp only [if_neg hi, if_neg hj]; exact h.sep1 _ _ _ _ gx gy hne
  · rcases get i x hx with ⟨rfl, rfl⟩ | ⟨hi, gx⟩ <;> rcases get j y hy with ⟨rfl, rfl⟩ | ⟨hj, gy⟩
    · exact absurd rfl hne
    · simp only [if_true, if_neg hj]; have := (h.nm j y gy dy).lt; have := h2 dx; omega
    · simp only [if_true, if_neg hi]; have := (h.nm i x gx dx).lt; have := h2 dy; omega
    · simp only [if_neg hi, if_neg hj]; exact h.sep2 _ _ _ _ gx gy dx dy hne
  · rcases get i x hx with ⟨rfl, rfl⟩ | ⟨hi, gx⟩
    · simp only [if_true]; have := h.mp.lt; have := h2 dx; omega
    · simp only [if_neg hi]; exact h.sep3 _ _ gx dx
end
end Go.Proofs.YtagdhghjcibfbaaGreat
